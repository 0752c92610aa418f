/-
  What is proved: the Go functions EntrySays and EntryBack of layer 7's laws, called with anything that is longer than what they go through, where the laid tables read as their initialisers lay them, return true; the world has new blocks at most; sizes and bounds of what is put and taken.
-/
import Derived.Test.YtoanccojpppfoaaDoorEAwake
import Derived.Test.YtoanccojpppfoaaDoorM4
namespace Go.Proofs.YtoanccojpppfoaaDoor
open Go.RowKit

theorem putE_size (b : ByteArray) (x : En) : (putE b x).size ≤ b.size + 90 + x.p.size + x.vt.size := by
  have h1 := putD_size b x.d
  have h2 := putS_size x.p.size
  have h3 := putS_size (x.k % 4).toNat
  have h4 := putV_size (putD b x.d ++ putS x.p.size ++ x.p ++ putS (x.k % 4).toNat) x.vk x.vn x.vt
  have h5 := putD_size (putV (putD b x.d ++ putS x.p.size ++ x.p ++ putS (x.k % 4).toNat) x.vk x.vn x.vt) x.e
  simp only [ByteArray.size_append] at h4
  unfold putE
  omega
theorem tiN_bd (s : ByteArray) : -9223372036854775808 ≤ tiN s ∧ tiN s ≤ 9223372036854775807 := by
  have h := tkN_bd s
  unfold tiN
  split
  · exact zag_bd _ (by omega) (by omega)
  · omega
theorem zero_bd : -9223372036854775808 ≤ (0 : Int) ∧ (0 : Int) ≤ 9223372036854775807 := by decide
theorem tvI_bd (s : ByteArray) : -9223372036854775808 ≤ tvI s ∧ tvI s ≤ 9223372036854775807 := by
  have h := tiN_bd (tkR s)
  unfold tvI tvL
  by_cases e1 : tkE s ≠ 0
  · rw [if_pos e1]; exact zero_bd
  rw [if_neg e1]
  by_cases e2 : 3 < tkN s
  · rw [if_pos e2]; exact zero_bd
  rw [if_neg e2]
  by_cases e3 : tkN s = 0
  · rw [if_pos e3]; exact zero_bd
  rw [if_neg e3]
  by_cases e4 : tkN s = 2
  · rw [if_pos e4]
    by_cases e5 : ttE (tkR s) 200 ≠ 0
    · rw [if_pos e5]; exact zero_bd
    · rw [if_neg e5]; exact zero_bd
  rw [if_neg e4]
  by_cases e5 : tkE (tkR s) ≠ 0
  · rw [if_pos e5]; exact zero_bd
  rw [if_neg e5]
  by_cases e6 : rightB (tkN s) (tiN (tkR s)) ⟨#[]⟩ = true
  · rw [if_pos e6]; exact h
  · rw [if_neg e6]; exact zero_bd
theorem te_form_of {s : ByteArray} (h : teE s = 0) : teX s = enK s (tkN (r2 s)) ∧ rightE (teX s) = true := by
  have hr := (te_aft h).1
  by_cases h1 : errE s = 0
  · by_cases h2 : tkN (r2 s) ≤ 3 ∧ rightE (enK s (tkN (r2 s))) = true
    · have hL : teL s = (enK s (tkN (r2 s)), r5 s, 0) := by
        unfold teL
        rw [if_neg (by omega), if_pos h2]
      exact ⟨(te_of hL).1, hr⟩
    · have := (te_of (te_form s h1 h2)).2.2
      omega
  · have := (te_of (te_err s h1)).2.2
    omega
theorem verE_bd {d : Int × Int} (h : verE d = true) : 0 ≤ d.1 ∧ d.1 < 64 ∧ 0 ≤ d.2 ∧ d.2 ≤ 1073741824 := by
  rcases verE_of h with rfl | h
  · decide
  · have := rightD_bd h; omega
theorem te_bd {s : ByteArray} (h : teE s = 0) : EnB (teX s) ∧ (teX s).p.size ≤ 102 ∧ (teX s).vt.size ≤ 200 := by
  obtain ⟨hx, hr⟩ := te_form_of h
  obtain ⟨a1, a2, a3, a4, a5⟩ := rightE_of.1 hr
  have hd := rightD_bd a1
  have hv := verE_bd a5
  have hn : (teX s).vn = tvI (r3 s) := by rw [hx]; rfl
  have ht : (teX s).vt = tvT (r3 s) := by rw [hx]; rfl
  have hb := tvI_bd (r3 s)
  exact ⟨⟨by omega, by omega, by omega, by omega, by omega, by omega, by omega, by omega, by omega, by omega⟩, rightS_size a2, by rw [ht]; exact tvT_size _⟩
theorem te_none {s : ByteArray} (h : teE s ≠ 0) : teX s = .none ∧ teR s = ⟨#[]⟩ := by
  by_cases h1 : errE s = 0
  · by_cases h2 : tkN (r2 s) ≤ 3 ∧ rightE (enK s (tkN (r2 s))) = true
    · have hL : teL s = (enK s (tkN (r2 s)), r5 s, 0) := by
        unfold teL
        rw [if_neg (by omega), if_pos h2]
      exact absurd (te_of hL).2.2 h
    · have := te_of (te_form s h1 h2)
      exact ⟨this.1, this.2.1⟩
  · have := te_of (te_err s h1)
    exact ⟨this.1, this.2.1⟩

set_option maxRecDepth 100000 in
set_option maxHeartbeats 4000000 in
theorem eback_big (x : En) (s : ByteArray) (w : World) (b : Bool) (hb : longE x = b) (sp : x.p.size ≤ 140737488351232) (st : x.vt.size ≤ 140737488351232) (ss : s.size ≤ 140737488351232) (h : b = true ∨ 900 < s.size) (hl : LaidE w) :
    Calls Tryd.prog 4 #[.agg #[.int .i64 x.d.1, .int .i64 x.d.2, .string x.p, .int .i64 x.k, .int .i64 x.vk, .int .i64 x.vn, .string x.vt, .int .i64 x.e.1, .int .i64 x.e.2], .string s] w fun e w' => e = .returned (.bool true) ∧ Kept w w' := by
  have AL := Lib.hid (fun w => elong_c x b hb w (by omega) (by omega))
  have HL := Lib.hid hl
  have K0 := Lib.hid ((Kept.refl w).alloc #[.int .i64 x.d.1, .int .i64 x.d.2, .string x.p, .int .i64 x.k, .int .i64 x.vk, .int .i64 x.vn, .string x.vt, .int .i64 x.e.1, .int .i64 x.e.2] 27)
  have E0 := Lib.hid (Ent.new w x 27)
  have d1 : b = false → 900 < s.size := fun e => h.resolve_left (by rw [e]; decide)
  clear hl sp st h hb
  cases b with
  | true =>
    clear d1
    go_enter Tryd.func4, Tryd.ntmps4
    go_wp2_with fail
    go_at_call 5
    refine (AL.out _).mono ?_
    rintro e w1 ⟨rfl, hg⟩
    have K1 := Lib.hid (K0.out.trans hg)
    clear hg
    go_wp2_with fail
    go_at_call 6
    refine (eawake_any _ (HL.out.kept K1.out)).mono ?_
    rintro e w2 ⟨rfl, hg⟩
    go_wp2_with fail
    go_ret
    exact ⟨rfl, K1.out.trans hg⟩
  | false =>
    have d2 : decide ((900 : Int) < (s.size : Int)) = true := decide_eq_true (by have := d1 rfl; omega)
    clear d1
    go_enter Tryd.func4, Tryd.ntmps4
    go_wp2_with fail
    go_at_call 5
    refine (AL.out _).mono ?_
    rintro e w1 ⟨rfl, hg⟩
    have K1 := Lib.hid (K0.out.trans hg)
    clear hg
    go_wp2_with fail
    go_at_call 6
    refine (eawake_any _ (HL.out.kept K1.out)).mono ?_
    rintro e w2 ⟨rfl, hg⟩
    go_wp2_with fail
    go_ret
    exact ⟨rfl, K1.out.trans hg⟩

set_option maxRecDepth 100000 in
set_option maxHeartbeats 8000000 in
theorem esays_big (x y : En) (s : ByteArray) (w : World) (b c : Bool) (hb : longE x = b) (hc : longE y = c) (sp : x.p.size ≤ 140737488351232) (st : x.vt.size ≤ 140737488351232) (sq : y.p.size ≤ 140737488351232) (su : y.vt.size ≤ 140737488351232) (ss : s.size ≤ 140737488351232) (h : b = true ∨ c = true ∨ 900 < s.size) (hl : LaidE w) :
    Calls Tryd.prog 3 #[.agg #[.int .i64 x.d.1, .int .i64 x.d.2, .string x.p, .int .i64 x.k, .int .i64 x.vk, .int .i64 x.vn, .string x.vt, .int .i64 x.e.1, .int .i64 x.e.2], .agg #[.int .i64 y.d.1, .int .i64 y.d.2, .string y.p, .int .i64 y.k, .int .i64 y.vk, .int .i64 y.vn, .string y.vt, .int .i64 y.e.1, .int .i64 y.e.2], .string s] w fun e w' => e = .returned (.bool true) ∧ Kept w w' := by
  have AL := Lib.hid (fun w => elong_c x b hb w (by omega) (by omega))
  have BL := Lib.hid (fun w => elong_c y c hc w (by omega) (by omega))
  have HL := Lib.hid hl
  have K0 := Lib.hid (((Kept.refl w).alloc #[.int .i64 x.d.1, .int .i64 x.d.2, .string x.p, .int .i64 x.k, .int .i64 x.vk, .int .i64 x.vn, .string x.vt, .int .i64 x.e.1, .int .i64 x.e.2] 27).alloc #[.int .i64 y.d.1, .int .i64 y.d.2, .string y.p, .int .i64 y.k, .int .i64 y.vk, .int .i64 y.vn, .string y.vt, .int .i64 y.e.1, .int .i64 y.e.2] 27)
  have E0 := (Ent.new w x 27).kept ((Kept.refl _).alloc #[.int .i64 y.d.1, .int .i64 y.d.2, .string y.p, .int .i64 y.k, .int .i64 y.vk, .int .i64 y.vn, .string y.vt, .int .i64 y.e.1, .int .i64 y.e.2] 27)
  have F0 := Ent.new (w.alloc (.cells #[.int .i64 x.d.1, .int .i64 x.d.2, .string x.p, .int .i64 x.k, .int .i64 x.vk, .int .i64 x.vn, .string x.vt, .int .i64 x.e.1, .int .i64 x.e.2] 27)) y 27
  rw [show (w.alloc (.cells #[.int .i64 x.d.1, .int .i64 x.d.2, .string x.p, .int .i64 x.k, .int .i64 x.vk, .int .i64 x.vn, .string x.vt, .int .i64 x.e.1, .int .i64 x.e.2] 27)).heap.size = w.heap.size + 1 by simp] at F0
  have HF := Lib.hid F0
  have u0 := E0.c0; have u1 := E0.c1; have u2 := E0.c2; have u3 := E0.c3; have u4 := E0.c4; have u5 := E0.c5; have u6 := E0.c6; have u7 := E0.c7; have u8 := E0.c8
  clear E0 F0 hl sp st sq su hb hc
  cases b with
  | true =>
    clear h
    go_enter Tryd.func3, Tryd.ntmps3
    go_wp2_with fail
    go_at_call 5
    refine (AL.out _).mono ?_
    rintro e w1 ⟨rfl, hg⟩
    have K1 := Lib.hid (K0.out.trans hg)
    have F1 := HF.out.kept hg
    clear hg
    clear u0 u1 u2 u3 u4 u5 u6 u7 u8
    clear F1
    go_wp2_with fail
    go_at_call 6
    refine (eawake_any _ (HL.out.kept K1.out)).mono ?_
    rintro e wk ⟨rfl, hg⟩
    go_wp2_with fail
    go_ret
    exact ⟨rfl, K1.out.trans hg⟩
  | false =>
    cases c with
    | true =>
      clear h
      go_enter Tryd.func3, Tryd.ntmps3
      go_wp2_with fail
      go_at_call 5
      refine (AL.out _).mono ?_
      rintro e w1 ⟨rfl, hg⟩
      have K1 := Lib.hid (K0.out.trans hg)
      have F1 := HF.out.kept hg
      clear hg
      clear u0 u1 u2 u3 u4 u5 u6 u7 u8
      have v0 := F1.c0; have v1 := F1.c1; have v2 := F1.c2; have v3 := F1.c3; have v4 := F1.c4; have v5 := F1.c5; have v6 := F1.c6; have v7 := F1.c7; have v8 := F1.c8
      clear F1
      go_wp2_with fail
      go_at_call 5
      refine (BL.out _).mono ?_
      rintro e w2 ⟨rfl, hg⟩
      have K2 := Lib.hid (K1.out.trans hg)
      clear hg
      clear v0 v1 v2 v3 v4 v5 v6 v7 v8
      go_wp2_with fail
      go_at_call 6
      refine (eawake_any _ (HL.out.kept K2.out)).mono ?_
      rintro e wk ⟨rfl, hg⟩
      go_wp2_with fail
      go_ret
      exact ⟨rfl, K2.out.trans hg⟩
    | false =>
      have d1 : decide ((900 : Int) < (s.size : Int)) = true := decide_eq_true (by rcases h with h | h | h <;> first | (cases h) | omega)
      clear h
      go_enter Tryd.func3, Tryd.ntmps3
      go_wp2_with fail
      go_at_call 5
      refine (AL.out _).mono ?_
      rintro e w1 ⟨rfl, hg⟩
      have K1 := Lib.hid (K0.out.trans hg)
      have F1 := HF.out.kept hg
      clear hg
      clear u0 u1 u2 u3 u4 u5 u6 u7 u8
      have v0 := F1.c0; have v1 := F1.c1; have v2 := F1.c2; have v3 := F1.c3; have v4 := F1.c4; have v5 := F1.c5; have v6 := F1.c6; have v7 := F1.c7; have v8 := F1.c8
      clear F1
      go_wp2_with fail
      go_at_call 5
      refine (BL.out _).mono ?_
      rintro e w2 ⟨rfl, hg⟩
      have K2 := Lib.hid (K1.out.trans hg)
      clear hg
      clear v0 v1 v2 v3 v4 v5 v6 v7 v8
      go_wp2_with fail
      go_at_call 6
      refine (eawake_any _ (HL.out.kept K2.out)).mono ?_
      rintro e wk ⟨rfl, hg⟩
      go_wp2_with fail
      go_ret
      exact ⟨rfl, K2.out.trans hg⟩
end Go.Proofs.YtoanccojpppfoaaDoor
