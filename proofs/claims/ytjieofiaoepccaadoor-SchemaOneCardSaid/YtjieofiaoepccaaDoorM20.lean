/-
  What is proved: package schema's next, at the types that it is asked for, and its taking of one field (P11.7), called with any text of up to 100000 bytes, return what that says; the world has new blocks at most.
  package schema's Take of layer 11 (P11.7), called with any text of up to 100000 bytes, returns what that says; the world has new blocks at most.
  the document's Text of layer 11 (P11.9), called with any schema of bounded lengths, returns what that says; the world has new blocks at most.
  slices.Grow of the nil slice, and slices.Concat of any slices of texts (a million texts at most in all), as the library's text has them, at texts: the result lies in a row of its own and holds the slices' texts, one slice behind the other; the world has new blocks at most.
-/
import Derived.Test.YtjieofiaoepccaaDoorM19
import Derived.Test.YtjieofiaoepccaaDoorM16
import Derived.Test.YtjieofiaoepccaaDoorM4
import Derived.Test.YtjieofiaoepccaaDoorM18
import Derived.Test.YtjieofiaoepccaaDoorM7
import Derived.Lib.AppendZerosOnto
import Derived.Lib.AppendZeros
import Derived.Lib.SliceRun
import Derived.Lib.Walk
namespace Go.Proofs.YtjieofiaoepccaaDoor
open Go.RowKit
set_option linter.unusedVariables false
/-- A number behind what was taken, or an error that came ahead of it. -/
def nxN (r : ByteArray) (z : Nat) : Nat × ByteArray × Nat := if z ≠ 0 then (0, ⟨#[]⟩, z) else (tkN r, tkR r, tkE r)
def nxV (r : ByteArray) (z : Nat) : Int × Int × ByteArray × ByteArray × Nat := if z ≠ 0 then (0, 0, ⟨#[]⟩, ⟨#[]⟩, z) else (tvK r, tvI r, tvT r, tvR r, tvE r)
theorem nxN_size {r : ByteArray} {z : Nat} {m : Nat} (h : r.size ≤ m) : (nxN r z).2.1.size ≤ m := by
  unfold nxN
  split
  · exact Nat.zero_le _
  · exact Nat.le_trans (tkR_size r) h
set_option maxRecDepth 100000 in
set_option maxHeartbeats 8000000 in
theorem nxN_any (r : ByteArray) (z : Nat) (hs : r.size ≤ 100000) (n' : Nat) (r' : ByteArray) (z' : Nat) (h : nxN r z = (n', r', z')) (w : World) :
    Calls Tryd.prog 49 #[.string r, .int .i64 (z : Int), .func (.func 26) #[] #[]] w fun e w' => e = .returned (.tuple #[.int .u64 (n' : Int), .string r', .int .i64 (z' : Int)]) ∧ Kept w w' := by
  unfold nxN at h
  by_cases hz : z = 0
  · subst hz
    rw [if_neg (by simp)] at h
    obtain ⟨h1, h2⟩ := Prod.mk.inj h
    obtain ⟨h2, h3⟩ := Prod.mk.inj h2
    have AK := Lib.hid (fun w => take_c r (n' : Int) r' (z' : Int) (by rw [h1]) h2 (by rw [h3]) (by omega) w)
    clear h h1 h2 h3 hs
    go_enter Tryd.func49, Tryd.ntmps49
    go_wp2_with fail
    go_at_call 26
    refine (AK.out _).mono ?_
    rintro e w1 ⟨rfl, hg⟩
    go_wp2_with fail
    go_ret3
    exact ⟨rfl, kept_of hg⟩
  · rw [if_pos hz] at h
    obtain ⟨rfl, h2⟩ := Prod.mk.inj h
    obtain ⟨rfl, rfl⟩ := Prod.mk.inj h2
    have f1 : ((z : Int) == 0) = false := by simp; omega
    have f2 : ((z : Int) != 0) = true := by simp; omega
    clear h h2 hz hs
    go_enter Tryd.func49, Tryd.ntmps49
    go_wp2_with fail
    go_ret3
    exact ⟨rfl, Kept.refl _⟩
theorem Box.keptF {w w' : World} {b : Nat} {x0 x1 x2 : Value} (h : Box w b x0 x1 x2) (hg : Kept w w') : Box w' b x0 x1 x2 :=
  ⟨hg.cell h.c0, hg.cell h.c1, hg.cell h.c2, fun i => (hg.2.1 ⟨b, i, none⟩ (show b < w.heap.size from World.block_lt_of_cell? w _ h.c0)).trans (h.f i)⟩
set_option maxRecDepth 100000 in
set_option maxHeartbeats 8000000 in
theorem nxV_any (r : ByteArray) (z : Nat) (hs : r.size ≤ 100000) (k n : Int) (t : ByteArray) (r' : ByteArray) (z' : Nat) (h : nxV r z = (k, n, t, r', z')) (w : World) :
    Calls Tryd.prog 50 #[.string r, .int .i64 (z : Int), .func (.func 51) #[] #[]] w fun e w' => e = .returned (.tuple #[.agg #[.int .i64 k, .int .i64 n, .string t], .string r', .int .i64 (z' : Int)]) ∧ Kept w w' := by
  have HB := Lib.hid (Box.new w (.int .i64 0) (.int .i64 0) (.string ⟨#[]⟩) 28)
  have HK := Lib.hid ((Kept.refl w).alloc #[.int .i64 0, .int .i64 0, .string ⟨#[]⟩] 28)
  unfold nxV at h
  by_cases hz : z = 0
  · subst hz
    rw [if_neg (by simp)] at h
    obtain ⟨h1, h⟩ := Prod.mk.inj h
    obtain ⟨h2, h⟩ := Prod.mk.inj h
    obtain ⟨h3, h⟩ := Prod.mk.inj h
    obtain ⟨h4, h5⟩ := Prod.mk.inj h
    have AK := Lib.hid (fun w => vtake_any r w (by omega))
    rw [h1, h2, h3, h4, h5] at AK
    clear h h1 h2 h3 h4 h5 hs
    go_enter Tryd.func50, Tryd.ntmps50
    go_wp2_with fail
    go_at_call 51
    refine (AK.out _).mono ?_
    rintro e w1 ⟨rfl, hg⟩
    have hk := kept_of hg
    have hb := HB.out.keptF hk
    have b0 := hb.c0; have b1 := hb.c1; have b2 := hb.c2; have bf := hb.f
    have HF := Lib.hid (show Kept w _ from (((HK.out.trans hk).setCell (a := ⟨w.heap.size, 0, none⟩) (Nat.le_refl _) (.int .i64 k)).setCell (a := ⟨w.heap.size, 1, none⟩) (Nat.le_refl _) (.int .i64 n)).setCell (a := ⟨w.heap.size, 2, none⟩) (Nat.le_refl _) (.string t))
    clear hb hk hg
    go_wp2_with fail
    refine bodyPost_ret (by simp [results, Tryd.results50, go_sem, *]) rfl ⟨rfl, ?_⟩
    exact HF.out
  · rw [if_pos hz] at h
    simp only [Prod.mk.injEq] at h
    obtain ⟨e1, e2, e3, e4, e5⟩ := h
    subst e1 e2 e3 e4 e5
    have f1 : ((z : Int) == 0) = false := by simp; omega
    have f2 : ((z : Int) != 0) = true := by simp; omega
    have hk2 := (Kept.refl (w.alloc (.cells #[.int .i64 0, .int .i64 0, .string ⟨#[]⟩] 28))).alloc #[.int .i64 0, .int .i64 0, .string ⟨#[]⟩] 28
    have hb := HB.out.keptF hk2
    have b0 := hb.c0; have b1 := hb.c1; have b2 := hb.c2; have bf := hb.f
    have HF := Lib.hid (HK.out.trans hk2)
    clear hz hs hb hk2
    go_enter Tryd.func50, Tryd.ntmps50
    go_wp2_with fail
    refine bodyPost_ret (by simp [results, Tryd.results50, go_sem, *]) rfl ⟨rfl, ?_⟩
    exact HF.out
/-- What a field's four parts come to. -/
theorem tf_parts (s : ByteArray) {t r1 : ByteArray} {z0 n1 : Nat} {r2 : ByteArray} {z1 n2 : Nat} {r3 : ByteArray} {z2 : Nat} {k n : Int} {vt r4 : ByteArray} {z3 : Nat}
    (h0 : ttT s 102 = t ∧ ttR s 102 = r1 ∧ ttE s 102 = z0) (h1 : nxN r1 z0 = (n1, r2, z1)) (h2 : nxN r2 z1 = (n2, r3, z2)) (h3 : nxV r3 z2 = (k, n, vt, r4, z3)) :
    (z3 ≠ 0 → tfL s = (.none, ⟨#[]⟩, z3)) ∧ (z3 = 0 → (3 < n1 ∨ 3 < n2) → tfL s = (.none, ⟨#[]⟩, 3)) ∧ (z3 = 0 → ¬ (3 < n1 ∨ 3 < n2) → tfL s = (⟨t, n1, n2, k, n, vt⟩, r4, 0)) := by
  obtain ⟨a1, a2, a3⟩ := h0
  have key : errF s = z3 ∧ (z3 = 0 → tkN (f1 s) = n1 ∧ tkN (f2 s) = n2 ∧ tvK (f3 s) = k ∧ tvI (f3 s) = n ∧ tvT (f3 s) = vt ∧ tvR (f3 s) = r4) := by
    have e1 : f1 s = r1 := a2
    unfold errF f2 f3 f2
    rw [e1, a3]
    unfold nxN at h1 h2
    unfold nxV at h3
    by_cases q0 : z0 = 0
    · subst q0
      rw [if_neg (by simp)] at h1
      obtain ⟨b1, b2⟩ := Prod.mk.inj h1
      obtain ⟨b2, b3⟩ := Prod.mk.inj b2
      rw [if_neg (by simp), b1, b2, b3]
      by_cases q1 : z1 = 0
      · subst q1
        rw [if_neg (by simp)] at h2
        obtain ⟨c1, c2⟩ := Prod.mk.inj h2
        obtain ⟨c2, c3⟩ := Prod.mk.inj c2
        rw [if_neg (by simp), c1, c2, c3]
        by_cases q2 : z2 = 0
        · subst q2
          rw [if_neg (by simp)] at h3
          obtain ⟨d1, h3⟩ := Prod.mk.inj h3
          obtain ⟨d2, h3⟩ := Prod.mk.inj h3
          obtain ⟨d3, h3⟩ := Prod.mk.inj h3
          obtain ⟨d4, d5⟩ := Prod.mk.inj h3
          rw [if_neg (by simp)]
          exact ⟨d5, fun _ => ⟨rfl, rfl, d1, d2, d3, d4⟩⟩
        · rw [if_pos q2] at h3
          have d5 : z2 = z3 := (Prod.mk.inj (Prod.mk.inj (Prod.mk.inj (Prod.mk.inj h3).2).2).2).2
          rw [if_pos q2]
          exact ⟨d5, fun e => absurd (d5.trans e) q2⟩
      · rw [if_pos q1] at h2
        have c3 : z1 = z2 := (Prod.mk.inj (Prod.mk.inj h2).2).2
        rw [if_pos (by omega)] at h3
        have d5 : z2 = z3 := (Prod.mk.inj (Prod.mk.inj (Prod.mk.inj (Prod.mk.inj h3).2).2).2).2
        rw [if_pos q1]
        exact ⟨c3.trans d5, fun e => absurd (c3.trans (d5.trans e)) q1⟩
    · rw [if_pos q0] at h1
      have b3 : z0 = z1 := (Prod.mk.inj (Prod.mk.inj h1).2).2
      rw [if_pos (by omega)] at h2
      have c3 : z1 = z2 := (Prod.mk.inj (Prod.mk.inj h2).2).2
      rw [if_pos (by omega)] at h3
      have d5 : z2 = z3 := (Prod.mk.inj (Prod.mk.inj (Prod.mk.inj (Prod.mk.inj h3).2).2).2).2
      rw [if_pos q0]
      exact ⟨b3.trans (c3.trans d5), fun e => absurd (b3.trans (c3.trans (d5.trans e))) q0⟩
  obtain ⟨hE, hk⟩ := key
  unfold tfL
  rw [hE]
  refine ⟨fun h => by rw [if_pos h], fun h g => ?_, fun h g => ?_⟩
  · obtain ⟨k1, k2, _⟩ := hk h
    rw [if_neg (by omega), k1, k2, if_pos g]
  · obtain ⟨k1, k2, k3, k4, k5, k6⟩ := hk h
    rw [if_neg (by omega), k1, k2, if_neg g]
    unfold fdK
    rw [a1, k1, k2, k3, k4, k5, k6]
set_option maxRecDepth 100000 in
set_option maxHeartbeats 8000000 in
theorem stf_any (s : ByteArray) (w : World) (hs : s.size ≤ 100000) :
    Calls Tryd.prog 27 #[.string s] w fun e w' => e = .returned (.tuple #[.agg #[.string (tfX s).p, .int .i64 (tfX s).k, .int .i64 (tfX s).t, .int .i64 (tfX s).vk, .int .i64 (tfX s).vn, .string (tfX s).vt], .string (tfR s), .int .i64 (tfE s)]) ∧ Kept w w' := by
  have hres := FdB.new w .none 30
  simp only [Fd.none] at hres
  have HRES := Lib.hid hres
  have HK := Lib.hid ((Kept.refl w).alloc #[.string ⟨#[]⟩, .int .i64 0, .int .i64 0, .int .i64 0, .int .i64 0, .string ⟨#[]⟩] 30)
  obtain ⟨t, ht⟩ : ∃ t, ttT s 102 = t := ⟨_, rfl⟩
  obtain ⟨r1, hr1⟩ : ∃ r, ttR s 102 = r := ⟨_, rfl⟩
  obtain ⟨z0, hz0⟩ : ∃ z, ttE s 102 = z := ⟨_, rfl⟩
  have hs1 : r1.size ≤ 100000 := by rw [← hr1]; exact Nat.le_trans (ttR_szF s 102) hs
  obtain ⟨n1, r2, z1, h1⟩ : ∃ n r z, nxN r1 z0 = (n, r, z) := ⟨_, _, _, rfl⟩
  have hs2 : r2.size ≤ 100000 := by have := nxN_size (z := z0) hs1; rw [h1] at this; exact this
  obtain ⟨n2, r3, z2, h2⟩ : ∃ n r z, nxN r2 z1 = (n, r, z) := ⟨_, _, _, rfl⟩
  have hs3 : r3.size ≤ 100000 := by have := nxN_size (z := z1) hs2; rw [h2] at this; exact this
  obtain ⟨vk, vn, vt, r4, z3, h3⟩ : ∃ k n t r z, nxV r3 z2 = (k, n, t, r, z) := ⟨_, _, _, _, _, rfl⟩
  have HP := Lib.hid (tf_parts s ⟨ht, hr1, hz0⟩ h1 h2 h3)
  have AT := Lib.hid (fun w => takeText_c s 102 t r1 (z0 : Int) ht hr1 (by rw [hz0]) (by omega) (by decide) (by decide) w)
  have A1 := Lib.hid (fun w => nxN_any r1 z0 hs1 n1 r2 z1 h1 w)
  have A2 := Lib.hid (fun w => nxN_any r2 z1 hs2 n2 r3 z2 h2 w)
  have A3 := Lib.hid (fun w => nxV_any r3 z2 hs3 vk vn vt r4 z3 h3 w)
  clear hres ht hr1 hz0 hs1 h1 hs2 h2 hs3 h3 hs
  by_cases hz : z3 = 0
  · subst hz
    by_cases hg3 : 3 < n1 ∨ 3 < n2
    · have hL := HP.out.2.1 rfl hg3
      obtain ⟨t1, t2, t3⟩ := tf_of hL
      rw [t1, t2, t3]
      clear hL t1 t2 t3
      by_cases hle : n1 ≤ n2
      · have hm : max (n1 : Int) (n2 : Int) = (n2 : Int) := by omega
        have hmn : max n1 n2 = n2 := by omega
        have g1 : decide ((3 : Int) < (n2 : Int)) = true := decide_eq_true (by omega)
        have g1' : decide (3 < n2) = true := decide_eq_true (by omega)
        clear hg3 hle
        go_enter Tryd.func27, Tryd.ntmps27
        go_wp2_with fail
        go_at_call 48
        refine (AT.out _).mono ?_
        rintro e w1 ⟨rfl, hg⟩
        have hk := kept_of hg
        replace HK := Lib.hid (HK.out.trans hk)
        replace HRES := Lib.hid (HRES.out.kept hk)
        clear hk hg
        go_wp2_with fail
        go_at_call 49
        refine (A1.out _).mono ?_
        rintro e w2 ⟨rfl, hk⟩
        replace HK := Lib.hid (HK.out.trans hk)
        replace HRES := Lib.hid (HRES.out.kept hk)
        clear hk
        go_wp2_with fail
        go_at_call 49
        refine (A2.out _).mono ?_
        rintro e w3 ⟨rfl, hk⟩
        replace HK := Lib.hid (HK.out.trans hk)
        replace HRES := Lib.hid (HRES.out.kept hk)
        clear hk
        go_wp2_with fail
        go_at_call 50
        refine (A3.out _).mono ?_
        rintro e w4 ⟨rfl, hk⟩
        have hka := (Kept.refl w4).alloc #[.int .i64 vk, .int .i64 vn, .string vt] 28
        have HBV := Lib.hid (Box.new w4 (.int .i64 vk) (.int .i64 vn) (.string vt) 28)
        replace HK := Lib.hid (HK.out.trans (hk.trans hka))
        replace HRES := Lib.hid (HRES.out.kept (hk.trans hka))
        clear hk hka
        have hr := HRES.out
        have rf := hr.f
        have r0 := hr.c0; have r1 := hr.c1; have r2 := hr.c2; have r3 := hr.c3; have r4 := hr.c4; have r5 := hr.c5
        clear hr
        have HF := Lib.hid (show Kept w _ from (((((HK.out.setCell (a := ⟨w.heap.size, 0, none⟩) (Nat.le_refl _) (.string ⟨#[]⟩)).setCell (a := ⟨w.heap.size, 1, none⟩) (Nat.le_refl _) (.int .i64 0)).setCell (a := ⟨w.heap.size, 2, none⟩) (Nat.le_refl _) (.int .i64 0)).setCell (a := ⟨w.heap.size, 3, none⟩) (Nat.le_refl _) (.int .i64 0)).setCell (a := ⟨w.heap.size, 4, none⟩) (Nat.le_refl _) (.int .i64 0)).setCell (a := ⟨w.heap.size, 5, none⟩) (Nat.le_refl _) (.string ⟨#[]⟩))
        go_wp2_with fail
        refine bodyPost_ret (by simp [results, Tryd.results27, go_sem, Fd.none, *]) rfl ⟨rfl, ?_⟩
        exact HF.out
      · have hm : max (n1 : Int) (n2 : Int) = (n1 : Int) := by omega
        have hmn : max n1 n2 = n1 := by omega
        have g1 : decide ((3 : Int) < (n1 : Int)) = true := decide_eq_true (by omega)
        have g1' : decide (3 < n1) = true := decide_eq_true (by omega)
        clear hg3 hle
        go_enter Tryd.func27, Tryd.ntmps27
        go_wp2_with fail
        go_at_call 48
        refine (AT.out _).mono ?_
        rintro e w1 ⟨rfl, hg⟩
        have hk := kept_of hg
        replace HK := Lib.hid (HK.out.trans hk)
        replace HRES := Lib.hid (HRES.out.kept hk)
        clear hk hg
        go_wp2_with fail
        go_at_call 49
        refine (A1.out _).mono ?_
        rintro e w2 ⟨rfl, hk⟩
        replace HK := Lib.hid (HK.out.trans hk)
        replace HRES := Lib.hid (HRES.out.kept hk)
        clear hk
        go_wp2_with fail
        go_at_call 49
        refine (A2.out _).mono ?_
        rintro e w3 ⟨rfl, hk⟩
        replace HK := Lib.hid (HK.out.trans hk)
        replace HRES := Lib.hid (HRES.out.kept hk)
        clear hk
        go_wp2_with fail
        go_at_call 50
        refine (A3.out _).mono ?_
        rintro e w4 ⟨rfl, hk⟩
        have hka := (Kept.refl w4).alloc #[.int .i64 vk, .int .i64 vn, .string vt] 28
        have HBV := Lib.hid (Box.new w4 (.int .i64 vk) (.int .i64 vn) (.string vt) 28)
        replace HK := Lib.hid (HK.out.trans (hk.trans hka))
        replace HRES := Lib.hid (HRES.out.kept (hk.trans hka))
        clear hk hka
        have hr := HRES.out
        have rf := hr.f
        have r0 := hr.c0; have r1 := hr.c1; have r2 := hr.c2; have r3 := hr.c3; have r4 := hr.c4; have r5 := hr.c5
        clear hr
        have HF := Lib.hid (show Kept w _ from (((((HK.out.setCell (a := ⟨w.heap.size, 0, none⟩) (Nat.le_refl _) (.string ⟨#[]⟩)).setCell (a := ⟨w.heap.size, 1, none⟩) (Nat.le_refl _) (.int .i64 0)).setCell (a := ⟨w.heap.size, 2, none⟩) (Nat.le_refl _) (.int .i64 0)).setCell (a := ⟨w.heap.size, 3, none⟩) (Nat.le_refl _) (.int .i64 0)).setCell (a := ⟨w.heap.size, 4, none⟩) (Nat.le_refl _) (.int .i64 0)).setCell (a := ⟨w.heap.size, 5, none⟩) (Nat.le_refl _) (.string ⟨#[]⟩))
        go_wp2_with fail
        refine bodyPost_ret (by simp [results, Tryd.results27, go_sem, Fd.none, *]) rfl ⟨rfl, ?_⟩
        exact HF.out
    · have hL := HP.out.2.2 rfl hg3
      obtain ⟨t1, t2, t3⟩ := tf_of hL
      rw [t1, t2, t3]
      clear hL t1 t2 t3
      have hw1 : IntKind.i64.wrap (n1 : Int) = (n1 : Int) := by rw [IntWalk.i64_in _ (by omega)]
      have hw2 : IntKind.i64.wrap (n2 : Int) = (n2 : Int) := by rw [IntWalk.i64_in _ (by omega)]
      by_cases hle : n1 ≤ n2
      · have hm : max (n1 : Int) (n2 : Int) = (n2 : Int) := by omega
        have hmn : max n1 n2 = n2 := by omega
        have g1 : decide ((3 : Int) < (n2 : Int)) = false := decide_eq_false (by omega)
        have g1' : decide (3 < n2) = false := decide_eq_false (by omega)
        clear hg3 hle
        go_enter Tryd.func27, Tryd.ntmps27
        go_wp2_with fail
        go_at_call 48
        refine (AT.out _).mono ?_
        rintro e w1 ⟨rfl, hg⟩
        have hk := kept_of hg
        replace HK := Lib.hid (HK.out.trans hk)
        replace HRES := Lib.hid (HRES.out.kept hk)
        clear hk hg
        go_wp2_with fail
        go_at_call 49
        refine (A1.out _).mono ?_
        rintro e w2 ⟨rfl, hk⟩
        replace HK := Lib.hid (HK.out.trans hk)
        replace HRES := Lib.hid (HRES.out.kept hk)
        clear hk
        go_wp2_with fail
        go_at_call 49
        refine (A2.out _).mono ?_
        rintro e w3 ⟨rfl, hk⟩
        replace HK := Lib.hid (HK.out.trans hk)
        replace HRES := Lib.hid (HRES.out.kept hk)
        clear hk
        go_wp2_with fail
        go_at_call 50
        refine (A3.out _).mono ?_
        rintro e w4 ⟨rfl, hk⟩
        have hka := (Kept.refl w4).alloc #[.int .i64 vk, .int .i64 vn, .string vt] 28
        have HBV := Lib.hid (Box.new w4 (.int .i64 vk) (.int .i64 vn) (.string vt) 28)
        replace HK := Lib.hid (HK.out.trans (hk.trans hka))
        replace HRES := Lib.hid (HRES.out.kept (hk.trans hka))
        clear hk hka
        have hr := HRES.out
        have rf := hr.f
        have r0 := hr.c0; have r1 := hr.c1; have r2 := hr.c2; have r3 := hr.c3; have r4 := hr.c4; have r5 := hr.c5
        clear hr
        have v0 := HBV.out.c0; have v1 := HBV.out.c1; have v2 := HBV.out.c2
        have HF := Lib.hid (show Kept w _ from (((((HK.out.setCell (a := ⟨w.heap.size, 0, none⟩) (Nat.le_refl _) (.string t)).setCell (a := ⟨w.heap.size, 1, none⟩) (Nat.le_refl _) (.int .i64 (n1 : Int))).setCell (a := ⟨w.heap.size, 2, none⟩) (Nat.le_refl _) (.int .i64 (n2 : Int))).setCell (a := ⟨w.heap.size, 3, none⟩) (Nat.le_refl _) (.int .i64 vk)).setCell (a := ⟨w.heap.size, 4, none⟩) (Nat.le_refl _) (.int .i64 vn)).setCell (a := ⟨w.heap.size, 5, none⟩) (Nat.le_refl _) (.string vt))
        go_wp2_with fail
        refine bodyPost_ret (by simp [results, Tryd.results27, go_sem, *]) rfl ⟨rfl, ?_⟩
        exact HF.out
      · have hm : max (n1 : Int) (n2 : Int) = (n1 : Int) := by omega
        have hmn : max n1 n2 = n1 := by omega
        have g1 : decide ((3 : Int) < (n1 : Int)) = false := decide_eq_false (by omega)
        have g1' : decide (3 < n1) = false := decide_eq_false (by omega)
        clear hg3 hle
        go_enter Tryd.func27, Tryd.ntmps27
        go_wp2_with fail
        go_at_call 48
        refine (AT.out _).mono ?_
        rintro e w1 ⟨rfl, hg⟩
        have hk := kept_of hg
        replace HK := Lib.hid (HK.out.trans hk)
        replace HRES := Lib.hid (HRES.out.kept hk)
        clear hk hg
        go_wp2_with fail
        go_at_call 49
        refine (A1.out _).mono ?_
        rintro e w2 ⟨rfl, hk⟩
        replace HK := Lib.hid (HK.out.trans hk)
        replace HRES := Lib.hid (HRES.out.kept hk)
        clear hk
        go_wp2_with fail
        go_at_call 49
        refine (A2.out _).mono ?_
        rintro e w3 ⟨rfl, hk⟩
        replace HK := Lib.hid (HK.out.trans hk)
        replace HRES := Lib.hid (HRES.out.kept hk)
        clear hk
        go_wp2_with fail
        go_at_call 50
        refine (A3.out _).mono ?_
        rintro e w4 ⟨rfl, hk⟩
        have hka := (Kept.refl w4).alloc #[.int .i64 vk, .int .i64 vn, .string vt] 28
        have HBV := Lib.hid (Box.new w4 (.int .i64 vk) (.int .i64 vn) (.string vt) 28)
        replace HK := Lib.hid (HK.out.trans (hk.trans hka))
        replace HRES := Lib.hid (HRES.out.kept (hk.trans hka))
        clear hk hka
        have hr := HRES.out
        have rf := hr.f
        have r0 := hr.c0; have r1 := hr.c1; have r2 := hr.c2; have r3 := hr.c3; have r4 := hr.c4; have r5 := hr.c5
        clear hr
        have v0 := HBV.out.c0; have v1 := HBV.out.c1; have v2 := HBV.out.c2
        have HF := Lib.hid (show Kept w _ from (((((HK.out.setCell (a := ⟨w.heap.size, 0, none⟩) (Nat.le_refl _) (.string t)).setCell (a := ⟨w.heap.size, 1, none⟩) (Nat.le_refl _) (.int .i64 (n1 : Int))).setCell (a := ⟨w.heap.size, 2, none⟩) (Nat.le_refl _) (.int .i64 (n2 : Int))).setCell (a := ⟨w.heap.size, 3, none⟩) (Nat.le_refl _) (.int .i64 vk)).setCell (a := ⟨w.heap.size, 4, none⟩) (Nat.le_refl _) (.int .i64 vn)).setCell (a := ⟨w.heap.size, 5, none⟩) (Nat.le_refl _) (.string vt))
        go_wp2_with fail
        refine bodyPost_ret (by simp [results, Tryd.results27, go_sem, *]) rfl ⟨rfl, ?_⟩
        exact HF.out
  · have hL := HP.out.1 hz
    obtain ⟨t1, t2, t3⟩ := tf_of hL
    rw [t1, t2, t3]
    clear hL t1 t2 t3
    have f1' : ((z3 : Int) == 0) = false := by simp; omega
    have f2' : ((z3 : Int) != 0) = true := by simp; omega
    clear hz
    go_enter Tryd.func27, Tryd.ntmps27
    go_wp2_with fail
    go_at_call 48
    refine (AT.out _).mono ?_
    rintro e w1 ⟨rfl, hg⟩
    have hk := kept_of hg
    replace HK := Lib.hid (HK.out.trans hk)
    replace HRES := Lib.hid (HRES.out.kept hk)
    clear hk hg
    go_wp2_with fail
    go_at_call 49
    refine (A1.out _).mono ?_
    rintro e w2 ⟨rfl, hk⟩
    replace HK := Lib.hid (HK.out.trans hk)
    replace HRES := Lib.hid (HRES.out.kept hk)
    clear hk
    go_wp2_with fail
    go_at_call 49
    refine (A2.out _).mono ?_
    rintro e w3 ⟨rfl, hk⟩
    replace HK := Lib.hid (HK.out.trans hk)
    replace HRES := Lib.hid (HRES.out.kept hk)
    clear hk
    go_wp2_with fail
    go_at_call 50
    refine (A3.out _).mono ?_
    rintro e w4 ⟨rfl, hk⟩
    have hka := (Kept.refl w4).alloc #[.int .i64 vk, .int .i64 vn, .string vt] 28
    have HBV := Lib.hid (Box.new w4 (.int .i64 vk) (.int .i64 vn) (.string vt) 28)
    replace HK := Lib.hid (HK.out.trans (hk.trans hka))
    replace HRES := Lib.hid (HRES.out.kept (hk.trans hka))
    clear hk hka
    have hr := HRES.out
    have rf := hr.f
    have r0 := hr.c0; have r1 := hr.c1; have r2 := hr.c2; have r3 := hr.c3; have r4 := hr.c4; have r5 := hr.c5
    clear hr
    have HF := Lib.hid (show Kept w _ from (((((HK.out.setCell (a := ⟨w.heap.size, 0, none⟩) (Nat.le_refl _) (.string ⟨#[]⟩)).setCell (a := ⟨w.heap.size, 1, none⟩) (Nat.le_refl _) (.int .i64 0)).setCell (a := ⟨w.heap.size, 2, none⟩) (Nat.le_refl _) (.int .i64 0)).setCell (a := ⟨w.heap.size, 3, none⟩) (Nat.le_refl _) (.int .i64 0)).setCell (a := ⟨w.heap.size, 4, none⟩) (Nat.le_refl _) (.int .i64 0)).setCell (a := ⟨w.heap.size, 5, none⟩) (Nat.le_refl _) (.string ⟨#[]⟩))
    go_wp2_with fail
    refine bodyPost_ret (by simp [results, Tryd.results27, go_sem, Fd.none, *]) rfl ⟨rfl, ?_⟩
    exact HF.out
end Go.Proofs.YtjieofiaoepccaaDoor

namespace Go.Proofs.YtjieofiaoepccaaDoor
open Go.RowKit
set_option linter.unusedVariables false
open Classical in
set_option maxRecDepth 100000 in
set_option maxHeartbeats 8000000 in
theorem stake_any (s : ByteArray) (w : World) (hs : s.size ≤ 100000) :
    Calls Tryd.prog 10 #[.string s] w (TakS s w) := by
  have hk := (Kept.refl w).alloc #[.slice none 0 0] 24
  have HRES := Lib.hid (Box1.new w (.slice none 0 0) 24)
  have HK := Lib.hid hk
  have hrs := tkR_size s
  clear hk
  by_cases h0 : tkE s ≠ 0
  · obtain ⟨z, hz⟩ : ∃ z : Nat, tkE s = z := ⟨_, rfl⟩
    have f1' : ((z : Int) == 0) = false := by simp; omega
    have f2' : ((z : Int) != 0) = true := by simp; omega
    have HT := Lib.hid (show tscL s = ([], ⟨#[]⟩, z) by unfold tscL; rw [if_pos h0, hz])
    have AK := Lib.hid (fun w => take_c s _ _ (z : Int) rfl rfl (by omega) (by omega) w)
    clear h0 hz hs hrs
    go_enter Tryd.func10, Tryd.ntmps10
    go_wp2_with fail
    go_at_call 26
    refine (AK.out _).mono ?_
    rintro e w1 ⟨rfl, hg⟩
    have hk := kept_of hg
    replace HK := Lib.hid (HK.out.trans hk)
    replace HRES := Lib.hid (HRES.out.kept hk)
    clear hg hk
    have hr := HRES.out
    have rf := hr.f
    have r0 := hr.c0
    clear hr
    have HF := Lib.hid (takS_err HT.out (HK.out.setCell (a := ⟨w.heap.size, 0, none⟩) (Nat.le_refl _) (.slice none 0 0)))
    go_wp2_with fail
    exact bodyPost_ret (by simp [results, Tryd.results10, go_sem, *]) rfl HF.out
  · obtain ⟨a, ha⟩ : ∃ a, tkN s = a := ⟨_, rfl⟩
    by_cases ga : 24 < a
    · have AK := Lib.hid (fun w => take_c s (a : Int) _ 0 (by rw [ha]) rfl (by omega) (by omega) w)
      have g1 : decide ((24 : Int) < (a : Int)) = true := decide_eq_true (by omega)
      have g2 : decide (24 < a) = true := decide_eq_true ga
      have HT := Lib.hid (show tscL s = ([], ⟨#[]⟩, 4) by unfold tscL; rw [if_neg h0, if_pos (by omega)])
      clear h0 ha ga hs hrs
      go_enter Tryd.func10, Tryd.ntmps10
      go_wp2_with fail
      go_at_call 26
      refine (AK.out _).mono ?_
      rintro e w1 ⟨rfl, hg⟩
      have hk := kept_of hg
      replace HK := Lib.hid (HK.out.trans hk)
      replace HRES := Lib.hid (HRES.out.kept hk)
      clear hg hk
      have hr := HRES.out
      have rf := hr.f
      have r0 := hr.c0
      clear hr
      have HF := Lib.hid (takS_err (z := 4) HT.out (HK.out.setCell (a := ⟨w.heap.size, 0, none⟩) (Nat.le_refl _) (.slice none 0 0)))
      go_wp2_with fail
      exact bodyPost_ret (by simp [results, Tryd.results10, go_sem, *]) rfl HF.out
    · obtain ⟨r, hr⟩ : ∃ r, tkR s = r := ⟨_, rfl⟩
      have AK := Lib.hid (fun w => take_c s (a : Int) r 0 (by rw [ha]) hr (by omega) (by omega) w)
      have g1 : decide ((24 : Int) < (a : Int)) = false := decide_eq_false (by omega)
      have g2 : decide (24 < a) = false := decide_eq_false ga
      have hw1 : IntKind.i64.wrap (a : Int) = (a : Int) := by rw [IntWalk.i64_in _ (by omega)]
      have ha24 : a ≤ 24 := by omega
      have hrs2 : r.size ≤ 100000 := by rw [← hr]; omega
      have HTT := Lib.hid (show tscL s = if (takeFs a [] r).2.2 ≠ 0 then ([], ⟨#[]⟩, (takeFs a [] r).2.2) else if ScOk (takeFs a [] r).1 then ((takeFs a [] r).1, (takeFs a [] r).2.1, 0) else ([], ⟨#[]⟩, 3) by
        unfold tscL
        rw [if_neg h0, if_neg (by omega), ha, hr])
      clear h0 ha ga hs hrs hr
      go_enter Tryd.func10, Tryd.ntmps10
      go_wp2_with fail
      go_at_call 26
      refine (AK.out _).mono ?_
      rintro e w1 ⟨rfl, hg⟩
      have hk := kept_of hg
      replace HK := Lib.hid (HK.out.trans hk)
      replace HRES := Lib.hid (HRES.out.kept hk)
      have hka := (Kept.refl w1).alloc #[.slice none 0 0] 24
      have HB7 := Lib.hid (Box1.new w1 (.slice none 0 0) 24)
      have HLB := Lib.hid (show w.heap.size + 1 ≤ w1.heap.size by have := HRES.out.lt; omega)
      replace HK := Lib.hid (HK.out.trans hka)
      replace HRES := Lib.hid (HRES.out.kept hka)
      obtain ⟨b7, hb7⟩ : ∃ b, w1.heap.size = b := ⟨_, rfl⟩
      obtain ⟨U, hU⟩ : ∃ U, w1.alloc (.cells #[.slice none 0 0] 24) = U := ⟨_, rfl⟩
      rw [hU] at HK HRES HB7
      rw [hb7] at HB7 HLB
      have HUU := Lib.hid hU
      have HBB := Lib.hid hb7
      clear hg hk hka hU hb7
      go_wp2_with fail
      rw [HUU.out, HBB.out]
      have hb7U := HB7.out.lt
      go_loopw [6, 26] (fun v i wr => ∃ (t : Nat) (s1 : ByteArray) (L : List Fd) (u : Value), t ≤ a ∧ i = .int .u64 t ∧ v = .string s1 ∧ s1.size ≤ 100000 ∧ L.length = t ∧ takeFs (a - t) L s1 = takeFs a [] r ∧ (∀ x ∈ L, x.p.size ≤ 1000 ∧ x.vt.size ≤ 1000) ∧ TakM b7 U wr u L) (fun _ i _ => a - (intOf i).toNat)
      case atStart => exact ⟨0, r, [], .slice none 0 0, Nat.zero_le _, rfl, rfl, hrs2, rfl, rfl, (fun x hx => (by cases hx)), TakM.start HB7.out⟩
      case round =>
        obtain ⟨t, s1, L, u, ht, rfl, rfl, hs1, hll, htk, hsm, hm⟩ := hrel
        obtain ⟨A3, c3, rfl, hf3⟩ := hm.form
        rw [hll] at hm hf3
        have HM := Lib.hid hm; have HTK := Lib.hid htk; have HSM := Lib.hid hsm; have HLL := Lib.hid hll; have HF3 := Lib.hid hf3
        have h31 := hf3.cap.1; have h32 := hf3.cap.2
        have HKW := Lib.hid (hm.ke.kept HK.out (by have := HLB.out; omega))
        have HRW := Lib.hid (HRES.out.keptE hm.ke (by have := HLB.out; omega))
        clear hm htk hsm hll hf3
        by_cases hlt : t < a
        · have hadd : IntKind.u64.wrap ((t : Int) + 1) = ((t + 1 : Nat) : Int) := by rw [IntKind.wrap_u64]; omega
          obtain ⟨x, hx⟩ : ∃ x, tfX s1 = x := ⟨_, rfl⟩
          obtain ⟨y, hy⟩ : ∃ y, tfR s1 = y := ⟨_, rfl⟩
          obtain ⟨q, hq⟩ : ∃ q, tfE s1 = q := ⟨_, rfl⟩
          have AF := Lib.hid (fun w => stf_any s1 w hs1)
          rw [hx, hy, hq] at AF
          by_cases hq0 : q = 0
          · have hz := tf_sizes (s := s1) (by rw [hq]; exact hq0)
            rw [hx, hy] at hz
            have hys : y.size ≤ 100000 := by omega
            have HSM2 := Lib.hid (show ∀ v ∈ L ++ [x], v.p.size ≤ 1000 ∧ v.vt.size ≤ 1000 from fun v hv => by
              rw [List.mem_append, List.mem_singleton] at hv
              rcases hv with hv | rfl
              · exact HSM.out v hv
              · exact ⟨hz.1, hz.2.1⟩)
            have HN := Lib.hid (show takeFs (a - (t + 1)) (L ++ [x]) y = takeFs a [] r by
              rw [← HTK.out, show a - t = (a - (t + 1)) + 1 by omega, takeFs_ok (by rw [hq]; exact hq0), hx, hy])
            rw [hq0] at AF
            clear hx hy hq hq0 hz
            go_wp2_with fail
            go_at_call 27
            refine (AF.out _).mono ?_
            rintro e w5 ⟨rfl, hk5⟩
            have hk6 := (hk5.trans ((Kept.refl w5).alloc #[.string x.p, .int .i64 x.k, .int .i64 x.t, .int .i64 x.vk, .int .i64 x.vn, .string x.vt] 30)).trans ((Kept.refl (w5.alloc (.cells #[.string x.p, .int .i64 x.k, .int .i64 x.t, .int .i64 x.vk, .int .i64 x.vn, .string x.vt] 30))).alloc #[.string x.p, .int .i64 x.k, .int .i64 x.t, .int .i64 x.vk, .int .i64 x.vn, .string x.vt] 30)
            have HE5 := FdB.new w5 x 30
            have hone := fl_one (FdB.new (w5.alloc (.cells #[.string x.p, .int .i64 x.k, .int .i64 x.t, .int .i64 x.vk, .int .i64 x.vn, .string x.vt] 30)) x 30)
            obtain ⟨v8, w8, hr8, hc8, hf8, hm8⟩ := TakM.app (HLL.out ▸ HM.out.kept hk6 : TakM b7 U _ (.slice A3 t c3) L) hb7U _ _ _ _ hone (by have := HLL.out; omega)
            rw [show (w5.alloc (.cells #[.string x.p, .int .i64 x.k, .int .i64 x.t, .int .i64 x.vk, .int .i64 x.vn, .string x.vt] 30)).heap.size = w5.heap.size + 1 by simp] at hr8
            obtain ⟨A8, c8, rfl, hfo8⟩ := hm8.form
            have hl8 : (L ++ [x]).length = t + 1 := by rw [List.length_append, HLL.out]; rfl
            have HL8 := Lib.hid hl8
            rw [hl8] at hr8 hm8 hfo8
            have h81 := hfo8.cap.1; have h82 := hfo8.cap.2
            have HR8 := Lib.hid hr8; have HM8 := Lib.hid hm8
            have b0 := ((HM.out.box.kept hk5).kept ((Kept.refl w5).alloc #[.string x.p, .int .i64 x.k, .int .i64 x.t, .int .i64 x.vk, .int .i64 x.vn, .string x.vt] 30)).c0
            have x0 := HE5.c0; have x1 := HE5.c1; have x2 := HE5.c2; have x3 := HE5.c3; have x4 := HE5.c4; have x5 := HE5.c5
            have hf80 := hf8 0
            clear hr8 hm8 hone hk5 hk6 HE5 hf8 hl8 hfo8
            go_wp2_with (at_builtin; refine Lib.wpList_append_run _ rfl (.tmp 39) (.tmp 41) _ _ rfl _ _ rfl rfl _ _ HR8.out ?_)
            go_roundw
            case rel => exact ⟨t + 1, y, L ++ [x], _, hlt, by first | rfl | go_num, rfl, hys, HL8.out, HN.out, HSM2.out, HM8.out⟩
            case measure => simp [intOf]; omega
          · have f1' : ((q : Int) == 0) = false := by simp; omega
            have f2' : ((q : Int) != 0) = true := by simp; omega
            have HT := Lib.hid (show tscL s = ([], ⟨#[]⟩, q) by
              have e : takeFs a [] r = ([], ⟨#[]⟩, q) := by
                rw [← HTK.out, show a - t = (a - (t + 1)) + 1 by omega, takeFs_err (by rw [hq]; exact hq0), hq]
              rw [HTT.out, e, if_pos hq0])
            clear hx hy hq hq0
            go_wp2_with fail
            go_at_call 27
            refine (AF.out _).mono ?_
            rintro e w5 ⟨rfl, hk5⟩
            have hk6 := hk5.trans ((Kept.refl w5).alloc #[.string x.p, .int .i64 x.k, .int .i64 x.t, .int .i64 x.vk, .int .i64 x.vn, .string x.vt] 30)
            have hr := HRW.out.kept hk6
            have rf := hr.f
            have r0 := hr.c0
            have HKF := Lib.hid (HKW.out.trans hk6)
            clear hr hk5 hk6
            have HF := Lib.hid (takS_err HT.out (HKF.out.setCell (a := ⟨w.heap.size, 0, none⟩) (Nat.le_refl _) (.slice none 0 0)))
            go_wp2_with fail
            exact bodyPost_ret (by simp [results, Tryd.results10, go_sem, *]) rfl HF.out
        · have hta : t = a := by omega
          have HALL := Lib.hid (show takeFs a [] r = (L, s1, 0) by rw [← HTK.out, hta, Nat.sub_self]; rfl)
          rw [hta] at HLL ⊢
          rw [hta] at HF3 HM h31
          clear hlt ht hta
          have b0 := HM.out.box.c0
          obtain ⟨ok, hok⟩ : ∃ b : Bool, b = true ↔ ScOk L := by
            by_cases e : ScOk L
            · exact ⟨true, fun _ => e, fun _ => rfl⟩
            · exact ⟨false, (fun h => by cases h), fun h => absurd h e⟩
          have AR := Lib.hid (ssc_any A3 a c3 L wr HF3.out (fun v hv => ⟨Nat.le_trans (HSM.out v hv).1 (by decide), Nat.le_trans (HSM.out v hv).2 (by decide)⟩) ok hok)
          have HOK := Lib.hid hok
          clear hok
          go_wp2_with fail
          go_at_call 19
          refine AR.out.mono ?_
          rintro e w6 ⟨rfl, hk6⟩
          have hr := HRW.out.kept hk6
          have rf := hr.f
          have r0 := hr.c0
          have HKF := Lib.hid (HKW.out.trans hk6)
          have HFF := Lib.hid (HF3.out.kept hk6)
          have HRF := Lib.hid (HRW.out.kept hk6)
          have b1 := hk6.cell b0
          clear hr hk6 b0
          cases ok with
          | false =>
            have HT := Lib.hid (show tscL s = ([], ⟨#[]⟩, 3) by
              rw [HTT.out, HALL.out, if_neg (by simp), if_neg (fun h => by have := HOK.out.2 h; cases this)])
            have HF := Lib.hid (takS_err (z := 3) HT.out (HKF.out.setCell (a := ⟨w.heap.size, 0, none⟩) (Nat.le_refl _) (.slice none 0 0)))
            go_wp2_with fail
            exact bodyPost_ret (by simp [results, Tryd.results10, go_sem, *]) rfl HF.out
          | true =>
            have HT := Lib.hid (show tscL s = (L, s1, 0) by
              rw [HTT.out, HALL.out, if_neg (by simp), if_pos (HOK.out.1 rfl)])
            have HF := Lib.hid (show TakS s w (.returned (.tuple #[.agg #[.slice A3 a c3], .string s1, .int .i64 0])) (w6.setCell ⟨w.heap.size, 0, none⟩ (.slice A3 a c3)) by
              have h1 := takS_ok HT.out (A := A3) (c := c3) (w := w) (w' := w6.setCell ⟨w.heap.size, 0, none⟩ (.slice A3 a c3)) (by rw [HLL.out]; exact HRF.out.fl _ HFF.out) (HKF.out.setCell (a := ⟨w.heap.size, 0, none⟩) (Nat.le_refl _) _)
              rw [HLL.out] at h1
              exact h1)
            go_wp2_with fail
            exact bodyPost_ret (by simp [results, Tryd.results10, go_sem, *]) rfl HF.out
end Go.Proofs.YtjieofiaoepccaaDoor

namespace Go.Proofs.YtjieofiaoepccaaDoor
open Go.RowKit
set_option linter.unusedVariables false

def textScL (L : List Fd) (t : Nat) : ByteArray := (L.take t).foldl (fun b x => b ++ lineF x) ⟨#[]⟩
theorem textScL_all (L : List Fd) : textScL L L.length = textSc L := by unfold textScL textSc; rw [List.take_length]
theorem textScL_step {L : List Fd} {t : Nat} {x : Fd} (h : L[t]? = some x) : textScL L (t + 1) = textScL L t ++ lineF x := by
  unfold textScL
  rw [List.take_add_one, h, Option.toList_some, List.foldl_append]
  rfl
theorem textVf_size (k n : Int) (t : ByteArray) (h1 : -9223372036854775808 ≤ n) (h2 : n ≤ 9223372036854775807) : (textV k n t).size ≤ 21 + t.size := by
  have := itoaS_size n h1 h2
  unfold textV
  repeat' split
  · omega
  · rw [ByteArray.size_append]; show 1 + _ ≤ _; omega
  · show 2 ≤ _; omega
  · show 3 ≤ _; omega
  · show 1 ≤ _; omega
end Go.Proofs.YtjieofiaoepccaaDoor

namespace Go.Proofs.YtjieofiaoepccaaDoor.L4
open Go.RowKit

/-- A slice of texts, nil let in. -/
def Src (w : World) (A : Option Addr) (n c : Nat) (L : List ByteArray) : Prop := (A = none ∧ n = 0 ∧ c = 0 ∧ L = []) ∨ ∃ ad, A = some ad ∧ Sl w ad n c L
theorem Src.ke {w w' : World} {A : Option Addr} {n c : Nat} {L : List ByteArray} (h : Src w A n c L) (hk : Ke w w') : Src w' A n c L :=
  h.elim .inl fun ⟨ad, e, hs⟩ => .inr ⟨ad, e, hs.ke hk⟩
theorem Src.len {w : World} {A : Option Addr} {n c : Nat} {L : List ByteArray} (h : Src w A n c L) : L.length = n := by
  rcases h with ⟨_, rfl, _, rfl⟩ | ⟨ad, _, hs⟩
  · rfl
  · exact hs.1.symm
theorem Src.cap {w : World} {A : Option Addr} {n c : Nat} {L : List ByteArray} (h : Src w A n c L) : n ≤ c ∧ c ≤ maxLen := by
  rcases h with ⟨_, rfl, rfl, rfl⟩ | ⟨ad, _, hs⟩
  · exact ⟨Nat.le_refl _, by simp [maxLen]⟩
  · exact ⟨hs.2.1, hs.2.2.1⟩

theorem app_src (w : World) (base : Nat) (v : Value) (n : Nat) (xs : List Value) (h : w.ownsRow base 9 1 v n xs) (A : Option Addr) (m c : Nat) (L : List ByteArray) (hs : Src w A m c L) (hb : n + m ≤ 8000000000000) (hbase : base ≤ w.heap.size) :
    ∃ v' w', (Builtin.append_ #[46, 46] 46 #[v, .slice A m c]).run Tryd.prog w = .ok v' w' ∧ w'.ownsRow base 9 1 v' (n + m) (xs ++ L.map strV) ∧ w.grownBy w' v.ownBlock ∧ (v' = .slice none 0 0 → v = .slice none 0 0) := by
  obtain ⟨i0, hi0, hz0, hz1, hz2⟩ := info_parts infoStr
  rcases hs with ⟨rfl, rfl, rfl, rfl⟩ | ⟨ad, rfl, h1, h2, h3, h4, h5⟩
  · exact ⟨v, w, run_append_owned_none w base _ _ _ i0 1 Tryd.underlying46 hi0 v n xs h, by simpa using h, World.grownBy.refl w _, id⟩
  · obtain ⟨v', w', hr, ho, hg, hv⟩ := run_append_own (P := Tryd.prog) w base 46 46 9 i0 (.string ⟨#[]⟩) 1 16 Tryd.underlying46 hi0 hz0 hz1 hz2 rfl (by decide) v n xs h ad m c (L.map strV)
      (by rw [List.length_map, h1, Nat.mul_one]) (fun j u hj => by
        rw [List.getElem?_map] at hj
        obtain ⟨x, hx, rfl⟩ := Option.map_eq_some_iff.1 hj
        exact h5 j x hx) (strV_one _) (by simp only [maxLen]; omega) (by omega) hbase
    exact ⟨v', w', hr, ho, hg, fun e => (hv.1 e).1⟩

structure S4 where
  A : Option Addr
  n : Nat
  c : Nat
  L : List ByteArray
def totK (SS : List S4) (k : Nat) : Nat := ((SS.take k).map (·.n)).sum
def catK (SS : List S4) (k : Nat) : List ByteArray := (SS.take k).flatMap (·.L)
theorem totK_succ (SS : List S4) (k : Nat) (s : S4) (h : SS[k]? = some s) : totK SS (k + 1) = totK SS k + s.n := by
  unfold totK; rw [List.take_add_one, h]; simp
theorem catK_succ (SS : List S4) (k : Nat) (s : S4) (h : SS[k]? = some s) : catK SS (k + 1) = catK SS k ++ s.L := by
  unfold catK; rw [List.take_add_one, h]; simp
theorem totK_le (SS : List S4) (k : Nat) : totK SS k ≤ totK SS SS.length := by
  unfold totK
  rw [List.take_length]
  induction SS generalizing k with
  | nil => simp
  | cons a r ih =>
    cases k with
    | zero => simp
    | succ k => have := ih k; simp only [List.take_succ_cons, List.map_cons, List.sum_cons]; omega

end Go.Proofs.YtjieofiaoepccaaDoor.L4

