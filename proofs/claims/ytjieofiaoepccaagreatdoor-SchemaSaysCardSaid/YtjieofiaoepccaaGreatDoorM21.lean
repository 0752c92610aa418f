/-
  What is proved: package schema's FieldRight of layer 11 (P11.1), called with any field of bounded texts, returns what that says; path's questions with Kept; the world has new blocks at most.
  package schema's Right of layer 11 (P11.2), called with any schema of bounded texts, tells whether it is right; the world has new blocks at most.
  package schema's Find of layer 11 (P11.4), called with any schema and path of bounded texts, returns the first field that the path matches; the world has new blocks at most.
-/
import Derived.Test.YtjieofiaoepccaaGreatDoorM13
import Derived.Test.YtjieofiaoepccaaGreatDoorM18
import Derived.Test.YtjieofiaoepccaaGreatDoorM5
import Derived.Test.YtjieofiaoepccaaGreatDoorM19
import Derived.Test.YtjieofiaoepccaaGreatDoorM20
namespace Go.Proofs.YtjieofiaoepccaaGreatDoor
open Go.RowKit
set_option linter.unusedVariables false

theorem patK (p : ByteArray) (b : Bool) (h : L4.patS p = b) (hp : p.size ≤ 1099511627776) (w : World) :
    Calls Tryz.prog 26 #[.string p] w fun e w' => e = .returned (.bool b) ∧ Kept w w' := by
  subst h
  exact (L4.pat_any p w hp).mono fun _ _ ⟨he, hk⟩ => ⟨he, kept_of_below hk⟩
theorem matK (p q : ByteArray) (b : Bool) (h : L4.matS p q = b) (hp : p.size ≤ 1099511627776) (hq : q.size ≤ 1099511627776) (w : World) :
    Calls Tryz.prog 34 #[.string p, .string q] w fun e w' => e = .returned (.bool b) ∧ Kept w w' := by
  subst h
  exact (L4.mat_any p q w hp hq).mono fun _ _ ⟨he, hk⟩ => ⟨he, kept_of_below hk⟩
theorem apK (p q : ByteArray) (b : Bool) (h : L4.apS p q = b) (hp : p.size ≤ 1099511627776) (hq : q.size ≤ 1099511627776) (w : World) :
    Calls Tryz.prog 69 #[.string p, .string q] w fun e w' => e = .returned (.bool b) ∧ Kept w w' := by
  subst h
  exact (L4.ap_any p q w hp hq).mono fun _ _ ⟨he, hk⟩ => ⟨he, kept_of_below hk⟩
set_option maxRecDepth 100000 in
set_option maxHeartbeats 8000000 in
theorem sfv_l (p : ByteArray) (k t vk vn : Int) (vt : ByteArray) (w : World) (ht : vt.size ≤ 1099511627776) :
    Calls Tryz.prog 27 #[.agg #[.string p, .int .i64 k, .int .i64 t, .int .i64 vk, .int .i64 vn, .string vt]] w fun e w' => e = .returned (.bool (kindF (⟨p, k, t, vk, vn, vt⟩ : Fd))) ∧ Kept w w' := by
  by_cases n1 : k = 1
  · subst n1
    obtain ⟨vr, hvr⟩ : ∃ r, rightB vk vn vt = r := ⟨_, rfl⟩
    cases vr with
    | false =>
      have HR := Lib.hid (show false = kindF (⟨p, 1, t, vk, vn, vt⟩ : Fd) by unfold kindF zeroF; rw [hvr]; simp)
      have HK := Lib.hid ((Kept.refl w).alloc #[.string p, .int .i64 1, .int .i64 t, .int .i64 vk, .int .i64 vn, .string vt] 30)
      have HB := Lib.hid (FdB.new w (⟨p, 1, t, vk, vn, vt⟩ : Fd) 30)
      have A2 := Lib.hid (fun w => vright_c vk vn vt false hvr w (by omega))
      clear ht hvr
      go_enter Tryz.func27, Tryz.ntmps27
      go_wp2_with fail
      go_at_call 58
      refine (A2.out _).mono ?_
      rintro e w2 ⟨rfl, hg⟩
      have hk := kept_of hg
      have hb := HB.out.kept hk
      replace HK := Lib.hid (HK.out.trans hk)
      clear hg hk
      have b1 := hb.c1; have b2 := hb.c2; have b3 := hb.c3; have b4 := hb.c4; have b5 := hb.c5
      simp only at b1 b2 b3 b4 b5
      clear hb
      go_wp2_with fail
      go_ret
      exact ⟨ret_bool HR.out, HK.out⟩
    | true =>
      by_cases ht1 : vk = t
      · have et : (vk == t) = true := beq_iff_eq.2 ht1
        have HR := Lib.hid (show true = kindF (⟨p, 1, t, vk, vn, vt⟩ : Fd) by unfold kindF zeroF; rw [hvr]; simp [ht1])
        have HK := Lib.hid ((Kept.refl w).alloc #[.string p, .int .i64 1, .int .i64 t, .int .i64 vk, .int .i64 vn, .string vt] 30)
        have HB := Lib.hid (FdB.new w (⟨p, 1, t, vk, vn, vt⟩ : Fd) 30)
        have A2 := Lib.hid (fun w => vright_c vk vn vt true hvr w (by omega))
        clear ht hvr ht1
        go_enter Tryz.func27, Tryz.ntmps27
        go_wp2_with fail
        go_at_call 58
        refine (A2.out _).mono ?_
        rintro e w2 ⟨rfl, hg⟩
        have hk := kept_of hg
        have hb := HB.out.kept hk
        replace HK := Lib.hid (HK.out.trans hk)
        clear hg hk
        have b1 := hb.c1; have b2 := hb.c2; have b3 := hb.c3; have b4 := hb.c4; have b5 := hb.c5
        simp only at b1 b2 b3 b4 b5
        clear hb
        go_wp2_with fail
        go_ret
        exact ⟨ret_bool HR.out, HK.out⟩
      · have et : (vk == t) = false := by simpa using ht1
        have HR := Lib.hid (show false = kindF (⟨p, 1, t, vk, vn, vt⟩ : Fd) by unfold kindF zeroF; rw [hvr]; simp [ht1])
        have HK := Lib.hid ((Kept.refl w).alloc #[.string p, .int .i64 1, .int .i64 t, .int .i64 vk, .int .i64 vn, .string vt] 30)
        have HB := Lib.hid (FdB.new w (⟨p, 1, t, vk, vn, vt⟩ : Fd) 30)
        have A2 := Lib.hid (fun w => vright_c vk vn vt true hvr w (by omega))
        clear ht hvr ht1
        go_enter Tryz.func27, Tryz.ntmps27
        go_wp2_with fail
        go_at_call 58
        refine (A2.out _).mono ?_
        rintro e w2 ⟨rfl, hg⟩
        have hk := kept_of hg
        have hb := HB.out.kept hk
        replace HK := Lib.hid (HK.out.trans hk)
        clear hg hk
        have b1 := hb.c1; have b2 := hb.c2; have b3 := hb.c3; have b4 := hb.c4; have b5 := hb.c5
        simp only at b1 b2 b3 b4 b5
        clear hb
        go_wp2_with fail
        go_ret
        exact ⟨ret_bool HR.out, HK.out⟩
  · by_cases n2 : k = 2
    · subst n2
      clear n1
      by_cases g1 : 1 ≤ t
      · have t1 : decide (1 ≤ t) = true := decide_eq_true g1
        by_cases g2 : t ≤ 3
        · have t2 : decide (t ≤ 3) = true := decide_eq_true g2
          have hz := zero_val (⟨p, 2, t, vk, vn, vt⟩ : Fd)
          simp only at hz
          rcases hz with ⟨h1, h2, h3, hzf⟩ | ⟨hzf, q1 | ⟨q1, q2⟩ | ⟨q1, q2, q3, q4, q5⟩⟩
          · subst h1 h2 h3
            have HR := Lib.hid (show true = kindF (⟨p, 2, t, 0, 0, ⟨#[]⟩⟩ : Fd) by unfold kindF; rw [hzf]; simp [g1, g2])
            have HK := Lib.hid ((Kept.refl w).alloc #[.string p, .int .i64 2, .int .i64 t, .int .i64 0, .int .i64 0, .string ⟨#[]⟩] 30)
            clear ht g1 g2 hzf
            go_enter Tryz.func27, Tryz.ntmps27
            go_wp2_with fail
            go_ret
            exact ⟨ret_bool HR.out, HK.out⟩
          · have HR := Lib.hid (show false = kindF (⟨p, 2, t, vk, vn, vt⟩ : Fd) by unfold kindF; rw [hzf]; simp)
            have HK := Lib.hid ((Kept.refl w).alloc #[.string p, .int .i64 2, .int .i64 t, .int .i64 vk, .int .i64 vn, .string vt] 30)
            clear ht g1 g2 hzf
            go_enter Tryz.func27, Tryz.ntmps27
            go_wp2_with fail
            go_ret
            exact ⟨ret_bool HR.out, HK.out⟩
          · have HR := Lib.hid (show false = kindF (⟨p, 2, t, vk, vn, vt⟩ : Fd) by unfold kindF; rw [hzf]; simp)
            have HK := Lib.hid ((Kept.refl w).alloc #[.string p, .int .i64 2, .int .i64 t, .int .i64 vk, .int .i64 vn, .string vt] 30)
            clear ht g1 g2 hzf
            go_enter Tryz.func27, Tryz.ntmps27
            go_wp2_with fail
            go_ret
            exact ⟨ret_bool HR.out, HK.out⟩
          · have HR := Lib.hid (show false = kindF (⟨p, 2, t, vk, vn, vt⟩ : Fd) by unfold kindF; rw [hzf]; simp)
            have HK := Lib.hid ((Kept.refl w).alloc #[.string p, .int .i64 2, .int .i64 t, .int .i64 vk, .int .i64 vn, .string vt] 30)
            clear ht g1 g2 hzf
            go_enter Tryz.func27, Tryz.ntmps27
            go_wp2_with fail
            go_ret
            exact ⟨ret_bool HR.out, HK.out⟩
        · have t2 : decide (t ≤ 3) = false := decide_eq_false g2
          have HR := Lib.hid (show false = kindF (⟨p, 2, t, vk, vn, vt⟩ : Fd) by unfold kindF zeroF; simp [g2])
          have HK := Lib.hid ((Kept.refl w).alloc #[.string p, .int .i64 2, .int .i64 t, .int .i64 vk, .int .i64 vn, .string vt] 30)
          clear ht g1 g2
          go_enter Tryz.func27, Tryz.ntmps27
          go_wp2_with fail
          go_ret
          exact ⟨ret_bool HR.out, HK.out⟩
      · have t1 : decide (1 ≤ t) = false := decide_eq_false g1
        have HR := Lib.hid (show false = kindF (⟨p, 2, t, vk, vn, vt⟩ : Fd) by unfold kindF zeroF; simp [g1])
        have HK := Lib.hid ((Kept.refl w).alloc #[.string p, .int .i64 2, .int .i64 t, .int .i64 vk, .int .i64 vn, .string vt] 30)
        clear ht g1
        go_enter Tryz.func27, Tryz.ntmps27
        go_wp2_with fail
        go_ret
        exact ⟨ret_bool HR.out, HK.out⟩
    · by_cases n3 : k = 3
      · subst n3
        clear n1 n2
        by_cases g1 : t = 1
        · have t1 : (t == 1) = true := beq_iff_eq.2 g1
          have hz := zero_val (⟨p, 3, t, vk, vn, vt⟩ : Fd)
          simp only at hz
          rcases hz with ⟨h1, h2, h3, hzf⟩ | ⟨hzf, q1 | ⟨q1, q2⟩ | ⟨q1, q2, q3, q4, q5⟩⟩
          · subst h1 h2 h3
            have HR := Lib.hid (show true = kindF (⟨p, 3, t, 0, 0, ⟨#[]⟩⟩ : Fd) by unfold kindF; rw [hzf]; simp [g1])
            have HK := Lib.hid ((Kept.refl w).alloc #[.string p, .int .i64 3, .int .i64 t, .int .i64 0, .int .i64 0, .string ⟨#[]⟩] 30)
            clear ht g1 hzf
            go_enter Tryz.func27, Tryz.ntmps27
            go_wp2_with fail
            go_ret
            exact ⟨ret_bool HR.out, HK.out⟩
          · have HR := Lib.hid (show false = kindF (⟨p, 3, t, vk, vn, vt⟩ : Fd) by unfold kindF; rw [hzf]; simp)
            have HK := Lib.hid ((Kept.refl w).alloc #[.string p, .int .i64 3, .int .i64 t, .int .i64 vk, .int .i64 vn, .string vt] 30)
            clear ht g1 hzf
            go_enter Tryz.func27, Tryz.ntmps27
            go_wp2_with fail
            go_ret
            exact ⟨ret_bool HR.out, HK.out⟩
          · have HR := Lib.hid (show false = kindF (⟨p, 3, t, vk, vn, vt⟩ : Fd) by unfold kindF; rw [hzf]; simp)
            have HK := Lib.hid ((Kept.refl w).alloc #[.string p, .int .i64 3, .int .i64 t, .int .i64 vk, .int .i64 vn, .string vt] 30)
            clear ht g1 hzf
            go_enter Tryz.func27, Tryz.ntmps27
            go_wp2_with fail
            go_ret
            exact ⟨ret_bool HR.out, HK.out⟩
          · have HR := Lib.hid (show false = kindF (⟨p, 3, t, vk, vn, vt⟩ : Fd) by unfold kindF; rw [hzf]; simp)
            have HK := Lib.hid ((Kept.refl w).alloc #[.string p, .int .i64 3, .int .i64 t, .int .i64 vk, .int .i64 vn, .string vt] 30)
            clear ht g1 hzf
            go_enter Tryz.func27, Tryz.ntmps27
            go_wp2_with fail
            go_ret
            exact ⟨ret_bool HR.out, HK.out⟩
        · have t1 : (t == 1) = false := by simpa using g1
          have HR := Lib.hid (show false = kindF (⟨p, 3, t, vk, vn, vt⟩ : Fd) by unfold kindF zeroF; simp [g1])
          have HK := Lib.hid ((Kept.refl w).alloc #[.string p, .int .i64 3, .int .i64 t, .int .i64 vk, .int .i64 vn, .string vt] 30)
          clear ht g1
          go_enter Tryz.func27, Tryz.ntmps27
          go_wp2_with fail
          go_ret
          exact ⟨ret_bool HR.out, HK.out⟩
      · have e1 : (k == 1) = false := by simpa using n1
        have e2 : (k == 2) = false := by simpa using n2
        have e3 : (k == 3) = false := by simpa using n3
        have HR := Lib.hid (show false = kindF (⟨p, k, t, vk, vn, vt⟩ : Fd) by unfold kindF zeroF; simp [n1, n2, n3])
        have HK := Lib.hid ((Kept.refl w).alloc #[.string p, .int .i64 k, .int .i64 t, .int .i64 vk, .int .i64 vn, .string vt] 30)
        clear ht n1 n2 n3
        go_enter Tryz.func27, Tryz.ntmps27
        go_wp2_with fail
        go_ret
        exact ⟨ret_bool HR.out, HK.out⟩
theorem sfv_any (x : Fd) (w : World) (ht : x.vt.size ≤ 1099511627776) :
    Calls Tryz.prog 27 #[.agg #[.string x.p, .int .i64 x.k, .int .i64 x.t, .int .i64 x.vk, .int .i64 x.vn, .string x.vt]] w fun e w' => e = .returned (.bool (kindF x)) ∧ Kept w w' := sfv_l x.p x.k x.t x.vk x.vn x.vt w ht
set_option maxRecDepth 100000 in
set_option maxHeartbeats 8000000 in
theorem sfr_any (x : Fd) (w : World) (hp : x.p.size ≤ 1099511627776) (ht : x.vt.size ≤ 1099511627776) :
    Calls Tryz.prog 6 #[.agg #[.string x.p, .int .i64 x.k, .int .i64 x.t, .int .i64 x.vk, .int .i64 x.vn, .string x.vt]] w fun e w' => e = .returned (.bool (rightF x)) ∧ Kept w w' := by
  have HB := Lib.hid (FdB.new w x 30)
  have HK := Lib.hid ((Kept.refl w).alloc #[.string x.p, .int .i64 x.k, .int .i64 x.t, .int .i64 x.vk, .int .i64 x.vn, .string x.vt] 30)
  have AV := Lib.hid (fun w => sfv_any x w ht)
  have b0 := HB.out.c0
  cases hpat : L4.patS x.p with
  | false =>
    have A1 := Lib.hid (fun w => patK x.p false hpat hp w)
    have HR := Lib.hid (show false = rightF x by unfold rightF; rw [hpat]; rfl)
    clear hpat hp ht
    go_enter Tryz.func6, Tryz.ntmps6
    go_wp2_with fail
    go_at_call 26
    refine (A1.out _).mono ?_
    rintro e w1 ⟨rfl, hk⟩
    replace HK := Lib.hid (HK.out.trans hk)
    clear hk b0
    go_wp2_with fail
    go_ret
    exact ⟨ret_bool HR.out, HK.out⟩
  | true =>
    have A1 := Lib.hid (fun w => patK x.p true hpat hp w)
    have HR := Lib.hid (show kindF x = rightF x by unfold rightF; rw [hpat]; rfl)
    clear hpat hp ht
    go_enter Tryz.func6, Tryz.ntmps6
    go_wp2_with fail
    go_at_call 26
    refine (A1.out _).mono ?_
    rintro e w1 ⟨rfl, hk⟩
    have hb := HB.out.kept hk
    replace HK := Lib.hid (HK.out.trans hk)
    clear hk b0
    have b0 := hb.c0; have b1 := hb.c1; have b2 := hb.c2; have b3 := hb.c3; have b4 := hb.c4; have b5 := hb.c5
    clear hb
    go_wp2_with fail
    go_at_call 27
    refine (AV.out _).mono ?_
    rintro e w2 ⟨rfl, hk⟩
    replace HK := Lib.hid (HK.out.trans hk)
    clear hk b0 b1 b2 b3 b4 b5
    go_wp2_with fail
    go_ret
    exact ⟨ret_bool HR.out, HK.out⟩
theorem sfr_c (x : Fd) (b : Bool) (h : rightF x = b) (w : World) (hp : x.p.size ≤ 1099511627776) (ht : x.vt.size ≤ 1099511627776) :
    Calls Tryz.prog 6 #[.agg #[.string x.p, .int .i64 x.k, .int .i64 x.t, .int .i64 x.vk, .int .i64 x.vn, .string x.vt]] w fun e w' => e = .returned (.bool b) ∧ Kept w w' := by
  subst h; exact sfr_any x w hp ht
end Go.Proofs.YtjieofiaoepccaaGreatDoor

namespace Go.Proofs.YtjieofiaoepccaaGreatDoor
open Go.RowKit
set_option linter.unusedVariables false

/-- Whether a field may stand behind those. -/
def folF (x : Fd) (M : List Fd) : Bool := M.all fun y => decide (LtP y.p x.p) && L4.apS y.p x.p
theorem apS_comm (a b : ByteArray) : L4.apS b a = L4.apS a b := L4.apL_comm _ _
theorem folF_true {x : Fd} {M : List Fd} (h : folF x M = true) {y : Fd} (hy : y ∈ M) : LtP y.p x.p ∧ L4.apS x.p y.p = true := by
  unfold folF at h
  rw [List.all_eq_true] at h
  have := h y hy
  rw [Bool.and_eq_true, decide_eq_true_iff] at this
  exact ⟨this.1, by rw [apS_comm]; exact this.2⟩
theorem folF_all {x : Fd} {M : List Fd} (h : ∀ y ∈ M, LtP y.p x.p ∧ L4.apS y.p x.p = true) : folF x M = true := by
  unfold folF
  rw [List.all_eq_true]
  intro y hy
  rw [Bool.and_eq_true, decide_eq_true_iff]
  exact h y hy
theorem folF_not {x : Fd} {M : List Fd} {y : Fd} (hy : y ∈ M) (h : ¬ LtP y.p x.p ∨ L4.apS y.p x.p = false) : folF x M = false := by
  rw [← Bool.not_eq_true]
  intro k
  have := folF_true k hy
  rcases h with h | h
  · exact h this.1
  · rw [apS_comm, this.2] at h; cases h
theorem folF_false {x : Fd} {M : List Fd} (h : folF x M = false) : ∃ y ∈ M, ¬ LtP y.p x.p ∨ L4.apS x.p y.p = false := by
  refine Classical.byContradiction fun k => ?_
  rw [folF_all (fun y hy => ?_)] at h
  · cases h
  · refine Classical.byContradiction fun q => k ⟨y, hy, ?_⟩
    by_cases h1 : LtP y.p x.p
    · right
      rw [← Bool.not_eq_true, apS_comm]
      exact fun h2 => q ⟨h1, h2⟩
    · exact .inl h1
set_option maxRecDepth 100000 in
set_option maxHeartbeats 8000000 in
theorem sfo_any (x : Fd) (A : Option Addr) (n c : Nat) (L : List Fd) (w : World) (h : Fl w A n c L) (hp : x.p.size ≤ 1099511627776) (hw : ∀ x ∈ L, x.p.size ≤ 1099511627776) :
    Calls Tryz.prog 36 #[.agg #[.string x.p, .int .i64 x.k, .int .i64 x.t, .int .i64 x.vk, .int .i64 x.vn, .string x.vt], .slice A n c] w fun e w' => e = .returned (.bool (folF x L)) ∧ Kept w w' := by
  have hk := (Kept.refl w).alloc #[.string x.p, .int .i64 x.k, .int .i64 x.t, .int .i64 x.vk, .int .i64 x.vn, .string x.vt] 30
  have hcap := h.cap.1; have hcap2 := h.cap.2
  have HNL := Lib.hid h.1; have HSZ := Lib.hid hw; have HP := Lib.hid hp
  have HB := Lib.hid (FdB.new w x 30)
  have HH := Lib.hid (h.kept hk)
  obtain ⟨U, hU⟩ : ∃ U, w.alloc (.cells #[.string x.p, .int .i64 x.k, .int .i64 x.t, .int .i64 x.vk, .int .i64 x.vn, .string x.vt] 30) = U := ⟨_, rfl⟩
  rw [hU] at hk HB HH
  have HK := Lib.hid hk; have HUU := Lib.hid hU
  clear h hw hp hk hU
  go_enter Tryz.func36, Tryz.ntmps36
  go_wp2_with fail
  rw [HUU.out]
  go_loopw [9] (fun i wr => ∃ t : Nat, t ≤ n ∧ i = .int .i64 t ∧ Kept U wr ∧ ∀ y ∈ L.take t, LtP y.p x.p ∧ L4.apS y.p x.p = true) (fun i _ => n - (intOf i).toNat)
  case atStart => exact ⟨0, Nat.zero_le _, rfl, Kept.refl _, fun y hy => by simp at hy⟩
  case round =>
    obtain ⟨t, ht, rfl, hkr, hall⟩ := hrel
    have HKR := Lib.hid hkr; have HA := Lib.hid hall
    clear hkr hall
    by_cases hlt : t < n
    · obtain ⟨g, o, y, rfl, hy, EY⟩ := (HH.out.kept HKR.out).get hlt
      have y0 := EY.c0; have y1 := EY.c1; have y2 := EY.c2; have y3 := EY.c3; have y4 := EY.c4; have y5 := EY.c5
      have HYY := Lib.hid hy
      have hym := List.mem_of_getElem? hy
      have hka := (Kept.refl wr).alloc #[.string y.p, .int .i64 y.k, .int .i64 y.t, .int .i64 y.vk, .int .i64 y.vn, .string y.vt] 30
      have hx0 := (HB.out.kept (HKR.out.trans hka)).c0
      have HKA := Lib.hid (HKR.out.trans hka)
      obtain ⟨ap, hap⟩ : ∃ b, L4.apS y.p x.p = b := ⟨_, rfl⟩
      have AP := Lib.hid (fun w => apK y.p x.p ap hap (HSZ.out y hym) HP.out w)
      have HAP := Lib.hid hap
      have HYM := Lib.hid (show y ∈ L from hym)
      clear EY hy hym hka hap
      by_cases hlp : LtP y.p x.p
      · have s1 : Op.bytesLess y.p.toList x.p.toList = true := by rw [less_of]; exact decide_eq_true hlp
        have HLP := Lib.hid hlp
        clear hlp
        go_wp2_with fail
        go_at_call 69
        refine (AP.out _).mono ?_
        rintro e w5 ⟨rfl, hk5⟩
        have HK5 := Lib.hid (HKA.out.trans hk5)
        clear hk5 y0 y1 y2 y3 y4 y5 hx0
        cases ap with
        | false =>
          have HF := Lib.hid (show false = folF x L from (folF_not HYM.out (.inr HAP.out)).symm)
          go_wp2_with fail
          go_ret
          exact ⟨ret_bool HF.out, HK.out.trans HK5.out⟩
        | true =>
          have HN := Lib.hid (show ∀ z ∈ L.take (t + 1), LtP z.p x.p ∧ L4.apS z.p x.p = true from fun z hz => by
            rw [List.take_add_one, HYY.out, Option.toList_some, List.mem_append, List.mem_singleton] at hz
            rcases hz with hz | rfl
            · exact HA.out z hz
            · exact ⟨HLP.out, HAP.out⟩)
          go_wp2_with fail
          go_roundw
          case rel => exact ⟨t + 1, hlt, by go_num, HK5.out, HN.out⟩
          case measure => simp [intOf]; omega
      · have s1 : Op.bytesLess y.p.toList x.p.toList = false := by rw [less_of]; exact decide_eq_false hlp
        have HF := Lib.hid (show false = folF x L from (folF_not HYM.out (.inl hlp)).symm)
        clear hlp
        go_wp2_with fail
        go_ret
        exact ⟨ret_bool HF.out, HK.out.trans HKA.out⟩
    · obtain rfl : t = n := by omega
      have HF := Lib.hid (show true = folF x L from (folF_all (fun y hy => HA.out y (by rw [List.take_of_length_le (by rw [← HNL.out]; exact Nat.le_refl _)]; exact hy))).symm)
      go_wp2_with fail
      go_ret
      exact ⟨ret_bool HF.out, HK.out.trans HKR.out⟩
set_option maxRecDepth 100000 in
set_option maxHeartbeats 8000000 in
theorem ssc_any (A : Option Addr) (n c : Nat) (L : List Fd) (w : World) (h : Fl w A n c L) (hw : ∀ x ∈ L, x.p.size ≤ 1099511627776 ∧ x.vt.size ≤ 1099511627776) (r : Bool) (hr : r = true ↔ ScOk L) :
    Calls Tryz.prog 13 #[.agg #[.slice A n c]] w fun e w' => e = .returned (.bool r) ∧ Kept w w' := by
  have hk := (Kept.refl w).alloc #[.slice A n c] 24
  have hcap := h.cap.1; have hcap2 := h.cap.2
  have HNL := Lib.hid h.1; have HSZ := Lib.hid hw; have HR := Lib.hid hr
  have HB := Lib.hid (Box1.new w (.slice A n c) 24)
  have HH := Lib.hid (h.kept hk)
  obtain ⟨U, hU⟩ : ∃ U, w.alloc (.cells #[.slice A n c] 24) = U := ⟨_, rfl⟩
  rw [hU] at hk HB HH
  have HK := Lib.hid hk; have HUU := Lib.hid hU
  have d0 := HB.out.c0
  clear h hw hr hk hU
  by_cases h24 : 24 < n
  · have f1 : decide ((24 : Int) < (n : Int)) = true := decide_eq_true (by omega)
    have f2 : decide (24 < n) = true := decide_eq_true h24
    have HF := Lib.hid (show false = r by
      rw [eq_comm, ← Bool.not_eq_true, HR.out]
      intro s
      have := s.few; have := HNL.out; omega)
    clear h24
    go_enter Tryz.func13, Tryz.ntmps13
    go_wp2_with fail
    rw [HUU.out]
    go_wp2_with fail
    go_ret
    exact ⟨ret_bool HF.out, HK.out⟩
  · have f1 : decide ((24 : Int) < (n : Int)) = false := decide_eq_false (by omega)
    have f2 : decide (24 < n) = false := decide_eq_false h24
    go_enter Tryz.func13, Tryz.ntmps13
    go_wp2_with fail
    rw [HUU.out]
    go_wp2_with fail
    clear d0
    go_loopw [12] (fun i wr => ∃ t : Nat, t ≤ n ∧ i = .int .i64 t ∧ Kept U wr ∧ PreF (L.take t)) (fun i _ => n - (intOf i).toNat)
    case atStart => exact ⟨0, Nat.zero_le _, rfl, Kept.refl _, by rw [List.take_zero]; exact PreF.nil⟩
    case round =>
      obtain ⟨t, ht, rfl, hkr, hpre⟩ := hrel
      have HKR := Lib.hid hkr; have HPRE := Lib.hid hpre
      clear hkr hpre
      by_cases hlt : t < n
      · obtain ⟨g, o, x, rfl, hx, EX⟩ := (HH.out.kept HKR.out).get hlt
        have x0 := EX.c0; have x1 := EX.c1; have x2 := EX.c2; have x3 := EX.c3; have x4 := EX.c4; have x5 := EX.c5
        have HXX := Lib.hid hx
        have hka := (Kept.refl wr).alloc #[.string x.p, .int .i64 x.k, .int .i64 x.t, .int .i64 x.vk, .int .i64 x.vn, .string x.vt] 30
        have HE := Lib.hid (FdB.new wr x 30)
        have HZX := Lib.hid (HSZ.out x (List.mem_of_getElem? hx))
        obtain ⟨fr, hfr⟩ : ∃ b, rightF x = b := ⟨_, rfl⟩
        have AF := Lib.hid (fun w => sfr_c x fr hfr w HZX.out.1 HZX.out.2)
        have HFR := Lib.hid hfr
        obtain ⟨W1, hW1⟩ : ∃ W1, wr.alloc (.cells #[.string x.p, .int .i64 x.k, .int .i64 x.t, .int .i64 x.vk, .int .i64 x.vn, .string x.vt] 30) = W1 := ⟨_, rfl⟩
        have HKA := Lib.hid (HKR.out.trans hka)
        rw [hW1] at HKA HE
        have HW1 := Lib.hid hW1
        have hth : t ≤ c := by omega
        have HTH := Lib.hid (show t ≤ n from ht)
        clear EX hx hka hfr hW1
        go_wp2_with fail
        rw [HW1.out]
        clear x0 x1 x2 x3 x4 x5
        have X0 := KExt.cell HE.out.c0; have X1 := KExt.cell HE.out.c1; have X2 := KExt.cell HE.out.c2; have X3 := KExt.cell HE.out.c3; have X4 := KExt.cell HE.out.c4; have X5 := KExt.cell HE.out.c5
        cases fr with
        | false =>
          have HF := Lib.hid (show false = r by rw [eq_comm, ← Bool.not_eq_true, HR.out]; exact scOk_ent HXX.out HFR.out)
          refine region_plan W1 12 (.read [0] (.one 1 (.read [2, 3, 4, 5, 6, 7, 8] (.one 9 (.read [10, 11] .stop))))) (by kernel_rfl) (by kernel_rfl) (by kernel_rfl) (by kernel_rfl) (by kernel_rfl) (fun _ d _ _ _ h => by cases d <;> exact h) (Kept.refl _) ?_
          intro wd hwd
          have HV := Lib.hid hwd
          clear hwd
          rw [wpPlan_read]
          simp only [pickOps_cons, pickOps_nil, consO_some, List.getElem?_cons_zero]
          repeat (go_big_quiet_step (fail))
          refine wpQuiet_nil ?_
          rw [wpPlan_one]
          simp only [pickOps_cons, pickOps_nil, consO_some, List.getElem?_cons_zero, List.getElem?_cons_succ]
          go_wp2_with (go_at_call 6; refine (AF.out _).mono ?_; rintro e u1 ⟨rfl, hkz⟩)
          replace HV := Lib.hid (HV.out.trans hkz)
          clear hkz
          refine soloP HV.out ?_
          rw [wpPlan_read]
          simp only [pickOps_cons, pickOps_nil, consO_some, List.getElem?_cons_zero, List.getElem?_cons_succ]
          repeat (go_big_quiet_step (fail))
          refine wpQuiet_nil ?_
          rw [wpPlan_one]
          simp only [pickOps_cons, pickOps_nil, consO_some, List.getElem?_cons_zero, List.getElem?_cons_succ]
          go_wp2_with fail
          refine soloP HV.out ?_
          rw [wpPlan_read]
          simp only [pickOps_cons, pickOps_nil, consO_some, List.getElem?_cons_zero, List.getElem?_cons_succ]
          repeat (go_big_quiet_step (fail))
          refine wpQuiet_nil ?_
          refine wpPlan_stop ?_
          clear X0 X1 X2 X3 X4 X5
          go_wp2_with fail
          go_ret
          exact ⟨ret_bool HF.out, HK.out.trans (HKA.out.trans HV.out)⟩
        | true =>
          have D0 := KExt.cell (HB.out.kept HKA.out).c0
          have hrh := run_fhead (some ⟨g, o, none⟩) n c t hth
          have hrh2 := run_fhead2 (some ⟨g, o, none⟩) n c t hth
          have HHD := Lib.hid ((fl_head HH.out HTH.out hth (Nat.le_refl c)).kept HKA.out)
          obtain ⟨fo, hfo⟩ : ∃ b, folF x (L.take t) = b := ⟨_, rfl⟩
          have AG := Lib.hid (show ∀ wz, Kept W1 wz → Calls Tryz.prog 36 #[.agg #[.string x.p, .int .i64 x.k, .int .i64 x.t, .int .i64 x.vk, .int .i64 x.vn, .string x.vt], .slice (some ⟨g, o, none⟩) t c] wz fun e w' => e = .returned (.bool fo) ∧ Kept wz w' from fun wz hz => by
            rw [← hfo]
            exact sfo_any x _ t c (L.take t) wz (HHD.out.kept hz) HZX.out.1 (fun y hy => (HSZ.out y (List.mem_of_mem_take hy)).1))
          have HFO := Lib.hid hfo
          clear hfo
          cases fo with
          | false =>
            have HF := Lib.hid (show false = r by
              rw [eq_comm, ← Bool.not_eq_true, HR.out]
              obtain ⟨y, hy, hq⟩ := folF_false HFO.out
              obtain ⟨k, hk⟩ := List.mem_iff_getElem?.1 hy
              rw [List.getElem?_take] at hk
              split at hk
              · rcases hq with hq | hq
                · exact scOk_rise hk HXX.out (by assumption) hq
                · exact scOk_apart hk HXX.out (by assumption) hq
              · cases hk)
            refine region_plan W1 12 (.read [0] (.one 1 (.read [2, 3, 4, 5, 6, 7, 8] (.one 9 (.read [10, 11] .stop))))) (by kernel_rfl) (by kernel_rfl) (by kernel_rfl) (by kernel_rfl) (by kernel_rfl) (fun _ d _ _ _ h => by cases d <;> exact h) (Kept.refl _) ?_
            intro wd hwd
            have HV := Lib.hid hwd
            clear hwd
            rw [wpPlan_read]
            simp only [pickOps_cons, pickOps_nil, consO_some, List.getElem?_cons_zero]
            repeat (go_big_quiet_step (fail))
            refine wpQuiet_nil ?_
            rw [wpPlan_one]
            simp only [pickOps_cons, pickOps_nil, consO_some, List.getElem?_cons_zero, List.getElem?_cons_succ]
            go_wp2_with (go_at_call 6; refine (AF.out _).mono ?_; rintro e u1 ⟨rfl, hkz⟩)
            replace HV := Lib.hid (HV.out.trans hkz)
            clear hkz
            refine soloP HV.out ?_
            rw [wpPlan_read]
            simp only [pickOps_cons, pickOps_nil, consO_some, List.getElem?_cons_zero, List.getElem?_cons_succ]
            repeat (go_big_quiet_step (fail))
            refine wpQuiet_nil ?_
            rw [wpPlan_one]
            simp only [pickOps_cons, pickOps_nil, consO_some, List.getElem?_cons_zero, List.getElem?_cons_succ]
            go_wp2_with (go_at_call 36; refine (AG.out _ HV.out).mono ?_; rintro e u2 ⟨rfl, hkz⟩)
            replace HV := Lib.hid (HV.out.trans hkz)
            clear hkz
            refine soloP HV.out ?_
            rw [wpPlan_read]
            simp only [pickOps_cons, pickOps_nil, consO_some, List.getElem?_cons_zero, List.getElem?_cons_succ]
            repeat (go_big_quiet_step (fail))
            refine wpQuiet_nil ?_
            refine wpPlan_stop ?_
            clear X0 X1 X2 X3 X4 X5 D0 hrh hrh2
            go_wp2_with fail
            go_ret
            exact ⟨ret_bool HF.out, HK.out.trans (HKA.out.trans HV.out)⟩
          | true =>
            have HN := Lib.hid (HPRE.out.step HXX.out HFR.out (fun k y hk hy => (folF_true HFO.out (List.mem_iff_getElem?.2 ⟨k, by rw [List.getElem?_take, if_pos (by omega)]; exact hy⟩)).1) (fun y hy => (folF_true HFO.out hy).2))
            refine region_plan W1 12 (.read [0] (.one 1 (.read [2, 3, 4, 5, 6, 7, 8] (.one 9 (.read [10, 11] .stop))))) (by kernel_rfl) (by kernel_rfl) (by kernel_rfl) (by kernel_rfl) (by kernel_rfl) (fun _ d _ _ _ h => by cases d <;> exact h) (Kept.refl _) ?_
            intro wd hwd
            have HV := Lib.hid hwd
            clear hwd
            rw [wpPlan_read]
            simp only [pickOps_cons, pickOps_nil, consO_some, List.getElem?_cons_zero]
            repeat (go_big_quiet_step (fail))
            refine wpQuiet_nil ?_
            rw [wpPlan_one]
            simp only [pickOps_cons, pickOps_nil, consO_some, List.getElem?_cons_zero, List.getElem?_cons_succ]
            go_wp2_with (go_at_call 6; refine (AF.out _).mono ?_; rintro e u1 ⟨rfl, hkz⟩)
            replace HV := Lib.hid (HV.out.trans hkz)
            clear hkz
            refine soloP HV.out ?_
            rw [wpPlan_read]
            simp only [pickOps_cons, pickOps_nil, consO_some, List.getElem?_cons_zero, List.getElem?_cons_succ]
            repeat (go_big_quiet_step (fail))
            refine wpQuiet_nil ?_
            rw [wpPlan_one]
            simp only [pickOps_cons, pickOps_nil, consO_some, List.getElem?_cons_zero, List.getElem?_cons_succ]
            go_wp2_with (go_at_call 36; refine (AG.out _ HV.out).mono ?_; rintro e u2 ⟨rfl, hkz⟩)
            replace HV := Lib.hid (HV.out.trans hkz)
            clear hkz
            refine soloP HV.out ?_
            rw [wpPlan_read]
            simp only [pickOps_cons, pickOps_nil, consO_some, List.getElem?_cons_zero, List.getElem?_cons_succ]
            repeat (go_big_quiet_step (fail))
            refine wpQuiet_nil ?_
            refine wpPlan_stop ?_
            clear X0 X1 X2 X3 X4 X5 D0 hrh hrh2
            go_wp2_with fail
            go_roundw
            case rel => exact ⟨t + 1, hlt, by go_num, HKA.out.trans HV.out, HN.out⟩
            case measure => simp [intOf]; omega
      · obtain rfl : t = n := by omega
        have HALL := Lib.hid (show PreF L by
          have := HPRE.out
          rw [show L.take t = L from List.take_of_length_le (by rw [← HNL.out]; exact Nat.le_refl _)] at this
          exact this)
        have HF := Lib.hid (show true = r from (HR.out.2 ⟨by have := HNL.out; omega, HALL.out.ent, HALL.out.rise, HALL.out.apart⟩).symm)
        go_wp2_with fail
        go_ret
        exact ⟨ret_bool HF.out, HK.out.trans HKR.out⟩
end Go.Proofs.YtjieofiaoepccaaGreatDoor

namespace Go.Proofs.YtjieofiaoepccaaGreatDoor
open Go.RowKit
set_option linter.unusedVariables false
set_option maxRecDepth 100000 in
set_option maxHeartbeats 8000000 in
theorem sfind_any (A : Option Addr) (n c : Nat) (L : List Fd) (p : ByteArray) (w : World) (h : Fl w A n c L) (hw : ∀ x ∈ L, x.p.size ≤ 1099511627776) (hp : p.size ≤ 1099511627776) (y : Fd) (z : Bool) (hyz : findR L p = (y, z)) :
    Calls Tryz.prog 10 #[.agg #[.slice A n c], .string p] w fun e w' => e = .returned (.tuple #[.agg #[.string y.p, .int .i64 y.k, .int .i64 y.t, .int .i64 y.vk, .int .i64 y.vn, .string y.vt], .bool z]) ∧ Kept w w' := by
  have hk := ((Kept.refl w).alloc #[.slice A n c] 24).alloc #[.string ⟨#[]⟩, .int .i64 0, .int .i64 0, .int .i64 0, .int .i64 0, .string ⟨#[]⟩] 30
  have hcap := h.cap.1; have hcap2 := h.cap.2
  have HNL := Lib.hid h.1; have HSZ := Lib.hid hw; have HP := Lib.hid hp; have HY := Lib.hid hyz
  have HB := Lib.hid ((Box1.new w (.slice A n c) 24).kept ((Kept.refl _).alloc #[.string ⟨#[]⟩, .int .i64 0, .int .i64 0, .int .i64 0, .int .i64 0, .string ⟨#[]⟩] 30))
  have hr := FdB.new (w.alloc (.cells #[.slice A n c] 24)) .none 30
  simp only [Fd.none] at hr
  rw [show (w.alloc (.cells #[.slice A n c] 24)).heap.size = w.heap.size + 1 by simp] at hr
  have HH := Lib.hid (h.kept hk)
  obtain ⟨U, hU⟩ : ∃ U, (w.alloc (.cells #[.slice A n c] 24)).alloc (.cells #[.string ⟨#[]⟩, .int .i64 0, .int .i64 0, .int .i64 0, .int .i64 0, .string ⟨#[]⟩] 30) = U := ⟨_, rfl⟩
  rw [hU] at hk HB HH hr
  have HK := Lib.hid hk; have HUU := Lib.hid hU; have HRES := Lib.hid hr
  have d0 := HB.out.c0
  clear h hw hp hyz hk hU hr
  go_enter Tryz.func10, Tryz.ntmps10
  go_wp2_with fail
  rw [HUU.out]
  go_wp2_with fail
  clear d0
  go_loopw [11] (fun i wr => ∃ t : Nat, t ≤ n ∧ i = .int .i64 t ∧ Kept U wr ∧ ∀ x ∈ L.take t, L4.matS p x.p = false) (fun i _ => n - (intOf i).toNat)
  case atStart => exact ⟨0, Nat.zero_le _, rfl, Kept.refl _, fun x hx => by simp at hx⟩
  case round =>
    obtain ⟨t, ht, rfl, hkr, hall⟩ := hrel
    have HKR := Lib.hid hkr; have HA := Lib.hid hall
    clear hkr hall
    by_cases hlt : t < n
    · obtain ⟨g, o, x, rfl, hx, EX⟩ := (HH.out.kept HKR.out).get hlt
      have x0 := EX.c0; have x1 := EX.c1; have x2 := EX.c2; have x3 := EX.c3; have x4 := EX.c4; have x5 := EX.c5
      have HE := Lib.hid (FdB.new wr x 30)
      have z0 := HE.out.c0
      have HXX := Lib.hid hx
      have hka := (Kept.refl wr).alloc #[.string x.p, .int .i64 x.k, .int .i64 x.t, .int .i64 x.vk, .int .i64 x.vn, .string x.vt] 30
      have HKA := Lib.hid hka
      obtain ⟨b, hb⟩ : ∃ b, L4.matS p x.p = b := ⟨_, rfl⟩
      have AM := Lib.hid (fun w => matK p x.p b hb HP.out (HSZ.out x (List.mem_of_getElem? HXX.out)) w)
      have HBB := Lib.hid hb
      clear EX hx hka hb
      go_wp2_with fail
      go_at_call 34
      refine (AM.out _).mono ?_
      rintro e w1 ⟨rfl, hk1⟩
      have HK1 := Lib.hid (HKR.out.trans (HKA.out.trans hk1))
      replace HE := Lib.hid (HE.out.kept hk1)
      clear hk1 z0 x0 x1 x2 x3 x4 x5
      cases b with
      | true =>
        have hyz := HY.out
        rw [findR_at HXX.out HBB.out HA.out] at hyz
        obtain ⟨rfl, rfl⟩ := Prod.mk.inj hyz
        have hr := HRES.out.kept HK1.out
        have rf := hr.f
        have r0 := hr.c0; have r1 := hr.c1; have r2 := hr.c2; have r3 := hr.c3; have r4 := hr.c4; have r5 := hr.c5
        have z0 := HE.out.c0; have z1 := HE.out.c1; have z2 := HE.out.c2; have z3 := HE.out.c3; have z4 := HE.out.c4; have z5 := HE.out.c5
        clear hyz hr
        go_wp2_with fail
        refine bodyPost_ret (by simp [results, Tryz.results10, go_sem, *]) rfl ⟨rfl, ?_⟩
        exact ((((((HK.out.trans HK1.out).setCell (Nat.le_add_right _ 1) _).setCell (Nat.le_add_right _ 1) _).setCell (Nat.le_add_right _ 1) _).setCell (Nat.le_add_right _ 1) _).setCell (Nat.le_add_right _ 1) _).setCell (Nat.le_add_right _ 1) _
      | false =>
        have HN := Lib.hid (show ∀ y ∈ L.take (t + 1), L4.matS p y.p = false from fun y hy => by
          rw [List.take_add_one, HXX.out, Option.toList_some, List.mem_append, List.mem_singleton] at hy
          rcases hy with hy | rfl
          · exact HA.out y hy
          · exact HBB.out)
        go_wp2_with fail
        go_roundw
        case rel => exact ⟨t + 1, hlt, by go_num, HK1.out, HN.out⟩
        case measure => simp [intOf]; omega
    · obtain rfl : t = n := by omega
      have hyz := HY.out
      rw [findR_none (fun y hy => HA.out y (by rw [List.take_of_length_le (by rw [← HNL.out]; exact Nat.le_refl _)]; exact hy))] at hyz
      obtain ⟨rfl, rfl⟩ := Prod.mk.inj hyz
      have hr := HRES.out.kept HKR.out
      have rf := hr.f
      have r0 := hr.c0; have r1 := hr.c1; have r2 := hr.c2; have r3 := hr.c3; have r4 := hr.c4; have r5 := hr.c5
      clear hyz hr
      go_wp2_with fail
      refine bodyPost_ret (by simp [results, Tryz.results10, go_sem, Fd.none, *]) rfl ⟨rfl, ?_⟩
      exact ((((((HK.out.trans HKR.out).setCell (Nat.le_add_right _ 1) _).setCell (Nat.le_add_right _ 1) _).setCell (Nat.le_add_right _ 1) _).setCell (Nat.le_add_right _ 1) _).setCell (Nat.le_add_right _ 1) _).setCell (Nat.le_add_right _ 1) _
end Go.Proofs.YtjieofiaoepccaaGreatDoor

