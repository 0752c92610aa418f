/-
  What is proved: the document's FieldRight of layer 11 (P11.1), called with any field of bounded texts, returns what that says; paths' questions with Kept; the world has new blocks at most.
  Long of layer 11's laws and the document's Find of layer 11 (P11.4), called with any schema (and path) of bounded texts, return what those say; the world has new blocks at most.
-/
import Derived.Test.YtjieofiaoepccaaGreatDoorM13
import Derived.Test.YtjieofiaoepccaaGreatDoorM18
import Derived.Test.YtjieofiaoepccaaGreatDoorM5
namespace Go.Proofs.YtjieofiaoepccaaGreatDoor
open Go.RowKit
set_option linter.unusedVariables false

theorem rpatK (p : ByteArray) (b : Bool) (h : L4.patS p = b) (hp : p.size ≤ 1099511627776) (w : World) :
    Calls Tryz.prog 28 #[.string p] w fun e w' => e = .returned (.bool b) ∧ Kept w w' := by
  subst h
  exact (L4.rpat_any p w hp).mono fun _ _ ⟨he, hk⟩ => ⟨he, kept_of_below hk⟩
theorem rmatK (p q : ByteArray) (b : Bool) (h : L4.matS p q = b) (hp : p.size ≤ 1099511627776) (hq : q.size ≤ 1099511627776) (w : World) :
    Calls Tryz.prog 35 #[.string p, .string q] w fun e w' => e = .returned (.bool b) ∧ Kept w w' := by
  subst h
  exact (L4.rmat_any p q w hp hq).mono fun _ _ ⟨he, hk⟩ => ⟨he, kept_of_below hk⟩
theorem rapK (p q : ByteArray) (b : Bool) (h : L4.apS p q = b) (hp : p.size ≤ 1099511627776) (hq : q.size ≤ 1099511627776) (w : World) :
    Calls Tryz.prog 37 #[.string p, .string q] w fun e w' => e = .returned (.bool b) ∧ Kept w w' := by
  subst h
  exact (L4.rap_any p q w hp hq).mono fun _ _ ⟨he, hk⟩ => ⟨he, kept_of_below hk⟩
theorem zero_val (x : Fd) : (x.vk = 0 ∧ x.vn = 0 ∧ x.vt = ⟨#[]⟩ ∧ zeroF x = true) ∨ (zeroF x = false ∧ ((x.vk == 0) = false ∨ ((x.vk == 0) = true ∧ (x.vn == 0) = false) ∨ ((x.vk == 0) = true ∧ (x.vn == 0) = true ∧ x.vt.toList ≠ [] ∧ x.vt.toList.isEmpty = false ∧ (x.vt.toList == []) = false))) := by
  by_cases h1 : x.vk = 0
  · by_cases h2 : x.vn = 0
    · by_cases h3 : x.vt.size = 0
      · exact .inl ⟨h1, h2, empty_of h3, by unfold zeroF; exact decide_eq_true ⟨h1, h2, h3⟩⟩
      · exact .inr ⟨by unfold zeroF; exact decide_eq_false fun h => h3 h.2.2, .inr (.inr ⟨beq_iff_eq.2 h1, beq_iff_eq.2 h2, full_of h3⟩)⟩
    · exact .inr ⟨by unfold zeroF; exact decide_eq_false fun h => h2 h.2.1, .inr (.inl ⟨beq_iff_eq.2 h1, by simpa using h2⟩)⟩
  · exact .inr ⟨by unfold zeroF; exact decide_eq_false fun h => h1 h.1, .inl (by simpa using h1)⟩
set_option maxRecDepth 100000 in
set_option maxHeartbeats 8000000 in
theorem rfr_any (x : Fd) (w : World) (hp : x.p.size ≤ 1099511627776) (ht : x.vt.size ≤ 1099511627776) :
    Calls Tryz.prog 7 #[.agg #[.string x.p, .int .i64 x.k, .int .i64 x.t, .int .i64 x.vk, .int .i64 x.vn, .string x.vt]] w fun e w' => e = .returned (.bool (rightF x)) ∧ Kept w w' := by
  have HB := Lib.hid (FdB.new w x 30)
  have HK := Lib.hid ((Kept.refl w).alloc #[.string x.p, .int .i64 x.k, .int .i64 x.t, .int .i64 x.vk, .int .i64 x.vn, .string x.vt] 30)
  have b0 := HB.out.c0
  cases hpat : L4.patS x.p with
  | false =>
    have A1 := Lib.hid (fun w => rpatK x.p false hpat hp w)
    have HR := Lib.hid (show false = rightF x by unfold rightF; rw [hpat]; rfl)
    clear hpat hp ht
    go_enter Tryz.func7, Tryz.ntmps7
    go_wp2_with fail
    go_at_call 28
    refine (A1.out _).mono ?_
    rintro e w1 ⟨rfl, hk⟩
    replace HK := Lib.hid (HK.out.trans hk)
    clear hk b0
    go_wp2_with fail
    go_ret
    exact ⟨ret_bool HR.out, HK.out⟩
  | true =>
    have A1 := Lib.hid (fun w => rpatK x.p true hpat hp w)
    have HRR := Lib.hid (show rightF x = kindF x by unfold rightF; rw [hpat]; rfl)
    rcases (show x.k = 1 ∨ x.k = 2 ∨ x.k = 3 ∨ ((x.k == 1) = false ∧ (x.k == 2) = false ∧ (x.k == 3) = false ∧ x.k ≠ 1 ∧ x.k ≠ 2 ∧ x.k ≠ 3) by
      by_cases h1 : x.k = 1
      · exact .inl h1
      · by_cases h2 : x.k = 2
        · exact .inr (.inl h2)
        · by_cases h3 : x.k = 3
          · exact .inr (.inr (.inl h3))
          · exact .inr (.inr (.inr ⟨by simpa using h1, by simpa using h2, by simpa using h3, h1, h2, h3⟩))) with hk1 | hk1 | hk1 | ⟨e1, e2, e3, n1, n2, n3⟩
    · obtain ⟨vr, hvr⟩ : ∃ r, rightB x.vk x.vn x.vt = r := ⟨_, rfl⟩
      have A2 := Lib.hid (fun w => rright_c x.vk x.vn x.vt vr hvr w (by omega))
      have HK1 := Lib.hid hk1
      cases vr with
      | false =>
        have HR := Lib.hid (show false = rightF x by rw [HRR.out]; unfold kindF; rw [hvr, decide_eq_true hk1, decide_eq_false (by omega : ¬ (x.k = 2 ∧ 1 ≤ x.t ∧ x.t ≤ 3)), decide_eq_false (by omega : ¬ (x.k = 3 ∧ x.t = 1))]; simp)
        clear hpat hp ht hk1 hvr
        go_enter Tryz.func7, Tryz.ntmps7
        go_wp2_with fail
        go_at_call 28
        refine (A1.out _).mono ?_
        rintro e w1 ⟨rfl, hk⟩
        have hb := HB.out.kept hk
        replace HK := Lib.hid (HK.out.trans hk)
        have b1 := hb.c1; have b2 := hb.c2; have b3 := hb.c3; have b4 := hb.c4; have b5 := hb.c5
        rw [HK1.out] at b1
        replace HB := Lib.hid hb
        clear hb hk b0
        go_wp2_with fail
        go_at_call 29
        refine (A2.out _).mono ?_
        rintro e w2 ⟨rfl, hg⟩
        have hk := kept_of hg
        have hb := HB.out.kept hk
        replace HK := Lib.hid (HK.out.trans hk)
        clear b1 b2 b3 b4 b5 hg hk
        have b1 := hb.c1; have b2 := hb.c2; have b3 := hb.c3; have b4 := hb.c4; have b5 := hb.c5
        clear hb
        go_wp2_with fail
        go_ret
        exact ⟨ret_bool HR.out, HK.out⟩
      | true =>
        by_cases ht1 : x.vk = x.t
        · have et : (x.vk == x.t) = true := beq_iff_eq.2 ht1
          have HR := Lib.hid (show true = rightF x by rw [HRR.out]; unfold kindF; rw [hvr, decide_eq_true hk1, decide_eq_false (by omega : ¬ (x.k = 2 ∧ 1 ≤ x.t ∧ x.t ≤ 3)), decide_eq_false (by omega : ¬ (x.k = 3 ∧ x.t = 1)), decide_eq_true ht1]; simp)
          clear hpat hp ht hk1 ht1 hvr
          go_enter Tryz.func7, Tryz.ntmps7
          go_wp2_with fail
          go_at_call 28
          refine (A1.out _).mono ?_
          rintro e w1 ⟨rfl, hk⟩
          have hb := HB.out.kept hk
          replace HK := Lib.hid (HK.out.trans hk)
          have b1 := hb.c1; have b2 := hb.c2; have b3 := hb.c3; have b4 := hb.c4; have b5 := hb.c5
          rw [HK1.out] at b1
          replace HB := Lib.hid hb
          clear hb hk b0
          go_wp2_with fail
          go_at_call 29
          refine (A2.out _).mono ?_
          rintro e w2 ⟨rfl, hg⟩
          have hk := kept_of hg
          have hb := HB.out.kept hk
          replace HK := Lib.hid (HK.out.trans hk)
          clear b1 b2 b3 b4 b5 hg hk
          have b1 := hb.c1; have b2 := hb.c2; have b3 := hb.c3; have b4 := hb.c4; have b5 := hb.c5
          clear hb
          go_wp2_with fail
          go_ret
          exact ⟨ret_bool HR.out, HK.out⟩
        · have et : (x.vk == x.t) = false := by simpa using ht1
          have HR := Lib.hid (show false = rightF x by rw [HRR.out]; unfold kindF; rw [hvr, decide_eq_true hk1, decide_eq_false (by omega : ¬ (x.k = 2 ∧ 1 ≤ x.t ∧ x.t ≤ 3)), decide_eq_false (by omega : ¬ (x.k = 3 ∧ x.t = 1)), decide_eq_false ht1]; simp)
          clear hpat hp ht hk1 ht1 hvr
          go_enter Tryz.func7, Tryz.ntmps7
          go_wp2_with fail
          go_at_call 28
          refine (A1.out _).mono ?_
          rintro e w1 ⟨rfl, hk⟩
          have hb := HB.out.kept hk
          replace HK := Lib.hid (HK.out.trans hk)
          have b1 := hb.c1; have b2 := hb.c2; have b3 := hb.c3; have b4 := hb.c4; have b5 := hb.c5
          rw [HK1.out] at b1
          replace HB := Lib.hid hb
          clear hb hk b0
          go_wp2_with fail
          go_at_call 29
          refine (A2.out _).mono ?_
          rintro e w2 ⟨rfl, hg⟩
          have hk := kept_of hg
          have hb := HB.out.kept hk
          replace HK := Lib.hid (HK.out.trans hk)
          clear b1 b2 b3 b4 b5 hg hk
          have b1 := hb.c1; have b2 := hb.c2; have b3 := hb.c3; have b4 := hb.c4; have b5 := hb.c5
          clear hb
          go_wp2_with fail
          go_ret
          exact ⟨ret_bool HR.out, HK.out⟩
    · have HK1 := Lib.hid hk1
      by_cases g1 : 1 ≤ x.t
      · by_cases g2 : x.t ≤ 3
        · have t1 : decide (1 ≤ x.t) = true := decide_eq_true g1
          have t2 : decide (x.t ≤ 3) = true := decide_eq_true g2
          rcases zero_val x with ⟨h1, h2, h3, hzf⟩ | ⟨hzf, q1 | ⟨q1, q2⟩ | ⟨q1, q2, q3, q4, q5⟩⟩
          · have HV1 := Lib.hid h1; have HV2 := Lib.hid h2; have HV3 := Lib.hid h3
            have HR := Lib.hid (show true = rightF x by rw [HRR.out]; unfold kindF; rw [decide_eq_false (by omega : ¬ x.k = 1), hzf, decide_eq_true (⟨hk1, g1, g2⟩ : x.k = 2 ∧ 1 ≤ x.t ∧ x.t ≤ 3)]; simp)
            clear hpat hp ht hk1 h1 h2 h3 hzf g1 g2
            go_enter Tryz.func7, Tryz.ntmps7
            go_wp2_with fail
            go_at_call 28
            refine (A1.out _).mono ?_
            rintro e w1 ⟨rfl, hk⟩
            have hb := HB.out.kept hk
            replace HK := Lib.hid (HK.out.trans hk)
            have b1 := hb.c1; have b2 := hb.c2; have b3 := hb.c3; have b4 := hb.c4; have b5 := hb.c5
            rw [HK1.out] at b1
            rw [HV1.out] at b3
            rw [HV2.out] at b4
            rw [HV3.out] at b5
            replace HB := Lib.hid hb
            clear hb hk b0
            go_wp2_with fail
            go_ret
            exact ⟨ret_bool HR.out, HK.out⟩
          · have HR := Lib.hid (show false = rightF x by rw [HRR.out]; unfold kindF; rw [decide_eq_false (by omega : ¬ x.k = 1), hzf, decide_eq_true (⟨hk1, g1, g2⟩ : x.k = 2 ∧ 1 ≤ x.t ∧ x.t ≤ 3)]; simp)
            clear hpat hp ht hk1 hzf g1 g2
            go_enter Tryz.func7, Tryz.ntmps7
            go_wp2_with fail
            go_at_call 28
            refine (A1.out _).mono ?_
            rintro e w1 ⟨rfl, hk⟩
            have hb := HB.out.kept hk
            replace HK := Lib.hid (HK.out.trans hk)
            have b1 := hb.c1; have b2 := hb.c2; have b3 := hb.c3; have b4 := hb.c4; have b5 := hb.c5
            rw [HK1.out] at b1
            replace HB := Lib.hid hb
            clear hb hk b0
            go_wp2_with fail
            go_ret
            exact ⟨ret_bool HR.out, HK.out⟩
          · have HR := Lib.hid (show false = rightF x by rw [HRR.out]; unfold kindF; rw [decide_eq_false (by omega : ¬ x.k = 1), hzf, decide_eq_true (⟨hk1, g1, g2⟩ : x.k = 2 ∧ 1 ≤ x.t ∧ x.t ≤ 3)]; simp)
            clear hpat hp ht hk1 hzf g1 g2
            go_enter Tryz.func7, Tryz.ntmps7
            go_wp2_with fail
            go_at_call 28
            refine (A1.out _).mono ?_
            rintro e w1 ⟨rfl, hk⟩
            have hb := HB.out.kept hk
            replace HK := Lib.hid (HK.out.trans hk)
            have b1 := hb.c1; have b2 := hb.c2; have b3 := hb.c3; have b4 := hb.c4; have b5 := hb.c5
            rw [HK1.out] at b1
            replace HB := Lib.hid hb
            clear hb hk b0
            go_wp2_with fail
            go_ret
            exact ⟨ret_bool HR.out, HK.out⟩
          · have HR := Lib.hid (show false = rightF x by rw [HRR.out]; unfold kindF; rw [decide_eq_false (by omega : ¬ x.k = 1), hzf, decide_eq_true (⟨hk1, g1, g2⟩ : x.k = 2 ∧ 1 ≤ x.t ∧ x.t ≤ 3)]; simp)
            clear hpat hp ht hk1 hzf g1 g2
            go_enter Tryz.func7, Tryz.ntmps7
            go_wp2_with fail
            go_at_call 28
            refine (A1.out _).mono ?_
            rintro e w1 ⟨rfl, hk⟩
            have hb := HB.out.kept hk
            replace HK := Lib.hid (HK.out.trans hk)
            have b1 := hb.c1; have b2 := hb.c2; have b3 := hb.c3; have b4 := hb.c4; have b5 := hb.c5
            rw [HK1.out] at b1
            replace HB := Lib.hid hb
            clear hb hk b0
            go_wp2_with fail
            go_ret
            exact ⟨ret_bool HR.out, HK.out⟩
        · have t1 : decide (1 ≤ x.t) = true := decide_eq_true g1
          have t2 : decide (x.t ≤ 3) = false := decide_eq_false g2
          have HR := Lib.hid (show false = rightF x by rw [HRR.out]; unfold kindF; rw [decide_eq_false (by omega : ¬ x.k = 1), decide_eq_false (by omega : ¬ (x.k = 2 ∧ 1 ≤ x.t ∧ x.t ≤ 3)), decide_eq_false (by omega : ¬ (x.k = 3 ∧ x.t = 1))]; simp)
          clear hpat hp ht hk1 g1 g2
          go_enter Tryz.func7, Tryz.ntmps7
          go_wp2_with fail
          go_at_call 28
          refine (A1.out _).mono ?_
          rintro e w1 ⟨rfl, hk⟩
          have hb := HB.out.kept hk
          replace HK := Lib.hid (HK.out.trans hk)
          have b1 := hb.c1; have b2 := hb.c2; have b3 := hb.c3; have b4 := hb.c4; have b5 := hb.c5
          rw [HK1.out] at b1
          replace HB := Lib.hid hb
          clear hb hk b0
          go_wp2_with fail
          go_ret
          exact ⟨ret_bool HR.out, HK.out⟩
      · have t1 : decide (1 ≤ x.t) = false := decide_eq_false g1
        have HR := Lib.hid (show false = rightF x by rw [HRR.out]; unfold kindF; rw [decide_eq_false (by omega : ¬ x.k = 1), decide_eq_false (by omega : ¬ (x.k = 2 ∧ 1 ≤ x.t ∧ x.t ≤ 3)), decide_eq_false (by omega : ¬ (x.k = 3 ∧ x.t = 1))]; simp)
        clear hpat hp ht hk1 g1
        go_enter Tryz.func7, Tryz.ntmps7
        go_wp2_with fail
        go_at_call 28
        refine (A1.out _).mono ?_
        rintro e w1 ⟨rfl, hk⟩
        have hb := HB.out.kept hk
        replace HK := Lib.hid (HK.out.trans hk)
        have b1 := hb.c1; have b2 := hb.c2; have b3 := hb.c3; have b4 := hb.c4; have b5 := hb.c5
        rw [HK1.out] at b1
        replace HB := Lib.hid hb
        clear hb hk b0
        go_wp2_with fail
        go_ret
        exact ⟨ret_bool HR.out, HK.out⟩
    · have HK1 := Lib.hid hk1
      by_cases g1 : x.t = 1
      · have t1 : (x.t == 1) = true := beq_iff_eq.2 g1
        rcases zero_val x with ⟨h1, h2, h3, hzf⟩ | ⟨hzf, q1 | ⟨q1, q2⟩ | ⟨q1, q2, q3, q4, q5⟩⟩
        · have HV1 := Lib.hid h1; have HV2 := Lib.hid h2; have HV3 := Lib.hid h3
          have HR := Lib.hid (show true = rightF x by rw [HRR.out]; unfold kindF; rw [decide_eq_false (by omega : ¬ x.k = 1), hzf, decide_eq_false (by omega : ¬ (x.k = 2 ∧ 1 ≤ x.t ∧ x.t ≤ 3)), decide_eq_true (⟨hk1, g1⟩ : x.k = 3 ∧ x.t = 1)]; simp)
          clear hpat hp ht hk1 h1 h2 h3 hzf g1
          go_enter Tryz.func7, Tryz.ntmps7
          go_wp2_with fail
          go_at_call 28
          refine (A1.out _).mono ?_
          rintro e w1 ⟨rfl, hk⟩
          have hb := HB.out.kept hk
          replace HK := Lib.hid (HK.out.trans hk)
          have b1 := hb.c1; have b2 := hb.c2; have b3 := hb.c3; have b4 := hb.c4; have b5 := hb.c5
          rw [HK1.out] at b1
          rw [HV1.out] at b3
          rw [HV2.out] at b4
          rw [HV3.out] at b5
          replace HB := Lib.hid hb
          clear hb hk b0
          go_wp2_with fail
          go_ret
          exact ⟨ret_bool HR.out, HK.out⟩
        · have HR := Lib.hid (show false = rightF x by rw [HRR.out]; unfold kindF; rw [decide_eq_false (by omega : ¬ x.k = 1), hzf, decide_eq_false (by omega : ¬ (x.k = 2 ∧ 1 ≤ x.t ∧ x.t ≤ 3)), decide_eq_true (⟨hk1, g1⟩ : x.k = 3 ∧ x.t = 1)]; simp)
          clear hpat hp ht hk1 hzf g1
          go_enter Tryz.func7, Tryz.ntmps7
          go_wp2_with fail
          go_at_call 28
          refine (A1.out _).mono ?_
          rintro e w1 ⟨rfl, hk⟩
          have hb := HB.out.kept hk
          replace HK := Lib.hid (HK.out.trans hk)
          have b1 := hb.c1; have b2 := hb.c2; have b3 := hb.c3; have b4 := hb.c4; have b5 := hb.c5
          rw [HK1.out] at b1
          replace HB := Lib.hid hb
          clear hb hk b0
          go_wp2_with fail
          go_ret
          exact ⟨ret_bool HR.out, HK.out⟩
        · have HR := Lib.hid (show false = rightF x by rw [HRR.out]; unfold kindF; rw [decide_eq_false (by omega : ¬ x.k = 1), hzf, decide_eq_false (by omega : ¬ (x.k = 2 ∧ 1 ≤ x.t ∧ x.t ≤ 3)), decide_eq_true (⟨hk1, g1⟩ : x.k = 3 ∧ x.t = 1)]; simp)
          clear hpat hp ht hk1 hzf g1
          go_enter Tryz.func7, Tryz.ntmps7
          go_wp2_with fail
          go_at_call 28
          refine (A1.out _).mono ?_
          rintro e w1 ⟨rfl, hk⟩
          have hb := HB.out.kept hk
          replace HK := Lib.hid (HK.out.trans hk)
          have b1 := hb.c1; have b2 := hb.c2; have b3 := hb.c3; have b4 := hb.c4; have b5 := hb.c5
          rw [HK1.out] at b1
          replace HB := Lib.hid hb
          clear hb hk b0
          go_wp2_with fail
          go_ret
          exact ⟨ret_bool HR.out, HK.out⟩
        · have HR := Lib.hid (show false = rightF x by rw [HRR.out]; unfold kindF; rw [decide_eq_false (by omega : ¬ x.k = 1), hzf, decide_eq_false (by omega : ¬ (x.k = 2 ∧ 1 ≤ x.t ∧ x.t ≤ 3)), decide_eq_true (⟨hk1, g1⟩ : x.k = 3 ∧ x.t = 1)]; simp)
          clear hpat hp ht hk1 hzf g1
          go_enter Tryz.func7, Tryz.ntmps7
          go_wp2_with fail
          go_at_call 28
          refine (A1.out _).mono ?_
          rintro e w1 ⟨rfl, hk⟩
          have hb := HB.out.kept hk
          replace HK := Lib.hid (HK.out.trans hk)
          have b1 := hb.c1; have b2 := hb.c2; have b3 := hb.c3; have b4 := hb.c4; have b5 := hb.c5
          rw [HK1.out] at b1
          replace HB := Lib.hid hb
          clear hb hk b0
          go_wp2_with fail
          go_ret
          exact ⟨ret_bool HR.out, HK.out⟩
      · have t1 : (x.t == 1) = false := by simpa using g1
        have HR := Lib.hid (show false = rightF x by rw [HRR.out]; unfold kindF; rw [decide_eq_false (by omega : ¬ x.k = 1), decide_eq_false (by omega : ¬ (x.k = 2 ∧ 1 ≤ x.t ∧ x.t ≤ 3)), decide_eq_false (by omega : ¬ (x.k = 3 ∧ x.t = 1))]; simp)
        clear hpat hp ht hk1 g1
        go_enter Tryz.func7, Tryz.ntmps7
        go_wp2_with fail
        go_at_call 28
        refine (A1.out _).mono ?_
        rintro e w1 ⟨rfl, hk⟩
        have hb := HB.out.kept hk
        replace HK := Lib.hid (HK.out.trans hk)
        have b1 := hb.c1; have b2 := hb.c2; have b3 := hb.c3; have b4 := hb.c4; have b5 := hb.c5
        rw [HK1.out] at b1
        replace HB := Lib.hid hb
        clear hb hk b0
        go_wp2_with fail
        go_ret
        exact ⟨ret_bool HR.out, HK.out⟩
    · have HR := Lib.hid (show false = rightF x by rw [HRR.out]; unfold kindF; rw [decide_eq_false n1, decide_eq_false (fun h => n2 h.1 : ¬ (x.k = 2 ∧ 1 ≤ x.t ∧ x.t ≤ 3)), decide_eq_false (fun h => n3 h.1 : ¬ (x.k = 3 ∧ x.t = 1))]; simp)
      clear hpat hp ht n1 n2 n3
      go_enter Tryz.func7, Tryz.ntmps7
      go_wp2_with fail
      go_at_call 28
      refine (A1.out _).mono ?_
      rintro e w1 ⟨rfl, hk⟩
      have hb := HB.out.kept hk
      replace HK := Lib.hid (HK.out.trans hk)
      have b1 := hb.c1; have b2 := hb.c2; have b3 := hb.c3; have b4 := hb.c4; have b5 := hb.c5
      replace HB := Lib.hid hb
      clear hb hk b0
      go_wp2_with fail
      go_ret
      exact ⟨ret_bool HR.out, HK.out⟩
theorem rfr_c (x : Fd) (b : Bool) (h : rightF x = b) (w : World) (hp : x.p.size ≤ 1099511627776) (ht : x.vt.size ≤ 1099511627776) :
    Calls Tryz.prog 7 #[.agg #[.string x.p, .int .i64 x.k, .int .i64 x.t, .int .i64 x.vk, .int .i64 x.vn, .string x.vt]] w fun e w' => e = .returned (.bool b) ∧ Kept w w' := by
  subst h; exact rfr_any x w hp ht
end Go.Proofs.YtjieofiaoepccaaGreatDoor

namespace Go.Proofs.YtjieofiaoepccaaGreatDoor
open Go.RowKit
set_option linter.unusedVariables false

/-- One cell in a block of its own. -/
structure Box1 (w : World) (b : Nat) (u : Value) : Prop where
  c0 : w.cell? ⟨b, 0, none⟩ = some u
  f : ∀ j, w.frozen? ⟨b, j, none⟩ = false
  lt : b < w.heap.size
theorem Box1.kept {w w' : World} {b : Nat} {u : Value} (h : Box1 w b u) (hk : Kept w w') : Box1 w' b u :=
  ⟨hk.cell h.c0, fun j => (hk.2.1 ⟨b, j, none⟩ h.lt).trans (h.f j), Nat.lt_of_lt_of_le h.lt hk.2.2⟩
theorem Box1.new (w : World) (u : Value) (t : TypeId) : Box1 (w.alloc (.cells #[u] t)) w.heap.size u :=
  ⟨(Kept.refl _).box 0 _ rfl, fun j => by rw [frozen?_alloc_cells]; simp [World.frozen?], by simp⟩
def ShortF (L : List Fd) (n : Nat) : Prop := (∀ x ∈ L, x.p.size ≤ 200 ∧ x.vt.size ≤ 300) ∧ n ≤ 40
set_option maxRecDepth 100000 in
set_option maxHeartbeats 8000000 in
theorem flong_any (A : Option Addr) (n c : Nat) (L : List Fd) (w : World) (h : Fl w A n c L) (hw : ∀ x ∈ L, x.p.size ≤ 9223372036854775807 ∧ x.vt.size ≤ 9223372036854775807) (r : Bool) (hr : r = true ↔ ¬ ShortF L n) :
    Calls Tryz.prog 4 #[.agg #[.slice A n c]] w fun e w' => e = .returned (.bool r) ∧ Kept w w' := by
  have hk := (Kept.refl w).alloc #[.slice A n c] 24
  have hcap := h.cap.1; have hcap2 := h.cap.2
  have HNL := Lib.hid h.1; have HSZ := Lib.hid hw; have HR := Lib.hid hr
  have HB := Lib.hid (Box1.new w (.slice A n c) 24)
  have HH := Lib.hid (h.kept hk)
  obtain ⟨U, hU⟩ : ∃ U, w.alloc (.cells #[.slice A n c] 24) = U := ⟨_, rfl⟩
  rw [hU] at hk HB HH
  have HK := Lib.hid hk; have HUU := Lib.hid hU
  have d0 := HB.out.c0
  clear h hw hr hk hU
  go_enter Tryz.func4, Tryz.ntmps4
  go_wp2_with fail
  rw [HUU.out]
  go_wp2_with fail
  clear d0
  go_loopw [8] (fun i wr => ∃ t : Nat, t ≤ n ∧ i = .int .i64 t ∧ Kept U wr ∧ ∀ x ∈ L.take t, x.p.size ≤ 200 ∧ x.vt.size ≤ 300) (fun i _ => n - (intOf i).toNat)
  case atStart => exact ⟨0, Nat.zero_le _, rfl, Kept.refl _, fun x hx => by simp at hx⟩
  case round =>
    obtain ⟨t, ht, rfl, hkr, hall⟩ := hrel
    have HKR := Lib.hid hkr; have HA := Lib.hid hall
    clear hkr hall
    by_cases hlt : t < n
    · obtain ⟨g, o, x, rfl, hx, EX⟩ := (HH.out.kept HKR.out).get hlt
      have x0 := EX.c0; have x1 := EX.c1; have x2 := EX.c2; have x3 := EX.c3; have x4 := EX.c4; have x5 := EX.c5
      have HE := FdB.new wr x 30
      have z0 := HE.c0; have z1 := HE.c1; have z2 := HE.c2; have z3 := HE.c3; have z4 := HE.c4; have z5 := HE.c5
      have hsx := HSZ.out x (List.mem_of_getElem? hx)
      have hs1 := hsx.1; have hs2 := hsx.2
      have HXX := Lib.hid hx
      have HKA := Lib.hid ((Kept.refl wr).alloc #[.string x.p, .int .i64 x.k, .int .i64 x.t, .int .i64 x.vk, .int .i64 x.vn, .string x.vt] 30)
      clear EX hx HE hsx
      by_cases h1 : 200 < x.p.size
      · have f1 : decide ((200 : Int) < (x.p.size : Int)) = true := decide_eq_true (by omega)
        have f2 : decide (200 < x.p.size) = true := decide_eq_true h1
        have HF := Lib.hid (show true = r from (HR.out.2 fun hs => by have := (hs.1 x (List.mem_of_getElem? HXX.out)).1; omega).symm)
        clear h1
        go_wp2_with fail
        go_ret
        exact ⟨ret_bool HF.out, HK.out.trans (HKR.out.trans HKA.out)⟩
      · have f1 : decide ((200 : Int) < (x.p.size : Int)) = false := decide_eq_false (by omega)
        have f2 : decide (200 < x.p.size) = false := decide_eq_false h1
        by_cases h2 : 300 < x.vt.size
        · have f3 : decide ((300 : Int) < (x.vt.size : Int)) = true := decide_eq_true (by omega)
          have f4 : decide (300 < x.vt.size) = true := decide_eq_true h2
          have HF := Lib.hid (show true = r from (HR.out.2 fun hs => by have := (hs.1 x (List.mem_of_getElem? HXX.out)).2; omega).symm)
          clear h1 h2
          go_wp2_with fail
          go_ret
          exact ⟨ret_bool HF.out, HK.out.trans (HKR.out.trans HKA.out)⟩
        · have f3 : decide ((300 : Int) < (x.vt.size : Int)) = false := decide_eq_false (by omega)
          have f4 : decide (300 < x.vt.size) = false := decide_eq_false h2
          have HN := Lib.hid (show ∀ y ∈ L.take (t + 1), y.p.size ≤ 200 ∧ y.vt.size ≤ 300 from fun y hy => by
            rw [List.take_add_one, HXX.out, Option.toList_some, List.mem_append, List.mem_singleton] at hy
            rcases hy with hy | rfl
            · exact HA.out y hy
            · omega)
          clear h1 h2
          go_wp2_with fail
          go_roundw
          case rel => exact ⟨t + 1, hlt, by go_num, HKR.out.trans HKA.out, HN.out⟩
          case measure => simp [intOf]; omega
    · obtain rfl : t = n := by omega
      have HT := Lib.hid (show ∀ x ∈ L, x.p.size ≤ 200 ∧ x.vt.size ≤ 300 by
        have := HA.out
        rw [show L.take t = L from List.take_of_length_le (by rw [← HNL.out]; exact Nat.le_refl _)] at this
        exact this)
      have hb := HB.out.kept HKR.out
      have d0 := hb.c0
      clear hb
      by_cases h1 : 40 < t
      · have f1 : decide ((40 : Int) < (t : Int)) = true := decide_eq_true (by omega)
        have f2 : decide (40 < t) = true := decide_eq_true h1
        have HF := Lib.hid (show true = r from (HR.out.2 fun hs => by have := hs.2; omega).symm)
        clear h1
        go_wp2_with fail
        go_ret
        exact ⟨ret_bool HF.out, HK.out.trans HKR.out⟩
      · have f1 : decide ((40 : Int) < (t : Int)) = false := decide_eq_false (by omega)
        have f2 : decide (40 < t) = false := decide_eq_false h1
        have HF := Lib.hid (show false = r by
          cases r with
          | false => rfl
          | true => exact absurd ⟨HT.out, by omega⟩ (HR.out.1 rfl))
        clear h1
        go_wp2_with fail
        go_ret
        exact ⟨ret_bool HF.out, HK.out.trans HKR.out⟩
/-- P11.4: what is found. -/
def findR (L : List Fd) (p : ByteArray) : Fd × Bool := match findF L p with
  | some y => (y, true)
  | none => (.none, false)
theorem findR_at {L : List Fd} {p : ByteArray} {t : Nat} {x : Fd} (hx : L[t]? = some x) (hm : L4.matS p x.p = true) (hall : ∀ y ∈ L.take t, L4.matS p y.p = false) : findR L p = (x, true) := by
  have e : findF L p = some x := by
    unfold findF
    have hl := (List.getElem?_eq_some_iff.1 hx)
    obtain ⟨h1, h2⟩ := hl
    have hs : L = L.take t ++ x :: L.drop (t + 1) := by
      have := List.drop_eq_getElem_cons h1
      rw [h2] at this
      rw [← this, List.take_append_drop]
    rw [hs, List.find?_append, List.find?_eq_none.2 (fun y hy => by rw [hall y hy]; decide), Option.none_or, List.find?_cons_of_pos (p := fun x : Fd => L4.matS p x.p) hm]
  unfold findR
  rw [e]
theorem findR_none {L : List Fd} {p : ByteArray} (hall : ∀ y ∈ L, L4.matS p y.p = false) : findR L p = (.none, false) := by
  have e : findF L p = none := by
    unfold findF
    rw [List.find?_eq_none]
    exact fun y hy => by rw [hall y hy]; decide
  unfold findR
  rw [e]
set_option maxRecDepth 100000 in
set_option maxHeartbeats 8000000 in
theorem rfind_any (A : Option Addr) (n c : Nat) (L : List Fd) (p : ByteArray) (w : World) (h : Fl w A n c L) (hw : ∀ x ∈ L, x.p.size ≤ 1099511627776) (hp : p.size ≤ 1099511627776) (y : Fd) (z : Bool) (hyz : findR L p = (y, z)) :
    Calls Tryz.prog 11 #[.agg #[.slice A n c], .string p] w fun e w' => e = .returned (.tuple #[.agg #[.string y.p, .int .i64 y.k, .int .i64 y.t, .int .i64 y.vk, .int .i64 y.vn, .string y.vt], .bool z]) ∧ Kept w w' := by
  have hk := ((Kept.refl w).alloc #[.slice A n c] 24).alloc #[.string ⟨#[]⟩, .int .i64 0, .int .i64 0, .int .i64 0, .int .i64 0, .string ⟨#[]⟩] 30
  have hcap := h.cap.1; have hcap2 := h.cap.2
  have HNL := Lib.hid h.1; have HSZ := Lib.hid hw; have HP := Lib.hid hp; have HY := Lib.hid hyz
  have HB := Lib.hid ((Box1.new w (.slice A n c) 24).kept ((Kept.refl _).alloc #[.string ⟨#[]⟩, .int .i64 0, .int .i64 0, .int .i64 0, .int .i64 0, .string ⟨#[]⟩] 30))
  have hr := FdB.new (w.alloc (.cells #[.slice A n c] 24)) .none 30
  simp only [Fd.none] at hr
  rw [show (w.alloc (.cells #[.slice A n c] 24)).heap.size = w.heap.size + 1 by simp] at hr
  have HH := Lib.hid (h.kept hk)
  obtain ⟨U, hU⟩ : ∃ U, (w.alloc (.cells #[.slice A n c] 24)).alloc (.cells #[.string ⟨#[]⟩, .int .i64 0, .int .i64 0, .int .i64 0, .int .i64 0, .string ⟨#[]⟩] 30) = U := ⟨_, rfl⟩
  rw [hU] at hk HB HH hr
  have HK := Lib.hid hk; have HUU := Lib.hid hU; have HRES := Lib.hid hr
  have d0 := HB.out.c0
  clear h hw hp hyz hk hU hr
  go_enter Tryz.func11, Tryz.ntmps11
  go_wp2_with fail
  rw [HUU.out]
  go_wp2_with fail
  clear d0
  go_loopw [11] (fun i wr => ∃ t : Nat, t ≤ n ∧ i = .int .i64 t ∧ Kept U wr ∧ ∀ x ∈ L.take t, L4.matS p x.p = false) (fun i _ => n - (intOf i).toNat)
  case atStart => exact ⟨0, Nat.zero_le _, rfl, Kept.refl _, fun x hx => by simp at hx⟩
  case round =>
    obtain ⟨t, ht, rfl, hkr, hall⟩ := hrel
    have HKR := Lib.hid hkr; have HA := Lib.hid hall
    clear hkr hall
    by_cases hlt : t < n
    · obtain ⟨g, o, x, rfl, hx, EX⟩ := (HH.out.kept HKR.out).get hlt
      have x0 := EX.c0; have x1 := EX.c1; have x2 := EX.c2; have x3 := EX.c3; have x4 := EX.c4; have x5 := EX.c5
      have HE := Lib.hid (FdB.new wr x 30)
      have z0 := HE.out.c0
      have HXX := Lib.hid hx
      have hka := (Kept.refl wr).alloc #[.string x.p, .int .i64 x.k, .int .i64 x.t, .int .i64 x.vk, .int .i64 x.vn, .string x.vt] 30
      have HKA := Lib.hid hka
      obtain ⟨b, hb⟩ : ∃ b, L4.matS p x.p = b := ⟨_, rfl⟩
      have AM := Lib.hid (fun w => rmatK p x.p b hb HP.out (HSZ.out x (List.mem_of_getElem? HXX.out)) w)
      have HBB := Lib.hid hb
      clear EX hx hka hb
      go_wp2_with fail
      go_at_call 35
      refine (AM.out _).mono ?_
      rintro e w1 ⟨rfl, hk1⟩
      have HK1 := Lib.hid (HKR.out.trans (HKA.out.trans hk1))
      replace HE := Lib.hid (HE.out.kept hk1)
      clear hk1 z0 x0 x1 x2 x3 x4 x5
      cases b with
      | true =>
        have hyz := HY.out
        rw [findR_at HXX.out HBB.out HA.out] at hyz
        obtain ⟨rfl, rfl⟩ := Prod.mk.inj hyz
        have hr := HRES.out.kept HK1.out
        have rf := hr.f
        have r0 := hr.c0; have r1 := hr.c1; have r2 := hr.c2; have r3 := hr.c3; have r4 := hr.c4; have r5 := hr.c5
        have z0 := HE.out.c0; have z1 := HE.out.c1; have z2 := HE.out.c2; have z3 := HE.out.c3; have z4 := HE.out.c4; have z5 := HE.out.c5
        clear hyz hr
        go_wp2_with fail
        refine bodyPost_ret (by simp [results, Tryz.results11, go_sem, *]) rfl ⟨rfl, ?_⟩
        exact ((((((HK.out.trans HK1.out).setCell (Nat.le_add_right _ 1) _).setCell (Nat.le_add_right _ 1) _).setCell (Nat.le_add_right _ 1) _).setCell (Nat.le_add_right _ 1) _).setCell (Nat.le_add_right _ 1) _).setCell (Nat.le_add_right _ 1) _
      | false =>
        have HN := Lib.hid (show ∀ y ∈ L.take (t + 1), L4.matS p y.p = false from fun y hy => by
          rw [List.take_add_one, HXX.out, Option.toList_some, List.mem_append, List.mem_singleton] at hy
          rcases hy with hy | rfl
          · exact HA.out y hy
          · exact HBB.out)
        go_wp2_with fail
        go_roundw
        case rel => exact ⟨t + 1, hlt, by go_num, HK1.out, HN.out⟩
        case measure => simp [intOf]; omega
    · obtain rfl : t = n := by omega
      have hyz := HY.out
      rw [findR_none (fun y hy => HA.out y (by rw [List.take_of_length_le (by rw [← HNL.out]; exact Nat.le_refl _)]; exact hy))] at hyz
      obtain ⟨rfl, rfl⟩ := Prod.mk.inj hyz
      have hr := HRES.out.kept HKR.out
      have rf := hr.f
      have r0 := hr.c0; have r1 := hr.c1; have r2 := hr.c2; have r3 := hr.c3; have r4 := hr.c4; have r5 := hr.c5
      clear hyz hr
      go_wp2_with fail
      refine bodyPost_ret (by simp [results, Tryz.results11, go_sem, Fd.none, *]) rfl ⟨rfl, ?_⟩
      exact ((((((HK.out.trans HKR.out).setCell (Nat.le_add_right _ 1) _).setCell (Nat.le_add_right _ 1) _).setCell (Nat.le_add_right _ 1) _).setCell (Nat.le_add_right _ 1) _).setCell (Nat.le_add_right _ 1) _).setCell (Nat.le_add_right _ 1) _
end Go.Proofs.YtjieofiaoepccaaGreatDoor

