/-
  What is proved: the helper Entries of layer 8's laws returns true of two slices that hold the same entries; the document's Same of layer 8 (P8.7) tells whether two states are the same, its Covers of layer 9 (P9.3) whether one is what is joined of both; the world has new blocks at most.
  the helper Long of layer 8's laws tells whether a state is more than is gone through there; the world has new blocks at most.
  the document's Right of layer 8 (P8.1), called with any state whose texts are of bounded length, tells whether it is right; the helper fine of layer 9's laws tells whether a state is right, and not more than is gone through; the world has new blocks at most.
-/
import Derived.Test.YtkooihljddibfaaGreatM24
import Derived.Test.YtkooihljddibfaaGreatM18
import Derived.Test.YtkooihljddibfaaGreatM31
import Derived.Test.YtkooihljddibfaaGreatM16
import Derived.Test.YtkooihljddibfaaGreatM10
import Derived.Test.YtkooihljddibfaaGreatERight
import Derived.Test.YtkooihljddibfaaGreatM8
import Derived.Test.YtkooihljddibfaaGreatM17
import Derived.Test.YtkooihljddibfaaGreatPlan
import Derived.Test.YtkooihljddibfaaGreatM30
namespace Go.Proofs.YtkooihljddibfaaGreat
open Go.RowKit
set_option linter.unusedVariables false

set_option maxRecDepth 100000 in
set_option maxHeartbeats 8000000 in
theorem rsame_any (A : Option Addr) (n c : Nat) (B : Option Addr) (m k : Nat) (D : Option Addr) (p q : Nat) (a : Sta) (A' : Option Addr) (n' c' : Nat) (B' : Option Addr) (m' k' : Nat) (D' : Option Addr) (p' q' : Nat) (b : Sta) (w : World)
    (h : Stt w A n c B m k D p q a.L a.V a.C) (h' : Stt w A' n' c' B' m' k' D' p' q' b.L b.V b.C) (r : Bool) (hr : r = true ↔ a.L = b.L ∧ a.V = b.V ∧ a.C = b.C) :
    Calls Tryz.prog 14 #[.agg #[.slice A n c, .slice B m k, .slice D p q], .agg #[.slice A' n' c', .slice B' m' k', .slice D' p' q']] w fun e w' => e = .returned (.bool r) ∧ Kept w w' := by
  have hk := ((Kept.refl w).alloc #[.slice A n c, .slice B m k, .slice D p q] 28).alloc #[.slice A' n' c', .slice B' m' k', .slice D' p' q'] 28
  have b0 := (Box3.new w (.slice A n c) (.slice B m k) (.slice D p q) 28).kept ((Kept.refl _).alloc #[.slice A' n' c', .slice B' m' k', .slice D' p' q'] 28)
  have b1 := Box3.new (w.alloc (.cells #[.slice A n c, .slice B m k, .slice D p q] 28)) (.slice A' n' c') (.slice B' m' k') (.slice D' p' q') 28
  rw [show (w.alloc (.cells #[.slice A n c, .slice B m k, .slice D p q] 28)).heap.size = w.heap.size + 1 by simp] at b1
  have hcap := h.el.cap.1; have hcap2 := h.el.cap.2; have hcap' := h'.el.cap.1; have hcap2' := h'.el.cap.2
  have HN := Lib.hid h.el.1; have HN' := Lib.hid h'.el.1
  have HS := Lib.hid (h.kept hk); have HS' := Lib.hid (h'.kept hk)
  have HR := Lib.hid hr; have HK := Lib.hid hk
  have HB0 := Lib.hid b0; have HB1 := Lib.hid b1
  have y0 := b0.c0; have y1 := b0.c1; have y2 := b0.c2; have z0 := b1.c0; have z1 := b1.c1; have z2 := b1.c2
  clear h h' hr hk b0 b1
  by_cases hn : n = n'
  · subst hn
    obtain ⟨r0, hr0⟩ : ∃ r0, decide (a.V = b.V ∧ a.C = b.C) = r0 := ⟨_, rfl⟩
    have AC := Lib.hid (rsameC_any B m k a.V D p q a.C B' m' k' b.V D' p' q' b.C _ HS.out.il HS.out.dl HS'.out.il HS'.out.dl r0 hr0)
    have HR0 := Lib.hid hr0
    clear hr0
    cases r0 with
    | false =>
      have HF := Lib.hid (show false = r by
        rw [eq_comm, ← Bool.not_eq_true, HR.out]
        exact fun hh => (decide_eq_false_iff_not.1 HR0.out) hh.2)
      go_enter Tryz.func14, Tryz.ntmps14
      go_wp2_with fail
      go_at_call 34
      refine AC.out.mono ?_
      rintro e w1 ⟨rfl, hk1⟩
      have HK1 := Lib.hid (HK.out.trans hk1)
      clear hk1 y0 y1 y2 z0 z1 z2
      go_wp2_with fail
      go_ret
      exact ⟨ret_bool HF.out, HK1.out⟩
    | true =>
      go_enter Tryz.func14, Tryz.ntmps14
      go_wp2_with fail
      go_at_call 34
      refine AC.out.mono ?_
      rintro e w1 ⟨rfl, hk1⟩
      have HK1 := Lib.hid (HK.out.trans hk1)
      replace HS := Lib.hid (HS.out.kept hk1); replace HS' := Lib.hid (HS'.out.kept hk1)
      replace HB0 := Lib.hid (HB0.out.kept hk1); replace HB1 := Lib.hid (HB1.out.kept hk1)
      clear hk1 y0 y1 y2 z0 z1 z2
      have y0 := HB0.out.c0
      go_wp2_with fail
      clear y0
      go_loopw [24] (fun i wr => ∃ j : Nat, j ≤ n ∧ i = .int .i64 j ∧ Kept w1 wr ∧ ∀ i, i < j → a.L[i]? = b.L[i]?) (fun i _ => n - (intOf i).toNat)
      case atStart => exact ⟨0, Nat.zero_le _, rfl, Kept.refl _, fun i hi => absurd hi (by omega)⟩
      case round =>
        obtain ⟨j, hj, rfl, hkr, hall⟩ := hrel
        have HR2 := Lib.hid hkr
        have HA := Lib.hid hall
        clear hkr hall
        by_cases hlt : j < n
        · obtain ⟨g, o, y, hgA, hy, EY⟩ := (HS.out.el.kept HR2.out).get hlt
          obtain ⟨g', o', x, hgA', hx, EX⟩ := (HS'.out.el.kept HR2.out).get hlt
          have v0 := KExt.cell (HB0.out.kept HR2.out).c0; have v1 := KExt.cell (HB1.out.kept HR2.out).c0
          rw [hgA] at v0
          rw [hgA'] at v1
          have y0 := KExt.cell EY.c0; have y1 := KExt.cell EY.c1; have y2 := KExt.cell EY.c2; have y3 := KExt.cell EY.c3; have y4 := KExt.cell EY.c4; have y5 := KExt.cell EY.c5; have y6 := KExt.cell EY.c6; have y7 := KExt.cell EY.c7; have y8 := KExt.cell EY.c8
          have x0 := KExt.cell EX.c0; have x1 := KExt.cell EX.c1; have x2 := KExt.cell EX.c2; have x3 := KExt.cell EX.c3; have x4 := KExt.cell EX.c4; have x5 := KExt.cell EX.c5; have x6 := KExt.cell EX.c6; have x7 := KExt.cell EX.c7; have x8 := KExt.cell EX.c8
          have HY := Lib.hid hy
          have HX := Lib.hid hx
          clear hy hx EY EX hgA hgA'
          by_cases hyy : y = x
          · have HN2 := Lib.hid (show ∀ i, i < j + 1 → a.L[i]? = b.L[i]? from fun i hi => by
              rcases Nat.lt_or_ge i j with h | h
              · exact HA.out i h
              · obtain rfl : i = j := by omega
                rw [HY.out, HX.out, hyy])
            obtain ⟨d0, d1, d2, d3, d4, d5, d6, d7, d8⟩ := en_eq hyy
            clear hyy
            go_wp2_with fail
            refine region_kept _ (by kernel_rfl) (by kernel_rfl) (Kept.refl _) ?_
            repeat (go_big_quiet_step (fail))
            refine wpQuiet_nil ?_
            intro G
            clear v0 v1 y0 y1 y2 y3 y4 y5 y6 y7 y8 x0 x1 x2 x3 x4 x5 x6 x7 x8
            go_wp2_with fail
            go_roundw
            case rel => exact ⟨j + 1, hlt, by go_num, HR2.out.trans G.g, HN2.out⟩
            case measure => simp [intOf]; omega
          · have HF := Lib.hid (show false = r by
              rw [eq_comm, ← Bool.not_eq_true, HR.out]
              intro hh
              have e1 := HX.out
              rw [← hh.1, HY.out] at e1
              exact hyy (Option.some.inj e1))
            rcases en_ne hyy with d0 | ⟨d0, d1⟩ | ⟨d0, d1, d2⟩ | ⟨d0, d1, d2, d3⟩ | ⟨d0, d1, d2, d3, d4⟩ | ⟨d0, d1, d2, d3, d4, d5⟩ | ⟨d0, d1, d2, d3, d4, d5, d6⟩ | ⟨d0, d1, d2, d3, d4, d5, d6, d7⟩ | ⟨d0, d1, d2, d3, d4, d5, d6, d7, d8⟩
            all_goals
              clear hyy
              go_wp2_with fail
              refine region_kept _ (by kernel_rfl) (by kernel_rfl) (Kept.refl _) ?_
              repeat (go_big_quiet_step (fail))
              refine wpQuiet_nil ?_
              intro G
              clear v0 v1 y0 y1 y2 y3 y4 y5 y6 y7 y8 x0 x1 x2 x3 x4 x5 x6 x7 x8
              go_wp2_with fail
              go_ret
              exact ⟨ret_bool HF.out, HK1.out.trans (HR2.out.trans G.g)⟩
        · obtain rfl : j = n := by omega
          have HF := Lib.hid (show true = r by
            rw [eq_comm, HR.out]
            refine ⟨List.ext_getElem? fun i => ?_, of_decide_eq_true HR0.out⟩
            rcases Nat.lt_or_ge i j with h | h
            · exact HA.out i h
            · rw [List.getElem?_eq_none (by have := HN.out; omega), List.getElem?_eq_none (by have := HN'.out; omega)])
          go_wp2_with fail
          go_ret
          exact ⟨ret_bool HF.out, HK1.out.trans HR2.out⟩
  · have d1 : ((n : Int) != n') = true := by simp; omega
    have HF := Lib.hid (show false = r by
      rw [eq_comm, ← Bool.not_eq_true, HR.out]
      intro hh
      have := HN.out; have := HN'.out
      rw [hh.1] at *
      omega)
    clear hn
    go_enter Tryz.func14, Tryz.ntmps14
    go_wp2_with fail
    go_ret
    exact ⟨ret_bool HF.out, HK.out⟩

end Go.Proofs.YtkooihljddibfaaGreat

namespace Go.Proofs.YtkooihljddibfaaGreat
open Go.RowKit
set_option linter.unusedVariables false

/-- What is gone through. -/
def ShortS (L : List En) (n m p : Nat) : Prop := (∀ x ∈ L, x.p.size ≤ 200 ∧ x.vt.size ≤ 300) ∧ n ≤ 60 ∧ m ≤ 64 ∧ p ≤ 60
set_option maxRecDepth 100000 in
set_option maxHeartbeats 8000000 in
theorem slong_any (A : Option Addr) (n c : Nat) (B : Option Addr) (m k : Nat) (D : Option Addr) (p q : Nat) (L : List En) (V : List Int) (C : List (Int × Int)) (w : World)
    (h : El w A n c L) (hi : Il w B m k V) (hd : Dl w D p q C) (hw : ∀ x ∈ L, x.p.size ≤ 9223372036854775807 ∧ x.vt.size ≤ 9223372036854775807) (r : Bool) (hr : r = true ↔ ¬ ShortS L n m p) :
    Calls Tryz.prog 5 #[.agg #[.slice A n c, .slice B m k, .slice D p q]] w fun e w' => e = .returned (.bool r) ∧ Kept w w' := by
  have hk := (Kept.refl w).alloc #[.slice A n c, .slice B m k, .slice D p q] 28
  have hcap := h.cap.1; have hcap2 := h.cap.2; have hiap := hi.cap.1; have hiap2 := hi.cap.2; have hdap := hd.cap.1; have hdap2 := hd.cap.2
  have HNL := Lib.hid h.1; have HSZ := Lib.hid hw; have HR := Lib.hid hr
  have HB := Lib.hid (Box3.new w (.slice A n c) (.slice B m k) (.slice D p q) 28)
  have HH := Lib.hid (h.kept hk)
  obtain ⟨U, hU⟩ : ∃ U, w.alloc (.cells #[.slice A n c, .slice B m k, .slice D p q] 28) = U := ⟨_, rfl⟩
  rw [hU] at hk HB HH
  have HK := Lib.hid hk; have HUU := Lib.hid hU
  have d0 := HB.out.c0
  clear h hi hd hw hr hk hU
  go_enter Tryz.func5, Tryz.ntmps5
  go_wp2_with fail
  rw [HUU.out]
  go_wp2_with fail
  clear d0
  go_loopw [8] (fun i wr => ∃ t : Nat, t ≤ n ∧ i = .int .i64 t ∧ Kept U wr ∧ ∀ x ∈ L.take t, x.p.size ≤ 200 ∧ x.vt.size ≤ 300) (fun i _ => n - (intOf i).toNat)
  case atStart => exact ⟨0, Nat.zero_le _, rfl, Kept.refl _, fun x hx => by simp at hx⟩
  case round =>
    obtain ⟨t, ht, rfl, hkr, hall⟩ := hrel
    have HKR := Lib.hid hkr; have HA := Lib.hid hall
    clear hkr hall
    by_cases hlt : t < n
    · obtain ⟨g, o, x, rfl, hx, EX⟩ := (HH.out.kept HKR.out).get hlt
      have x0 := EX.c0; have x1 := EX.c1; have x2 := EX.c2; have x3 := EX.c3; have x4 := EX.c4; have x5 := EX.c5; have x6 := EX.c6; have x7 := EX.c7; have x8 := EX.c8
      have HE := Ent.new wr x 34
      have z0 := HE.c0; have z1 := HE.c1; have z2 := HE.c2; have z3 := HE.c3; have z4 := HE.c4; have z5 := HE.c5; have z6 := HE.c6; have z7 := HE.c7; have z8 := HE.c8
      have hsx := HSZ.out x (List.mem_of_getElem? hx)
      have hs1 := hsx.1; have hs2 := hsx.2
      have HXX := Lib.hid hx
      have HKA := Lib.hid ((Kept.refl wr).alloc #[.int .i64 x.d.1, .int .i64 x.d.2, .string x.p, .int .i64 x.k, .int .i64 x.vk, .int .i64 x.vn, .string x.vt, .int .i64 x.e.1, .int .i64 x.e.2] 34)
      clear EX hx HE hsx
      by_cases h1 : 200 < x.p.size
      · have f1 : decide ((200 : Int) < (x.p.size : Int)) = true := decide_eq_true (by omega)
        have f2 : decide (200 < x.p.size) = true := decide_eq_true h1
        have HF := Lib.hid (show true = r from (HR.out.2 fun hs => by have := (hs.1 x (List.mem_of_getElem? HXX.out)).1; omega).symm)
        clear h1
        go_wp2_with fail
        go_ret
        exact ⟨ret_bool HF.out, HK.out.trans (HKR.out.trans HKA.out)⟩
      · have f1 : decide ((200 : Int) < (x.p.size : Int)) = false := decide_eq_false (by omega)
        have f2 : decide (200 < x.p.size) = false := decide_eq_false h1
        by_cases h2 : 300 < x.vt.size
        · have f3 : decide ((300 : Int) < (x.vt.size : Int)) = true := decide_eq_true (by omega)
          have f4 : decide (300 < x.vt.size) = true := decide_eq_true h2
          have HF := Lib.hid (show true = r from (HR.out.2 fun hs => by have := (hs.1 x (List.mem_of_getElem? HXX.out)).2; omega).symm)
          clear h1 h2
          go_wp2_with fail
          go_ret
          exact ⟨ret_bool HF.out, HK.out.trans (HKR.out.trans HKA.out)⟩
        · have f3 : decide ((300 : Int) < (x.vt.size : Int)) = false := decide_eq_false (by omega)
          have f4 : decide (300 < x.vt.size) = false := decide_eq_false h2
          have HN := Lib.hid (show ∀ y ∈ L.take (t + 1), y.p.size ≤ 200 ∧ y.vt.size ≤ 300 from fun y hy => by
            rw [List.take_add_one, HXX.out, Option.toList_some, List.mem_append, List.mem_singleton] at hy
            rcases hy with hy | rfl
            · exact HA.out y hy
            · omega)
          clear h1 h2
          go_wp2_with fail
          go_roundw
          case rel => exact ⟨t + 1, hlt, by go_num, HKR.out.trans HKA.out, HN.out⟩
          case measure => simp [intOf]; omega
    · obtain rfl : t = n := by omega
      have HT := Lib.hid (show ∀ x ∈ L, x.p.size ≤ 200 ∧ x.vt.size ≤ 300 by
        have := HA.out
        rw [show L.take t = L from List.take_of_length_le (by rw [← HNL.out]; exact Nat.le_refl _)] at this
        exact this)
      have hb := HB.out.kept HKR.out
      have d0 := hb.c0; have d1 := hb.c1; have d2 := hb.c2
      clear hb
      by_cases h1 : 60 < t
      · have f1 : decide ((60 : Int) < (t : Int)) = true := decide_eq_true (by omega)
        have f2 : decide (60 < t) = true := decide_eq_true h1
        have HF := Lib.hid (show true = r from (HR.out.2 fun hs => by have := hs.2.1; omega).symm)
        clear h1
        go_wp2_with fail
        go_ret
        exact ⟨ret_bool HF.out, HK.out.trans HKR.out⟩
      · have f1 : decide ((60 : Int) < (t : Int)) = false := decide_eq_false (by omega)
        have f2 : decide (60 < t) = false := decide_eq_false h1
        by_cases h2 : 64 < m
        · have f3 : decide ((64 : Int) < (m : Int)) = true := decide_eq_true (by omega)
          have f4 : decide (64 < m) = true := decide_eq_true h2
          have HF := Lib.hid (show true = r from (HR.out.2 fun hs => by have := hs.2.2.1; omega).symm)
          clear h1 h2
          go_wp2_with fail
          go_ret
          exact ⟨ret_bool HF.out, HK.out.trans HKR.out⟩
        · have f3 : decide ((64 : Int) < (m : Int)) = false := decide_eq_false (by omega)
          have f4 : decide (64 < m) = false := decide_eq_false h2
          have f5 : decide ((60 : Int) < (p : Int)) = r := by
            rw [Bool.eq_iff_iff, decide_eq_true_iff, HR.out]
            exact ⟨fun hp hs => by have := hs.2.2.2; omega, fun hs => by
              by_cases h3 : 60 < p
              · omega
              · exact absurd ⟨HT.out, by omega, by omega, by omega⟩ hs⟩
          have HF := Lib.hid f5
          clear h1 h2 f5
          go_wp2_with fail
          go_ret
          exact ⟨ret_bool (by rw [← HF.out]), HK.out.trans HKR.out⟩
end Go.Proofs.YtkooihljddibfaaGreat

namespace Go.Proofs.YtkooihljddibfaaGreat
open Go.RowKit
set_option linter.unusedVariables false

/-- What is so of an entry at its place. -/
def EntR (L : List En) (V : List Int) (C : List (Int × Int)) (t : Nat) (x : En) : Prop := (∀ i y, t = i + 1 → L[i]? = some y → LtD y.d x.d) ∧ rightE x = true ∧ hasC V C x.d
theorem riseR_of {L : List En} (h : ∀ t x, L[t]? = some x → ∀ i y, t = i + 1 → L[i]? = some y → LtD y.d x.d) : RiseE L := List.pairwise_iff_getElem.2 fun i j hi hj hij => by
  obtain ⟨k, rfl⟩ : ∃ k, j = i + k + 1 := ⟨j - i - 1, by omega⟩
  clear hij
  induction k with
  | zero => exact h (i + 1) _ (List.getElem?_eq_getElem hj) i _ rfl (List.getElem?_eq_getElem hi)
  | succ k ih => exact (ih (by omega)).trans (h (i + (k + 1) + 1) _ (List.getElem?_eq_getElem hj) (i + k + 1) _ rfl (List.getElem?_eq_getElem (by omega)))
theorem stR_iff {L : List En} {V : List Int} {C : List (Int × Int)} (h : ∀ t x, L[t]? = some x → EntR L V C t x) : StOk L V C ↔ RightC V C := by
  refine ⟨fun k => k.ctx, fun hc => ⟨riseR_of fun t x ht => (h t x ht).1, fun x hx => ?_, hc, fun x hx => ?_⟩⟩
  · obtain ⟨t, ht⟩ := List.getElem?_of_mem hx
    exact (h t x ht).2.1
  · obtain ⟨t, ht⟩ := List.getElem?_of_mem hx
    exact (h t x ht).2.2
theorem rise_at {L : List En} (h : RiseE L) {j : Nat} {y x : En} (hy : L[j]? = some y) (hx : L[j + 1]? = some x) : LtD y.d x.d := by
  obtain ⟨h1, e1⟩ := List.getElem?_eq_some_iff.1 hy
  obtain ⟨h2, e2⟩ := List.getElem?_eq_some_iff.1 hx
  have := List.pairwise_iff_getElem.1 h j (j + 1) h1 h2 (Nat.lt_succ_self _)
  rw [e1, e2] at this
  exact this
set_option maxRecDepth 100000 in
set_option maxHeartbeats 16000000 in
theorem rsright_any (A : Option Addr) (n c : Nat) (L : List En) (B : Option Addr) (m k : Nat) (V : List Int) (D : Option Addr) (p q : Nat) (C : List (Int × Int)) (w : World)
    (h : El w A n c L) (hi : Il w B m k V) (hd : Dl w D p q C) (hsz : ∀ x ∈ L, x.p.size ≤ 1099511627776 ∧ x.vt.size ≤ 1099511627776) (r : Bool) (hr : r = true ↔ StOk L V C) :
    Calls Tryz.prog 6 #[.agg #[.slice A n c, .slice B m k, .slice D p q]] w fun e w' => e = .returned (.bool r) ∧ Kept w w' := by
  have hk := (Kept.refl w).alloc #[.slice A n c, .slice B m k, .slice D p q] 28
  have hcap := h.cap.1; have hcap2 := h.cap.2
  have HNL := Lib.hid h.1
  have HSZ := Lib.hid hsz
  have HR := Lib.hid hr
  have HB := Lib.hid (Box3.new w (.slice A n c) (.slice B m k) (.slice D p q) 28)
  have HH := Lib.hid (h.kept hk); have HI := Lib.hid (hi.kept hk); have HD := Lib.hid (hd.kept hk)
  obtain ⟨U, hU⟩ : ∃ U, w.alloc (.cells #[.slice A n c, .slice B m k, .slice D p q] 28) = U := ⟨_, rfl⟩
  rw [hU] at hk HB HH HI HD
  have HUU := Lib.hid hU; have HK := Lib.hid hk
  have d0 := HB.out.c0
  clear h hi hd hsz hr hk hU
  go_enter Tryz.func6, Tryz.ntmps6
  go_wp2_with fail
  rw [HUU.out]
  go_wp2_with fail
  clear d0
  go_loopw [8] (fun i wr => ∃ t : Nat, t ≤ n ∧ i = .int .i64 t ∧ Kept U wr ∧ ∀ j x, j < t → L[j]? = some x → EntR L V C j x) (fun i _ => n - (intOf i).toNat)
  case atStart => exact ⟨0, Nat.zero_le _, rfl, Kept.refl _, fun j x hj => absurd hj (by omega)⟩
  case round =>
    obtain ⟨t, ht, rfl, hkr, hall⟩ := hrel
    have HKR := Lib.hid hkr; have HA2 := Lib.hid hall
    clear hkr hall
    by_cases hlt : t < n
    · obtain ⟨g, o, x, hA, hx, EX⟩ := (HH.out.kept HKR.out).get hlt
      have HX := Lib.hid hx
      subst hA
      have x0 := EX.c0; have x1 := EX.c1; have x2 := EX.c2; have x3 := EX.c3; have x4 := EX.c4; have x5 := EX.c5; have x6 := EX.c6; have x7 := EX.c7; have x8 := EX.c8
      have HXE := Ent.new wr x 34
      have d0 := KExt.cell HXE.c0; have d1 := KExt.cell HXE.c1; have d2 := KExt.cell HXE.c2; have d3 := KExt.cell HXE.c3; have d4 := KExt.cell HXE.c4; have d5 := KExt.cell HXE.c5; have d6 := KExt.cell HXE.c6; have d7 := KExt.cell HXE.c7; have d8 := KExt.cell HXE.c8
      have hkx := HKR.out.alloc #[.int .i64 x.d.1, .int .i64 x.d.2, .string x.p, .int .i64 x.k, .int .i64 x.vk, .int .i64 x.vn, .string x.vt, .int .i64 x.e.1, .int .i64 x.e.2] 34
      have hbx := HB.out.kept hkx
      have e0 := KExt.cell hbx.c0; have e1 := KExt.cell hbx.c1; have e2 := KExt.cell hbx.c2
      obtain ⟨qq, hq⟩ : ∃ qq, rightE x = qq := ⟨_, rfl⟩
      obtain ⟨zz, hz⟩ : ∃ zz, decide (hasC V C x.d) = zz := ⟨_, rfl⟩
      have AR := Lib.hid (fun w => reright_c x qq hq w (HSZ.out x (List.mem_of_getElem? hx)).1 (HSZ.out x (List.mem_of_getElem? hx)).2)
      have HQ := Lib.hid hq; have HZ := Lib.hid hz; have HKX := Lib.hid hkx
      clear EX hx HXE hkx hbx hq hz
      cases qq with
      | false =>
        have HF := Lib.hid (show false = r by rw [eq_comm, ← Bool.not_eq_true, HR.out]; intro hh; have := hh.ent x (List.mem_of_getElem? HX.out); rw [HQ.out] at this; cases this)
        go_wp2_with fail
        refine region_plan (wr.alloc (.cells #[.int .i64 x.d.1, .int .i64 x.d.2, .string x.p, .int .i64 x.k, .int .i64 x.vk, .int .i64 x.vn, .string x.vt, .int .i64 x.e.1, .int .i64 x.e.2] 34)) 26 (.read [0] (.one 1 (.read [2, 3, 4, 5, 6, 7] (.one 8 (.read [9, 10, 11, 12, 13, 14, 15, 16, 17, 18, 19, 20, 21] (.one 22 (.read [23, 24, 25] .stop))))))) (by kernel_rfl) (by kernel_rfl) (by kernel_rfl) (by kernel_rfl) (by kernel_rfl) (fun _ d _ _ _ h => by cases d <;> exact h) (Kept.refl _) ?_
        intro wd hwd
        have HV := Lib.hid hwd
        clear hwd
        rw [wpPlan_read]
        simp only [pickOps_cons, pickOps_nil, consO_some, List.getElem?_cons_zero]
        repeat (go_big_quiet_step (fail))
        refine wpQuiet_nil ?_
        rw [wpPlan_one]
        simp only [pickOps_cons, pickOps_nil, consO_some, List.getElem?_cons_zero, List.getElem?_cons_succ]
        go_wp2_with (go_at_call 22; refine (AR.out _).mono ?_; rintro e uz ⟨rfl, hkz⟩)
        replace HV := Lib.hid (HV.out.trans hkz)
        clear hkz
        refine soloP HV.out ?_
        rw [wpPlan_read]
        simp only [pickOps_cons, pickOps_nil, consO_some, List.getElem?_cons_zero, List.getElem?_cons_succ]
        repeat (go_big_quiet_step (fail))
        refine wpQuiet_nil ?_
        rw [wpPlan_one]
        simp only [pickOps_cons, pickOps_nil, consO_some, List.getElem?_cons_zero, List.getElem?_cons_succ]
        go_wp2_with fail
        refine soloP HV.out ?_
        rw [wpPlan_read]
        simp only [pickOps_cons, pickOps_nil, consO_some, List.getElem?_cons_zero, List.getElem?_cons_succ]
        repeat (go_big_quiet_step (fail))
        refine wpQuiet_nil ?_
        rw [wpPlan_one]
        simp only [pickOps_cons, pickOps_nil, consO_some, List.getElem?_cons_zero, List.getElem?_cons_succ]
        go_wp2_with fail
        refine soloP HV.out ?_
        rw [wpPlan_read]
        simp only [pickOps_cons, pickOps_nil, consO_some, List.getElem?_cons_zero, List.getElem?_cons_succ]
        repeat (go_big_quiet_step (fail))
        refine wpQuiet_nil ?_
        refine wpPlan_stop ?_
        clear d0 d1 d2 d3 d4 d5 d6 d7 d8 e0 e1 e2
        go_wp2_with fail
        go_ret
        exact ⟨ret_bool HF.out, HK.out.trans (HKX.out.trans HV.out)⟩
      | true =>
        cases zz with
        | false =>
          have HF := Lib.hid (show false = r by rw [eq_comm, ← Bool.not_eq_true, HR.out]; intro hh; exact (decide_eq_false_iff_not.1 HZ.out) (hh.known x (List.mem_of_getElem? HX.out)))
          go_wp2_with fail
          refine region_plan (wr.alloc (.cells #[.int .i64 x.d.1, .int .i64 x.d.2, .string x.p, .int .i64 x.k, .int .i64 x.vk, .int .i64 x.vn, .string x.vt, .int .i64 x.e.1, .int .i64 x.e.2] 34)) 26 (.read [0] (.one 1 (.read [2, 3, 4, 5, 6, 7] (.one 8 (.read [9, 10, 11, 12, 13, 14, 15, 16, 17, 18, 19, 20, 21] (.one 22 (.read [23, 24, 25] .stop))))))) (by kernel_rfl) (by kernel_rfl) (by kernel_rfl) (by kernel_rfl) (by kernel_rfl) (fun _ d _ _ _ h => by cases d <;> exact h) (Kept.refl _) ?_
          intro wd hwd
          have HV := Lib.hid hwd
          clear hwd
          rw [wpPlan_read]
          simp only [pickOps_cons, pickOps_nil, consO_some, List.getElem?_cons_zero]
          repeat (go_big_quiet_step (fail))
          refine wpQuiet_nil ?_
          rw [wpPlan_one]
          simp only [pickOps_cons, pickOps_nil, consO_some, List.getElem?_cons_zero, List.getElem?_cons_succ]
          go_wp2_with (go_at_call 22; refine (AR.out _).mono ?_; rintro e uz ⟨rfl, hkz⟩)
          replace HV := Lib.hid (HV.out.trans hkz)
          clear hkz
          refine soloP HV.out ?_
          rw [wpPlan_read]
          simp only [pickOps_cons, pickOps_nil, consO_some, List.getElem?_cons_zero, List.getElem?_cons_succ]
          repeat (go_big_quiet_step (fail))
          refine wpQuiet_nil ?_
          rw [wpPlan_one]
          simp only [pickOps_cons, pickOps_nil, consO_some, List.getElem?_cons_zero, List.getElem?_cons_succ]
          go_wp2_with (go_at_call 23; refine (rhasC_any B m k V D p q C x.d.1 x.d.2 _ (HI.out.kept (HKX.out.trans HV.out)) (HD.out.kept (HKX.out.trans HV.out)) _ HZ.out).mono ?_; rintro e uz ⟨rfl, hkz⟩)
          replace HV := Lib.hid (HV.out.trans hkz)
          clear hkz
          refine soloP HV.out ?_
          rw [wpPlan_read]
          simp only [pickOps_cons, pickOps_nil, consO_some, List.getElem?_cons_zero, List.getElem?_cons_succ]
          repeat (go_big_quiet_step (fail))
          refine wpQuiet_nil ?_
          rw [wpPlan_one]
          simp only [pickOps_cons, pickOps_nil, consO_some, List.getElem?_cons_zero, List.getElem?_cons_succ]
          go_wp2_with fail
          refine soloP HV.out ?_
          rw [wpPlan_read]
          simp only [pickOps_cons, pickOps_nil, consO_some, List.getElem?_cons_zero, List.getElem?_cons_succ]
          repeat (go_big_quiet_step (fail))
          refine wpQuiet_nil ?_
          refine wpPlan_stop ?_
          clear d0 d1 d2 d3 d4 d5 d6 d7 d8 e0 e1 e2
          go_wp2_with fail
          go_ret
          exact ⟨ret_bool HF.out, HK.out.trans (HKX.out.trans HV.out)⟩
        | true =>
          rcases Nat.eq_zero_or_pos t with h6 | h6
          · have f2 : decide ((0 : Int) < (t : Int)) = false := decide_eq_false (by omega)
            have f3 : decide (0 < t) = false := decide_eq_false (by omega)
            have HN := Lib.hid (show ∀ j y, j < t + 1 → L[j]? = some y → EntR L V C j y from fun j' y hj hy => by
              rcases Nat.lt_or_ge j' t with h | h
              · exact HA2.out j' y h hy
              · obtain rfl : j' = t := by omega
                obtain rfl := Option.some.inj (hy.symm.trans HX.out)
                exact ⟨fun i y hi => by omega, HQ.out, of_decide_eq_true HZ.out⟩)
            clear h6
            go_wp2_with fail
            refine region_plan (wr.alloc (.cells #[.int .i64 x.d.1, .int .i64 x.d.2, .string x.p, .int .i64 x.k, .int .i64 x.vk, .int .i64 x.vn, .string x.vt, .int .i64 x.e.1, .int .i64 x.e.2] 34)) 26 (.read [0] (.one 1 (.read [2, 3, 4, 5, 6, 7] (.one 8 (.read [9, 10, 11, 12, 13, 14, 15, 16, 17, 18, 19, 20, 21] (.one 22 (.read [23, 24, 25] .stop))))))) (by kernel_rfl) (by kernel_rfl) (by kernel_rfl) (by kernel_rfl) (by kernel_rfl) (fun _ d _ _ _ h => by cases d <;> exact h) (Kept.refl _) ?_
            intro wd hwd
            have HV := Lib.hid hwd
            clear hwd
            rw [wpPlan_read]
            simp only [pickOps_cons, pickOps_nil, consO_some, List.getElem?_cons_zero]
            repeat (go_big_quiet_step (fail))
            refine wpQuiet_nil ?_
            rw [wpPlan_one]
            simp only [pickOps_cons, pickOps_nil, consO_some, List.getElem?_cons_zero, List.getElem?_cons_succ]
            go_wp2_with (go_at_call 22; refine (AR.out _).mono ?_; rintro e uz ⟨rfl, hkz⟩)
            replace HV := Lib.hid (HV.out.trans hkz)
            clear hkz
            refine soloP HV.out ?_
            rw [wpPlan_read]
            simp only [pickOps_cons, pickOps_nil, consO_some, List.getElem?_cons_zero, List.getElem?_cons_succ]
            repeat (go_big_quiet_step (fail))
            refine wpQuiet_nil ?_
            rw [wpPlan_one]
            simp only [pickOps_cons, pickOps_nil, consO_some, List.getElem?_cons_zero, List.getElem?_cons_succ]
            go_wp2_with (go_at_call 23; refine (rhasC_any B m k V D p q C x.d.1 x.d.2 _ (HI.out.kept (HKX.out.trans HV.out)) (HD.out.kept (HKX.out.trans HV.out)) _ HZ.out).mono ?_; rintro e uz ⟨rfl, hkz⟩)
            replace HV := Lib.hid (HV.out.trans hkz)
            clear hkz
            refine soloP HV.out ?_
            rw [wpPlan_read]
            simp only [pickOps_cons, pickOps_nil, consO_some, List.getElem?_cons_zero, List.getElem?_cons_succ]
            repeat (go_big_quiet_step (fail))
            refine wpQuiet_nil ?_
            rw [wpPlan_one]
            simp only [pickOps_cons, pickOps_nil, consO_some, List.getElem?_cons_zero, List.getElem?_cons_succ]
            go_wp2_with fail
            refine soloP HV.out ?_
            rw [wpPlan_read]
            simp only [pickOps_cons, pickOps_nil, consO_some, List.getElem?_cons_zero, List.getElem?_cons_succ]
            repeat (go_big_quiet_step (fail))
            refine wpQuiet_nil ?_
            refine wpPlan_stop ?_
            clear d0 d1 d2 d3 d4 d5 d6 d7 d8 e0 e1 e2
            go_wp2_with fail
            go_roundw
            case rel => exact ⟨t + 1, hlt, by go_num, HKX.out.trans HV.out, HN.out⟩
            case measure => simp [intOf]; omega
          · have f2 : decide ((0 : Int) < (t : Int)) = true := decide_eq_true (by omega)
            have f3 : decide (0 < t) = true := decide_eq_true h6
            obtain ⟨j, hkj⟩ : ∃ j, t = j + 1 := ⟨t - 1, by omega⟩
            have hsub2 : IntKind.i64.wrap ((t : Int) - 1) = (j : Int) := by rw [IntWalk.i64_in _ (by omega)]; omega
            have hjm : j < n := by omega
            obtain ⟨g', o', y, hA', hy, EY⟩ := (HH.out.kept HKX.out).get hjm
            obtain ⟨rfl, rfl⟩ : g = g' ∧ o = o' := by simpa using hA'
            have y0 := KExt.cell EY.c0; have y1 := KExt.cell EY.c1; have y2 := KExt.cell EY.c2; have y3 := KExt.cell EY.c3; have y4 := KExt.cell EY.c4; have y5 := KExt.cell EY.c5; have y6 := KExt.cell EY.c6; have y7 := KExt.cell EY.c7; have y8 := KExt.cell EY.c8
            have HY := Lib.hid hy; have HKJ := Lib.hid hkj
            obtain ⟨z, hzz⟩ : ∃ z, cmpD y.d x.d = z := ⟨_, rfl⟩
            have AC := Lib.hid (fun w => recmp_c y x z hzz w)
            have HZZ := Lib.hid hzz
            clear hy EY hA' hkj hzz h6
            by_cases h7 : z < 0
            · have f4 : decide (0 ≤ z) = false := decide_eq_false (by omega)
              have HN := Lib.hid (show ∀ j y, j < t + 1 → L[j]? = some y → EntR L V C j y from fun j' y' hj hy => by
                rcases Nat.lt_or_ge j' t with h | h
                · exact HA2.out j' y' h hy
                · obtain rfl : j' = t := by omega
                  obtain rfl := Option.some.inj (hy.symm.trans HX.out)
                  refine ⟨fun i y2 hi hy2 => ?_, HQ.out, of_decide_eq_true HZ.out⟩
                  obtain rfl : i = j := by have := HKJ.out; omega
                  obtain rfl := Option.some.inj (hy2.symm.trans HY.out)
                  exact (cmpD_lt _ _).1 (by rw [HZZ.out]; exact h7))
              clear h7
              go_wp2_with fail
              refine region_plan (wr.alloc (.cells #[.int .i64 x.d.1, .int .i64 x.d.2, .string x.p, .int .i64 x.k, .int .i64 x.vk, .int .i64 x.vn, .string x.vt, .int .i64 x.e.1, .int .i64 x.e.2] 34)) 26 (.read [0] (.one 1 (.read [2, 3, 4, 5, 6, 7] (.one 8 (.read [9, 10, 11, 12, 13, 14, 15, 16, 17, 18, 19, 20, 21] (.one 22 (.read [23, 24, 25] .stop))))))) (by kernel_rfl) (by kernel_rfl) (by kernel_rfl) (by kernel_rfl) (by kernel_rfl) (fun _ d _ _ _ h => by cases d <;> exact h) (Kept.refl _) ?_
              intro wd hwd
              have HV := Lib.hid hwd
              clear hwd
              rw [wpPlan_read]
              simp only [pickOps_cons, pickOps_nil, consO_some, List.getElem?_cons_zero]
              repeat (go_big_quiet_step (fail))
              refine wpQuiet_nil ?_
              rw [wpPlan_one]
              simp only [pickOps_cons, pickOps_nil, consO_some, List.getElem?_cons_zero, List.getElem?_cons_succ]
              go_wp2_with (go_at_call 22; refine (AR.out _).mono ?_; rintro e uz ⟨rfl, hkz⟩)
              replace HV := Lib.hid (HV.out.trans hkz)
              clear hkz
              refine soloP HV.out ?_
              rw [wpPlan_read]
              simp only [pickOps_cons, pickOps_nil, consO_some, List.getElem?_cons_zero, List.getElem?_cons_succ]
              repeat (go_big_quiet_step (fail))
              refine wpQuiet_nil ?_
              rw [wpPlan_one]
              simp only [pickOps_cons, pickOps_nil, consO_some, List.getElem?_cons_zero, List.getElem?_cons_succ]
              go_wp2_with (go_at_call 23; refine (rhasC_any B m k V D p q C x.d.1 x.d.2 _ (HI.out.kept (HKX.out.trans HV.out)) (HD.out.kept (HKX.out.trans HV.out)) _ HZ.out).mono ?_; rintro e uz ⟨rfl, hkz⟩)
              replace HV := Lib.hid (HV.out.trans hkz)
              clear hkz
              refine soloP HV.out ?_
              rw [wpPlan_read]
              simp only [pickOps_cons, pickOps_nil, consO_some, List.getElem?_cons_zero, List.getElem?_cons_succ]
              repeat (go_big_quiet_step (fail))
              refine wpQuiet_nil ?_
              rw [wpPlan_one]
              simp only [pickOps_cons, pickOps_nil, consO_some, List.getElem?_cons_zero, List.getElem?_cons_succ]
              go_wp2_with (go_at_call 24; refine (AC.out _).mono ?_; rintro e uz ⟨rfl, hkz⟩)
              replace HV := Lib.hid (HV.out.trans hkz)
              clear hkz
              refine soloP HV.out ?_
              rw [wpPlan_read]
              simp only [pickOps_cons, pickOps_nil, consO_some, List.getElem?_cons_zero, List.getElem?_cons_succ]
              repeat (go_big_quiet_step (fail))
              refine wpQuiet_nil ?_
              refine wpPlan_stop ?_
              clear d0 d1 d2 d3 d4 d5 d6 d7 d8 e0 e1 e2 y0 y1 y2 y3 y4 y5 y6 y7 y8
              go_wp2_with fail
              go_roundw
              case rel => exact ⟨t + 1, hlt, by go_num, HKX.out.trans HV.out, HN.out⟩
              case measure => simp [intOf]; omega
            · have f4 : decide (0 ≤ z) = true := decide_eq_true (by omega)
              have HF := Lib.hid (show false = r by
                rw [eq_comm, ← Bool.not_eq_true, HR.out]
                intro hh
                have h8 := rise_at hh.rise HY.out (by rw [← HKJ.out]; exact HX.out)
                exact h7 (by rw [← HZZ.out]; exact (cmpD_lt _ _).2 h8))
              clear h7
              go_wp2_with fail
              refine region_plan (wr.alloc (.cells #[.int .i64 x.d.1, .int .i64 x.d.2, .string x.p, .int .i64 x.k, .int .i64 x.vk, .int .i64 x.vn, .string x.vt, .int .i64 x.e.1, .int .i64 x.e.2] 34)) 26 (.read [0] (.one 1 (.read [2, 3, 4, 5, 6, 7] (.one 8 (.read [9, 10, 11, 12, 13, 14, 15, 16, 17, 18, 19, 20, 21] (.one 22 (.read [23, 24, 25] .stop))))))) (by kernel_rfl) (by kernel_rfl) (by kernel_rfl) (by kernel_rfl) (by kernel_rfl) (fun _ d _ _ _ h => by cases d <;> exact h) (Kept.refl _) ?_
              intro wd hwd
              have HV := Lib.hid hwd
              clear hwd
              rw [wpPlan_read]
              simp only [pickOps_cons, pickOps_nil, consO_some, List.getElem?_cons_zero]
              repeat (go_big_quiet_step (fail))
              refine wpQuiet_nil ?_
              rw [wpPlan_one]
              simp only [pickOps_cons, pickOps_nil, consO_some, List.getElem?_cons_zero, List.getElem?_cons_succ]
              go_wp2_with (go_at_call 22; refine (AR.out _).mono ?_; rintro e uz ⟨rfl, hkz⟩)
              replace HV := Lib.hid (HV.out.trans hkz)
              clear hkz
              refine soloP HV.out ?_
              rw [wpPlan_read]
              simp only [pickOps_cons, pickOps_nil, consO_some, List.getElem?_cons_zero, List.getElem?_cons_succ]
              repeat (go_big_quiet_step (fail))
              refine wpQuiet_nil ?_
              rw [wpPlan_one]
              simp only [pickOps_cons, pickOps_nil, consO_some, List.getElem?_cons_zero, List.getElem?_cons_succ]
              go_wp2_with (go_at_call 23; refine (rhasC_any B m k V D p q C x.d.1 x.d.2 _ (HI.out.kept (HKX.out.trans HV.out)) (HD.out.kept (HKX.out.trans HV.out)) _ HZ.out).mono ?_; rintro e uz ⟨rfl, hkz⟩)
              replace HV := Lib.hid (HV.out.trans hkz)
              clear hkz
              refine soloP HV.out ?_
              rw [wpPlan_read]
              simp only [pickOps_cons, pickOps_nil, consO_some, List.getElem?_cons_zero, List.getElem?_cons_succ]
              repeat (go_big_quiet_step (fail))
              refine wpQuiet_nil ?_
              rw [wpPlan_one]
              simp only [pickOps_cons, pickOps_nil, consO_some, List.getElem?_cons_zero, List.getElem?_cons_succ]
              go_wp2_with (go_at_call 24; refine (AC.out _).mono ?_; rintro e uz ⟨rfl, hkz⟩)
              replace HV := Lib.hid (HV.out.trans hkz)
              clear hkz
              refine soloP HV.out ?_
              rw [wpPlan_read]
              simp only [pickOps_cons, pickOps_nil, consO_some, List.getElem?_cons_zero, List.getElem?_cons_succ]
              repeat (go_big_quiet_step (fail))
              refine wpQuiet_nil ?_
              refine wpPlan_stop ?_
              clear d0 d1 d2 d3 d4 d5 d6 d7 d8 e0 e1 e2 y0 y1 y2 y3 y4 y5 y6 y7 y8
              go_wp2_with fail
              go_ret
              exact ⟨ret_bool HF.out, HK.out.trans (HKX.out.trans HV.out)⟩
    · obtain rfl : t = n := by omega
      obtain ⟨u, hu⟩ : ∃ u : Bool, u = true ↔ RightC V C := by
        by_cases e : RightC V C
        · exact ⟨true, fun _ => e, fun _ => rfl⟩
        · exact ⟨false, (fun h => by cases h), fun h => absurd h e⟩
      have HF := Lib.hid (show u = r by
        rw [Bool.eq_iff_iff, hu, HR.out]
        exact (stR_iff fun j x hj => HA2.out j x (by have := (List.getElem?_eq_some_iff.1 hj).1; have := HNL.out; omega) hj).symm)
      have AR := Lib.hid (rrightC_any B m k V D p q C _ (HI.out.kept HKR.out) (HD.out.kept HKR.out) u hu)
      have hb := HB.out.kept HKR.out
      have d0 := hb.c0; have d1 := hb.c1; have d2 := hb.c2
      clear hb hu
      go_wp2_with fail
      go_at_call 25
      refine AR.out.mono ?_
      rintro e w1 ⟨rfl, hk1⟩
      go_wp2_with fail
      go_ret
      exact ⟨ret_bool HF.out, HK.out.trans (HKR.out.trans hk1)⟩

end Go.Proofs.YtkooihljddibfaaGreat

