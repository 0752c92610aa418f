/-
  What is proved: slices.BinarySearchFunc at dots, with dot.Cmp, called with any rising slice of dots and any dot, returns its place and whether it is there; the world has new blocks at most.
-/
import Derived.Test.YtgofecnpmohmgaaDHas
import Derived.BigQuiet
namespace Go.Proofs.Ytgofecnpmohmgaa
open Go.RowKit

set_option maxRecDepth 100000 in
set_option maxHeartbeats 2000000 in
theorem search_any (A : Option Addr) (n c : Nat) (L : List (Int × Int)) (x1 x2 : Int) (w : World) (h : Dl w A n c L) (hr : Rise L) (hn : n ≤ 1000000) :
    Calls Try.prog 57 #[.slice A n c, .agg #[.int .i64 x1, .int .i64 x2], .func (.func 58) #[] #[]] w
      fun e w' => ∃ k : Nat, e = .returned (.tuple #[.int .i64 k, .bool (decide ((x1, x2) ∈ L))]) ∧ k ≤ n ∧ (∀ y ∈ L.take k, LtD y (x1, x2)) ∧ ((x1, x2) ∉ L → ∀ y ∈ L.drop k, LtD (x1, x2) y) ∧ Kept w w' := by
  have hc1 := h.cap.1
  have hc2 := h.cap.2
  have HD := Lib.hid h
  have HR := Lib.hid hr
  clear h hr
  go_enter Try.func57, Try.ntmps57
  go_wp2_with fail
  go_loopw [9, 10] (fun i j wr => ∃ a b : Nat, a ≤ b ∧ b ≤ n ∧ i = .int .i64 a ∧ j = .int .i64 b ∧ Kept (w.alloc (.cells #[.int .i64 x1, .int .i64 x2] 36)) wr ∧ (∀ t y, t < a → L[t]? = some y → LtD y (x1, x2)) ∧ (∀ t y, b ≤ t → L[t]? = some y → ¬ LtD y (x1, x2))) (fun i j _ => (intOf j).toNat - (intOf i).toNat)
  case atStart => exact ⟨0, n, Nat.zero_le _, Nat.le_refl _, rfl, rfl, Kept.refl _, fun t y ht => absurd ht (by omega), fun t y ht hy => absurd (List.getElem?_eq_some_iff.1 hy).1 (by have := HD.out.1; omega)⟩
  case round =>
    obtain ⟨a, b, hab, hbn, rfl, rfl, hkr, hlo, hhi⟩ := hrel
    have HK := Lib.hid hkr
    have HLO := Lib.hid hlo
    have HHI := Lib.hid hhi
    have d0 := KExt.cell hkr.box0
    have d1 := KExt.cell hkr.box1
    clear hkr hlo hhi
    by_cases hlt : a < b
    · obtain ⟨m, hm⟩ : ∃ m : Nat, ((a : Int) + b) / 2 = (m : Int) := ⟨(a + b) / 2, by omega⟩
      have hma : a ≤ m := by omega
      have hmb : m < b := by omega
      have hmn : m < n := by omega
      have HM := Lib.hid hm
      clear hm
      go_wp2_with fail
      rw [HM.out]
      obtain ⟨g, o, ⟨y1, y2⟩, rfl, hy, g1, g2⟩ := (HD.out.kept (((Kept.refl w).alloc _ _).trans HK.out)).get hmn
      have c1 := KExt.cell g1
      have c2 := KExt.cell g2
      simp only at c1 c2
      have HY := Lib.hid hy
      clear g1 g2 hy
      obtain ⟨r, hrr⟩ : ∃ r, cmpD (y1, y2) (x1, x2) = r := ⟨_, rfl⟩
      have AC := Lib.hid (fun w => dcmp_c (y1, y2) (x1, x2) r hrr w)
      by_cases hl : LtD (y1, y2) (x1, x2)
      · have hr0 : decide (r < 0) = true := by rw [decide_eq_true_iff, ← hrr]; exact (cmpD_lt _ _).2 hl
        have HN := Lib.hid (show ∀ t y, t < m + 1 → L[t]? = some y → LtD y (x1, x2) from fun t y ht hy2 => by
          rcases Nat.lt_or_ge t m with h3 | h3
          · have h4 : LtD y (y1, y2) := by
              have hp := List.pairwise_iff_getElem.1 HR.out
              obtain ⟨e1, e2⟩ := List.getElem?_eq_some_iff.1 hy2
              obtain ⟨e3, e4⟩ := List.getElem?_eq_some_iff.1 HY.out
              have := hp t m e1 e3 h3
              rwa [e2, e4] at this
            exact h4.trans hl
          · obtain rfl : t = m := by omega
            obtain rfl := Option.some.inj (hy2.symm.trans HY.out)
            exact hl)
        clear hl hrr
        refine region_kept _ (by kernel_rfl) (by kernel_rfl) (Kept.refl _) ?_
        repeat (go_big_quiet_step ((first
          | (go_at_call 58; (with_reducible exact KExt.callsK (AC.out _)))
          | fail)))
        refine wpQuiet_nil ?_
        intro G
        clear c1 c2 d0 d1
        go_wp2_with fail
        go_roundw
        case rel => exact ⟨m + 1, b, by omega, hbn, by go_num, rfl, HK.out.trans G.g, HN.out, HHI.out⟩
        case measure => simp [intOf]; omega
      · have hr0 : decide (r < 0) = false := by rw [decide_eq_false_iff_not, ← hrr, cmpD_lt]; exact hl
        have HN := Lib.hid (show ∀ t y, m ≤ t → L[t]? = some y → ¬ LtD y (x1, x2) from fun t y ht hy2 h5 => by
          rcases Nat.lt_or_ge m t with h3 | h3
          · have h4 : LtD (y1, y2) y := by
              have hp := List.pairwise_iff_getElem.1 HR.out
              obtain ⟨e1, e2⟩ := List.getElem?_eq_some_iff.1 hy2
              obtain ⟨e3, e4⟩ := List.getElem?_eq_some_iff.1 HY.out
              have := hp m t e3 e1 h3
              rwa [e2, e4] at this
            exact hl (h4.trans h5)
          · obtain rfl : t = m := by omega
            obtain rfl := Option.some.inj (hy2.symm.trans HY.out)
            exact hl h5)
        clear hl hrr
        refine region_kept _ (by kernel_rfl) (by kernel_rfl) (Kept.refl _) ?_
        repeat (go_big_quiet_step ((first
          | (go_at_call 58; (with_reducible exact KExt.callsK (AC.out _)))
          | fail)))
        refine wpQuiet_nil ?_
        intro G
        clear c1 c2 d0 d1
        go_wp2_with fail
        go_roundw
        case rel => exact ⟨a, m, by omega, by omega, rfl, rfl, HK.out.trans G.g, HLO.out, HN.out⟩
        case measure => simp [intOf]; omega
    · obtain rfl : a = b := by omega
      have HT := Lib.hid (show ∀ y ∈ L.take a, LtD y (x1, x2) from fun y hy => by
        obtain ⟨t, ht⟩ := List.getElem?_of_mem hy
        rw [List.getElem?_take] at ht
        split at ht
        · exact HLO.out t y (by assumption) ht
        · cases ht)
      have HP := Lib.hid (show (x1, x2) ∉ L → ∀ y ∈ L.drop a, LtD (x1, x2) y from fun hno y hy => by
        obtain ⟨t, ht⟩ := List.getElem?_of_mem hy
        rw [List.getElem?_drop] at ht
        rcases LtD.tri y (x1, x2) with h3 | h3 | h3
        · exact absurd h3 (HHI.out _ y (by omega) ht)
        · exact absurd (h3 ▸ List.mem_of_getElem? ht) hno
        · exact h3)
      have HK2 := Lib.hid (((Kept.refl w).alloc _ _).trans HK.out)
      by_cases han : a < n
      · obtain ⟨g, o, ⟨y1, y2⟩, rfl, hy, g1, g2⟩ := (HD.out.kept (((Kept.refl w).alloc _ _).trans HK.out)).get han
        have c1 := KExt.cell g1
        have c2 := KExt.cell g2
        simp only at c1 c2
        have HY := Lib.hid hy
        clear g1 g2 hy
        obtain ⟨r, hrr⟩ : ∃ r, cmpD (y1, y2) (x1, x2) = r := ⟨_, rfl⟩
        have AC := Lib.hid (fun w => dcmp_c (y1, y2) (x1, x2) r hrr w)
        have HF := Lib.hid (show (r == 0) = decide ((x1, x2) ∈ L) by
          rw [Bool.eq_iff_iff, beq_iff_eq, decide_eq_true_iff, ← hrr, cmpD_eq]
          constructor
          · intro e; rw [← e]; exact List.mem_of_getElem? HY.out
          · intro hm
            obtain ⟨t, ht⟩ := List.getElem?_of_mem hm
            rcases Nat.lt_trichotomy t a with h3 | h3 | h3
            · exact absurd (HLO.out t _ h3 ht) (LtD.irrefl _)
            · subst h3
              exact Option.some.inj (HY.out.symm.trans ht)
            · exfalso
              have hp := List.pairwise_iff_getElem.1 HR.out
              obtain ⟨e1, e2⟩ := List.getElem?_eq_some_iff.1 ht
              obtain ⟨e3, e4⟩ := List.getElem?_eq_some_iff.1 HY.out
              have := hp a t e3 e1 h3
              rw [e2, e4] at this
              exact HHI.out a _ (Nat.le_refl _) HY.out this)
        clear hrr
        generalize hz : (r == 0) = z at HF
        go_wp2_with fail
        refine region_kept _ (by kernel_rfl) (by kernel_rfl) (Kept.refl _) ?_
        repeat (go_big_quiet_step ((first
          | (go_at_call 58; (with_reducible exact KExt.callsK (AC.out _)))
          | fail)))
        refine wpQuiet_nil ?_
        intro G
        clear c1 c2 d0 d1 hz
        go_wp2_with fail
        go_ret2
        exact ⟨a, by rw [← HF.out]; rfl, by omega, HT.out, HP.out, HK2.out.trans G.g⟩
      · have HF := Lib.hid (show decide ((x1, x2) ∈ L) = false by
          rw [decide_eq_false_iff_not]
          intro hm
          obtain ⟨t, ht⟩ := List.getElem?_of_mem hm
          have := (List.getElem?_eq_some_iff.1 ht).1
          exact LtD.irrefl _ (HLO.out t _ (by have := HD.out.1; omega) ht))
        go_wp2_with fail
        refine region_kept _ (by kernel_rfl) (by kernel_rfl) (Kept.refl _) ?_
        repeat (go_big_quiet_step (fail))
        refine wpQuiet_nil ?_
        intro G
        clear d0 d1
        go_wp2_with fail
        go_ret2
        exact ⟨a, by rw [HF.out]; rfl, by omega, HT.out, HP.out, HK2.out.trans G.g⟩
end Go.Proofs.Ytgofecnpmohmgaa
