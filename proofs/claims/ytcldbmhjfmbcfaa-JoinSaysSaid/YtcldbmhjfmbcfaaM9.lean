/-
  What is proved: dot.Has and the document's Has, called with any slice of dots that lies in memory and any dot, tell whether it is there (P5.7); the laws' Same tells whether two slices hold the same dots; the world has new blocks at most.
  slices.BinarySearchFunc at dots, with dot.Cmp, called with any rising slice of dots and any dot, returns its place and whether it is there; the world has new blocks at most.
  slices.Grow of the nil slice, and slices.Concat of any slices of dots (a million dots at most in all), as the library's text has them, at dots: the result lies in a row of its own and holds the slices' dots, one slice behind the other; the world has new blocks at most.
  dot.With, called with any rising slice of dots that lies in memory and any dot, returns the slice's dots with that one at its place (P5.5); the world has new blocks at most.
-/
import Derived.Test.YtcldbmhjfmbcfaaM7
import Derived.Test.YtcldbmhjfmbcfaaM1
import Derived.BigQuiet
import Derived.Test.YtcldbmhjfmbcfaaM8
namespace Go.Proofs.Ytcldbmhjfmbcfaa
open Go.RowKit

theorem dot_ne {x1 x2 y1 y2 : Int} (h : ¬ (y1, y2) = ((x1, x2) : Int × Int)) : (y1 == x1) = false ∨ ((y1 == x1) = true ∧ (y2 == x2) = false) := by
  simp only [Prod.mk.injEq, not_and] at h
  by_cases e : y1 = x1
  · exact .inr ⟨by simpa using e, by simpa using h e⟩
  · exact .inl (by simpa using e)
theorem mem_no {L : List (Int × Int)} {x : Int × Int} {n : Nat} (hn : L.length = n) (h : ∀ j, j < n → L[j]? ≠ some x) : decide (x ∈ L) = false := by
  rw [decide_eq_false_iff_not]
  intro hm
  obtain ⟨j, hj⟩ := List.getElem?_of_mem hm
  exact h j (by rw [← hn]; exact (List.getElem?_eq_some_iff.1 hj).1) hj

set_option maxRecDepth 100000 in
set_option maxHeartbeats 1000000 in
theorem dhas_any (A : Option Addr) (n c : Nat) (L : List (Int × Int)) (x1 x2 : Int) (w : World) (h : Dl w A n c L) :
    Calls Try.prog 79 #[.slice A n c, .agg #[.int .i64 x1, .int .i64 x2]] w fun e w' => e = .returned (.bool (decide ((x1, x2) ∈ L))) ∧ Kept w w' := by
  have hc1 := h.cap.1
  have hc2 := h.cap.2
  have HL := Lib.hid h.len
  have HD := Lib.hid h
  clear h
  go_enter Try.func79, Try.ntmps79
  go_wp2_with fail
  go_loopw [9] (fun i wr => ∃ k : Nat, k ≤ n ∧ i = .int .i64 k ∧ Kept (w.alloc (.cells #[.int .i64 x1, .int .i64 x2] 42)) wr ∧ ∀ j, j < k → L[j]? ≠ some (x1, x2)) (fun i _ => n - (intOf i).toNat)
  case atStart => exact ⟨0, Nat.zero_le _, rfl, Kept.refl _, fun j hj => absurd hj (by omega)⟩
  case round =>
    obtain ⟨k, hkn, rfl, hkr, hall⟩ := hrel
    have HA := Lib.hid hall
    have HR := Lib.hid hkr
    have d0 := hkr.box 0 _ rfl
    have d1 := hkr.box 1 _ rfl
    have hsz := lt_of_kept hkr
    have hne : ¬ w.heap.size = wr.heap.size := by omega
    have hne' : ¬ wr.heap.size = w.heap.size := by omega
    clear hall hkr
    by_cases hlt : k < n
    · obtain ⟨b, o, ⟨y1, y2⟩, rfl, hy, g1, g2⟩ := (HD.out.kept (((Kept.refl w).alloc _ _).trans HR.out)).get hlt
      have HY := Lib.hid hy
      clear hy
      simp only at g1 g2
      by_cases hx : ((y1, y2) : Int × Int) = (x1, x2)
      · have HF := Lib.hid (show decide (((x1, x2) : Int × Int) ∈ L) = true by rw [decide_eq_true_iff, ← hx]; exact List.mem_of_getElem? HY.out)
        simp only [Prod.mk.injEq] at hx
        have e1 : (y1 == x1) = true := by simpa using hx.1
        have e2 : (y2 == x2) = true := by simpa using hx.2
        clear hx
        go_wp2_with fail
        go_ret
        exact ⟨by rw [HF.out]; rfl, (((Kept.refl w).alloc _ _).trans HR.out).alloc _ _⟩
      · have HN := Lib.hid (show ∀ j, j < k + 1 → L[j]? ≠ some (x1, x2) from fun j hj he => by
          rcases Nat.lt_or_ge j k with h3 | h3
          · exact HA.out j h3 he
          · obtain rfl : j = k := by omega
            rw [HY.out] at he
            exact hx (Option.some.inj he))
        rcases dot_ne hx with e1 | ⟨e1, e2⟩
        · clear hx
          go_wp2_with fail
          go_roundw
          case rel => exact ⟨k + 1, hlt, by go_num, HR.out.alloc _ _, HN.out⟩
          case measure => simp [intOf]; omega
        · clear hx
          go_wp2_with fail
          go_roundw
          case rel => exact ⟨k + 1, hlt, by go_num, HR.out.alloc _ _, HN.out⟩
          case measure => simp [intOf]; omega
    · obtain rfl : k = n := by omega
      have HF := Lib.hid (mem_no HL.out HA.out)
      go_wp2_with fail
      go_ret
      exact ⟨by rw [HF.out]; rfl, ((Kept.refl w).alloc _ _).trans HR.out⟩
theorem dhas_c (A : Option Addr) (n c : Nat) (L : List (Int × Int)) (x : Int × Int) (r : Bool) (hr : decide (x ∈ L) = r) (w : World) (h : Dl w A n c L) :
    Calls Try.prog 79 #[.slice A n c, .agg #[.int .i64 x.1, .int .i64 x.2]] w fun e w' => e = .returned (.bool r) ∧ Kept w w' := by
  subst hr; exact dhas_any A n c L x.1 x.2 w h

set_option maxRecDepth 100000 in
set_option maxHeartbeats 1000000 in
theorem rhas_any (A : Option Addr) (n c : Nat) (L : List (Int × Int)) (x1 x2 : Int) (w : World) (h : Dl w A n c L) :
    Calls Try.prog 60 #[.slice A n c, .agg #[.int .i64 x1, .int .i64 x2]] w fun e w' => e = .returned (.bool (decide ((x1, x2) ∈ L))) ∧ Kept w w' := by
  have hc1 := h.cap.1
  have hc2 := h.cap.2
  have HL := Lib.hid h.len
  have HD := Lib.hid h
  clear h
  go_enter Try.func60, Try.ntmps60
  go_wp2_with fail
  go_loopw [9] (fun i wr => ∃ k : Nat, k ≤ n ∧ i = .int .i64 k ∧ Kept (w.alloc (.cells #[.int .i64 x1, .int .i64 x2] 42)) wr ∧ ∀ j, j < k → L[j]? ≠ some (x1, x2)) (fun i _ => n - (intOf i).toNat)
  case atStart => exact ⟨0, Nat.zero_le _, rfl, Kept.refl _, fun j hj => absurd hj (by omega)⟩
  case round =>
    obtain ⟨k, hkn, rfl, hkr, hall⟩ := hrel
    have HA := Lib.hid hall
    have HR := Lib.hid hkr
    have d0 := hkr.box 0 _ rfl
    have d1 := hkr.box 1 _ rfl
    have hsz := lt_of_kept hkr
    have hne : ¬ w.heap.size = wr.heap.size := by omega
    have hne' : ¬ wr.heap.size = w.heap.size := by omega
    clear hall hkr
    by_cases hlt : k < n
    · obtain ⟨b, o, ⟨y1, y2⟩, rfl, hy, g1, g2⟩ := (HD.out.kept (((Kept.refl w).alloc _ _).trans HR.out)).get hlt
      have HY := Lib.hid hy
      clear hy
      simp only at g1 g2
      by_cases hx : ((y1, y2) : Int × Int) = (x1, x2)
      · have HF := Lib.hid (show decide (((x1, x2) : Int × Int) ∈ L) = true by rw [decide_eq_true_iff, ← hx]; exact List.mem_of_getElem? HY.out)
        simp only [Prod.mk.injEq] at hx
        have e1 : (y1 == x1) = true := by simpa using hx.1
        have e2 : (y2 == x2) = true := by simpa using hx.2
        clear hx
        go_wp2_with fail
        go_ret
        exact ⟨by rw [HF.out]; rfl, (((Kept.refl w).alloc _ _).trans HR.out).alloc _ _⟩
      · have HN := Lib.hid (show ∀ j, j < k + 1 → L[j]? ≠ some (x1, x2) from fun j hj he => by
          rcases Nat.lt_or_ge j k with h3 | h3
          · exact HA.out j h3 he
          · obtain rfl : j = k := by omega
            rw [HY.out] at he
            exact hx (Option.some.inj he))
        rcases dot_ne hx with e1 | ⟨e1, e2⟩
        · clear hx
          go_wp2_with fail
          go_roundw
          case rel => exact ⟨k + 1, hlt, by go_num, HR.out.alloc _ _, HN.out⟩
          case measure => simp [intOf]; omega
        · clear hx
          go_wp2_with fail
          go_roundw
          case rel => exact ⟨k + 1, hlt, by go_num, HR.out.alloc _ _, HN.out⟩
          case measure => simp [intOf]; omega
    · obtain rfl : k = n := by omega
      have HF := Lib.hid (mem_no HL.out HA.out)
      go_wp2_with fail
      go_ret
      exact ⟨by rw [HF.out]; rfl, ((Kept.refl w).alloc _ _).trans HR.out⟩
theorem rhas_c (A : Option Addr) (n c : Nat) (L : List (Int × Int)) (x : Int × Int) (r : Bool) (hr : decide (x ∈ L) = r) (w : World) (h : Dl w A n c L) :
    Calls Try.prog 60 #[.slice A n c, .agg #[.int .i64 x.1, .int .i64 x.2]] w fun e w' => e = .returned (.bool r) ∧ Kept w w' := by
  subst hr; exact rhas_any A n c L x.1 x.2 w h
end Go.Proofs.Ytcldbmhjfmbcfaa

namespace Go.Proofs.Ytcldbmhjfmbcfaa
open Go.RowKit

set_option maxRecDepth 100000 in
set_option maxHeartbeats 2000000 in
theorem search_any (A : Option Addr) (n c : Nat) (L : List (Int × Int)) (x1 x2 : Int) (w : World) (h : Dl w A n c L) (hr : Rise L) (hn : n ≤ 1000000) :
    Calls Try.prog 47 #[.slice A n c, .agg #[.int .i64 x1, .int .i64 x2], .func (.func 48) #[] #[]] w
      fun e w' => ∃ k : Nat, e = .returned (.tuple #[.int .i64 k, .bool (decide ((x1, x2) ∈ L))]) ∧ k ≤ n ∧ (∀ y ∈ L.take k, LtD y (x1, x2)) ∧ ((x1, x2) ∉ L → ∀ y ∈ L.drop k, LtD (x1, x2) y) ∧ Kept w w' := by
  have hc1 := h.cap.1
  have hc2 := h.cap.2
  have HD := Lib.hid h
  have HR := Lib.hid hr
  clear h hr
  go_enter Try.func47, Try.ntmps47
  go_wp2_with fail
  go_loopw [9, 10] (fun i j wr => ∃ a b : Nat, a ≤ b ∧ b ≤ n ∧ i = .int .i64 a ∧ j = .int .i64 b ∧ Kept (w.alloc (.cells #[.int .i64 x1, .int .i64 x2] 42)) wr ∧ (∀ t y, t < a → L[t]? = some y → LtD y (x1, x2)) ∧ (∀ t y, b ≤ t → L[t]? = some y → ¬ LtD y (x1, x2))) (fun i j _ => (intOf j).toNat - (intOf i).toNat)
  case atStart => exact ⟨0, n, Nat.zero_le _, Nat.le_refl _, rfl, rfl, Kept.refl _, fun t y ht => absurd ht (by omega), fun t y ht hy => absurd (List.getElem?_eq_some_iff.1 hy).1 (by have := HD.out.1; omega)⟩
  case round =>
    obtain ⟨a, b, hab, hbn, rfl, rfl, hkr, hlo, hhi⟩ := hrel
    have HK := Lib.hid hkr
    have HLO := Lib.hid hlo
    have HHI := Lib.hid hhi
    have d0 := KExt.cell hkr.box0
    have d1 := KExt.cell hkr.box1
    clear hkr hlo hhi
    by_cases hlt : a < b
    · obtain ⟨m, hm⟩ : ∃ m : Nat, ((a : Int) + b) / 2 = (m : Int) := ⟨(a + b) / 2, by omega⟩
      have hma : a ≤ m := by omega
      have hmb : m < b := by omega
      have hmn : m < n := by omega
      have HM := Lib.hid hm
      clear hm
      go_wp2_with fail
      rw [HM.out]
      obtain ⟨g, o, ⟨y1, y2⟩, rfl, hy, g1, g2⟩ := (HD.out.kept (((Kept.refl w).alloc _ _).trans HK.out)).get hmn
      have c1 := KExt.cell g1
      have c2 := KExt.cell g2
      simp only at c1 c2
      have HY := Lib.hid hy
      clear g1 g2 hy
      obtain ⟨r, hrr⟩ : ∃ r, cmpD (y1, y2) (x1, x2) = r := ⟨_, rfl⟩
      have AC := Lib.hid (fun w => dcmp_c (y1, y2) (x1, x2) r hrr w)
      by_cases hl : LtD (y1, y2) (x1, x2)
      · have hr0 : decide (r < 0) = true := by rw [decide_eq_true_iff, ← hrr]; exact (cmpD_lt _ _).2 hl
        have HN := Lib.hid (show ∀ t y, t < m + 1 → L[t]? = some y → LtD y (x1, x2) from fun t y ht hy2 => by
          rcases Nat.lt_or_ge t m with h3 | h3
          · have h4 : LtD y (y1, y2) := by
              have hp := List.pairwise_iff_getElem.1 HR.out
              obtain ⟨e1, e2⟩ := List.getElem?_eq_some_iff.1 hy2
              obtain ⟨e3, e4⟩ := List.getElem?_eq_some_iff.1 HY.out
              have := hp t m e1 e3 h3
              rwa [e2, e4] at this
            exact h4.trans hl
          · obtain rfl : t = m := by omega
            obtain rfl := Option.some.inj (hy2.symm.trans HY.out)
            exact hl)
        clear hl hrr
        refine region_kept _ (by kernel_rfl) (by kernel_rfl) (Kept.refl _) ?_
        repeat (go_big_quiet_step ((first
          | (go_at_call 48; (with_reducible exact KExt.callsK (AC.out _)))
          | fail)))
        refine wpQuiet_nil ?_
        intro G
        clear c1 c2 d0 d1
        go_wp2_with fail
        go_roundw
        case rel => exact ⟨m + 1, b, by omega, hbn, by go_num, rfl, HK.out.trans G.g, HN.out, HHI.out⟩
        case measure => simp [intOf]; omega
      · have hr0 : decide (r < 0) = false := by rw [decide_eq_false_iff_not, ← hrr, cmpD_lt]; exact hl
        have HN := Lib.hid (show ∀ t y, m ≤ t → L[t]? = some y → ¬ LtD y (x1, x2) from fun t y ht hy2 h5 => by
          rcases Nat.lt_or_ge m t with h3 | h3
          · have h4 : LtD (y1, y2) y := by
              have hp := List.pairwise_iff_getElem.1 HR.out
              obtain ⟨e1, e2⟩ := List.getElem?_eq_some_iff.1 hy2
              obtain ⟨e3, e4⟩ := List.getElem?_eq_some_iff.1 HY.out
              have := hp m t e3 e1 h3
              rwa [e2, e4] at this
            exact hl (h4.trans h5)
          · obtain rfl : t = m := by omega
            obtain rfl := Option.some.inj (hy2.symm.trans HY.out)
            exact hl h5)
        clear hl hrr
        refine region_kept _ (by kernel_rfl) (by kernel_rfl) (Kept.refl _) ?_
        repeat (go_big_quiet_step ((first
          | (go_at_call 48; (with_reducible exact KExt.callsK (AC.out _)))
          | fail)))
        refine wpQuiet_nil ?_
        intro G
        clear c1 c2 d0 d1
        go_wp2_with fail
        go_roundw
        case rel => exact ⟨a, m, by omega, by omega, rfl, rfl, HK.out.trans G.g, HLO.out, HN.out⟩
        case measure => simp [intOf]; omega
    · obtain rfl : a = b := by omega
      have HT := Lib.hid (show ∀ y ∈ L.take a, LtD y (x1, x2) from fun y hy => by
        obtain ⟨t, ht⟩ := List.getElem?_of_mem hy
        rw [List.getElem?_take] at ht
        split at ht
        · exact HLO.out t y (by assumption) ht
        · cases ht)
      have HP := Lib.hid (show (x1, x2) ∉ L → ∀ y ∈ L.drop a, LtD (x1, x2) y from fun hno y hy => by
        obtain ⟨t, ht⟩ := List.getElem?_of_mem hy
        rw [List.getElem?_drop] at ht
        rcases LtD.tri y (x1, x2) with h3 | h3 | h3
        · exact absurd h3 (HHI.out _ y (by omega) ht)
        · exact absurd (h3 ▸ List.mem_of_getElem? ht) hno
        · exact h3)
      have HK2 := Lib.hid (((Kept.refl w).alloc _ _).trans HK.out)
      by_cases han : a < n
      · obtain ⟨g, o, ⟨y1, y2⟩, rfl, hy, g1, g2⟩ := (HD.out.kept (((Kept.refl w).alloc _ _).trans HK.out)).get han
        have c1 := KExt.cell g1
        have c2 := KExt.cell g2
        simp only at c1 c2
        have HY := Lib.hid hy
        clear g1 g2 hy
        obtain ⟨r, hrr⟩ : ∃ r, cmpD (y1, y2) (x1, x2) = r := ⟨_, rfl⟩
        have AC := Lib.hid (fun w => dcmp_c (y1, y2) (x1, x2) r hrr w)
        have HF := Lib.hid (show (r == 0) = decide ((x1, x2) ∈ L) by
          rw [Bool.eq_iff_iff, beq_iff_eq, decide_eq_true_iff, ← hrr, cmpD_eq]
          constructor
          · intro e; rw [← e]; exact List.mem_of_getElem? HY.out
          · intro hm
            obtain ⟨t, ht⟩ := List.getElem?_of_mem hm
            rcases Nat.lt_trichotomy t a with h3 | h3 | h3
            · exact absurd (HLO.out t _ h3 ht) (LtD.irrefl _)
            · subst h3
              exact Option.some.inj (HY.out.symm.trans ht)
            · exfalso
              have hp := List.pairwise_iff_getElem.1 HR.out
              obtain ⟨e1, e2⟩ := List.getElem?_eq_some_iff.1 ht
              obtain ⟨e3, e4⟩ := List.getElem?_eq_some_iff.1 HY.out
              have := hp a t e3 e1 h3
              rw [e2, e4] at this
              exact HHI.out a _ (Nat.le_refl _) HY.out this)
        clear hrr
        generalize hz : (r == 0) = z at HF
        go_wp2_with fail
        refine region_kept _ (by kernel_rfl) (by kernel_rfl) (Kept.refl _) ?_
        repeat (go_big_quiet_step ((first
          | (go_at_call 48; (with_reducible exact KExt.callsK (AC.out _)))
          | fail)))
        refine wpQuiet_nil ?_
        intro G
        clear c1 c2 d0 d1 hz
        go_wp2_with fail
        go_ret2
        exact ⟨a, by rw [← HF.out]; rfl, by omega, HT.out, HP.out, HK2.out.trans G.g⟩
      · have HF := Lib.hid (show decide ((x1, x2) ∈ L) = false by
          rw [decide_eq_false_iff_not]
          intro hm
          obtain ⟨t, ht⟩ := List.getElem?_of_mem hm
          have := (List.getElem?_eq_some_iff.1 ht).1
          exact LtD.irrefl _ (HLO.out t _ (by have := HD.out.1; omega) ht))
        go_wp2_with fail
        refine region_kept _ (by kernel_rfl) (by kernel_rfl) (Kept.refl _) ?_
        repeat (go_big_quiet_step (fail))
        refine wpQuiet_nil ?_
        intro G
        clear d0 d1
        go_wp2_with fail
        go_ret2
        exact ⟨a, by rw [HF.out]; rfl, by omega, HT.out, HP.out, HK2.out.trans G.g⟩
end Go.Proofs.Ytcldbmhjfmbcfaa

namespace Go.Proofs.Ytcldbmhjfmbcfaa
open Go.RowKit

set_option maxRecDepth 100000 in
set_option maxHeartbeats 1000000 in
theorem grow_nilD (n : Nat) (w : World) (hn : n ≤ 1000000) :
    Calls Try.prog 76 #[.slice none 0 0, .int .i64 n] w fun e w' => ∃ v, e = .returned v ∧ w'.ownsRow w.heap.size 42 2 v 0 [] ∧ Kept w w' := by
  rcases Nat.eq_zero_or_pos n with h0 | h0
  · subst h0
    go_enter Try.func76, Try.ntmps76
    go_wp2
    go_ret
    exact ⟨_, rfl, World.ownsRow_nil _ _ _ _, Kept.refl _⟩
  · obtain ⟨i0, hi0, hz0, hz1, hz2⟩ := info_parts infoDot
    have hrz := Lib.run_append_grow_zeros (P := Try.prog) w 24 3 24 42 i0 (.agg #[.int .i64 0, .int .i64 0]) .i64 .i64 Try.underlying24 Try.underlying3 hi0 hz0 none 0 0 [] (run_firstCells_none w.drew i0.size 0 0 0) n h0 (by omega) (by omega) (by omega) (by rw [hz2]; omega)
      (growslice_fits (by omega) (by rw [hz2]; omega))
    have hG1 := grownCap_ge w (0 + n) 0 42
    have hG2 := grownCap_le_maxLen w (0 + n) 0 42 (by simp only [maxLen]; omega)
    generalize grownCap w (0 + n) 0 42 = G at hrz hG1 hG2
    have hsz : (([] : List Value).toArray ++ Builtin.zeroCells (Value.agg #[.int .i64 0, .int .i64 0]).cells n ++ Builtin.zeroCells (Value.agg #[.int .i64 0, .int .i64 0]).cells (G - (0 + n))).size = G * 2 := by
      rw [Array.size_append, Array.size_append, size_zeroCells, size_zeroCells]
      simp [Value.cells]; omega
    generalize ([] : List Value).toArray ++ Builtin.zeroCells (Value.agg #[.int .i64 0, .int .i64 0]).cells n ++ Builtin.zeroCells (Value.agg #[.int .i64 0, .int .i64 0]).cells (G - (0 + n)) = cs at hrz hsz
    rw [Nat.zero_add] at hrz hG1
    have HE := Lib.hid (show (w.drew.alloc (.cells cs 42)).ownsRow w.heap.size 42 2 (.slice (some ⟨w.heap.size, 0, none⟩) 0 G) 0 [] from
      World.ownsRow_made w.drew cs G (Nat.le_refl _) hG2 (by rw [hsz]))
    have HRZ := Lib.hid hrz
    simp only [maxLen] at hG2
    clear hi0 hz0 hz1 hz2 hsz hrz
    go_enter Try.func76, Try.ntmps76
    go_wp2_with (at_builtin; refine Lib.wpList_append_run _ rfl _ _ _ _ rfl _ _ rfl rfl _ _ HRZ.out ?_)
    go_ret
    exact ⟨_, rfl, HE.out, ((Kept.refl _).drew).alloc _ _⟩

structure SD where
  A : Option Addr
  n : Nat
  c : Nat
  L : List (Int × Int)
def totD (SS : List SD) (k : Nat) : Nat := ((SS.take k).map (·.n)).sum
def catD (SS : List SD) (k : Nat) : List (Int × Int) := (SS.take k).flatMap (·.L)
theorem totD_succ (SS : List SD) (k : Nat) (s : SD) (h : SS[k]? = some s) : totD SS (k + 1) = totD SS k + s.n := by
  unfold totD; rw [List.take_add_one, h]; simp
theorem catD_succ (SS : List SD) (k : Nat) (s : SD) (h : SS[k]? = some s) : catD SS (k + 1) = catD SS k ++ s.L := by
  unfold catD; rw [List.take_add_one, h]; simp
theorem totD_le (SS : List SD) (k : Nat) : totD SS k ≤ totD SS SS.length := by
  unfold totD
  rw [List.take_length]
  induction SS generalizing k with
  | nil => simp
  | cons a r ih =>
    cases k with
    | zero => simp
    | succ k => have := ih k; simp only [List.take_succ_cons, List.map_cons, List.sum_cons]; omega

set_option maxRecDepth 100000 in
set_option maxHeartbeats 2000000 in
theorem dconcat_any (bb : Nat) (SS : List SD) (w : World) (hN : SS.length ≤ 1000) (hT : totD SS SS.length ≤ 1000000)
    (hcell : ∀ k s, SS[k]? = some s → w.cell? ⟨bb, k, none⟩ = some (.slice s.A s.n s.c)) (hsrc : ∀ s ∈ SS, Dl w s.A s.n s.c s.L) :
    Calls Try.prog 56 #[.slice (some ⟨bb, 0, none⟩) SS.length SS.length] w fun e w' => ∃ v, e = .returned v ∧ w'.ownsRow w.heap.size 42 2 v (totD SS SS.length) (flatD (catD SS SS.length)) ∧ Kept w w' := by
  have HC := Lib.hid hcell
  have HS := Lib.hid hsrc
  have HT := Lib.hid (totD_le SS)
  clear hcell hsrc
  go_enter Try.func56, Try.ntmps56
  go_wp2
  go_loop [3, 11] (fun s i => ∃ k : Nat, k ≤ SS.length ∧ i = .int .i64 k ∧ s = .int .i64 (totD SS k)) (fun _ i => SS.length - (intOf i).toNat)
  case atStart => exact ⟨0, Nat.zero_le _, rfl, rfl⟩
  case round =>
    obtain ⟨k, hk, rfl, rfl⟩ := hrel
    have ht := HT.out k
    by_cases hlt : k < SS.length
    · obtain ⟨s, hs⟩ : ∃ s, SS[k]? = some s := ⟨_, List.getElem?_eq_getElem hlt⟩
      have g := HC.out k s hs
      have hcp := (HS.out s (List.mem_of_getElem? hs)).cap
      have hc1 := hcp.1
      have hc2 := hcp.2
      have ht2 := HT.out (k + 1)
      have HN := Lib.hid (totD_succ SS k s hs)
      have ht3 : totD SS k + s.n ≤ 1000000 := by have := HN.out; omega
      obtain ⟨sA, sn, sc, sL⟩ := s
      clear hs hcp ht2
      simp only at g hc1 hc2 ht3 HN
      go_wp2
      go_round
      case rel => exact ⟨k + 1, hlt, by go_num, by rw [HN.out]; go_num⟩
      case measure => simp [intOf]; omega
    · obtain rfl : k = SS.length := by omega
      clear ht
      go_wp2_with (go_at_call 76; ((with_reducible refine (grow_nilD _ _ hT).mono ?_); rintro e w1 ⟨v0, rfl, ho0, hk0⟩))
      have HO := Lib.hid ho0
      have HK := Lib.hid hk0
      clear ho0 hk0
      go_loopw [6, 27] (fun v i wr => ∃ k : Nat, k ≤ SS.length ∧ i = .int .i64 k ∧ wr.ownsRow w.heap.size 42 2 v (totD SS k) (flatD (catD SS k)) ∧ Kept w wr) (fun _ i _ => SS.length - (intOf i).toNat)
      case atStart => exact ⟨0, Nat.zero_le _, rfl, HO.out, HK.out⟩
      case round =>
        obtain ⟨k, hk, rfl, ho, hkw⟩ := hrel
        have HO2 := Lib.hid ho
        have HK2 := Lib.hid hkw
        clear ho hkw
        have ht := HT.out k
        by_cases hlt : k < SS.length
        · obtain ⟨s, hs⟩ : ∃ s, SS[k]? = some s := ⟨_, List.getElem?_eq_getElem hlt⟩
          have g := HK2.out.cell (HC.out k s hs)
          have HSR := Lib.hid ((HS.out s (List.mem_of_getElem? hs)).kept HK2.out)
          have hcp := HSR.out.cap
          have hc1 := hcp.1
          have hc2 := hcp.2
          have ht2 := HT.out (k + 1)
          have HN := Lib.hid (totD_succ SS k s hs)
          have HM := Lib.hid (catD_succ SS k s hs)
          have ht3 : totD SS k + s.n ≤ 1000000 := by have := HN.out; omega
          obtain ⟨sA, sn, sc, sL⟩ := s
          clear hs hcp ht2
          simp only at g hc1 hc2 ht3 HN HSR HM
          obtain ⟨v1, w1, hr1, ho1, hg1⟩ := app_dots _ _ _ _ _ HO2.out sA sn sc sL HSR.out (by omega) HK2.out.2.2
          have HR1 := Lib.hid hr1
          have HO3 := Lib.hid ho1
          have HK3 := Lib.hid (kept_grown HK2.out hg1 fun j hj => (HO2.out.lt j hj).1)
          clear hr1 ho1 hg1
          go_wp2_with (at_builtin; refine Lib.wpList_append_run _ rfl _ _ _ _ rfl _ _ rfl rfl _ _ HR1.out ?_)
          go_roundw
          case rel =>
            refine ⟨k + 1, hlt, by go_num, ?_, HK3.out⟩
            rw [HN.out, HM.out, flatD_app]
            exact HO3.out
          case measure => simp [intOf]; omega
        · obtain rfl : k = SS.length := by omega
          clear ht
          go_wp2
          go_ret
          exact ⟨_, rfl, HO2.out, HK2.out⟩
end Go.Proofs.Ytcldbmhjfmbcfaa

namespace Go.Proofs.Ytcldbmhjfmbcfaa
open Go.RowKit

theorem sizeD (W : World) : (Go.sizeOf (Try.prog.elem 24)).run Try.prog W = .ok 2 W := by kernel_rfl
theorem dl_head {w : World} {A : Option Addr} {n c k : Nat} {L : List (Int × Int)} (h : Dl w A n c L) (hk : k ≤ n) : Dl w A k c (L.take k) := by
  obtain ⟨h1, h2, h3, h4, h5⟩ := h
  refine ⟨by rw [List.length_take]; omega, by omega, h3, h4, ?_⟩
  rcases h5 with h0 | ⟨b, o, hA, hc⟩
  · exact .inl (by omega)
  · refine .inr ⟨b, o, hA, fun j x hj => hc j x ?_⟩
    rw [List.getElem?_take] at hj
    split at hj
    · exact hj
    · cases hj
theorem run_dhead (A : Option Addr) (n c k : Nat) (hk : k ≤ c) (W : World) :
    (Instr.slice 24 (.slice A n c) none (some (.int .i64 (k : Int))) none).run Try.prog W = .ok (.slice A k c) W := by
  rw [run_slice_h W 24 _ n c (by kernel_rfl) .i64 (k : Int) (by omega) (by omega), sizeD]
  cases A <;> simp [Result.andThen, sliced, Addr.add]
theorem run_dhead2 (A : Option Addr) (n c k : Nat) (hk : k ≤ c) (W : World) :
    (Instr.sliceAt 24 (.slice A n c) none (some (.int .i64 (k : Int))) none).run Try.prog W = .ok (.slice A k c) W := by
  rw [run_sliceAt_slice W _ _ _ _ _ (by kernel_rfl)]; exact run_dhead A n c k hk W
theorem dl_tail {w : World} {A : Option Addr} {n c k : Nat} {L : List (Int × Int)} (h : Dl w A n c L) (hk : k ≤ n) : ∃ A2, Dl w A2 (n - k) (c - k) (L.drop k) ∧
    (∀ W : World, (Instr.slice 24 (.slice A n c) (some (.int .i64 (k : Int))) none none).run Try.prog W = .ok (.slice A2 (n - k) (c - k)) W) ∧
    (∀ W : World, (Instr.sliceAt 24 (.slice A n c) (some (.int .i64 (k : Int))) none none).run Try.prog W = .ok (.slice A2 (n - k) (c - k)) W) := by
  obtain ⟨h1, h2, h3, h4, h5⟩ := h
  have hr : ∀ W : World, (Instr.slice 24 (.slice A n c) (some (.int .i64 (k : Int))) none none).run Try.prog W = .ok (.slice (if c = k then A else A.map (·.add (k * 2))) (n - k) (c - k)) W := fun W => by
    rw [run_slice_l W 24 _ n c (by kernel_rfl) .i64 (k : Int) (by omega) (by omega), sizeD]
    simp only [Result.andThen, sliced, Int.toNat_natCast]
  refine ⟨_, ?_, hr, fun W => by rw [run_sliceAt_slice W _ _ _ _ _ (by kernel_rfl)]; exact hr W⟩
  refine ⟨by rw [List.length_drop]; omega, by omega, by omega, fun he => ?_, ?_⟩
  · by_cases hc : c = k
    · omega
    · rw [if_neg hc, Option.map_eq_none_iff] at he
      have := h4 he
      omega
  · rcases h5 with h0 | ⟨b, o, hA, hc⟩
    · exact .inl (by omega)
    · by_cases hkn : k = n
      · exact .inl (by omega)
      · refine .inr ⟨b, o + k * 2, ?_, fun j x hj => ?_⟩
        · rw [if_neg (by omega), hA, Option.map_some, Addr.add_lit]
        · rw [List.getElem?_drop] at hj
          have := hc _ x hj
          rw [show o + k * 2 + j * 2 = o + (k + j) * 2 by omega]
          exact this

theorem dl_one (w : World) (x1 x2 : Int) (t : TypeId) : Dl (w.alloc (.cells #[.int .i64 x1, .int .i64 x2] t)) (some ⟨w.heap.size, 0, none⟩) 1 1 [(x1, x2)] := by
  refine ⟨rfl, Nat.le_refl _, by simp [maxLen], (fun h => by cases h), .inr ⟨w.heap.size, 0, rfl, fun j x hj => ?_⟩⟩
  match j, hj with
  | 0, hj =>
    obtain rfl : (x1, x2) = x := by simpa using hj
    exact ⟨by rw [World.cell?_alloc_new]; rfl, by rw [World.cell?_alloc_new]; rfl⟩
  | j + 1, hj => simp at hj

theorem concat3D (wd : World) (hb : Nat) (he : wd.heap.size = hb) (s0 s1 s2 : SD) (h0 : Dl wd s0.A s0.n s0.c s0.L) (h1 : Dl wd s1.A s1.n s1.c s1.L) (h2 : Dl wd s2.A s2.n s2.c s2.L) (hT : s0.n + s1.n + s2.n ≤ 1000000) (t : TypeId) :
    Calls Try.prog 56 #[.slice (some ⟨hb, 0, none⟩) 3 3] (wd.alloc (.cells #[.slice s0.A s0.n s0.c, .slice s1.A s1.n s1.c, .slice s2.A s2.n s2.c] t))
      fun e w' => ∃ v, e = .returned v ∧ w'.ownsRow (hb + 1) 42 2 v (s0.n + s1.n + s2.n) (flatD (s0.L ++ s1.L ++ s2.L)) ∧ Kept wd w' := by
  subst he
  have hk := (Kept.refl wd).alloc #[.slice s0.A s0.n s0.c, .slice s1.A s1.n s1.c, .slice s2.A s2.n s2.c] t
  have e1 : totD [s0, s1, s2] 3 = s0.n + s1.n + s2.n := by simp [totD]; omega
  have e2 : catD [s0, s1, s2] 3 = s0.L ++ s1.L ++ s2.L := by simp [catD]
  refine (dconcat_any wd.heap.size [s0, s1, s2] _ (by simp) (by show totD [s0, s1, s2] 3 ≤ _; omega) ?_ ?_).mono ?_
  · intro k s hks
    rw [World.cell?_alloc_new]
    match k, hks with
    | 0, hks => simp at hks; subst hks; rfl
    | 1, hks => simp at hks; subst hks; rfl
    | 2, hks => simp at hks; subst hks; rfl
    | k + 3, hks => simp at hks
  · intro s hs
    simp only [List.mem_cons, List.not_mem_nil, or_false] at hs
    rcases hs with rfl | rfl | rfl
    · exact h0.kept hk
    · exact h1.kept hk
    · exact h2.kept hk
  · rintro e w' ⟨v, rfl, ho, hw⟩
    have ho2 : w'.ownsRow (wd.alloc (.cells #[.slice s0.A s0.n s0.c, .slice s1.A s1.n s1.c, .slice s2.A s2.n s2.c] t)).heap.size 42 2 v (totD [s0, s1, s2] 3) (flatD (catD [s0, s1, s2] 3)) := ho
    rw [e1, e2] at ho2
    exact ⟨v, rfl, by simpa using ho2, hk.trans hw⟩

/-- What With leaves. -/
def Withs (A0 : Option Addr) (L : List (Int × Int)) (x : Int × Int) (w : World) (e : Ending) (w' : World) : Prop :=
  ∃ A m c X, e = .returned (.slice A m c) ∧ Dl w' A m c X ∧ WithD L x X ∧ m ≤ L.length + 1 ∧ Kept w w' ∧ (A = A0 ∨ ∀ ad, A = some ad → w.heap.size ≤ ad.block)

set_option maxRecDepth 100000 in
set_option maxHeartbeats 1000000 in
theorem dwith_yes (A : Option Addr) (n c : Nat) (L : List (Int × Int)) (x1 x2 : Int) (w : World) (h : Dl w A n c L) (hr : Rise L) (hn : n ≤ 1000000) (hm : (x1, x2) ∈ L) :
    Calls Try.prog 65 #[.slice A n c, .agg #[.int .i64 x1, .int .i64 x2]] w (Withs A L (x1, x2) w) := by
  have hz : decide ((x1, x2) ∈ L) = true := by simpa using hm
  have HM := Lib.hid (WithD.self hr hm)
  have HD := Lib.hid h
  have HL := Lib.hid h.1
  have HS := Lib.hid (search_any A n c L x1 x2 (w.alloc (.cells #[.int .i64 x1, .int .i64 x2] 42)) (h.kept ((Kept.refl _).alloc _ _)) hr hn)
  rw [hz] at HS
  clear h hr hm hz
  go_enter Try.func65, Try.ntmps65
  go_wp2_with fail
  go_at_call 47
  refine HS.out.mono ?_
  rintro e w1 ⟨k, rfl, hk, _, _, hkp⟩
  have HK := Lib.hid (((Kept.refl w).alloc #[.int .i64 x1, .int .i64 x2] 42).trans hkp)
  clear hkp
  go_wp2_with fail
  go_at_call 66
  refine (clone_any A n c L _ (HD.out.kept HK.out) hn).mono ?_
  rintro e w2 ⟨v, rfl, ho, hk2⟩
  obtain ⟨A2, c2, rfl, hd, hf⟩ := Dl.of_own' ho
  have HF := Lib.hid hf
  have HE := Lib.hid hd
  have HK2 := Lib.hid hk2
  clear ho hd hk2 hf
  go_wp2_with fail
  go_ret
  exact ⟨A2, n, c2, L, rfl, HE.out, HM.out, by have := HL.out; omega, HK.out.trans HK2.out, .inr fun ad e => Nat.le_trans HK.out.2.2 (HF.out ad e)⟩

set_option maxRecDepth 100000 in
set_option maxHeartbeats 1000000 in
theorem dwith_no (A : Option Addr) (n c : Nat) (L : List (Int × Int)) (x1 x2 : Int) (w : World) (h : Dl w A n c L) (hr : Rise L) (hn : n ≤ 999999) (hm : (x1, x2) ∉ L) :
    Calls Try.prog 65 #[.slice A n c, .agg #[.int .i64 x1, .int .i64 x2]] w (Withs A L (x1, x2) w) := by
  have hz : decide ((x1, x2) ∈ L) = false := by simpa using hm
  have hcap := h.cap.1
  have hcap2 := h.cap.2
  have HR := Lib.hid hr
  have HD := Lib.hid h
  have HL := Lib.hid h.1
  have HS := Lib.hid (search_any A n c L x1 x2 (w.alloc (.cells #[.int .i64 x1, .int .i64 x2] 42)) (h.kept ((Kept.refl _).alloc _ _)) hr (by omega))
  rw [hz] at HS
  have HM := Lib.hid hm
  clear h hr hm hz
  go_enter Try.func65, Try.ntmps65
  go_wp2_with fail
  go_at_call 47
  refine HS.out.mono ?_
  rintro e w1 ⟨k, rfl, hk, hlo, hhi, hkp⟩
  have HW := Lib.hid (WithD.put HR.out k hlo (hhi HM.out))
  have d0 := KExt.cell hkp.box0
  have d1 := KExt.cell hkp.box1
  have HK := Lib.hid (((Kept.refl w).alloc #[.int .i64 x1, .int .i64 x2] 42).trans hkp)
  have HD1 := Lib.hid (HD.out.kept HK.out)
  have HH := Lib.hid (dl_head HD1.out hk)
  obtain ⟨A2, ht, hr2, hr3⟩ := dl_tail HD1.out hk
  have hr0 := run_dhead A n c k (by omega)
  have hr1 := run_dhead2 A n c k (by omega)
  have HT := Lib.hid ht
  clear hkp hlo hhi ht
  go_wp2_with fail
  refine region_mix w1 [([0, 1, 2, 3, 5, 6, 7], some 4), ([], some 8), ([], some 9), ([10], none)] (by kernel_rfl) (by kernel_rfl) (by kernel_rfl) (by kernel_rfl) (fun _ d _ _ _ h => by cases d <;> exact h) (Kept.refl _) ?_
  intro wd hwd
  rw [wpMix_call]
  simp only [pickOps_cons, pickOps_nil, consO_some, List.getElem?_cons_zero, List.getElem?_cons_succ]
  repeat (go_big_quiet_step (fail))
  refine wpQuiet_nil ?_
  go_wp2_with fail
  refine soloQ_both (hwd.alloc _ _) ?_
  have HA := Lib.hid ((Kept.refl wd).alloc #[.int .i64 x1, .int .i64 x2] 42)
  have HC := Lib.hid (concat3D (wd.alloc (.cells #[.int .i64 x1, .int .i64 x2] 42)) (wd.heap.size + 1) (by simp) ⟨A, k, c, L.take k⟩ ⟨some ⟨wd.heap.size, 0, none⟩, 1, 1, [(x1, x2)]⟩ ⟨A2, n - k, c - k, L.drop k⟩
    (HH.out.kept (hwd.trans HA.out)) (dl_one wd x1 x2 _) (HT.out.kept (hwd.trans HA.out)) (by simp only; omega) 24)
  have HWD := Lib.hid hwd
  clear hwd
  rw [wpMix_call]
  simp only [pickOps_cons, pickOps_nil, consO_some, List.getElem?_cons_zero, List.getElem?_cons_succ]
  refine wpQuiet_nil ?_
  go_wp2_with fail
  refine soloQ_both ((HWD.out.alloc _ _).alloc _ _) ?_
  rw [wpMix_call]
  simp only [pickOps_cons, pickOps_nil, consO_some, List.getElem?_cons_zero, List.getElem?_cons_succ]
  refine wpQuiet_nil ?_
  go_wp2_with (go_at_call 56; ((with_reducible refine HC.out.mono ?_); rintro e w2 ⟨v, rfl, ho, hkw⟩))
  obtain ⟨A3, c3, rfl, hd, hf⟩ := Dl.of_own' ho
  have HF := Lib.hid hf
  have HD3 := Lib.hid hd
  have HK3 := Lib.hid (HWD.out.trans (HA.out.trans hkw))
  clear ho hd hkw hf
  refine soloQ_both HK3.out ?_
  rw [wpMix_read]
  simp only [pickOps_cons, pickOps_nil, consO_some, List.getElem?_cons_zero, List.getElem?_cons_succ]
  repeat (go_big_quiet_step (fail))
  refine wpQuiet_nil ?_
  refine wpMix_nil ?_
  go_wp2_with fail
  go_ret
  exact ⟨A3, _, c3, L.take k ++ [(x1, x2)] ++ L.drop k, rfl, HD3.out, by rw [List.append_assoc]; exact HW.out, by have := HL.out; omega, HK.out.trans HK3.out, .inr fun ad e => by have := HF.out ad e; have := (HK.out.trans HWD.out).2.2; omega⟩

theorem dwith_any (A : Option Addr) (n c : Nat) (L : List (Int × Int)) (x1 x2 : Int) (w : World) (h : Dl w A n c L) (hr : Rise L) (hn : n ≤ 999999) :
    Calls Try.prog 65 #[.slice A n c, .agg #[.int .i64 x1, .int .i64 x2]] w (Withs A L (x1, x2) w) := by
  by_cases hm : (x1, x2) ∈ L
  · exact dwith_yes A n c L x1 x2 w h hr (by omega) hm
  · exact dwith_no A n c L x1 x2 w h hr hn hm
end Go.Proofs.Ytcldbmhjfmbcfaa

