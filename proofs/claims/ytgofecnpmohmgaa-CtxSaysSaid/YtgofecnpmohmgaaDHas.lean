/-
  What is proved: dot.Has and the document's Has, called with any slice of dots that lies in memory and any dot, tell whether it is there (P5.7); the laws' Same tells whether two slices hold the same dots; the world has new blocks at most.
-/
import Derived.Test.YtgofecnpmohmgaaDCmp
import Derived.Test.YtgofecnpmohmgaaM1
namespace Go.Proofs.Ytgofecnpmohmgaa
open Go.RowKit

theorem dot_ne {x1 x2 y1 y2 : Int} (h : ¬ (y1, y2) = ((x1, x2) : Int × Int)) : (y1 == x1) = false ∨ ((y1 == x1) = true ∧ (y2 == x2) = false) := by
  simp only [Prod.mk.injEq, not_and] at h
  by_cases e : y1 = x1
  · exact .inr ⟨by simpa using e, by simpa using h e⟩
  · exact .inl (by simpa using e)
theorem mem_no {L : List (Int × Int)} {x : Int × Int} {n : Nat} (hn : L.length = n) (h : ∀ j, j < n → L[j]? ≠ some x) : decide (x ∈ L) = false := by
  rw [decide_eq_false_iff_not]
  intro hm
  obtain ⟨j, hj⟩ := List.getElem?_of_mem hm
  exact h j (by rw [← hn]; exact (List.getElem?_eq_some_iff.1 hj).1) hj

set_option maxRecDepth 100000 in
set_option maxHeartbeats 1000000 in
theorem dhas_any (A : Option Addr) (n c : Nat) (L : List (Int × Int)) (x1 x2 : Int) (w : World) (h : Dl w A n c L) :
    Calls Try.prog 35 #[.slice A n c, .agg #[.int .i64 x1, .int .i64 x2]] w fun e w' => e = .returned (.bool (decide ((x1, x2) ∈ L))) ∧ Kept w w' := by
  have hc1 := h.cap.1
  have hc2 := h.cap.2
  have HL := Lib.hid h.len
  have HD := Lib.hid h
  clear h
  go_enter Try.func35, Try.ntmps35
  go_wp2_with fail
  go_loopw [9] (fun i wr => ∃ k : Nat, k ≤ n ∧ i = .int .i64 k ∧ Kept (w.alloc (.cells #[.int .i64 x1, .int .i64 x2] 36)) wr ∧ ∀ j, j < k → L[j]? ≠ some (x1, x2)) (fun i _ => n - (intOf i).toNat)
  case atStart => exact ⟨0, Nat.zero_le _, rfl, Kept.refl _, fun j hj => absurd hj (by omega)⟩
  case round =>
    obtain ⟨k, hkn, rfl, hkr, hall⟩ := hrel
    have HA := Lib.hid hall
    have HR := Lib.hid hkr
    have d0 := hkr.box 0 _ rfl
    have d1 := hkr.box 1 _ rfl
    have hsz := lt_of_kept hkr
    have hne : ¬ w.heap.size = wr.heap.size := by omega
    have hne' : ¬ wr.heap.size = w.heap.size := by omega
    clear hall hkr
    by_cases hlt : k < n
    · obtain ⟨b, o, ⟨y1, y2⟩, rfl, hy, g1, g2⟩ := (HD.out.kept (((Kept.refl w).alloc _ _).trans HR.out)).get hlt
      have HY := Lib.hid hy
      clear hy
      simp only at g1 g2
      by_cases hx : ((y1, y2) : Int × Int) = (x1, x2)
      · have HF := Lib.hid (show decide (((x1, x2) : Int × Int) ∈ L) = true by rw [decide_eq_true_iff, ← hx]; exact List.mem_of_getElem? HY.out)
        simp only [Prod.mk.injEq] at hx
        have e1 : (y1 == x1) = true := by simpa using hx.1
        have e2 : (y2 == x2) = true := by simpa using hx.2
        clear hx
        go_wp2_with fail
        go_ret
        exact ⟨by rw [HF.out]; rfl, (((Kept.refl w).alloc _ _).trans HR.out).alloc _ _⟩
      · have HN := Lib.hid (show ∀ j, j < k + 1 → L[j]? ≠ some (x1, x2) from fun j hj he => by
          rcases Nat.lt_or_ge j k with h3 | h3
          · exact HA.out j h3 he
          · obtain rfl : j = k := by omega
            rw [HY.out] at he
            exact hx (Option.some.inj he))
        rcases dot_ne hx with e1 | ⟨e1, e2⟩
        · clear hx
          go_wp2_with fail
          go_roundw
          case rel => exact ⟨k + 1, hlt, by go_num, HR.out.alloc _ _, HN.out⟩
          case measure => simp [intOf]; omega
        · clear hx
          go_wp2_with fail
          go_roundw
          case rel => exact ⟨k + 1, hlt, by go_num, HR.out.alloc _ _, HN.out⟩
          case measure => simp [intOf]; omega
    · obtain rfl : k = n := by omega
      have HF := Lib.hid (mem_no HL.out HA.out)
      go_wp2_with fail
      go_ret
      exact ⟨by rw [HF.out]; rfl, ((Kept.refl w).alloc _ _).trans HR.out⟩
theorem dhas_c (A : Option Addr) (n c : Nat) (L : List (Int × Int)) (x : Int × Int) (r : Bool) (hr : decide (x ∈ L) = r) (w : World) (h : Dl w A n c L) :
    Calls Try.prog 35 #[.slice A n c, .agg #[.int .i64 x.1, .int .i64 x.2]] w fun e w' => e = .returned (.bool r) ∧ Kept w w' := by
  subst hr; exact dhas_any A n c L x.1 x.2 w h

set_option maxRecDepth 100000 in
set_option maxHeartbeats 1000000 in
theorem rhas_any (A : Option Addr) (n c : Nat) (L : List (Int × Int)) (x1 x2 : Int) (w : World) (h : Dl w A n c L) :
    Calls Try.prog 49 #[.slice A n c, .agg #[.int .i64 x1, .int .i64 x2]] w fun e w' => e = .returned (.bool (decide ((x1, x2) ∈ L))) ∧ Kept w w' := by
  have hc1 := h.cap.1
  have hc2 := h.cap.2
  have HL := Lib.hid h.len
  have HD := Lib.hid h
  clear h
  go_enter Try.func49, Try.ntmps49
  go_wp2_with fail
  go_loopw [9] (fun i wr => ∃ k : Nat, k ≤ n ∧ i = .int .i64 k ∧ Kept (w.alloc (.cells #[.int .i64 x1, .int .i64 x2] 36)) wr ∧ ∀ j, j < k → L[j]? ≠ some (x1, x2)) (fun i _ => n - (intOf i).toNat)
  case atStart => exact ⟨0, Nat.zero_le _, rfl, Kept.refl _, fun j hj => absurd hj (by omega)⟩
  case round =>
    obtain ⟨k, hkn, rfl, hkr, hall⟩ := hrel
    have HA := Lib.hid hall
    have HR := Lib.hid hkr
    have d0 := hkr.box 0 _ rfl
    have d1 := hkr.box 1 _ rfl
    have hsz := lt_of_kept hkr
    have hne : ¬ w.heap.size = wr.heap.size := by omega
    have hne' : ¬ wr.heap.size = w.heap.size := by omega
    clear hall hkr
    by_cases hlt : k < n
    · obtain ⟨b, o, ⟨y1, y2⟩, rfl, hy, g1, g2⟩ := (HD.out.kept (((Kept.refl w).alloc _ _).trans HR.out)).get hlt
      have HY := Lib.hid hy
      clear hy
      simp only at g1 g2
      by_cases hx : ((y1, y2) : Int × Int) = (x1, x2)
      · have HF := Lib.hid (show decide (((x1, x2) : Int × Int) ∈ L) = true by rw [decide_eq_true_iff, ← hx]; exact List.mem_of_getElem? HY.out)
        simp only [Prod.mk.injEq] at hx
        have e1 : (y1 == x1) = true := by simpa using hx.1
        have e2 : (y2 == x2) = true := by simpa using hx.2
        clear hx
        go_wp2_with fail
        go_ret
        exact ⟨by rw [HF.out]; rfl, (((Kept.refl w).alloc _ _).trans HR.out).alloc _ _⟩
      · have HN := Lib.hid (show ∀ j, j < k + 1 → L[j]? ≠ some (x1, x2) from fun j hj he => by
          rcases Nat.lt_or_ge j k with h3 | h3
          · exact HA.out j h3 he
          · obtain rfl : j = k := by omega
            rw [HY.out] at he
            exact hx (Option.some.inj he))
        rcases dot_ne hx with e1 | ⟨e1, e2⟩
        · clear hx
          go_wp2_with fail
          go_roundw
          case rel => exact ⟨k + 1, hlt, by go_num, HR.out.alloc _ _, HN.out⟩
          case measure => simp [intOf]; omega
        · clear hx
          go_wp2_with fail
          go_roundw
          case rel => exact ⟨k + 1, hlt, by go_num, HR.out.alloc _ _, HN.out⟩
          case measure => simp [intOf]; omega
    · obtain rfl : k = n := by omega
      have HF := Lib.hid (mem_no HL.out HA.out)
      go_wp2_with fail
      go_ret
      exact ⟨by rw [HF.out]; rfl, ((Kept.refl w).alloc _ _).trans HR.out⟩
theorem rhas_c (A : Option Addr) (n c : Nat) (L : List (Int × Int)) (x : Int × Int) (r : Bool) (hr : decide (x ∈ L) = r) (w : World) (h : Dl w A n c L) :
    Calls Try.prog 49 #[.slice A n c, .agg #[.int .i64 x.1, .int .i64 x.2]] w fun e w' => e = .returned (.bool r) ∧ Kept w w' := by
  subst hr; exact rhas_any A n c L x.1 x.2 w h
end Go.Proofs.Ytgofecnpmohmgaa
