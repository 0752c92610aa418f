/-
  What is proved: dot.Cmp, called with any two dots, returns their order (P5.2), and lays blocks alone; the document's Cmp likewise.
-/
import Derived.Test.YtoanccojpppfoaaDoorM1
import Derived.Test.YtoanccojpppfoaaDoorVal
import Derived.Sort.Grow
namespace Go.Proofs.YtoanccojpppfoaaDoor
open Go.RowKit

def or2 (x y : Int) : Int := if x ≠ 0 then x else y
set_option maxHeartbeats 400000 in
theorem or2_any (b : Nat) (x y : Int) (w : World) (h0 : w.cell? ⟨b, 0, none⟩ = some (.int .i64 x)) (h1 : w.cell? ⟨b, 1, none⟩ = some (.int .i64 y)) :
    Calls Tryd.prog 58 #[.slice (some ⟨b, 0, none⟩) 2 2] w fun e w' => e = .returned (.int .i64 (or2 x y)) ∧ w = w' := by
  go_enter Tryd.func58, Tryd.ntmps58
  go_wp2
  go_loop [8] (fun i => ∃ k : Nat, k ≤ 2 ∧ (0 < k → x = 0) ∧ (1 < k → y = 0) ∧ i = .int .i64 k) (fun i => 2 - (intOf i).toNat)
  case atStart => exact ⟨0, by omega, by omega, by omega, rfl⟩
  case round =>
    obtain ⟨k, hk, a0, a1, rfl⟩ := hrel
    obtain rfl | rfl | rfl : k = 0 ∨ k = 1 ∨ k = 2 := by omega
    · by_cases hx : x = 0
      · have d : (x != 0) = false := by simp [hx]
        have HX := Lib.hid hx
        clear hx
        go_wp2
        exact ⟨⟨1, by omega, fun _ => HX.out, by omega, rfl⟩, by simp [intOf]⟩
      · have d : (x != 0) = true := by simp [hx]
        have HO := Lib.hid (show x = or2 x y by unfold or2; rw [if_pos hx])
        go_wp2
        go_ret
        exact ⟨ret_int HO.out, rfl⟩
    · have hx := a0 (by omega)
      have HO := Lib.hid (show y = or2 x y by unfold or2; rw [if_neg (by simp [hx])])
      by_cases hy : y = 0
      · have d : (y != 0) = false := by simp [hy]
        have HX := Lib.hid hx
        have HY := Lib.hid hy
        clear hx hy a0
        go_wp2
        exact ⟨⟨2, by omega, fun _ => HX.out, fun _ => HY.out, rfl⟩, by simp [intOf]⟩
      · have d : (y != 0) = true := by simp [hy]
        clear hx a0
        go_wp2
        go_ret
        exact ⟨ret_int HO.out, rfl⟩
    · have HO := Lib.hid (show 0 = or2 x y by unfold or2; rw [if_neg (by simp [a0 (by omega)]), a1 (by omega)])
      clear a0 a1
      go_wp2
      go_ret
      exact ⟨ret_int HO.out, rfl⟩

theorem grow3 (w : World) (o1 o2 o3 : Obj) : ((w.alloc o1).alloc o2).drew.alloc o3 = Sort.grow (w.drewN 1) #[o1, o2, o3] := by
  rw [Sort.alloc_eq_grow, Sort.alloc_eq_grow, Sort.alloc_eq_grow]
  show Sort.grow (Sort.grow (Sort.grow (w.drewN 1) #[o1]) #[o2]) #[o3] = _
  rw [Sort.grow_grow, Sort.grow_grow]
  rfl

set_option maxRecDepth 100000 in
set_option maxHeartbeats 1000000 in
theorem dcmp_any (x1 x2 y1 y2 : Int) (w : World) :
    Calls Tryd.prog 37 #[.agg #[.int .i64 x1, .int .i64 x2], .agg #[.int .i64 y1, .int .i64 y2]] w
      fun e w' => e = .returned (.int .i64 (cmpD (x1, x2) (y1, y2))) ∧ ∃ q os, w' = Sort.grow (w.drewN q) os := by
  go_enter Tryd.func37, Tryd.ntmps37
  go_wp2_with fail
  refine region_tail 10 (by kernel_rfl) (by kernel_rfl) ?_
  intro wd hwd
  have a0 : wd.cell? ⟨w.heap.size, 0, none⟩ = some (.int .i64 x1) := by rw [hwd]; simp [go_sem]
  have a1 : wd.cell? ⟨w.heap.size, 1, none⟩ = some (.int .i64 x2) := by rw [hwd]; simp [go_sem]
  have b0 : wd.cell? ⟨w.heap.size + 1, 0, none⟩ = some (.int .i64 y1) := by rw [hwd]; simp [go_sem]
  have b1 : wd.cell? ⟨w.heap.size + 1, 1, none⟩ = some (.int .i64 y2) := by rw [hwd]; simp [go_sem]
  have HW := Lib.hid hwd
  clear hwd
  simp only [List.take_succ_cons, List.take_zero, List.drop_succ_cons, List.drop_zero]
  repeat (first | still_step | (still_call (cmpInt_st _ _ _)))
  refine wpStill_nil ?_
  go_wp2_with (go_at_call 58; refine (or2_any _ (cmpI x1 y1) (cmpI x2 y2) _ (by simp [go_sem]) (by simp [go_sem])).mono ?_; rintro e w' ⟨rfl, rfl⟩)
  go_ret
  exact ⟨ret_int rfl, 1, #[_, _, _], by rw [HW.out]; exact grow3 w _ _ _⟩

theorem dcmp_c (x y : Int × Int) (r : Int) (h : cmpD x y = r) (w : World) :
    Calls Tryd.prog 37 #[.agg #[.int .i64 x.1, .int .i64 x.2], .agg #[.int .i64 y.1, .int .i64 y.2]] w fun e w' => e = .returned (.int .i64 r) ∧ Kept w w' := by
  subst h
  exact (dcmp_any x.1 x.2 y.1 y.2 w).mono fun _ _ ⟨he, q, os, hw⟩ => ⟨he, by rw [hw]; exact kept_grow w q os⟩
theorem rcmp_c (x y : Int × Int) (r : Int) (h : cmpD x y = r) (w : World) :
    Calls Tryd.prog 38 #[.agg #[.int .i64 x.1, .int .i64 x.2], .agg #[.int .i64 y.1, .int .i64 y.2]] w fun e w' => e = .returned (.int .i64 r) ∧ Kept w w' := by
  subst h
  obtain ⟨x1, x2⟩ := x
  obtain ⟨y1, y2⟩ := y
  simp only
  rcases Int.lt_trichotomy x1 y1 with h | h | h
  · have d1 : (x1 == y1) = false := by simp; omega
    have d2 : decide (x1 < y1) = true := by simpa using h
    have HR := Lib.hid (show (-1 : Int) = cmpD (x1, x2) (y1, y2) by unfold cmpD cmpI; simp [h])
    clear h
    go_enter Tryd.func38, Tryd.ntmps38
    go_wp2
    go_ret
    exact ⟨ret_int HR.out, ((Kept.refl _).alloc _ _).alloc _ _⟩
  · subst h
    have d1 : (x1 == x1) = true := by simp
    have d2 : decide (x1 < x1) = false := by simp
    rcases Int.lt_trichotomy x2 y2 with h | h | h
    · have e1 : (x2 == y2) = false := by simp; omega
      have e2 : decide (x2 < y2) = true := by simpa using h
      have HR := Lib.hid (show (-1 : Int) = cmpD (x1, x2) (x1, y2) by unfold cmpD cmpI; simp [h])
      clear h
      go_enter Tryd.func38, Tryd.ntmps38
      go_wp2
      go_ret
      exact ⟨ret_int HR.out, ((Kept.refl _).alloc _ _).alloc _ _⟩
    · subst h
      have e1 : (x2 == x2) = true := by simp
      have HR := Lib.hid (show (0 : Int) = cmpD (x1, x2) (x1, x2) by unfold cmpD cmpI; simp)
      go_enter Tryd.func38, Tryd.ntmps38
      go_wp2
      go_ret
      exact ⟨ret_int HR.out, ((Kept.refl _).alloc _ _).alloc _ _⟩
    · have e1 : (x2 == y2) = false := by simp; omega
      have e2 : decide (x2 < y2) = false := by simp; omega
      have HR := Lib.hid (show (1 : Int) = cmpD (x1, x2) (x1, y2) by unfold cmpD cmpI; simp [h]; omega)
      clear h
      go_enter Tryd.func38, Tryd.ntmps38
      go_wp2
      go_ret
      exact ⟨ret_int HR.out, ((Kept.refl _).alloc _ _).alloc _ _⟩
  · have d1 : (x1 == y1) = false := by simp; omega
    have d2 : decide (x1 < y1) = false := by simp; omega
    have HR := Lib.hid (show (1 : Int) = cmpD (x1, x2) (y1, y2) by unfold cmpD cmpI; simp [h]; omega)
    clear h
    go_enter Tryd.func38, Tryd.ntmps38
    go_wp2
    go_ret
    exact ⟨ret_int HR.out, ((Kept.refl _).alloc _ _).alloc _ _⟩
end Go.Proofs.YtoanccojpppfoaaDoor
