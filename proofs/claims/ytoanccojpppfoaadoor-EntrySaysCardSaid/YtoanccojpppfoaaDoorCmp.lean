/-
  What is proved: cmp.Compare at ints and at texts, called with any two, return the order of the two; cmp.Or of three ints the first that is not 0; the world is left alone.
-/
import Derived.Test.YtoanccojpppfoaaDoorM2
import Derived.Test.YtoanccojpppfoaaDoorM1
import Derived.Laws.Cover1
import Derived.Laws.StructEq
import Derived.Sort.Walk0
namespace Go.Proofs.YtoanccojpppfoaaDoor
open Go.RowKit

theorem cmpInt_any (a b : Int) (w : World) :
    Calls Tryd.prog 59 #[.int .i64 a, .int .i64 b] w fun e w' => e = .returned (.int .i64 (cmpI a b)) ∧ w = w' := by
  by_cases h1 : a < b
  · have H := Lib.hid (show (-1 : Int) = cmpI a b by unfold cmpI; rw [if_pos h1])
    have d1 : decide (a < b) = true := by simpa using h1
    go_enter Tryd.func59, Tryd.ntmps59
    go_wp2
    go_ret
    exact ⟨ret_int H.out, rfl⟩
  · have d1 : decide (a < b) = false := by simpa using h1
    by_cases h2 : b < a
    · have H := Lib.hid (show (1 : Int) = cmpI a b by unfold cmpI; rw [if_neg h1, if_pos h2])
      have d2 : decide (b < a) = true := by simpa using h2
      go_enter Tryd.func59, Tryd.ntmps59
      go_wp2
      go_ret
      exact ⟨ret_int H.out, rfl⟩
    · have H := Lib.hid (show (0 : Int) = cmpI a b by unfold cmpI; rw [if_neg h1, if_neg h2])
      have d2 : decide (b < a) = false := by simpa using h2
      go_enter Tryd.func59, Tryd.ntmps59
      go_wp2
      go_ret
      exact ⟨ret_int H.out, rfl⟩

theorem less_of (a b : ByteArray) : Op.bytesLess a.toList b.toList = decide (a.data.toList < b.data.toList) := by
  rw [bytesLess_eq, Lib.toList_data, Lib.toList_data]
theorem beq_of (a b : ByteArray) : (a.toList == b.toList) = decide (a.data.toList = b.data.toList) := by
  rw [Lib.toList_data, Lib.toList_data]; exact Bool.eq_iff_iff.2 (by simp)

def orI (x y z : Int) : Int := if x ≠ 0 then x else if y ≠ 0 then y else z
theorem cmpV_or (k1 n1 : Int) (t1 : List UInt8) (k2 n2 : Int) (t2 : List UInt8) : orI (cmpI k1 k2) (cmpI n1 n2) (cmpL t1 t2) = cmpV k1 n1 t1 k2 n2 t2 := rfl

set_option maxHeartbeats 400000 in
theorem or_any (b : Nat) (x y z : Int) (w : World) (h0 : w.cell? ⟨b, 0, none⟩ = some (.int .i64 x)) (h1 : w.cell? ⟨b, 1, none⟩ = some (.int .i64 y)) (h2 : w.cell? ⟨b, 2, none⟩ = some (.int .i64 z)) :
    Calls Tryd.prog 58 #[.slice (some ⟨b, 0, none⟩) 3 3] w fun e w' => e = .returned (.int .i64 (orI x y z)) ∧ w = w' := by
  go_enter Tryd.func58, Tryd.ntmps58
  go_wp2
  go_loop [8] (fun i => ∃ k : Nat, k ≤ 3 ∧ (0 < k → x = 0) ∧ (1 < k → y = 0) ∧ (2 < k → z = 0) ∧ i = .int .i64 k) (fun i => 3 - (intOf i).toNat)
  case atStart => exact ⟨0, by omega, by omega, by omega, by omega, rfl⟩
  case round =>
    obtain ⟨k, hk, a0, a1, a2, rfl⟩ := hrel
    obtain rfl | rfl | rfl | rfl : k = 0 ∨ k = 1 ∨ k = 2 ∨ k = 3 := by omega
    · by_cases hx : x = 0
      · have d : (x != 0) = false := by simp [hx]
        have HX := Lib.hid hx
        clear hx
        go_wp2
        exact ⟨⟨1, by omega, fun _ => HX.out, by omega, by omega, rfl⟩, by simp [intOf]⟩
      · have d : (x != 0) = true := by simp [hx]
        have HO := Lib.hid (show x = orI x y z by unfold orI; rw [if_pos hx])
        go_wp2
        go_ret
        exact ⟨ret_int HO.out, rfl⟩
    · have hx := a0 (by omega)
      by_cases hy : y = 0
      · have d : (y != 0) = false := by simp [hy]
        have HX := Lib.hid hx
        have HY := Lib.hid hy
        clear hx hy a0
        go_wp2
        exact ⟨⟨2, by omega, fun _ => HX.out, fun _ => HY.out, by omega, rfl⟩, by simp [intOf]⟩
      · have d : (y != 0) = true := by simp [hy]
        have HO := Lib.hid (show y = orI x y z by unfold orI; rw [if_neg (by simp [hx]), if_pos hy])
        clear hx a0
        go_wp2
        go_ret
        exact ⟨ret_int HO.out, rfl⟩
    · have hx := a0 (by omega)
      have hy := a1 (by omega)
      have HO := Lib.hid (show z = orI x y z by unfold orI; rw [if_neg (by simp [hx]), if_neg (by simp [hy])])
      by_cases hz : z = 0
      · have d : (z != 0) = false := by simp [hz]
        have HX := Lib.hid hx
        have HY := Lib.hid hy
        have HZ := Lib.hid hz
        clear hx hy hz a0 a1
        go_wp2
        exact ⟨⟨3, by omega, fun _ => HX.out, fun _ => HY.out, fun _ => HZ.out, rfl⟩, by simp [intOf]⟩
      · have d : (z != 0) = true := by simp [hz]
        clear hx hy a0 a1
        go_wp2
        go_ret
        exact ⟨ret_int HO.out, rfl⟩
    · have HO := Lib.hid (show 0 = orI x y z by unfold orI; rw [if_neg (by simp [a0 (by omega)]), if_neg (by simp [a1 (by omega)]), a2 (by omega)])
      clear a0 a1 a2
      go_wp2
      go_ret
      exact ⟨ret_int HO.out, rfl⟩
end Go.Proofs.YtoanccojpppfoaaDoor
