/-
  What is proved: the document's own Cmp of layer 3, called with any two values, returns the same as val.Cmp; the world has new blocks at most.
-/
import Derived.Test.YtooaiicbnfmnpaaDoorVal
namespace Go.Proofs.YtooaiicbnfmnpaaDoor
open Go.RowKit

theorem cmp_ways (k1 n1 : Int) (t1 : ByteArray) (k2 n2 : Int) (t2 : ByteArray) :
    (cmpV k1 n1 t1.data.toList k2 n2 t2.data.toList = -1 ∧ decide (k1 < k2) = true) ∨
    (cmpV k1 n1 t1.data.toList k2 n2 t2.data.toList = 1 ∧ decide (k1 < k2) = false ∧ (k1 == k2) = false) ∨
    (cmpV k1 n1 t1.data.toList k2 n2 t2.data.toList = -1 ∧ decide (k1 < k2) = false ∧ (k1 == k2) = true ∧ decide (n1 < n2) = true) ∨
    (cmpV k1 n1 t1.data.toList k2 n2 t2.data.toList = 1 ∧ decide (k1 < k2) = false ∧ (k1 == k2) = true ∧ decide (n1 < n2) = false ∧ (n1 == n2) = false) ∨
    (cmpV k1 n1 t1.data.toList k2 n2 t2.data.toList = -1 ∧ decide (k1 < k2) = false ∧ (k1 == k2) = true ∧ decide (n1 < n2) = false ∧ (n1 == n2) = true ∧ Op.bytesLess t1.toList t2.toList = true) ∨
    (cmpV k1 n1 t1.data.toList k2 n2 t2.data.toList = 0 ∧ decide (k1 < k2) = false ∧ (k1 == k2) = true ∧ decide (n1 < n2) = false ∧ (n1 == n2) = true ∧ Op.bytesLess t1.toList t2.toList = false ∧ (t1.toList == t2.toList) = true) ∨
    (cmpV k1 n1 t1.data.toList k2 n2 t2.data.toList = 1 ∧ decide (k1 < k2) = false ∧ (k1 == k2) = true ∧ decide (n1 < n2) = false ∧ (n1 == n2) = true ∧ Op.bytesLess t1.toList t2.toList = false ∧ (t1.toList == t2.toList) = false) := by
  rw [less_of, beq_of]
  by_cases h1 : k1 < k2
  · left
    have e : cmpI k1 k2 = -1 := by unfold cmpI; rw [if_pos h1]
    exact ⟨by unfold cmpV; rw [e]; rfl, by simpa using h1⟩
  right
  have d1 : decide (k1 < k2) = false := by simpa using h1
  by_cases h2 : k2 < k1
  · left
    have e : cmpI k1 k2 = 1 := by unfold cmpI; rw [if_neg h1, if_pos h2]
    exact ⟨by unfold cmpV; rw [e]; rfl, d1, by simp; omega⟩
  right
  have d2 : (k1 == k2) = true := by simp; omega
  have e0 : cmpI k1 k2 = 0 := by unfold cmpI; rw [if_neg h1, if_neg h2]
  have c0 : cmpV k1 n1 t1.data.toList k2 n2 t2.data.toList = if cmpI n1 n2 ≠ 0 then cmpI n1 n2 else cmpL t1.data.toList t2.data.toList := by
    unfold cmpV; rw [if_neg (by simp [e0])]
  rw [c0]
  by_cases h3 : n1 < n2
  · left
    have e : cmpI n1 n2 = -1 := by unfold cmpI; rw [if_pos h3]
    exact ⟨by rw [e]; rfl, d1, d2, by simpa using h3⟩
  right
  have d3 : decide (n1 < n2) = false := by simpa using h3
  by_cases h4 : n2 < n1
  · left
    have e : cmpI n1 n2 = 1 := by unfold cmpI; rw [if_neg h3, if_pos h4]
    exact ⟨by rw [e]; rfl, d1, d2, d3, by simp; omega⟩
  right
  have d4 : (n1 == n2) = true := by simp; omega
  have e1 : cmpI n1 n2 = 0 := by unfold cmpI; rw [if_neg h3, if_neg h4]
  rw [if_neg (by simp [e1])]
  rcases list_tri t1.data.toList t2.data.toList with h | h | h
  · left
    exact ⟨by unfold cmpL; rw [if_pos h], d1, d2, d3, d4, by simpa using h⟩
  · right; left
    exact ⟨(cmpL_zero _ _).2 h, d1, d2, d3, d4, by rw [h]; simp, by simpa using h⟩
  · right; right
    refine ⟨by unfold cmpL; rw [if_neg (List.lt_asymm h), if_pos h], d1, d2, d3, d4, by simpa using List.lt_asymm h, ?_⟩
    have : t1.data.toList ≠ t2.data.toList := fun e => List.lt_irrefl _ (e ▸ h)
    simpa using this

set_option maxRecDepth 100000 in
set_option maxHeartbeats 2000000 in
theorem rcmp_any (k1 n1 : Int) (t1 : ByteArray) (k2 n2 : Int) (t2 : ByteArray) (w : World) :
    Calls Tryd.prog 11 #[.agg #[.int .i64 k1, .int .i64 n1, .string t1], .agg #[.int .i64 k2, .int .i64 n2, .string t2]] w
      fun e w' => e = .returned (.int .i64 (cmpV k1 n1 t1.data.toList k2 n2 t2.data.toList)) ∧ Grown w w' := by
  rcases cmp_ways k1 n1 t1 k2 n2 t2 with ⟨hx, e1⟩ | ⟨hx, e1, e2⟩ | ⟨hx, e1, e2, e3⟩ | ⟨hx, e1, e2, e3, e4⟩ | ⟨hx, e1, e2, e3, e4, e5⟩ | ⟨hx, e1, e2, e3, e4, e5, e6⟩ | ⟨hx, e1, e2, e3, e4, e5, e6⟩
  all_goals
    have HX := Lib.hid hx.symm
    clear hx
    go_enter Tryd.func11, Tryd.ntmps11
    go_wp2
    go_ret
    exact ⟨ret_int HX.out, ((Grown.refl _).alloc _ _).alloc _ _⟩
end Go.Proofs.YtooaiicbnfmnpaaDoor
