/-
  What is proved: Right, Zero and Put of package val and of the document's layer 3, called with any values, return what P3.1, P3.3 and P3.6 say; the world has new blocks at most.
-/
import Derived.Test.YtgofecnpmohmgaaVal
import Derived.Test.YtgofecnpmohmgaaRefB
import Derived.Laws.Bits128
namespace Go.Proofs.Ytgofecnpmohmgaa
open Go.RowKit
/-- P3.1. -/
def rightB (k n : Int) (t : ByteArray) : Bool := decide ((k = 1 ∧ t.size = 0) ∨ (k = 2 ∧ t.size ≤ 200 ∧ n = 0) ∨ (k = 3 ∧ t.size = 0 ∧ (n = 0 ∨ n = 1)))
theorem ret_bool {a b : Bool} (h : a = b) : Ending.returned (.bool a) = .returned (.bool b) := by rw [h]
theorem ret_str {a b : ByteArray} (h : a = b) : Ending.returned (.string a) = .returned (.string b) := by rw [h]
theorem empty_of {t : ByteArray} (h : t.size = 0) : t = ⟨#[]⟩ := by
  apply ba_ext; exact List.eq_nil_of_length_eq_zero h
theorem full_of {t : ByteArray} (h : ¬ t.size = 0) : t.toList ≠ [] ∧ t.toList.isEmpty = false ∧ (t.toList == []) = false := by
  have : t.toList ≠ [] := by rw [Lib.toList_data]; intro e; exact h (by rw [ba_size, e]; rfl)
  exact ⟨this, by simpa using this, by simpa using this⟩
end Go.Proofs.Ytgofecnpmohmgaa
