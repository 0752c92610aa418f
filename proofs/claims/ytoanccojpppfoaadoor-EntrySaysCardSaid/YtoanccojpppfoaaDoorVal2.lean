/-
  What is proved: Right, Zero and Put of package val and of the document's layer 3, called with any values, return what P3.1, P3.3 and P3.6 say; the world has new blocks at most.
-/
import Derived.Test.YtoanccojpppfoaaDoorVal
import Derived.Test.YtoanccojpppfoaaDoorRefB
import Derived.Laws.Bits128
namespace Go.Proofs.YtoanccojpppfoaaDoor
open Go.RowKit
/-- P3.1. -/
def rightB (k n : Int) (t : ByteArray) : Bool := decide ((k = 1 ∧ t.size = 0) ∨ (k = 2 ∧ t.size ≤ 200 ∧ n = 0) ∨ (k = 3 ∧ t.size = 0 ∧ (n = 0 ∨ n = 1)))
theorem ret_bool {a b : Bool} (h : a = b) : Ending.returned (.bool a) = .returned (.bool b) := by rw [h]
theorem ret_str {a b : ByteArray} (h : a = b) : Ending.returned (.string a) = .returned (.string b) := by rw [h]
theorem empty_of {t : ByteArray} (h : t.size = 0) : t = ⟨#[]⟩ := by
  apply ba_ext; exact List.eq_nil_of_length_eq_zero h
theorem full_of {t : ByteArray} (h : ¬ t.size = 0) : t.toList ≠ [] ∧ t.toList.isEmpty = false ∧ (t.toList == []) = false := by
  have : t.toList ≠ [] := by rw [Lib.toList_data]; intro e; exact h (by rw [ba_size, e]; rfl)
  exact ⟨this, by simpa using this, by simpa using this⟩
theorem vright_any (k n : Int) (t : ByteArray) (w : World) (hs : t.size ≤ 9223372036854775807) :
    Calls Tryd.prog 32 #[.agg #[.int .i64 k, .int .i64 n, .string t]] w fun e w' => e = .returned (.bool (rightB k n t)) ∧ Grown w w' := by
  by_cases h1 : k = 1
  · subst h1
    by_cases ht : t.size = 0
    · have HR := Lib.hid (show true = rightB 1 n t by unfold rightB; simp [ht])
      obtain rfl := empty_of ht
      clear hs ht
      go_enter Tryd.func32, Tryd.ntmps32
      go_wp2
      go_ret
      exact ⟨ret_bool (by first | rfl | exact HR.out), (Grown.refl _).alloc _ _⟩
    · have HR := Lib.hid (show false = rightB 1 n t by unfold rightB; simp [ht])
      obtain ⟨q1, q2, q3⟩ := full_of ht
      go_enter Tryd.func32, Tryd.ntmps32
      go_wp2
      go_ret
      exact ⟨ret_bool (by first | rfl | exact HR.out), (Grown.refl _).alloc _ _⟩
  by_cases h2 : k = 2
  · subst h2
    by_cases ht : t.size ≤ 200
    · have d1 : decide ((t.size : Int) ≤ 200) = true := by simp; omega
      by_cases hn : n = 0
      · subst hn
        have HR := Lib.hid (show true = rightB 2 0 t by unfold rightB; simp [ht])
        go_enter Tryd.func32, Tryd.ntmps32
        go_wp2
        go_ret
        exact ⟨ret_bool (by first | rfl | exact HR.out), (Grown.refl _).alloc _ _⟩
      · have HR := Lib.hid (show false = rightB 2 n t by unfold rightB; simp [hn])
        have d2 : (n == 0) = false := by simpa using hn
        go_enter Tryd.func32, Tryd.ntmps32
        go_wp2
        go_ret
        exact ⟨ret_bool (by first | rfl | exact HR.out), (Grown.refl _).alloc _ _⟩
    · have HR := Lib.hid (show false = rightB 2 n t by unfold rightB; simp; omega)
      have d1 : decide ((t.size : Int) ≤ 200) = false := by simp; omega
      by_cases hn : n = 0
      · subst hn
        go_enter Tryd.func32, Tryd.ntmps32
        go_wp2
        go_ret
        exact ⟨ret_bool (by first | rfl | exact HR.out), (Grown.refl _).alloc _ _⟩
      · have d2 : (n == 0) = false := by simpa using hn
        go_enter Tryd.func32, Tryd.ntmps32
        go_wp2
        go_ret
        exact ⟨ret_bool (by first | rfl | exact HR.out), (Grown.refl _).alloc _ _⟩
  by_cases h3 : k = 3
  · subst h3
    by_cases ht : t.size = 0
    · obtain rfl := empty_of ht
      clear ht hs
      by_cases hn : n = 0
      · subst hn
        have HR := Lib.hid (show true = rightB 3 0 ⟨#[]⟩ by decide)
        go_enter Tryd.func32, Tryd.ntmps32
        go_wp2
        go_ret
        exact ⟨ret_bool (by first | rfl | exact HR.out), (Grown.refl _).alloc _ _⟩
      · have d2 : (n == 0) = false := by simpa using hn
        by_cases hm : n = 1
        · subst hm
          have HR := Lib.hid (show true = rightB 3 1 ⟨#[]⟩ by decide)
          go_enter Tryd.func32, Tryd.ntmps32
          go_wp2
          go_ret
          exact ⟨ret_bool (by first | rfl | exact HR.out), (Grown.refl _).alloc _ _⟩
        · have d3 : (n == 1) = false := by simpa using hm
          have HR := Lib.hid (show false = rightB 3 n ⟨#[]⟩ by unfold rightB; simp [hn, hm])
          go_enter Tryd.func32, Tryd.ntmps32
          go_wp2
          go_ret
          exact ⟨ret_bool (by first | rfl | exact HR.out), (Grown.refl _).alloc _ _⟩
    · have HR := Lib.hid (show false = rightB 3 n t by unfold rightB; simp [ht])
      obtain ⟨q1, q2, q3⟩ := full_of ht
      go_enter Tryd.func32, Tryd.ntmps32
      go_wp2
      go_ret
      exact ⟨ret_bool (by first | rfl | exact HR.out), (Grown.refl _).alloc _ _⟩
  · have HR := Lib.hid (show false = rightB k n t by unfold rightB; simp [h1, h2, h3])
    have d1 : (k == 1) = false := by simpa using h1
    have d2 : (k == 2) = false := by simpa using h2
    have d3 : (k == 3) = false := by simpa using h3
    go_enter Tryd.func32, Tryd.ntmps32
    go_wp2
    go_ret
    exact ⟨ret_bool (by first | rfl | exact HR.out), (Grown.refl _).alloc _ _⟩
theorem rright_any (k n : Int) (t : ByteArray) (w : World) (hs : t.size ≤ 9223372036854775807) :
    Calls Tryd.prog 36 #[.agg #[.int .i64 k, .int .i64 n, .string t]] w fun e w' => e = .returned (.bool (rightB k n t)) ∧ Grown w w' := by
  by_cases h1 : k = 1
  · subst h1
    by_cases ht : t.size = 0
    · have HR := Lib.hid (show true = rightB 1 n t by unfold rightB; simp [ht])
      obtain rfl := empty_of ht
      clear hs ht
      go_enter Tryd.func36, Tryd.ntmps36
      go_wp2
      go_ret
      exact ⟨ret_bool (by first | rfl | exact HR.out), (Grown.refl _).alloc _ _⟩
    · have HR := Lib.hid (show false = rightB 1 n t by unfold rightB; simp [ht])
      obtain ⟨q1, q2, q3⟩ := full_of ht
      go_enter Tryd.func36, Tryd.ntmps36
      go_wp2
      go_ret
      exact ⟨ret_bool (by first | rfl | exact HR.out), (Grown.refl _).alloc _ _⟩
  by_cases h2 : k = 2
  · subst h2
    by_cases ht : t.size ≤ 200
    · have d1 : decide ((t.size : Int) ≤ 200) = true := by simp; omega
      by_cases hn : n = 0
      · subst hn
        have HR := Lib.hid (show true = rightB 2 0 t by unfold rightB; simp [ht])
        go_enter Tryd.func36, Tryd.ntmps36
        go_wp2
        go_ret
        exact ⟨ret_bool (by first | rfl | exact HR.out), (Grown.refl _).alloc _ _⟩
      · have HR := Lib.hid (show false = rightB 2 n t by unfold rightB; simp [hn])
        have d2 : (n == 0) = false := by simpa using hn
        go_enter Tryd.func36, Tryd.ntmps36
        go_wp2
        go_ret
        exact ⟨ret_bool (by first | rfl | exact HR.out), (Grown.refl _).alloc _ _⟩
    · have HR := Lib.hid (show false = rightB 2 n t by unfold rightB; simp; omega)
      have d1 : decide ((t.size : Int) ≤ 200) = false := by simp; omega
      by_cases hn : n = 0
      · subst hn
        go_enter Tryd.func36, Tryd.ntmps36
        go_wp2
        go_ret
        exact ⟨ret_bool (by first | rfl | exact HR.out), (Grown.refl _).alloc _ _⟩
      · have d2 : (n == 0) = false := by simpa using hn
        go_enter Tryd.func36, Tryd.ntmps36
        go_wp2
        go_ret
        exact ⟨ret_bool (by first | rfl | exact HR.out), (Grown.refl _).alloc _ _⟩
  by_cases h3 : k = 3
  · subst h3
    by_cases ht : t.size = 0
    · obtain rfl := empty_of ht
      clear ht hs
      by_cases hn : n = 0
      · subst hn
        have HR := Lib.hid (show true = rightB 3 0 ⟨#[]⟩ by decide)
        go_enter Tryd.func36, Tryd.ntmps36
        go_wp2
        go_ret
        exact ⟨ret_bool (by first | rfl | exact HR.out), (Grown.refl _).alloc _ _⟩
      · have d2 : (n == 0) = false := by simpa using hn
        by_cases hm : n = 1
        · subst hm
          have HR := Lib.hid (show true = rightB 3 1 ⟨#[]⟩ by decide)
          go_enter Tryd.func36, Tryd.ntmps36
          go_wp2
          go_ret
          exact ⟨ret_bool (by first | rfl | exact HR.out), (Grown.refl _).alloc _ _⟩
        · have d3 : (n == 1) = false := by simpa using hm
          have HR := Lib.hid (show false = rightB 3 n ⟨#[]⟩ by unfold rightB; simp [hn, hm])
          go_enter Tryd.func36, Tryd.ntmps36
          go_wp2
          go_ret
          exact ⟨ret_bool (by first | rfl | exact HR.out), (Grown.refl _).alloc _ _⟩
    · have HR := Lib.hid (show false = rightB 3 n t by unfold rightB; simp [ht])
      obtain ⟨q1, q2, q3⟩ := full_of ht
      go_enter Tryd.func36, Tryd.ntmps36
      go_wp2
      go_ret
      exact ⟨ret_bool (by first | rfl | exact HR.out), (Grown.refl _).alloc _ _⟩
  · have HR := Lib.hid (show false = rightB k n t by unfold rightB; simp [h1, h2, h3])
    have d1 : (k == 1) = false := by simpa using h1
    have d2 : (k == 2) = false := by simpa using h2
    have d3 : (k == 3) = false := by simpa using h3
    go_enter Tryd.func36, Tryd.ntmps36
    go_wp2
    go_ret
    exact ⟨ret_bool (by first | rfl | exact HR.out), (Grown.refl _).alloc _ _⟩
end Go.Proofs.YtoanccojpppfoaaDoor
