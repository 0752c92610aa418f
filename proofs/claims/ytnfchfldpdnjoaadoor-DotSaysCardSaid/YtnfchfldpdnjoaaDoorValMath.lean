/-
  What is proved: plain facts on values (P3.1 to P3.7): what is right, the order, on integers and lists of bytes alone; no program is spoken of here.
-/
import Derived.Test.YtnfchfldpdnjoaaDoorMath
namespace Go.Proofs.YtnfchfldpdnjoaaDoor

/-- P3.2. -/
def cmpI (a b : Int) : Int := if a < b then -1 else if b < a then 1 else 0
def cmpL (a b : List UInt8) : Int := if a < b then -1 else if b < a then 1 else 0
def cmpV (k1 n1 : Int) (t1 : List UInt8) (k2 n2 : Int) (t2 : List UInt8) : Int :=
  if cmpI k1 k2 ≠ 0 then cmpI k1 k2 else if cmpI n1 n2 ≠ 0 then cmpI n1 n2 else cmpL t1 t2

theorem list_tri (a b : List UInt8) : a < b ∨ a = b ∨ b < a := by
  by_cases h1 : a < b
  · exact .inl h1
  by_cases h2 : b < a
  · exact .inr (.inr h2)
  exact .inr (.inl (List.le_antisymm (List.not_lt.1 h2) (List.not_lt.1 h1)))
theorem cmpI_bd (a b : Int) : cmpI a b = -1 ∨ cmpI a b = 0 ∨ cmpI a b = 1 := by unfold cmpI; repeat (first | exact .inl rfl | exact .inr (.inl rfl) | exact .inr (.inr rfl) | split)
theorem cmpL_bd (a b : List UInt8) : cmpL a b = -1 ∨ cmpL a b = 0 ∨ cmpL a b = 1 := by unfold cmpL; repeat (first | exact .inl rfl | exact .inr (.inl rfl) | exact .inr (.inr rfl) | split)
theorem cmpV_bd (k1 n1 : Int) (t1 : List UInt8) (k2 n2 : Int) (t2 : List UInt8) : cmpV k1 n1 t1 k2 n2 t2 = -1 ∨ cmpV k1 n1 t1 k2 n2 t2 = 0 ∨ cmpV k1 n1 t1 k2 n2 t2 = 1 := by
  unfold cmpV; repeat (first | exact cmpI_bd _ _ | exact cmpL_bd _ _ | split)
theorem cmpI_zero (a b : Int) : cmpI a b = 0 ↔ a = b := by unfold cmpI; (repeat split) <;> constructor <;> intro h <;> omega
theorem cmpI_anti (a b : Int) : cmpI b a = - cmpI a b := by
  unfold cmpI
  by_cases h1 : a < b
  · rw [if_pos h1, if_neg (by omega), if_pos h1]; rfl
  · by_cases h2 : b < a
    · rw [if_pos h2, if_neg h1, if_pos h2]
    · rw [if_neg h2, if_neg h1, if_neg h1, if_neg h2]; rfl
theorem cmpL_zero (a b : List UInt8) : cmpL a b = 0 ↔ a = b := by
  unfold cmpL
  rcases list_tri a b with h | h | h
  · rw [if_pos h]; constructor
    · intro x; omega
    · intro x; subst x; exact absurd h (List.lt_irrefl _)
  · subst h; rw [if_neg (List.lt_irrefl _), if_neg (List.lt_irrefl _)]; simp
  · rw [if_neg (List.lt_asymm h), if_pos h]; constructor
    · intro x; omega
    · intro x; subst x; exact absurd h (List.lt_irrefl _)
theorem cmpL_anti (a b : List UInt8) : cmpL b a = - cmpL a b := by
  unfold cmpL
  rcases list_tri a b with h | h | h
  · rw [if_pos h, if_neg (List.lt_asymm h), if_pos h]; rfl
  · subst h; rw [if_neg (List.lt_irrefl _), if_neg (List.lt_irrefl _)]; rfl
  · rw [if_pos h, if_neg (List.lt_asymm h), if_pos h]
theorem cmpV_anti (k1 n1 : Int) (t1 : List UInt8) (k2 n2 : Int) (t2 : List UInt8) : cmpV k2 n2 t2 k1 n1 t1 = - cmpV k1 n1 t1 k2 n2 t2 := by
  unfold cmpV
  rw [cmpI_anti k1 k2, cmpI_anti n1 n2, cmpL_anti t1 t2]
  by_cases h1 : cmpI k1 k2 = 0
  · by_cases h2 : cmpI n1 n2 = 0
    · simp [h1, h2]
    · simp [h1, h2]
  · simp [h1]
theorem cmpV_zero (k1 n1 : Int) (t1 : List UInt8) (k2 n2 : Int) (t2 : List UInt8) : cmpV k1 n1 t1 k2 n2 t2 = 0 ↔ k1 = k2 ∧ n1 = n2 ∧ t1 = t2 := by
  unfold cmpV
  rw [← cmpI_zero k1, ← cmpI_zero n1, ← cmpL_zero t1]
  by_cases h1 : cmpI k1 k2 = 0
  · by_cases h2 : cmpI n1 n2 = 0
    · simp [h1, h2]
    · simp [h1, h2]
  · simp [h1]
theorem cmpI_le (a b : Int) : cmpI a b ≤ 0 ↔ a ≤ b := by unfold cmpI; (repeat split) <;> constructor <;> intro h <;> omega
theorem cmpL_le (a b : List UInt8) : cmpL a b ≤ 0 ↔ a ≤ b := by
  unfold cmpL
  rcases list_tri a b with h | h | h
  · rw [if_pos h]; constructor
    · intro _; exact List.le_of_lt h
    · intro _; omega
  · subst h; rw [if_neg (List.lt_irrefl _), if_neg (List.lt_irrefl _)]; constructor
    · intro _; exact List.le_refl _
    · intro _; omega
  · rw [if_neg (List.lt_asymm h), if_pos h]; constructor
    · intro x; omega
    · intro x; exact absurd h (List.not_lt.2 x)
theorem cmpV_le (k1 n1 : Int) (t1 : List UInt8) (k2 n2 : Int) (t2 : List UInt8) : cmpV k1 n1 t1 k2 n2 t2 ≤ 0 ↔ k1 < k2 ∨ k1 = k2 ∧ (n1 < n2 ∨ n1 = n2 ∧ t1 ≤ t2) := by
  unfold cmpV
  have a1 := cmpI_zero k1 k2
  have a2 := cmpI_le k1 k2
  have b1 := cmpI_zero n1 n2
  have b2 := cmpI_le n1 n2
  have c2 := cmpL_le t1 t2
  by_cases h1 : cmpI k1 k2 = 0
  · by_cases h2 : cmpI n1 n2 = 0
    · rw [if_neg (by simp [h1]), if_neg (by simp [h2]), c2]
      have := a1.1 h1; have := b1.1 h2
      constructor
      · intro h; exact .inr ⟨by omega, .inr ⟨by omega, h⟩⟩
      · rintro (h | ⟨_, h | ⟨_, h⟩⟩)
        · omega
        · omega
        · exact h
    · rw [if_neg (by simp [h1]), if_pos h2, b2]
      have := a1.1 h1
      have hb : n1 ≠ n2 := fun e => h2 (b1.2 e)
      constructor
      · intro h; exact .inr ⟨by omega, .inl (by omega)⟩
      · rintro (h | ⟨_, h | ⟨h, _⟩⟩) <;> omega
  · rw [if_pos h1, a2]
    have hb : k1 ≠ k2 := fun e => h1 (a1.2 e)
    constructor
    · intro h; exact .inl (by omega)
    · rintro (h | ⟨h, _⟩) <;> omega
theorem cmpV_trans (k1 n1 : Int) (t1 : List UInt8) (k2 n2 : Int) (t2 : List UInt8) (k3 n3 : Int) (t3 : List UInt8) (h1 : cmpV k1 n1 t1 k2 n2 t2 ≤ 0) (h2 : cmpV k2 n2 t2 k3 n3 t3 ≤ 0) : cmpV k1 n1 t1 k3 n3 t3 ≤ 0 := by
  rw [cmpV_le] at h1 h2 ⊢
  rcases h1 with h1 | ⟨rfl, h1 | ⟨rfl, h1⟩⟩
  · left
    rcases h2 with h2 | ⟨rfl, _⟩ <;> omega
  · rcases h2 with h2 | ⟨rfl, h2 | ⟨rfl, _⟩⟩
    · left; omega
    · right; exact ⟨rfl, .inl (by omega)⟩
    · right; exact ⟨rfl, .inl (by omega)⟩
  · rcases h2 with h2 | ⟨rfl, h2 | ⟨rfl, h2⟩⟩
    · left; omega
    · right; exact ⟨rfl, .inl (by omega)⟩
    · right; exact ⟨rfl, .inr ⟨rfl, List.le_trans h1 h2⟩⟩
end Go.Proofs.YtnfchfldpdnjoaaDoor
