/-
  What is proved: plain facts on the document's numbers as bytes (P1.1 to P1.8), on lists and natural numbers alone; no program is spoken of here.
-/
namespace Go.Proofs.YtnfchfldpdnjoaaDoor

/-- P1.3 over integers. -/
def zigI (n : Int) : Int := if n < 0 then -2 * n - 1 else 2 * n
def zagI (u : Int) : Int := if u % 2 = 1 then -(u / 2) - 1 else u / 2
theorem zag_zig (n : Int) : zagI (zigI n) = n := by unfold zagI zigI; split <;> split <;> omega
theorem zig_zag (u : Int) (h : 0 ≤ u) : zigI (zagI u) = u := by unfold zagI zigI; split <;> split <;> omega
theorem zig_bd (n : Int) (h1 : -9223372036854775808 ≤ n) (h2 : n ≤ 9223372036854775807) : 0 ≤ zigI n ∧ zigI n < 18446744073709551616 := by
  unfold zigI; split <;> omega
theorem zag_bd (u : Int) (h1 : 0 ≤ u) (h2 : u < 18446744073709551616) : -9223372036854775808 ≤ zagI u ∧ zagI u ≤ 9223372036854775807 := by
  unfold zagI; split <;> omega

/-- P1.1: at most f bytes ahead of the last one. -/
def putF : Nat → Nat → List UInt8
  | 0, n => [UInt8.ofNat n]
  | f + 1, n => if n < 128 then [UInt8.ofNat n] else UInt8.ofNat (128 + n % 128) :: putF f (n / 128)
def putL (n : Nat) : List UInt8 := putF 9 n

/-- P1.2, from place k on. -/
def tk : Nat → Nat → List UInt8 → Nat × List UInt8 × Nat
  | _, _, [] => (0, [], 2)
  | k, acc, c :: r =>
    if k = 9 ∧ 1 < c.toNat then (0, [], 4)
    else if 0 < k ∧ c.toNat = 0 then (0, [], 3)
    else if c.toNat < 128 then (acc + c.toNat * 128 ^ k, r, 0)
    else tk (k + 1) (acc + (c.toNat - 128) * 128 ^ k) r
def takeL (l : List UInt8) : Nat × List UInt8 × Nat := tk 0 0 l

theorem toNat_small (n : Nat) (h : n < 256) : (UInt8.ofNat n).toNat = n := by
  rw [UInt8.toNat_ofNat']; exact Nat.mod_eq_of_lt h

theorem pow_step (k : Nat) (h : k ≤ 8) : 2 ^ (64 - 7 * k) = 128 * 2 ^ (64 - 7 * (k + 1)) := by
  have e : 64 - 7 * k = 7 + (64 - 7 * (k + 1)) := by omega
  rw [e, Nat.pow_add]

theorem div_step (n k : Nat) (h : k ≤ 8) (hn : n < 2 ^ (64 - 7 * k)) : n / 128 < 2 ^ (64 - 7 * (k + 1)) := by
  rw [pow_step k h] at hn
  exact Nat.div_lt_of_lt_mul hn

theorem split_mul (n acc k : Nat) : acc + n % 128 * 128 ^ k + n / 128 * 128 ^ (k + 1) = acc + n * 128 ^ k := by
  have e : n / 128 * 128 ^ (k + 1) = 128 * (n / 128) * 128 ^ k := by
    rw [Nat.pow_succ, Nat.mul_comm (128 ^ k) 128, ← Nat.mul_assoc, Nat.mul_comm (n / 128) 128]
  rw [e, Nat.add_assoc, ← Nat.add_mul, Nat.mod_add_div]

theorem take_put (f : Nat) : ∀ (n k acc : Nat) (s : List UInt8), f + k = 9 → n < 2 ^ (64 - 7 * k) → (0 < k → 0 < n) →
    tk k acc (putF f n ++ s) = (acc + n * 128 ^ k, s, 0) := by
  induction f with
  | zero =>
    intro n k acc s hf hn hp
    obtain rfl : k = 9 := by omega
    have hn2 : n < 2 := by simpa using hn
    have h := toNat_small n (by omega)
    have := hp (by omega)
    simp only [putF, List.cons_append, List.nil_append, tk, h]
    rw [if_neg (by omega), if_neg (by omega), if_pos (by omega)]
  | succ f ih =>
    intro n k acc s hf hn hp
    by_cases h : n < 128
    · have e := toNat_small n (by omega)
      simp only [putF, if_pos h, List.cons_append, List.nil_append, tk, e]
      rw [if_neg (by omega), if_neg (by omega)]
    · have e := toNat_small (128 + n % 128) (by omega)
      simp only [putF, if_neg h, List.cons_append, tk, e]
      rw [if_neg (by omega), if_neg (by omega), if_neg (by omega), ih (n / 128) (k + 1) _ s (by omega) (div_step n k (by omega) hn) (by omega)]
      rw [show 128 + n % 128 - 128 = n % 128 by omega, split_mul]

theorem take_putL (n : Nat) (s : List UInt8) (h : n < 18446744073709551616) : takeL (putL n ++ s) = (n, s, 0) := by
  have := take_put 9 n 0 0 s rfl (by simpa using h) (by omega)
  simpa [takeL, putL] using this

theorem ofNat_toNat (c : UInt8) : UInt8.ofNat c.toNat = c := by simp

theorem put_take : ∀ (l : List UInt8) (k acc x : Nat) (r : List UInt8), k ≤ 9 → tk k acc l = (x, r, 0) →
    ∃ n, x = acc + n * 128 ^ k ∧ putF (9 - k) n ++ r = l ∧ n < 2 ^ (64 - 7 * k) ∧ (0 < k → 0 < n) := by
  intro l
  induction l with
  | nil => intro k acc x r hk h; simp [tk] at h
  | cons c l ih =>
    intro k acc x r hk h
    have hc : c.toNat < 256 := UInt8.toNat_lt c
    unfold tk at h
    by_cases h1 : k = 9 ∧ 1 < c.toNat
    · rw [if_pos h1] at h; simp at h
    rw [if_neg h1] at h
    by_cases h2 : 0 < k ∧ c.toNat = 0
    · rw [if_pos h2] at h; simp at h
    rw [if_neg h2] at h
    by_cases h3 : c.toNat < 128
    · rw [if_pos h3] at h
      simp only [Prod.mk.injEq, and_true] at h
      obtain ⟨rfl, rfl⟩ := h
      refine ⟨c.toNat, rfl, ?_, ?_, by omega⟩
      · by_cases h9 : k = 9
        · subst h9; simp [putF]
        · have : 9 - k = (8 - k) + 1 := by omega
          rw [this]; simp [putF, h3]
      · by_cases h9 : k = 9
        · subst h9; simp; omega
        · rw [pow_step k (by omega)]
          have : 0 < 2 ^ (64 - 7 * (k + 1)) := Nat.pow_pos (by omega)
          omega
    · rw [if_neg h3] at h
      have h9 : k ≠ 9 := by omega
      obtain ⟨n, e, hp, hn, hpos⟩ := ih (k + 1) _ x r (by omega) h
      have hpos' := hpos (by omega)
      have ek : 9 - k = (9 - (k + 1)) + 1 := by omega
      have q1 : (128 * n + (c.toNat - 128)) / 128 = n := by omega
      have q2 : (128 * n + (c.toNat - 128)) % 128 = c.toNat - 128 := by omega
      refine ⟨128 * n + (c.toNat - 128), ?_, ?_, ?_, by omega⟩
      · have s := split_mul (128 * n + (c.toNat - 128)) acc k
        rw [q1, q2] at s
        rw [e, s]
      · rw [ek]
        simp only [putF]
        rw [if_neg (by omega), q1, q2, show 128 + (c.toNat - 128) = c.toNat by omega, ofNat_toNat, List.cons_append, hp]
      · rw [pow_step k (by omega)]; omega

theorem put_takeL (l r : List UInt8) (x : Nat) (h : takeL l = (x, r, 0)) : putL x ++ r = l ∧ x < 18446744073709551616 := by
  obtain ⟨n, e, hp, hn, _⟩ := put_take l 0 0 x r (by omega) h
  obtain rfl : x = n := by simpa using e
  exact ⟨hp, by simpa using hn⟩

/-- Beside an error nothing. -/
theorem take_err : ∀ (l : List UInt8) (k acc x e : Nat) (r : List UInt8), tk k acc l = (x, r, e) → (e = 0 ∨ e = 2 ∨ e = 3 ∨ e = 4) ∧ (e ≠ 0 → x = 0 ∧ r = []) := by
  intro l
  induction l with
  | nil => intro k acc x e r h; simp [tk] at h; obtain ⟨rfl, rfl, rfl⟩ := h; simp
  | cons c l ih =>
    intro k acc x e r h
    unfold tk at h
    by_cases h1 : k = 9 ∧ 1 < c.toNat
    · rw [if_pos h1] at h; simp at h; obtain ⟨rfl, rfl, rfl⟩ := h; simp
    rw [if_neg h1] at h
    by_cases h2 : 0 < k ∧ c.toNat = 0
    · rw [if_pos h2] at h; simp at h; obtain ⟨rfl, rfl, rfl⟩ := h; simp
    rw [if_neg h2] at h
    by_cases h3 : c.toNat < 128
    · rw [if_pos h3] at h; simp at h; obtain ⟨_, _, rfl⟩ := h; simp
    · rw [if_neg h3] at h; exact ih _ _ _ _ _ h

theorem takeL_err (l : List UInt8) : ((takeL l).2.2 = 0 ∨ (takeL l).2.2 = 2 ∨ (takeL l).2.2 = 3 ∨ (takeL l).2.2 = 4) ∧ ((takeL l).2.2 ≠ 0 → (takeL l).1 = 0 ∧ (takeL l).2.1 = []) :=
  take_err l 0 0 _ _ _ rfl
theorem takeL_bd (l : List UInt8) : (takeL l).1 < 18446744073709551616 := by
  by_cases h : (takeL l).2.2 = 0
  · exact (put_takeL l (takeL l).2.1 (takeL l).1 (by rw [← h])).2
  · rw [((takeL_err l).2 h).1]; omega
theorem tk_len : ∀ (l : List UInt8) (k acc : Nat), (tk k acc l).2.1.length ≤ l.length := by
  intro l
  induction l with
  | nil => intro k acc; simp [tk]
  | cons c l ih =>
    intro k acc
    unfold tk
    split
    · simp
    split
    · simp
    split
    · simp
    · have := ih (k + 1) (acc + (c.toNat - 128) * 128 ^ k); simp; omega

/-- P1.8. -/
theorem put_len (f : Nat) : ∀ (n w : Nat), 1 ≤ w → ((putF f n).length ≤ w ↔ (f + 1 ≤ w ∨ n < 128 ^ w)) := by
  induction f with
  | zero => intro n w hw; simp [putF]; omega
  | succ f ih =>
    intro n w hw
    obtain ⟨v, rfl⟩ : ∃ v, w = v + 1 := ⟨w - 1, by omega⟩
    have hp : 0 < 128 ^ v := Nat.pow_pos (by omega)
    by_cases h : n < 128
    · simp only [putF, if_pos h, List.length_singleton]
      have : 128 ^ (v + 1) = 128 * 128 ^ v := by rw [Nat.pow_succ, Nat.mul_comm]
      omega
    · simp only [putF, if_neg h, List.length_cons]
      have e : 128 ^ (v + 1) = 128 * 128 ^ v := by rw [Nat.pow_succ, Nat.mul_comm]
      by_cases hv : v = 0
      · subst hv
        have : 0 < (putF f (n / 128)).length := by cases f <;> simp [putF]; split <;> simp
        rw [e, Nat.pow_zero]; omega
      · have := ih (n / 128) v (by omega)
        rw [e]
        constructor
        · intro hh
          rcases this.1 (by omega) with h1 | h1
          · left; omega
          · right; omega
        · intro hh
          have : (putF f (n / 128)).length ≤ v := this.2 (by
            rcases hh with h1 | h1
            · left; omega
            · right; omega)
          omega
theorem putF_pos (f n : Nat) : 0 < (putF f n).length := by cases f <;> simp [putF]; split <;> simp
theorem putL_le (n : Nat) : (putL n).length ≤ 10 := (put_len 9 n 10 (by omega)).2 (Or.inl (by omega))
end Go.Proofs.YtnfchfldpdnjoaaDoor
