/-
  What is proved: plain facts on the document's paths (P4.1 to P4.11), on lists of bytes alone; no program is spoken of here.
-/
import Derived.Lib.Join
namespace Go.Proofs.YtoanccojpppfoaaDoor.L4

/-- P4.2: what stands between the strokes. -/
def spl : List UInt8 → List (List UInt8)
  | [] => [[]]
  | c :: r => if c = 47 then [] :: spl r else match spl r with
    | [] => [[c]]
    | s :: t => (c :: s) :: t
theorem spl_ne (l : List UInt8) : spl l ≠ [] := by
  cases l with
  | nil => simp [spl]
  | cons c r =>
    unfold spl
    split
    · simp
    · split <;> simp
theorem spl_stroke (r : List UInt8) : spl (47 :: r) = [] :: spl r := by simp [spl]
theorem spl_plain (c : UInt8) (r : List UInt8) (h : c ≠ 47) : ∃ s t, spl r = s :: t ∧ spl (c :: r) = (c :: s) :: t := by
  cases e : spl r with
  | nil => exact absurd e (spl_ne r)
  | cons s t => exact ⟨s, t, rfl, by simp only [spl, if_neg h, e]⟩
theorem spl_none : ∀ (l : List UInt8), (∀ c ∈ l, c ≠ 47) → spl l = [l]
  | [], _ => rfl
  | c :: r, h => by
    obtain ⟨s, t, e1, e2⟩ := spl_plain c r (h c (by simp))
    rw [spl_none r (fun x hx => h x (by simp [hx]))] at e1
    injection e1 with a b
    rw [e2, ← a, ← b]
theorem spl_cut : ∀ (a r : List UInt8), (∀ c ∈ a, c ≠ 47) → spl (a ++ 47 :: r) = a :: spl r
  | [], r, _ => spl_stroke r
  | c :: a, r, h => by
    obtain ⟨s, t, e1, e2⟩ := spl_plain c (a ++ 47 :: r) (h c (by simp))
    rw [spl_cut a r (fun x hx => h x (by simp [hx]))] at e1
    injection e1 with x y
    rw [List.cons_append, e2, ← x, ← y]
theorem spl_len : ∀ l : List UInt8, (spl l).length = l.count 47 + 1
  | [] => rfl
  | c :: r => by
    have ih := spl_len r
    by_cases h : c = 47
    · subst h; rw [spl_stroke]; simp [ih]
    · obtain ⟨s, t, e1, e2⟩ := spl_plain c r h
      rw [e1] at ih
      rw [e2, List.count_cons_of_ne h, ← ih]
      rfl
theorem spl_no : ∀ (l : List UInt8) s, s ∈ spl l → ∀ c ∈ s, c ≠ 47
  | [], s, hs => by
    have : s = [] := by simpa [spl] using hs
    subst this; simp
  | c :: r, s, hs => by
    by_cases h : c = 47
    · subst h
      rw [spl_stroke] at hs
      rcases List.mem_cons.1 hs with rfl | hs
      · simp
      · exact spl_no r s hs
    · obtain ⟨s', t, e1, e2⟩ := spl_plain c r h
      rw [e2] at hs
      rcases List.mem_cons.1 hs with rfl | hs
      · intro x hx
        rcases List.mem_cons.1 hx with rfl | hx
        · exact h
        · exact spl_no r s' (by rw [e1]; simp) x hx
      · exact spl_no r s (by rw [e1]; simp [hs])
theorem spl_size : ∀ l : List UInt8, ∀ s ∈ spl l, s.length ≤ l.length
  | [], s, hs => by
    have : s = [] := by simpa [spl] using hs
    subst this; simp
  | c :: r, s, hs => by
    by_cases h : c = 47
    · subst h
      rw [spl_stroke] at hs
      rcases List.mem_cons.1 hs with rfl | hs
      · simp
      · have := spl_size r s hs; simp; omega
    · obtain ⟨s', t, e1, e2⟩ := spl_plain c r h
      rw [e2] at hs
      rcases List.mem_cons.1 hs with rfl | hs
      · have := spl_size r s' (by rw [e1]; simp); simp; omega
      · have := spl_size r s (by rw [e1]; simp [hs]); simp; omega

/-- P4.3. -/
def joi (L : List (List UInt8)) : List UInt8 := Lib.join L [47]
theorem joi_cons2 (a b : List UInt8) (r : List (List UInt8)) : joi (a :: b :: r) = a ++ 47 :: joi (b :: r) := by
  unfold joi
  rw [Lib.join_cons, Lib.join_cons]
  simp [Lib.joinTail]
theorem joi_one (a : List UInt8) : joi [a] = a := Lib.join_one a _
theorem joi_nil : joi [] = [] := rfl
theorem joi_spl : ∀ l : List UInt8, joi (spl l) = l
  | [] => joi_one []
  | c :: r => by
    have ih := joi_spl r
    by_cases h : c = 47
    · subst h
      rw [spl_stroke]
      cases e : spl r with
      | nil => exact absurd e (spl_ne r)
      | cons b t => rw [joi_cons2, ← e, ih]; rfl
    · obtain ⟨s, t, e1, e2⟩ := spl_plain c r h
      rw [e1] at ih
      rw [e2]
      cases t with
      | nil => rw [joi_one] at ih ⊢; rw [ih]
      | cons b t => rw [joi_cons2] at ih ⊢; rw [List.cons_append, ih]
theorem spl_joi : ∀ L : List (List UInt8), L ≠ [] → (∀ s ∈ L, ∀ c ∈ s, c ≠ 47) → spl (joi L) = L
  | [], h, _ => absurd rfl h
  | [a], _, h => by rw [joi_one]; exact spl_none a (h a (by simp))
  | a :: b :: r, _, h => by
    rw [joi_cons2, spl_cut a _ (h a (by simp)), spl_joi (b :: r) (by simp) (fun s hs => h s (by simp [hs]))]
theorem joi_len : ∀ (L : List (List UInt8)) (m : Nat), (∀ s ∈ L, s.length ≤ m) → (joi L).length ≤ L.length * (m + 1)
  | [], _, _ => by simp [joi_nil]
  | [a], m, h => by
    have := h a (by simp)
    rw [joi_one]; simp; omega
  | a :: b :: r, m, h => by
    have h1 := h a (by simp)
    have h2 := joi_len (b :: r) m (fun s hs => h s (by simp [hs]))
    rw [joi_cons2]
    simp only [List.length_append, List.length_cons, Nat.add_mul, Nat.one_mul] at h2 ⊢
    omega

/-- P4.1: a byte that may stand in a segment. -/
def okC (c : Nat) : Bool := decide (97 ≤ c ∧ c ≤ 122 ∨ 48 ≤ c ∧ c ≤ 57 ∨ c = 95)
theorem okC_small (c : Nat) (h : okC c = true) : c < 128 ∧ c ≠ 47 ∧ c ≠ 42 := by
  unfold okC at h; simp only [decide_eq_true_eq] at h; omega
def segL (l : List UInt8) : Bool := l.all (fun c => okC c.toNat) && (!l.isEmpty && decide (l.length ≤ 16))
theorem segL_len (l : List UInt8) (h : segL l = true) : l.length ≤ 16 ∧ l ≠ [] := by
  unfold segL at h
  simp only [Bool.and_eq_true, Bool.not_eq_true', List.isEmpty_eq_false_iff, decide_eq_true_eq] at h
  exact ⟨h.2.2, h.2.1⟩
theorem segL_no (l : List UInt8) (h : segL l = true) : ∀ c ∈ l, c ≠ 47 := by
  unfold segL at h
  simp only [Bool.and_eq_true, List.all_eq_true] at h
  rintro c hc rfl
  exact (okC_small _ (h.1 _ hc)).2.1 rfl
theorem segL_star : segL [42] = false := by decide

/-- P4.4 and P4.5, of the segments. -/
def rightL (L : List (List UInt8)) : Bool := L.all segL && decide (L.length ≤ 6)
def patAt (k : Nat) (s : List UInt8) : Bool := segL s || (k != 0 && s == [42])
def patAll : Nat → List (List UInt8) → Bool
  | _, [] => true
  | k, s :: r => patAt k s && patAll (k + 1) r
def patL (L : List (List UInt8)) : Bool := patAll 0 L && decide (L.length ≤ 6)

/-- P4.6. -/
def begL : List (List UInt8) → List (List UInt8) → Bool
  | _, [] => true
  | [], _ :: _ => false
  | x :: l, y :: m => (y == [42] || y == x) && begL l m
theorem begL_short : ∀ (l m : List (List UInt8)), l.length < m.length → begL l m = false
  | _, [], h => by simp at h
  | [], _ :: _, _ => rfl
  | x :: l, y :: m, h => by simp [begL, begL_short l m (by simpa using h)]
/-- P4.7. -/
def matL (l m : List (List UInt8)) : Bool := l.length == m.length && begL l m
/-- P4.8. -/
def apL : List (List UInt8) → List (List UInt8) → Bool
  | x :: l, y :: m => if x = y then apL l m else (x != [42] && y != [42])
  | _, _ => false
theorem apL_comm : ∀ l m, apL l m = apL m l
  | [], [] => rfl
  | [], _ :: _ => rfl
  | _ :: _, [] => rfl
  | x :: l, y :: m => by
    unfold apL
    by_cases h : x = y
    · rw [if_pos h, if_pos h.symm, apL_comm l m]
    · rw [if_neg h, if_neg (fun e => h e.symm), Bool.and_comm]
/-- P4.10: nothing without a * begins with both. -/
theorem apart_not : ∀ (p a b : List (List UInt8)), apL a b = true → begL p a = true → begL p b = true → False
  | _, [], _, h, _, _ => by simp [apL] at h
  | _, _ :: _, [], h, _, _ => by simp [apL] at h
  | [], _ :: _, _ :: _, _, h, _ => by simp [begL] at h
  | p :: ps, a :: as, b :: bs, h, h1, h2 => by
    simp only [begL, Bool.and_eq_true, Bool.or_eq_true, beq_iff_eq] at h1 h2
    unfold apL at h
    by_cases e : a = b
    · rw [if_pos e] at h
      exact apart_not ps as bs h h1.2 h2.2
    · rw [if_neg e] at h
      simp only [Bool.and_eq_true, bne_iff_ne] at h
      rcases h1.1 with x | x
      · exact h.1 x
      · rcases h2.1 with y | y
        · exact h.2 y
        · exact e (x.trans y.symm)
theorem begL_self : ∀ l, begL l l = true
  | [] => rfl
  | x :: l => by simp [begL, begL_self l]
theorem matL_self (l : List (List UInt8)) : matL l l = true := by simp [matL, begL_self]
/-- P4.8 of two without a *, of as many segments. -/
theorem apL_right : ∀ (l m : List (List UInt8)), l.length = m.length → l.all segL = true → m.all segL = true → apL l m = (l != m)
  | [], [], _, _, _ => rfl
  | [], _ :: _, h, _, _ => by simp at h
  | _ :: _, [], h, _, _ => by simp at h
  | x :: l, y :: m, h, h1, h2 => by
    simp only [List.all_cons, Bool.and_eq_true] at h1 h2
    unfold apL
    by_cases e : x = y
    · subst e
      rw [if_pos rfl, apL_right l m (by simpa using h) h1.2 h2.2]
      cases hb : (l != m) with
      | true => have : l ≠ m := by simpa using hb
                symm; simpa using this
      | false => have : l = m := by simpa using hb
                 simp [this]
    · rw [if_neg e]
      have n1 : x ≠ [42] := fun hh => by rw [hh, segL_star] at h1; simp at h1
      have n2 : y ≠ [42] := fun hh => by rw [hh, segL_star] at h2; simp at h2
      have n3 : ¬ (x :: l = y :: m) := fun hh => e (List.cons.inj hh).1
      rw [bne_iff_ne.2 n1, bne_iff_ne.2 n2, bne_iff_ne.2 n3]
      rfl

/-- P4.9, of the segments. -/
def swapL (L M : List (List UInt8)) (k : Nat) : List (List UInt8) := L.take k ++ M ++ L.drop (k + 1)
end Go.Proofs.YtoanccojpppfoaaDoor.L4
