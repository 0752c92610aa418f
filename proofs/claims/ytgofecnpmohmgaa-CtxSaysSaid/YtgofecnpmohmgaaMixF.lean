/-
  What is proved: the check on a region's order that region_mix asks (mixB), reckoned by one number's bits in the place of an array: what it finds holds of mixB.
-/
import Derived.Test.YtgofecnpmohmgaaM1
namespace Go.Proofs.Ytgofecnpmohmgaa
open Go.RowKit

def bits (n m : Nat) : Array Bool := ((List.range n).map (Nat.testBit m)).toArray
theorem bits_size (n m : Nat) : (bits n m).size = n := by simp [bits]
theorem bits_getD (n m j : Nat) (d : Bool) : (bits n m).getD j d = if j < n then m.testBit j else d := by
  rw [Array.getD_eq_getD_getElem?]
  unfold bits
  rw [List.getElem?_toArray, List.getElem?_map]
  by_cases h : j < n
  · rw [if_pos h, List.getElem?_range h]; rfl
  · rw [if_neg h, List.getElem?_eq_none (by rw [List.length_range]; omega)]; rfl
theorem bits_set (n m i : Nat) : (bits n m).setIfInBounds i true = bits n (m ||| 2 ^ i) := by
  apply Array.ext
  · simp [bits]
  · intro j h1 h2
    have hj : j < n := by simpa [bits] using h2
    rw [Array.getElem_setIfInBounds (by simpa [bits] using hj)]
    simp only [bits, List.getElem_toArray, List.getElem_map, List.getElem_range, Nat.testBit_or, Nat.testBit_two_pow]
    by_cases e : i = j
    · simp [e]
    · simp [e]
theorem bits_none (n : Nat) : Array.replicate n false = bits n 0 := by
  apply Array.ext
  · simp [bits]
  · intro j h1 h2
    simp [bits]

def isReady (ops : Array Oper) (n m i : Nat) : Bool :=
  !m.testBit i && match ops[i]? with
    | some o => o.after.all fun e => !Region.binds .any e || (Nat.blt e.on n && m.testBit e.on)
    | none => false
def isFree (ops : Array Oper) (n m i : Nat) : Bool :=
  match ops[i]? with
  | none => false
  | some oi => (List.range n).all fun j => j == i || m.testBit j || match ops[j]? with
      | some oj => oj.after.any (fun e => Region.binds .any e && e.on == i) || oi.apart ops oj
      | none => true
def isPlain (ops : Array Oper) (i : Nat) : Bool := match ops[i]? with | some o => plainOp o.op | none => false
def quietF (ops : Array Oper) (n : Nat) : List Nat → Nat → Option Nat
  | [], m => some m
  | i :: r, m => if (Nat.blt i n && isReady ops n m i && isFree ops n m i && isPlain ops i) = true then quietF ops n r (m ||| 2 ^ i) else none
def mixF (ops : Array Oper) (n : Nat) : List (List Nat × Option Nat) → Nat → Bool
  | [], m => (List.range n).all fun j => !isReady ops n m j
  | (l, x) :: r, m => match quietF ops n l m with
    | none => false
    | some y => match x with
      | none => mixF ops n r y
      | some i => Nat.blt i n && (List.range n).all (fun j => isReady ops n y j == (j == i)) && (ops[i]?).isSome && mixF ops n r (y ||| 2 ^ i)

theorem ready_bits (ops : Array Oper) (m : Nat) : Region.ready .any ops (bits ops.size m) = (List.range ops.size).filter fun i => isReady ops ops.size m i := by
  unfold Region.ready
  apply List.filter_congr
  intro i hi
  have hi' : i < ops.size := List.mem_range.1 hi
  unfold isReady
  rw [bits_getD, if_pos hi']
  congr 1
  rw [Array.getElem?_eq_getElem hi']
  simp only [Option.map_some, Option.getD_some]
  congr 1
  funext e
  rw [bits_getD]
  by_cases h : e.on < ops.size
  · rw [if_pos h, show Nat.blt e.on ops.size = true by rw [Nat.blt_eq]; exact h, Bool.true_and]
  · rw [if_neg h, show Nat.blt e.on ops.size = false by rw [Bool.eq_false_iff, Ne, Nat.blt_eq]; exact h, Bool.false_and]
theorem free_bits (ops : Array Oper) (m i : Nat) : Region.free .any ops (bits ops.size m) i = isFree ops ops.size m i := by
  unfold Region.free isFree
  cases ops[i]? with
  | none => rfl
  | some oi =>
    simp only
    rw [Bool.eq_iff_iff, List.all_eq_true, List.all_eq_true]
    have hb : ∀ j, j ∈ List.range ops.size → (bits ops.size m).getD j true = m.testBit j := fun j hj => by
      rw [bits_getD, if_pos (List.mem_range.1 hj)]
    constructor
    · intro h j hj
      have := h j hj
      rwa [hb j hj] at this
    · intro h j hj
      rw [hb j hj]
      exact h j hj
theorem filter_one {n i : Nat} {p : Nat → Bool} (hi : i < n) (h : ∀ j, j < n → p j = (j == i)) : (List.range n).filter p = [i] := by
  rw [List.filter_congr (q := fun j => j == i) (fun j hj => h j (List.mem_range.1 hj))]
  induction n with
  | zero => omega
  | succ n ih =>
    rw [List.range_succ, List.filter_append]
    by_cases e : i = n
    · subst e
      rw [List.filter_eq_nil_iff.2 (fun j hj => by have := List.mem_range.1 hj; simp; omega)]
      simp
    · rw [ih (by omega) (fun j hj => h j (by omega))]
      simp [Ne.symm e]
theorem quietF_B (ops : Array Oper) : ∀ (l : List Nat) (m y : Nat), quietF ops ops.size l m = some y → quietB ops l (bits ops.size m) = some (bits ops.size y)
  | [], m, y, h => by
    simp only [quietF, Option.some.injEq] at h
    subst h; rfl
  | i :: r, m, y, h => by
    simp only [quietF] at h
    split at h
    · rename_i hc
      rw [Bool.and_eq_true, Bool.and_eq_true, Bool.and_eq_true, Nat.blt_eq] at hc
      obtain ⟨⟨⟨hi, hr⟩, hf⟩, hp⟩ := hc
      have hok : okAt ops (bits ops.size m) i = true := by
        unfold okAt
        rw [Bool.and_eq_true, Bool.and_eq_true]
        refine ⟨?_, by rw [free_bits]; exact hf, hp⟩
        rw [ready_bits, List.contains_iff_mem, List.mem_filter]
        exact ⟨List.mem_range.2 hi, hr⟩
      simp only [quietB]
      rw [if_pos hok, bits_set]
      exact quietF_B ops r _ y h
    · cases h
theorem mixF_B (ops : Array Oper) : ∀ (S : List (List Nat × Option Nat)) (m : Nat), mixF ops ops.size S m = true → mixB ops S (bits ops.size m) = true
  | [], m, h => by
    simp only [mixF, List.all_eq_true, Bool.not_eq_true'] at h
    simp only [mixB, List.isEmpty_iff]
    rw [ready_bits, List.filter_eq_nil_iff]
    intro j hj
    rw [h j hj]
    simp
  | (l, x) :: r, m, h => by
    simp only [mixF] at h
    cases hq : quietF ops ops.size l m with
    | none => rw [hq] at h; simp at h
    | some y =>
      rw [hq] at h
      simp only [mixB, quietF_B ops l m y hq]
      cases x with
      | none => exact mixF_B ops r y h
      | some i =>
        simp only [Bool.and_eq_true, Nat.blt_eq, List.all_eq_true, beq_iff_eq] at h
        obtain ⟨⟨⟨hi, ha⟩, hs⟩, hm⟩ := h
        simp only [Bool.and_eq_true, beq_iff_eq]
        refine ⟨⟨?_, hs⟩, by rw [bits_set]; exact mixF_B ops r _ hm⟩
        rw [ready_bits]
        exact filter_one hi fun j hj => ha j (List.mem_range.2 hj)
theorem mix_fast {l : List Oper} {S : List (List Nat × Option Nat)} (n : Nat) (hn : l.length = n) (h : mixF l.toArray n S 0 = true) : mixB l.toArray S (Array.replicate l.length false) = true := by
  subst hn
  have := mixF_B l.toArray S 0 (by rw [List.size_toArray]; exact h)
  rwa [List.size_toArray, ← bits_none] at this
end Go.Proofs.Ytgofecnpmohmgaa
