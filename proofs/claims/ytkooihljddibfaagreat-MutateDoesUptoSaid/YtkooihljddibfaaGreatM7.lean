/-
  What is proved: plain facts on sets of dots (P6.1 to P6.9, P6.13, P6.14): what is in one, when one is right, that sets with the same dots are the same, and what compacting makes of any dots; no program is spoken of here.
  append of a slice of dots onto a row of the call's own; slices.Clone at dots: the result lies in a row of its own and holds the slice's dots; the world has new blocks at most.
  dot.Has and the document's Has, called with any slice of dots that lies in memory and any dot, tell whether it is there (P5.7); the laws' Same tells whether two slices hold the same dots; the world has new blocks at most.
  slices.BinarySearchFunc at dots, with dot.Cmp, called with any rising slice of dots and any dot, returns its place and whether it is there; the world has new blocks at most.
-/
import Derived.Test.YtkooihljddibfaaGreatM6
import Derived.Lib.SliceRun
import Derived.Lib.Walk
import Derived.Lib.AppendZerosOnto
import Derived.Lib.AppendZeros
import Derived.Test.YtkooihljddibfaaGreatM1
import Derived.BigQuiet
namespace Go.Proofs.YtkooihljddibfaaGreat

/-- Up to which number a replica's dots are all there. -/
def atV (V : List Int) (rep : Int) : Int := if 0 ≤ rep then V.getD rep.toNat 0 else 0
theorem atV_nat (V : List Int) (k : Nat) : atV V k = V.getD k 0 := by
  unfold atV; rw [if_pos (by omega), Int.toNat_natCast]
theorem atV_nil (r : Int) : atV [] r = 0 := by unfold atV; split <;> simp
theorem atV_neg (V : List Int) {r : Int} (h : r < 0) : atV V r = 0 := by unfold atV; rw [if_neg (by omega)]
theorem atV_out (V : List Int) {r : Int} (h : (V.length : Int) ≤ r) : atV V r = 0 := by
  unfold atV
  split
  · rw [List.getD_eq_getElem?_getD, List.getElem?_eq_none (by omega)]; rfl
  · rfl
theorem atV_in {V : List Int} {k : Nat} {n : Int} (h : V[k]? = some n) : atV V k = n := by
  rw [atV_nat, List.getD_eq_getElem?_getD, h]; rfl
/-- P6.2. -/
def hasC (V : List Int) (C : List (Int × Int)) (d : Int × Int) : Prop := (1 ≤ d.2 ∧ d.2 ≤ atV V d.1) ∨ d ∈ C
instance (V : List Int) (C : List (Int × Int)) (d : Int × Int) : Decidable (hasC V C d) := inferInstanceAs (Decidable ((1 ≤ d.2 ∧ d.2 ≤ atV V d.1) ∨ d ∈ C))
structure VecOk (V : List Int) : Prop where
  len : V.length ≤ 64
  bd : ∀ n ∈ V, 0 ≤ n ∧ n ≤ 1073741824
theorem VecOk.at_bd {V : List Int} (h : VecOk V) (r : Int) : 0 ≤ atV V r ∧ atV V r ≤ 1073741824 := by
  unfold atV
  split
  · rw [List.getD_eq_getElem?_getD]
    cases hk : V[r.toNat]? with
    | none => simp
    | some n => exact h.bd n (List.mem_of_getElem? hk)
  · simp
/-- P6.1. -/
structure RightC (V : List Int) (C : List (Int × Int)) : Prop where
  vec : VecOk V
  last : ∀ k : Nat, V.length = k + 1 → V.getD k 0 ≠ 0
  rise : Rise C
  right : ∀ d ∈ C, rightD d = true
  apart : ∀ d ∈ C, atV V d.1 < d.2 - 1
theorem right_le {V V' : List Int} {C C' : List (Int × Int)} (hv : VecOk V') (h' : ∀ d ∈ C', atV V' d.1 < d.2 - 1) (he : ∀ d, hasC V C d → hasC V' C' d) (r : Int) : atV V r ≤ atV V' r := by
  refine Classical.byContradiction fun hn => ?_
  have hb := hv.at_bd r
  rcases he (r, atV V' r + 1) (.inl ⟨by simp only; omega, by simp only; omega⟩) with h | h
  · simp only at h; omega
  · have := h' _ h
    simp only at this; omega
theorem vec_same {V V' : List Int} (h : ∀ k : Nat, V.length = k + 1 → V.getD k 0 ≠ 0) (h' : ∀ k : Nat, V'.length = k + 1 → V'.getD k 0 ≠ 0) (he : ∀ r, atV V r = atV V' r) : V = V' := by
  have hl : ∀ {V V' : List Int}, (∀ k : Nat, V'.length = k + 1 → V'.getD k 0 ≠ 0) → (∀ r, atV V r = atV V' r) → V'.length ≤ V.length := by
    intro V V' h' he
    refine Classical.byContradiction fun hn => ?_
    obtain ⟨k, hk⟩ : ∃ k, V'.length = k + 1 := ⟨V'.length - 1, by omega⟩
    have h1 := he k
    rw [atV_out V (by omega), atV_nat] at h1
    exact h' k hk h1.symm
  have e : V.length = V'.length := Nat.le_antisymm (hl h (fun r => (he r).symm)) (hl h' he)
  refine List.ext_getElem e fun i h1 h2 => ?_
  have := he i
  rwa [atV_in (List.getElem?_eq_getElem h1), atV_in (List.getElem?_eq_getElem h2)] at this
/-- P6.13: sets that have the same dots are the same. -/
theorem right_unique {V V' : List Int} {C C' : List (Int × Int)} (h : RightC V C) (h' : RightC V' C') (he : ∀ d, hasC V C d ↔ hasC V' C' d) : V = V' ∧ C = C' := by
  have ha : ∀ r, atV V r = atV V' r := fun r => Int.le_antisymm (right_le h'.vec h'.apart (fun d => (he d).1) r) (right_le h.vec h.apart (fun d => (he d).2) r)
  refine ⟨vec_same h.last h'.last ha, rise_unique C C' h.rise h'.rise fun d => ⟨fun hd => ?_, fun hd => ?_⟩⟩
  · rcases (he d).1 (.inr hd) with h1 | h1
    · have := h.apart d hd
      rw [ha] at this; omega
    · exact h1
  · rcases (he d).2 (.inr hd) with h1 | h1
    · have := h'.apart d hd
      rw [← ha] at this; omega
    · exact h1
/-- The set of the dots that S tells. -/
structure SetC (S : Int × Int → Prop) (V : List Int) (C : List (Int × Int)) : Prop where
  right : RightC V C
  has : ∀ d, hasC V C d ↔ S d
theorem SetC.same {S S' : Int × Int → Prop} {V V' : List Int} {C C' : List (Int × Int)} (h : SetC S V C) (h' : SetC S' V' C') (he : ∀ d, S d ↔ S' d) : V = V' ∧ C = C' :=
  right_unique h.right h'.right fun d => ((h.has d).trans (he d)).trans (h'.has d).symm
theorem SetC.self {V : List Int} {C : List (Int × Int)} (h : RightC V C) : SetC (hasC V C) V C := ⟨h, fun _ => Iff.rfl⟩
theorem RightC.has_right {V : List Int} {C : List (Int × Int)} (h : RightC V C) {d : Int × Int} (hd : hasC V C d) : rightD d = true := by
  rcases hd with ⟨h1, h2⟩ | hd
  · unfold rightD
    rw [decide_eq_true_iff]
    have hb := h.vec.at_bd d.1
    have hl := h.vec.len
    refine ⟨?_, ?_, h1, by omega⟩
    · refine Classical.byContradiction fun hn => ?_
      rw [atV_neg V (by omega)] at h2; omega
    · refine Classical.byContradiction fun hn => ?_
      rw [atV_out V (by omega)] at h2; omega
  · exact h.right d hd

/-- Noughts behind, up to n numbers. -/
def padV (V : List Int) (n : Nat) : List Int := V ++ List.replicate (n - V.length) 0
theorem padV_len (V : List Int) (n : Nat) : (padV V n).length = max V.length n := by
  unfold padV; rw [List.length_append, List.length_replicate]; omega
theorem padV_getD (V : List Int) (n k : Nat) : (padV V n).getD k 0 = V.getD k 0 := by
  unfold padV
  rw [List.getD_eq_getElem?_getD, List.getD_eq_getElem?_getD]
  rcases Nat.lt_or_ge k V.length with h | h
  · rw [List.getElem?_append_left h]
  · rw [List.getElem?_append_right h, List.getElem?_eq_none h, List.getElem?_replicate]
    split <;> rfl
theorem padV_at (V : List Int) (n : Nat) (r : Int) : atV (padV V n) r = atV V r := by
  unfold atV; split
  · exact padV_getD V n _
  · rfl
theorem padV_ok {V : List Int} (h : VecOk V) {n : Nat} (hn : n ≤ 64) : VecOk (padV V n) := by
  refine ⟨by rw [padV_len]; have := h.len; omega, fun x hx => ?_⟩
  unfold padV at hx
  rcases List.mem_append.1 hx with hx | hx
  · exact h.bd x hx
  · have := (List.mem_replicate.1 hx).2
    omega
theorem set_at {V : List Int} {k : Nat} (hk : k < V.length) (x : Int) (r : Int) : atV (V.set k x) r = if r = k then x else atV V r := by
  by_cases hr : 0 ≤ r
  · obtain ⟨j, rfl⟩ : ∃ j : Nat, r = j := ⟨r.toNat, by omega⟩
    rw [atV_nat, atV_nat, List.getD_eq_getElem?_getD, List.getD_eq_getElem?_getD, List.getElem?_set]
    by_cases e : k = j
    · subst e; simp [hk]
    · rw [if_neg e, if_neg (by omega)]
  · rw [atV_neg _ (by omega), atV_neg _ (by omega), if_neg (by omega)]
theorem set_ok {V : List Int} (h : VecOk V) (k : Nat) {x : Int} (h0 : 0 ≤ x) (h1 : x ≤ 1073741824) : VecOk (V.set k x) := by
  refine ⟨by rw [List.length_set]; exact h.len, fun n hn => ?_⟩
  rcases List.mem_or_eq_of_mem_set hn with hn | rfl
  · exact h.bd n hn
  · exact ⟨h0, h1⟩

/-- What is kept while dots are gone through, rising. -/
structure InvC (V0 : List Int) (P : List (Int × Int)) (V : List Int) (C : List (Int × Int)) : Prop where
  vec : VecOk V
  sub : C.Sublist P
  right : ∀ d ∈ C, rightD d = true
  apart : ∀ d ∈ C, atV V d.1 < d.2 - 1
  has : ∀ d, hasC V C d ↔ hasC V0 [] d ∨ (rightD d = true ∧ d ∈ P)
theorem InvC.start {V0 : List Int} (h : VecOk V0) : InvC V0 [] V0 [] :=
  ⟨h, List.Sublist.refl _, (fun d hd => by cases hd), (fun d hd => by cases hd), fun d => by simp⟩
theorem InvC.skip {V0 V : List Int} {P C : List (Int × Int)} (h : InvC V0 P V C) {d : Int × Int} (hd : rightD d = true → hasC V C d) : InvC V0 (P ++ [d]) V C := by
  refine ⟨h.vec, h.sub.trans (List.sublist_append_left _ _), h.right, h.apart, fun x => ?_⟩
  rw [h.has]
  constructor
  · rintro (hx | ⟨h1, h2⟩)
    · exact .inl hx
    · exact .inr ⟨h1, List.mem_append_left _ h2⟩
  · rintro (hx | ⟨h1, h2⟩)
    · exact .inl hx
    · rcases List.mem_append.1 h2 with h2 | h2
      · exact .inr ⟨h1, h2⟩
      · obtain rfl : x = d := by simpa using h2
        exact (h.has x).1 (hd h1)
theorem InvC.pad {V0 V : List Int} {P C : List (Int × Int)} (h : InvC V0 P V C) {n : Nat} (hn : n ≤ 64) : InvC V0 P (padV V n) C := by
  refine ⟨padV_ok h.vec hn, h.sub, h.right, fun d hd => by rw [padV_at]; exact h.apart d hd, fun d => ?_⟩
  unfold hasC
  rw [padV_at]
  exact h.has d
theorem InvC.inc {V0 V : List Int} {P C : List (Int × Int)} (h : InvC V0 P V C) {d : Int × Int} (hP : ∀ p ∈ P, LtD p d) (hd : rightD d = true) (hl : d.1.toNat < V.length) (he : d.2 = atV V d.1 + 1) : InvC V0 (P ++ [d]) (V.set d.1.toNat d.2) C := by
  obtain ⟨b1, b2, b3, b4⟩ := rightD_bd hd
  have hat : ∀ r, atV (V.set d.1.toNat d.2) r = if r = d.1 then d.2 else atV V r := fun r => by
    rw [set_at hl, show ((d.1.toNat : Nat) : Int) = d.1 by omega]
  have hC : ∀ x ∈ C, x.1 ≠ d.1 := fun x hx e => by
    have h1 := h.apart x hx
    have h2 := hP x (h.sub.mem hx)
    unfold LtD at h2
    rw [e] at h1
    omega
  refine ⟨set_ok h.vec _ (by omega) b4, h.sub.trans (List.sublist_append_left _ _), h.right, fun x hx => by rw [hat, if_neg (hC x hx)]; exact h.apart x hx, fun x => ?_⟩
  have hh := h.has x
  have key : hasC (V.set d.1.toNat d.2) C x ↔ hasC V C x ∨ x = d := by
    unfold hasC
    rw [hat]
    by_cases e : x.1 = d.1
    · rw [if_pos e, e]
      constructor
      · rintro (⟨h1, h2⟩ | h1)
        · by_cases e2 : x.2 = d.2
          · exact .inr (Prod.ext e e2)
          · exact .inl (.inl ⟨h1, by omega⟩)
        · exact .inl (.inr h1)
      · rintro ((⟨h1, h2⟩ | h1) | h1)
        · exact .inl ⟨h1, by omega⟩
        · exact .inr h1
        · subst h1; exact .inl ⟨b3, Int.le_refl _⟩
    · rw [if_neg e]
      constructor
      · exact .inl
      · rintro (h1 | h1)
        · exact h1
        · exact absurd (h1 ▸ rfl) e
  rw [key, hh, List.mem_append, List.mem_singleton]
  constructor
  · rintro ((h1 | ⟨h1, h2⟩) | h1)
    · exact .inl h1
    · exact .inr ⟨h1, .inl h2⟩
    · exact .inr ⟨h1 ▸ hd, .inr h1⟩
  · rintro (h1 | ⟨h1, h2 | h2⟩)
    · exact .inl (.inl h1)
    · exact .inl (.inr ⟨h1, h2⟩)
    · exact .inr h2
theorem InvC.put {V0 V : List Int} {P C : List (Int × Int)} (h : InvC V0 P V C) {d : Int × Int} (hd : rightD d = true) (he : atV V d.1 + 1 < d.2) : InvC V0 (P ++ [d]) V (C ++ [d]) := by
  refine ⟨h.vec, List.Sublist.append h.sub (List.Sublist.refl _), fun x hx => ?_, fun x hx => ?_, fun x => ?_⟩
  · rcases List.mem_append.1 hx with hx | hx
    · exact h.right x hx
    · obtain rfl : x = d := by simpa using hx
      exact hd
  · rcases List.mem_append.1 hx with hx | hx
    · exact h.apart x hx
    · obtain rfl : x = d := by simpa using hx
      omega
  · have hh := h.has x
    have key : hasC V (C ++ [d]) x ↔ hasC V C x ∨ x = d := by
      unfold hasC
      rw [List.mem_append, List.mem_singleton, or_assoc]
    rw [key, hh, List.mem_append, List.mem_singleton]
    constructor
    · rintro ((h1 | ⟨h1, h2⟩) | h1)
      · exact .inl h1
      · exact .inr ⟨h1, .inl h2⟩
      · exact .inr ⟨h1 ▸ hd, .inr h1⟩
    · rintro (h1 | ⟨h1, h2 | h2⟩)
      · exact .inl (.inl h1)
      · exact .inl (.inr ⟨h1, h2⟩)
      · exact .inr h2
theorem take_at {V : List Int} {n : Nat} (hz : ∀ j, n ≤ j → V.getD j 0 = 0) (r : Int) : atV (V.take n) r = atV V r := by
  unfold atV
  split
  · rw [List.getD_eq_getElem?_getD, List.getElem?_take]
    split
    · rw [List.getD_eq_getElem?_getD]
    · rw [hz _ (by omega)]; rfl
  · rfl
/-- P6.3: what is left when all are gone through, and the noughts at the end let go. -/
theorem InvC.fin {V0 V : List Int} {X C : List (Int × Int)} (h : InvC V0 X V C) (hX : Rise X) {n : Nat} (hn : n ≤ V.length) (hz : ∀ j, n ≤ j → V.getD j 0 = 0) (hl : ∀ k, n = k + 1 → V.getD k 0 ≠ 0) :
    SetC (fun d => hasC V0 [] d ∨ (rightD d = true ∧ d ∈ X)) (V.take n) C := by
  refine ⟨⟨⟨by rw [List.length_take]; have := h.vec.len; omega, fun x hx => h.vec.bd x (List.mem_of_mem_take hx)⟩, fun k hk => ?_, hX.sublist h.sub, h.right, fun d hd => by rw [take_at hz]; exact h.apart d hd⟩, fun d => ?_⟩
  · rw [List.length_take] at hk
    have hk2 : n = k + 1 := by omega
    have := hl k hk2
    rwa [List.getD_eq_getElem?_getD, List.getElem?_take, if_pos (by omega), ← List.getD_eq_getElem?_getD]
  · unfold hasC
    rw [take_at hz]
    exact h.has d
/-- Compacting, of a Vec that is good and any dots. -/
def CompS (V : List Int) (L : List (Int × Int)) (d : Int × Int) : Prop := hasC V [] d ∨ (rightD d = true ∧ d ∈ L)
theorem SetC.comp {V V' : List Int} {X L C' : List (Int × Int)} (h : SetC (fun d => hasC V [] d ∨ (rightD d = true ∧ d ∈ X)) V' C') (hX : ∀ d, d ∈ X ↔ d ∈ L) : SetC (CompS V L) V' C' :=
  ⟨h.right, fun d => by rw [h.has]; unfold CompS; rw [hX]⟩
/-- P6.6: the greater of both, everywhere. -/
def maxV (V W : List Int) : List Int := (List.range (max V.length W.length)).map fun (k : Nat) => max (atV V k) (atV W k)
theorem maxV_len (V W : List Int) : (maxV V W).length = max V.length W.length := by unfold maxV; rw [List.length_map, List.length_range]
theorem maxV_at (V W : List Int) (r : Int) : atV (maxV V W) r = max (atV V r) (atV W r) := by
  by_cases h : 0 ≤ r ∧ r < (max V.length W.length : Nat)
  · obtain ⟨k, rfl⟩ : ∃ k : Nat, r = k := ⟨r.toNat, by omega⟩
    have hk : k < max V.length W.length := by omega
    have : (maxV V W)[k]? = some (max (atV V k) (atV W k)) := by
      unfold maxV; rw [List.getElem?_map, List.getElem?_range hk]; rfl
    exact atV_in this
  · rcases Int.lt_or_le r 0 with hr | hr
    · rw [atV_neg _ hr, atV_neg _ hr, atV_neg _ hr]; rfl
    · rw [atV_out _ (by rw [maxV_len]; omega), atV_out V (by omega), atV_out W (by omega)]; rfl
theorem maxV_ok {V W : List Int} (h1 : VecOk V) (h2 : VecOk W) : VecOk (maxV V W) := by
  refine ⟨by rw [maxV_len]; have := h1.len; have := h2.len; omega, fun n hn => ?_⟩
  unfold maxV at hn
  obtain ⟨k, _, rfl⟩ := List.mem_map.1 hn
  have a := h1.at_bd k
  have b := h2.at_bd k
  omega
theorem join_has {V W : List Int} {C D : List (Int × Int)} (h1 : RightC V C) (h2 : RightC W D) (d : Int × Int) : CompS (maxV V W) (C ++ D) d ↔ hasC V C d ∨ hasC W D d := by
  unfold CompS hasC
  rw [maxV_at V W d.1, List.mem_append]
  constructor
  · rintro ((⟨a, b⟩ | h) | ⟨_, h | h⟩)
    · rcases Int.le_total (atV V d.1) (atV W d.1) with hh | hh
      · exact .inr (.inl ⟨a, by omega⟩)
      · exact .inl (.inl ⟨a, by omega⟩)
    · cases h
    · exact .inl (.inr h)
    · exact .inr (.inr h)
  · rintro ((⟨a, b⟩ | h) | (⟨a, b⟩ | h))
    · exact .inl (.inl ⟨a, by omega⟩)
    · exact .inr ⟨h1.right d h, .inl h⟩
    · exact .inl (.inl ⟨a, by omega⟩)
    · exact .inr ⟨h2.right d h, .inr h⟩
theorem vecOk_nil : VecOk [] := ⟨by simp, fun n hn => by cases hn⟩
theorem of_has (L : List (Int × Int)) (d : Int × Int) : CompS [] L d ↔ rightD d = true ∧ d ∈ L := by
  unfold CompS hasC
  rw [atV_nil]
  constructor
  · rintro ((h | h) | h)
    · omega
    · cases h
    · exact h
  · exact .inr
theorem add_has {V : List Int} {C : List (Int × Int)} (h : RightC V C) (x d : Int × Int) : CompS V (C ++ [x]) d ↔ hasC V C d ∨ (rightD d = true ∧ d = x) := by
  unfold CompS hasC
  rw [List.mem_append, List.mem_singleton]
  constructor
  · rintro ((h1 | h1) | ⟨h1, h2 | h2⟩)
    · exact .inl (.inl h1)
    · cases h1
    · exact .inl (.inr h2)
    · exact .inr ⟨h1, h2⟩
  · rintro ((h1 | h1) | ⟨h1, h2⟩)
    · exact .inl (.inl h1)
    · exact .inr ⟨h.right d h1, .inl h1⟩
    · exact .inr ⟨h1, .inr h2⟩
end Go.Proofs.YtkooihljddibfaaGreat

namespace Go.Proofs.YtkooihljddibfaaGreat
open Go.RowKit

theorem infoDot : (Tryz.prog.info? 30).map (fun i => (i.zero, i.size, i.bytes)) = some (some (.agg #[.int .i64 0, .int .i64 0]), 2, 16) := by kernel_rfl

theorem app_dots (w : World) (base : Nat) (v : Value) (n : Nat) (xs : List Value) (h : w.ownsRow base 30 2 v n xs) (A : Option Addr) (m c : Nat) (L : List (Int × Int)) (hs : Dl w A m c L) (hb : n + m ≤ 8000000000000) (hbase : base ≤ w.heap.size) :
    ∃ v' w', (Builtin.append_ #[24, 24] 24 #[v, .slice A m c]).run Tryz.prog w = .ok v' w' ∧ w'.ownsRow base 30 2 v' (n + m) (xs ++ flatD L) ∧ w.grownBy w' v.ownBlock := by
  obtain ⟨i0, hi0, hz0, hz1, hz2⟩ := info_parts infoDot
  cases A with
  | none =>
    obtain rfl := hs.2.2.2.1 rfl
    obtain rfl : m = 0 := by have := hs.2.1; omega
    have hL : L = [] := List.eq_nil_of_length_eq_zero hs.1.symm
    subst hL
    exact ⟨v, w, run_append_owned_none w base _ _ _ i0 2 Tryz.underlying24 hi0 v n xs h, by simpa [flatD_nil] using h, World.grownBy.refl w _⟩
  | some ad =>
    obtain ⟨v', w', hr, ho, hg, hv⟩ := run_append_own (P := Tryz.prog) w base 24 24 30 i0 (.agg #[.int .i64 0, .int .i64 0]) 2 16 Tryz.underlying24 hi0 hz0 hz1 hz2 rfl (by decide) v n xs h ad m c (flatD L)
      (by rw [flatD_len, hs.1]) (fun j u hj => by
        obtain ⟨k, x, hk, hc⟩ := flatD_at L j u hj
        have hkl := (List.getElem?_eq_some_iff.1 hk).1
        obtain ⟨b, o, y, hA, hy, c1, c2⟩ := hs.get (k := k) (by rw [hs.1]; exact hkl)
        obtain rfl : y = x := Option.some.inj (hy.symm.trans hk)
        obtain rfl := Option.some.inj hA
        rw [Addr.add_lit]
        rcases hc with ⟨rfl, rfl⟩ | ⟨rfl, rfl⟩
        · exact c1
        · exact c2) (flatD_one _) (by simp only [maxLen]; omega) (by omega) hbase
    exact ⟨v', w', hr, ho, hg⟩

theorem kept_grown {W w w' : World} {row : Option Nat} (h : Kept W w) (hg : w.grownBy w' row) (hr : ∀ k, row = some k → W.heap.size ≤ k) : Kept W w' := by
  have hb : Below W.heap.size w w' := Below.grown (Below.refl _ w) hg h.2.2 hr
  obtain ⟨⟨h1, h2, h3⟩, hf, hs⟩ := h
  refine ⟨⟨hb.os.trans h1, hb.output.trans h2, fun i hi => ?_⟩, fun a ha => (hb.frozen ha).trans (hf a ha), Nat.le_trans hs hb.size⟩
  rw [hb.block i hi]
  exact h3 i hi

set_option maxRecDepth 100000 in
set_option maxHeartbeats 1000000 in
theorem clone_any (A : Option Addr) (n c : Nat) (L : List (Int × Int)) (w : World) (h : Dl w A n c L) (hn : n ≤ 1000000) :
    Calls Tryz.prog 90 #[.slice A n c] w fun e w' => ∃ v, e = .returned v ∧ w'.ownsRow w.heap.size 30 2 v n (flatD L) ∧ Kept w w' := by
  have q22 : ∀ (w : World) (a : Option Addr) (n c n' c' : Nat), (binOp .eql 24 (.slice a n c) (.slice none n' c')).run Tryz.prog w = .ok (.bool a.isNone) w := fun w a n c n' c' => Lib.run_eql_slice_nil w _ _ a n c n' c' Tryz.underlying24
  cases A with
  | none =>
    obtain rfl : n = 0 := by have := h.2.2.2.1 rfl; have := h.2.1; omega
    have hL : L = [] := List.eq_nil_of_length_eq_zero h.1.symm
    subst hL
    clear h
    go_enter Tryz.func90, Tryz.ntmps90
    go_wp2
    go_ret
    exact ⟨_, rfl, World.ownsRow_nil _ _ _ _, Kept.refl _⟩
  | some ad =>
    obtain ⟨v1, w1, hr1, ho1, hg1⟩ := app_dots (w.alloc (.cells #[] 30)) w.heap.size (.slice (some ⟨w.heap.size, 0, none⟩) 0 0) 0 [] (World.ownsRow_made w #[] 0 (Nat.le_refl _) (Nat.zero_le _) (by simp)) (some ad) n c L (h.kept ((Kept.refl w).alloc _ _)) (by omega) (by simp)
    have HK := Lib.hid (kept_grown ((Kept.refl w).alloc #[] 30) hg1 (fun k hk => by simp [Value.ownBlock] at hk; omega))
    have HR1 := Lib.hid hr1
    have HO1 := Lib.hid ho1
    clear hr1 ho1 hg1 h
    go_enter Tryz.func90, Tryz.ntmps90
    go_wp2_with (at_builtin; refine Lib.wpList_append_run _ rfl _ _ _ _ rfl _ _ rfl rfl _ _ HR1.out ?_)
    go_ret
    refine ⟨_, rfl, ?_, HK.out⟩
    have := HO1.out
    rwa [Nat.zero_add, List.nil_append] at this
end Go.Proofs.YtkooihljddibfaaGreat

namespace Go.Proofs.YtkooihljddibfaaGreat
open Go.RowKit

theorem dot_ne {x1 x2 y1 y2 : Int} (h : ¬ (y1, y2) = ((x1, x2) : Int × Int)) : (y1 == x1) = false ∨ ((y1 == x1) = true ∧ (y2 == x2) = false) := by
  simp only [Prod.mk.injEq, not_and] at h
  by_cases e : y1 = x1
  · exact .inr ⟨by simpa using e, by simpa using h e⟩
  · exact .inl (by simpa using e)
theorem mem_no {L : List (Int × Int)} {x : Int × Int} {n : Nat} (hn : L.length = n) (h : ∀ j, j < n → L[j]? ≠ some x) : decide (x ∈ L) = false := by
  rw [decide_eq_false_iff_not]
  intro hm
  obtain ⟨j, hj⟩ := List.getElem?_of_mem hm
  exact h j (by rw [← hn]; exact (List.getElem?_eq_some_iff.1 hj).1) hj

set_option maxRecDepth 100000 in
set_option maxHeartbeats 1000000 in
theorem dhas_any (A : Option Addr) (n c : Nat) (L : List (Int × Int)) (x1 x2 : Int) (w : World) (h : Dl w A n c L) :
    Calls Tryz.prog 21 #[.slice A n c, .agg #[.int .i64 x1, .int .i64 x2]] w fun e w' => e = .returned (.bool (decide ((x1, x2) ∈ L))) ∧ Kept w w' := by
  have hc1 := h.cap.1
  have hc2 := h.cap.2
  have HL := Lib.hid h.len
  have HD := Lib.hid h
  clear h
  go_enter Tryz.func21, Tryz.ntmps21
  go_wp2_with fail
  go_loopw [9] (fun i wr => ∃ k : Nat, k ≤ n ∧ i = .int .i64 k ∧ Kept (w.alloc (.cells #[.int .i64 x1, .int .i64 x2] 30)) wr ∧ ∀ j, j < k → L[j]? ≠ some (x1, x2)) (fun i _ => n - (intOf i).toNat)
  case atStart => exact ⟨0, Nat.zero_le _, rfl, Kept.refl _, fun j hj => absurd hj (by omega)⟩
  case round =>
    obtain ⟨k, hkn, rfl, hkr, hall⟩ := hrel
    have HA := Lib.hid hall
    have HR := Lib.hid hkr
    have d0 := hkr.box 0 _ rfl
    have d1 := hkr.box 1 _ rfl
    have hsz := lt_of_kept hkr
    have hne : ¬ w.heap.size = wr.heap.size := by omega
    have hne' : ¬ wr.heap.size = w.heap.size := by omega
    clear hall hkr
    by_cases hlt : k < n
    · obtain ⟨b, o, ⟨y1, y2⟩, rfl, hy, g1, g2⟩ := (HD.out.kept (((Kept.refl w).alloc _ _).trans HR.out)).get hlt
      have HY := Lib.hid hy
      clear hy
      simp only at g1 g2
      by_cases hx : ((y1, y2) : Int × Int) = (x1, x2)
      · have HF := Lib.hid (show decide (((x1, x2) : Int × Int) ∈ L) = true by rw [decide_eq_true_iff, ← hx]; exact List.mem_of_getElem? HY.out)
        simp only [Prod.mk.injEq] at hx
        have e1 : (y1 == x1) = true := by simpa using hx.1
        have e2 : (y2 == x2) = true := by simpa using hx.2
        clear hx
        go_wp2_with fail
        go_ret
        exact ⟨by rw [HF.out]; rfl, (((Kept.refl w).alloc _ _).trans HR.out).alloc _ _⟩
      · have HN := Lib.hid (show ∀ j, j < k + 1 → L[j]? ≠ some (x1, x2) from fun j hj he => by
          rcases Nat.lt_or_ge j k with h3 | h3
          · exact HA.out j h3 he
          · obtain rfl : j = k := by omega
            rw [HY.out] at he
            exact hx (Option.some.inj he))
        rcases dot_ne hx with e1 | ⟨e1, e2⟩
        · clear hx
          go_wp2_with fail
          go_roundw
          case rel => exact ⟨k + 1, hlt, by go_num, HR.out.alloc _ _, HN.out⟩
          case measure => simp [intOf]; omega
        · clear hx
          go_wp2_with fail
          go_roundw
          case rel => exact ⟨k + 1, hlt, by go_num, HR.out.alloc _ _, HN.out⟩
          case measure => simp [intOf]; omega
    · obtain rfl : k = n := by omega
      have HF := Lib.hid (mem_no HL.out HA.out)
      go_wp2_with fail
      go_ret
      exact ⟨by rw [HF.out]; rfl, ((Kept.refl w).alloc _ _).trans HR.out⟩
theorem dhas_c (A : Option Addr) (n c : Nat) (L : List (Int × Int)) (x : Int × Int) (r : Bool) (hr : decide (x ∈ L) = r) (w : World) (h : Dl w A n c L) :
    Calls Tryz.prog 21 #[.slice A n c, .agg #[.int .i64 x.1, .int .i64 x.2]] w fun e w' => e = .returned (.bool r) ∧ Kept w w' := by
  subst hr; exact dhas_any A n c L x.1 x.2 w h

set_option maxRecDepth 100000 in
set_option maxHeartbeats 1000000 in
theorem rhas_any (A : Option Addr) (n c : Nat) (L : List (Int × Int)) (x1 x2 : Int) (w : World) (h : Dl w A n c L) :
    Calls Tryz.prog 53 #[.slice A n c, .agg #[.int .i64 x1, .int .i64 x2]] w fun e w' => e = .returned (.bool (decide ((x1, x2) ∈ L))) ∧ Kept w w' := by
  have hc1 := h.cap.1
  have hc2 := h.cap.2
  have HL := Lib.hid h.len
  have HD := Lib.hid h
  clear h
  go_enter Tryz.func53, Tryz.ntmps53
  go_wp2_with fail
  go_loopw [9] (fun i wr => ∃ k : Nat, k ≤ n ∧ i = .int .i64 k ∧ Kept (w.alloc (.cells #[.int .i64 x1, .int .i64 x2] 30)) wr ∧ ∀ j, j < k → L[j]? ≠ some (x1, x2)) (fun i _ => n - (intOf i).toNat)
  case atStart => exact ⟨0, Nat.zero_le _, rfl, Kept.refl _, fun j hj => absurd hj (by omega)⟩
  case round =>
    obtain ⟨k, hkn, rfl, hkr, hall⟩ := hrel
    have HA := Lib.hid hall
    have HR := Lib.hid hkr
    have d0 := hkr.box 0 _ rfl
    have d1 := hkr.box 1 _ rfl
    have hsz := lt_of_kept hkr
    have hne : ¬ w.heap.size = wr.heap.size := by omega
    have hne' : ¬ wr.heap.size = w.heap.size := by omega
    clear hall hkr
    by_cases hlt : k < n
    · obtain ⟨b, o, ⟨y1, y2⟩, rfl, hy, g1, g2⟩ := (HD.out.kept (((Kept.refl w).alloc _ _).trans HR.out)).get hlt
      have HY := Lib.hid hy
      clear hy
      simp only at g1 g2
      by_cases hx : ((y1, y2) : Int × Int) = (x1, x2)
      · have HF := Lib.hid (show decide (((x1, x2) : Int × Int) ∈ L) = true by rw [decide_eq_true_iff, ← hx]; exact List.mem_of_getElem? HY.out)
        simp only [Prod.mk.injEq] at hx
        have e1 : (y1 == x1) = true := by simpa using hx.1
        have e2 : (y2 == x2) = true := by simpa using hx.2
        clear hx
        go_wp2_with fail
        go_ret
        exact ⟨by rw [HF.out]; rfl, (((Kept.refl w).alloc _ _).trans HR.out).alloc _ _⟩
      · have HN := Lib.hid (show ∀ j, j < k + 1 → L[j]? ≠ some (x1, x2) from fun j hj he => by
          rcases Nat.lt_or_ge j k with h3 | h3
          · exact HA.out j h3 he
          · obtain rfl : j = k := by omega
            rw [HY.out] at he
            exact hx (Option.some.inj he))
        rcases dot_ne hx with e1 | ⟨e1, e2⟩
        · clear hx
          go_wp2_with fail
          go_roundw
          case rel => exact ⟨k + 1, hlt, by go_num, HR.out.alloc _ _, HN.out⟩
          case measure => simp [intOf]; omega
        · clear hx
          go_wp2_with fail
          go_roundw
          case rel => exact ⟨k + 1, hlt, by go_num, HR.out.alloc _ _, HN.out⟩
          case measure => simp [intOf]; omega
    · obtain rfl : k = n := by omega
      have HF := Lib.hid (mem_no HL.out HA.out)
      go_wp2_with fail
      go_ret
      exact ⟨by rw [HF.out]; rfl, ((Kept.refl w).alloc _ _).trans HR.out⟩
theorem rhas_c (A : Option Addr) (n c : Nat) (L : List (Int × Int)) (x : Int × Int) (r : Bool) (hr : decide (x ∈ L) = r) (w : World) (h : Dl w A n c L) :
    Calls Tryz.prog 53 #[.slice A n c, .agg #[.int .i64 x.1, .int .i64 x.2]] w fun e w' => e = .returned (.bool r) ∧ Kept w w' := by
  subst hr; exact rhas_any A n c L x.1 x.2 w h
end Go.Proofs.YtkooihljddibfaaGreat

namespace Go.Proofs.YtkooihljddibfaaGreat
open Go.RowKit

set_option maxRecDepth 100000 in
set_option maxHeartbeats 2000000 in
theorem search_any (A : Option Addr) (n c : Nat) (L : List (Int × Int)) (x1 x2 : Int) (w : World) (h : Dl w A n c L) (hr : Rise L) (hn : n ≤ 1000000) :
    Calls Tryz.prog 70 #[.slice A n c, .agg #[.int .i64 x1, .int .i64 x2], .func (.func 67) #[] #[]] w
      fun e w' => ∃ k : Nat, e = .returned (.tuple #[.int .i64 k, .bool (decide ((x1, x2) ∈ L))]) ∧ k ≤ n ∧ (∀ y ∈ L.take k, LtD y (x1, x2)) ∧ ((x1, x2) ∉ L → ∀ y ∈ L.drop k, LtD (x1, x2) y) ∧ Kept w w' := by
  have hc1 := h.cap.1
  have hc2 := h.cap.2
  have HD := Lib.hid h
  have HR := Lib.hid hr
  clear h hr
  go_enter Tryz.func70, Tryz.ntmps70
  go_wp2_with fail
  go_loopw [9, 10] (fun i j wr => ∃ a b : Nat, a ≤ b ∧ b ≤ n ∧ i = .int .i64 a ∧ j = .int .i64 b ∧ Kept (w.alloc (.cells #[.int .i64 x1, .int .i64 x2] 30)) wr ∧ (∀ t y, t < a → L[t]? = some y → LtD y (x1, x2)) ∧ (∀ t y, b ≤ t → L[t]? = some y → ¬ LtD y (x1, x2))) (fun i j _ => (intOf j).toNat - (intOf i).toNat)
  case atStart => exact ⟨0, n, Nat.zero_le _, Nat.le_refl _, rfl, rfl, Kept.refl _, fun t y ht => absurd ht (by omega), fun t y ht hy => absurd (List.getElem?_eq_some_iff.1 hy).1 (by have := HD.out.1; omega)⟩
  case round =>
    obtain ⟨a, b, hab, hbn, rfl, rfl, hkr, hlo, hhi⟩ := hrel
    have HK := Lib.hid hkr
    have HLO := Lib.hid hlo
    have HHI := Lib.hid hhi
    have d0 := KExt.cell hkr.box0
    have d1 := KExt.cell hkr.box1
    clear hkr hlo hhi
    by_cases hlt : a < b
    · obtain ⟨m, hm⟩ : ∃ m : Nat, ((a : Int) + b) / 2 = (m : Int) := ⟨(a + b) / 2, by omega⟩
      have hma : a ≤ m := by omega
      have hmb : m < b := by omega
      have hmn : m < n := by omega
      have HM := Lib.hid hm
      clear hm
      go_wp2_with fail
      rw [HM.out]
      obtain ⟨g, o, ⟨y1, y2⟩, rfl, hy, g1, g2⟩ := (HD.out.kept (((Kept.refl w).alloc _ _).trans HK.out)).get hmn
      have c1 := KExt.cell g1
      have c2 := KExt.cell g2
      simp only at c1 c2
      have HY := Lib.hid hy
      clear g1 g2 hy
      obtain ⟨r, hrr⟩ : ∃ r, cmpD (y1, y2) (x1, x2) = r := ⟨_, rfl⟩
      have AC := Lib.hid (fun w => dcmp_c (y1, y2) (x1, x2) r hrr w)
      by_cases hl : LtD (y1, y2) (x1, x2)
      · have hr0 : decide (r < 0) = true := by rw [decide_eq_true_iff, ← hrr]; exact (cmpD_lt _ _).2 hl
        have HN := Lib.hid (show ∀ t y, t < m + 1 → L[t]? = some y → LtD y (x1, x2) from fun t y ht hy2 => by
          rcases Nat.lt_or_ge t m with h3 | h3
          · have h4 : LtD y (y1, y2) := by
              have hp := List.pairwise_iff_getElem.1 HR.out
              obtain ⟨e1, e2⟩ := List.getElem?_eq_some_iff.1 hy2
              obtain ⟨e3, e4⟩ := List.getElem?_eq_some_iff.1 HY.out
              have := hp t m e1 e3 h3
              rwa [e2, e4] at this
            exact h4.trans hl
          · obtain rfl : t = m := by omega
            obtain rfl := Option.some.inj (hy2.symm.trans HY.out)
            exact hl)
        clear hl hrr
        refine region_kept _ (by kernel_rfl) (by kernel_rfl) (Kept.refl _) ?_
        repeat (go_big_quiet_step ((first
          | (go_at_call 67; (with_reducible exact KExt.callsK (AC.out _)))
          | fail)))
        refine wpQuiet_nil ?_
        intro G
        clear c1 c2 d0 d1
        go_wp2_with fail
        go_roundw
        case rel => exact ⟨m + 1, b, by omega, hbn, by go_num, rfl, HK.out.trans G.g, HN.out, HHI.out⟩
        case measure => simp [intOf]; omega
      · have hr0 : decide (r < 0) = false := by rw [decide_eq_false_iff_not, ← hrr, cmpD_lt]; exact hl
        have HN := Lib.hid (show ∀ t y, m ≤ t → L[t]? = some y → ¬ LtD y (x1, x2) from fun t y ht hy2 h5 => by
          rcases Nat.lt_or_ge m t with h3 | h3
          · have h4 : LtD (y1, y2) y := by
              have hp := List.pairwise_iff_getElem.1 HR.out
              obtain ⟨e1, e2⟩ := List.getElem?_eq_some_iff.1 hy2
              obtain ⟨e3, e4⟩ := List.getElem?_eq_some_iff.1 HY.out
              have := hp m t e3 e1 h3
              rwa [e2, e4] at this
            exact hl (h4.trans h5)
          · obtain rfl : t = m := by omega
            obtain rfl := Option.some.inj (hy2.symm.trans HY.out)
            exact hl h5)
        clear hl hrr
        refine region_kept _ (by kernel_rfl) (by kernel_rfl) (Kept.refl _) ?_
        repeat (go_big_quiet_step ((first
          | (go_at_call 67; (with_reducible exact KExt.callsK (AC.out _)))
          | fail)))
        refine wpQuiet_nil ?_
        intro G
        clear c1 c2 d0 d1
        go_wp2_with fail
        go_roundw
        case rel => exact ⟨a, m, by omega, by omega, rfl, rfl, HK.out.trans G.g, HLO.out, HN.out⟩
        case measure => simp [intOf]; omega
    · obtain rfl : a = b := by omega
      have HT := Lib.hid (show ∀ y ∈ L.take a, LtD y (x1, x2) from fun y hy => by
        obtain ⟨t, ht⟩ := List.getElem?_of_mem hy
        rw [List.getElem?_take] at ht
        split at ht
        · exact HLO.out t y (by assumption) ht
        · cases ht)
      have HP := Lib.hid (show (x1, x2) ∉ L → ∀ y ∈ L.drop a, LtD (x1, x2) y from fun hno y hy => by
        obtain ⟨t, ht⟩ := List.getElem?_of_mem hy
        rw [List.getElem?_drop] at ht
        rcases LtD.tri y (x1, x2) with h3 | h3 | h3
        · exact absurd h3 (HHI.out _ y (by omega) ht)
        · exact absurd (h3 ▸ List.mem_of_getElem? ht) hno
        · exact h3)
      have HK2 := Lib.hid (((Kept.refl w).alloc _ _).trans HK.out)
      by_cases han : a < n
      · obtain ⟨g, o, ⟨y1, y2⟩, rfl, hy, g1, g2⟩ := (HD.out.kept (((Kept.refl w).alloc _ _).trans HK.out)).get han
        have c1 := KExt.cell g1
        have c2 := KExt.cell g2
        simp only at c1 c2
        have HY := Lib.hid hy
        clear g1 g2 hy
        obtain ⟨r, hrr⟩ : ∃ r, cmpD (y1, y2) (x1, x2) = r := ⟨_, rfl⟩
        have AC := Lib.hid (fun w => dcmp_c (y1, y2) (x1, x2) r hrr w)
        have HF := Lib.hid (show (r == 0) = decide ((x1, x2) ∈ L) by
          rw [Bool.eq_iff_iff, beq_iff_eq, decide_eq_true_iff, ← hrr, cmpD_eq]
          constructor
          · intro e; rw [← e]; exact List.mem_of_getElem? HY.out
          · intro hm
            obtain ⟨t, ht⟩ := List.getElem?_of_mem hm
            rcases Nat.lt_trichotomy t a with h3 | h3 | h3
            · exact absurd (HLO.out t _ h3 ht) (LtD.irrefl _)
            · subst h3
              exact Option.some.inj (HY.out.symm.trans ht)
            · exfalso
              have hp := List.pairwise_iff_getElem.1 HR.out
              obtain ⟨e1, e2⟩ := List.getElem?_eq_some_iff.1 ht
              obtain ⟨e3, e4⟩ := List.getElem?_eq_some_iff.1 HY.out
              have := hp a t e3 e1 h3
              rw [e2, e4] at this
              exact HHI.out a _ (Nat.le_refl _) HY.out this)
        clear hrr
        generalize hz : (r == 0) = z at HF
        go_wp2_with fail
        refine region_kept _ (by kernel_rfl) (by kernel_rfl) (Kept.refl _) ?_
        repeat (go_big_quiet_step ((first
          | (go_at_call 67; (with_reducible exact KExt.callsK (AC.out _)))
          | fail)))
        refine wpQuiet_nil ?_
        intro G
        clear c1 c2 d0 d1 hz
        go_wp2_with fail
        go_ret2
        exact ⟨a, by rw [← HF.out]; rfl, by omega, HT.out, HP.out, HK2.out.trans G.g⟩
      · have HF := Lib.hid (show decide ((x1, x2) ∈ L) = false by
          rw [decide_eq_false_iff_not]
          intro hm
          obtain ⟨t, ht⟩ := List.getElem?_of_mem hm
          have := (List.getElem?_eq_some_iff.1 ht).1
          exact LtD.irrefl _ (HLO.out t _ (by have := HD.out.1; omega) ht))
        go_wp2_with fail
        refine region_kept _ (by kernel_rfl) (by kernel_rfl) (Kept.refl _) ?_
        repeat (go_big_quiet_step (fail))
        refine wpQuiet_nil ?_
        intro G
        clear d0 d1
        go_wp2_with fail
        go_ret2
        exact ⟨a, by rw [HF.out]; rfl, by omega, HT.out, HP.out, HK2.out.trans G.g⟩
end Go.Proofs.YtkooihljddibfaaGreat

