/-
  What is proved: words for memory that layer 5's contracts use: a slice of dots that lies in memory ('Dl'), and what a world that has all that another one has keeps of it.
  dot.Cmp, called with any two dots, returns their order (P5.2), and lays blocks alone; the document's Cmp likewise.
  Right and Put of package dot and of the document's layer 5, called with any dot, return what P5.1 and P5.3 say; the world has new blocks at most.
  plain facts on sets of dots (P6.1 to P6.9, P6.13, P6.14): what is in one, when one is right, that sets with the same dots are the same, and what compacting makes of any dots; no program is spoken of here.
  append of a slice of dots onto a row of the call's own; slices.Clone at dots: the result lies in a row of its own and holds the slice's dots; the world has new blocks at most.
  dot.Has and the document's Has, called with any slice of dots that lies in memory and any dot, tell whether it is there (P5.7); the laws' Same tells whether two slices hold the same dots; the world has new blocks at most.
  slices.BinarySearchFunc at dots, with dot.Cmp, called with any rising slice of dots and any dot, returns its place and whether it is there; the world has new blocks at most.
  slices.Grow of the nil slice, and slices.Concat of any slices of dots (a million dots at most in all), as the library's text has them, at dots: the result lies in a row of its own and holds the slices' dots, one slice behind the other; the world has new blocks at most.
  dot.With, called with any rising slice of dots that lies in memory and any dot, returns the slice's dots with that one at its place (P5.5); the world has new blocks at most.
  words for memory that layer 6's contracts use: a slice of ints that lies in memory ('Il'), append of such onto a row of the call's own, and what a world that has all that another one has keeps of it.
  worlds that have all that another one has but for one block ('KeptE'): what is read of other blocks reads on.
-/
import Derived.Test.YtjcnjmlgedmmoaaDoorProg
import Derived.Test.YtjcnjmlgedmmoaaDoorM5
import Derived.Laws.StructEq
import Derived.WalkKit
import Derived.WalkSmall
import Derived.OwnWalk
import Derived.Lib.Hide
import Derived.Below
import Derived.Shelf.GgSortFunc.RowK
import Derived.Test.YtjcnjmlgedmmoaaDoorM2
import Derived.Sort.Grow
import Derived.Test.YtjcnjmlgedmmoaaDoorM3
import Derived.Lib.SliceRun
import Derived.Lib.Walk
import Derived.Lib.AppendZerosOnto
import Derived.Lib.AppendZeros
import Derived.Test.YtjcnjmlgedmmoaaDoorM1
import Derived.BigQuiet
import Derived.Maps.AppendAt
import Derived.Deep.Heap
import Derived.OneCell
namespace Go.Proofs.YtjcnjmlgedmmoaaDoor
open Go.RowKit

/-- A dot, as a value. -/
def dotV (x : Int × Int) : Value := .agg #[.int .i64 x.1, .int .i64 x.2]
def Dl (w : World) (A : Option Addr) (n c : Nat) (L : List (Int × Int)) : Prop :=
  n = L.length ∧ n ≤ c ∧ c ≤ maxLen ∧ (A = none → c = 0) ∧ (n = 0 ∨ ∃ b o, A = some ⟨b, o, none⟩ ∧ ∀ j x, L[j]? = some x → w.cell? ⟨b, o + j * 2, none⟩ = some (.int .i64 x.1) ∧ w.cell? ⟨b, o + j * 2 + 1, none⟩ = some (.int .i64 x.2))
theorem Dl.kept {w w' : World} {A : Option Addr} {n c : Nat} {L : List (Int × Int)} (h : Dl w A n c L) (hk : Kept w w') : Dl w' A n c L :=
  ⟨h.1, h.2.1, h.2.2.1, h.2.2.2.1, h.2.2.2.2.imp id fun ⟨b, o, hA, hc⟩ => ⟨b, o, hA, fun j x hj => ⟨hk.cell (hc j x hj).1, hk.cell (hc j x hj).2⟩⟩⟩
theorem Dl.nil (w : World) : Dl w none 0 0 [] := ⟨rfl, Nat.le_refl _, Nat.zero_le _, fun _ => rfl, .inl rfl⟩
theorem Dl.len {w : World} {A : Option Addr} {n c : Nat} {L : List (Int × Int)} (h : Dl w A n c L) : L.length = n := h.1.symm
theorem Dl.cap {w : World} {A : Option Addr} {n c : Nat} {L : List (Int × Int)} (h : Dl w A n c L) : n ≤ c ∧ c ≤ 9223372036854775807 := ⟨h.2.1, h.2.2.1⟩
theorem Dl.get {w : World} {A : Option Addr} {n c : Nat} {L : List (Int × Int)} (h : Dl w A n c L) {k : Nat} (hk : k < n) :
    ∃ b o x, A = some ⟨b, o, none⟩ ∧ L[k]? = some x ∧ w.cell? ⟨b, o + k * 2, none⟩ = some (.int .i64 x.1) ∧ w.cell? ⟨b, o + k * 2 + 1, none⟩ = some (.int .i64 x.2) := by
  have hl : k < L.length := by rw [← h.1]; exact hk
  rcases h.2.2.2.2 with h0 | ⟨b, o, hA, hc⟩
  · omega
  · have := hc k L[k] (List.getElem?_eq_getElem hl)
    exact ⟨b, o, L[k], hA, List.getElem?_eq_getElem hl, this.1, this.2⟩

/-- The cells of dots. -/
def flatD (L : List (Int × Int)) : List Value := L.flatMap fun x => [.int .i64 x.1, .int .i64 x.2]
theorem flatD_nil : flatD [] = [] := rfl
theorem flatD_cons (x : Int × Int) (L : List (Int × Int)) : flatD (x :: L) = .int .i64 x.1 :: .int .i64 x.2 :: flatD L := rfl
theorem flatD_app (L M : List (Int × Int)) : flatD (L ++ M) = flatD L ++ flatD M := List.flatMap_append
theorem flatD_len (L : List (Int × Int)) : (flatD L).length = L.length * 2 := by
  induction L with
  | nil => rfl
  | cons x L ih => rw [flatD_cons, List.length_cons, List.length_cons, List.length_cons, ih]; omega
theorem flatD_one (L : List (Int × Int)) : ∀ u ∈ flatD L, u.oneCell' = true := by
  intro u hu
  obtain ⟨x, _, hx⟩ := List.mem_flatMap.1 hu
  simp only [List.mem_cons, List.not_mem_nil, or_false] at hx
  rcases hx with rfl | rfl <;> rfl
theorem flatD_get : ∀ (L : List (Int × Int)) (j : Nat) (x : Int × Int), L[j]? = some x → (flatD L)[j * 2]? = some (.int .i64 x.1) ∧ (flatD L)[j * 2 + 1]? = some (.int .i64 x.2)
  | [], j, x, h => by simp at h
  | y :: L, 0, x, h => by
    obtain rfl : y = x := by simpa using h
    exact ⟨rfl, rfl⟩
  | y :: L, j + 1, x, h => by
    have ih := flatD_get L j x (by simpa using h)
    rw [flatD_cons, show (j + 1) * 2 = (j * 2) + 1 + 1 by omega]
    simpa using ih
theorem flatD_at : ∀ (L : List (Int × Int)) (i : Nat) (u : Value), (flatD L)[i]? = some u → ∃ j x, L[j]? = some x ∧ ((i = j * 2 ∧ u = .int .i64 x.1) ∨ (i = j * 2 + 1 ∧ u = .int .i64 x.2))
  | [], i, u, h => by simp [flatD_nil] at h
  | y :: L, 0, u, h => ⟨0, y, rfl, .inl ⟨rfl, by simpa [flatD_cons] using h.symm⟩⟩
  | y :: L, 1, u, h => ⟨0, y, rfl, .inr ⟨rfl, by simpa [flatD_cons] using h.symm⟩⟩
  | y :: L, i + 2, u, h => by
    obtain ⟨j, x, hj, hc⟩ := flatD_at L i u (by simpa [flatD_cons] using h)
    refine ⟨j + 1, x, by simpa using hj, ?_⟩
    rcases hc with ⟨h1, h2⟩ | ⟨h1, h2⟩
    · exact .inl ⟨by omega, h2⟩
    · exact .inr ⟨by omega, h2⟩
theorem Dl.of_own {w : World} {base n : Nat} {e : TypeId} {v : Value} {L : List (Int × Int)} (h : w.ownsRow base e 2 v n (flatD L)) : ∃ A c, v = .slice A n c ∧ Dl w A n c L := by
  have hl : n = L.length := by have := h.1; rw [flatD_len] at this; omega
  have hc := fun g (hg : v.ownBlock = some g) => h.cells (g := g) hg
  rcases h.2 with ⟨rfl, h0⟩ | ⟨g, cap, cur, rfl, hb, hg, h1, h2, _⟩
  · subst h0
    exact ⟨none, 0, rfl, hl, Nat.le_refl _, Nat.zero_le _, fun _ => rfl, .inl rfl⟩
  · refine ⟨some ⟨g, 0, none⟩, cap, rfl, hl, h1, h2, fun h => by simp at h, .inr ⟨g, 0, rfl, fun j x hj => ?_⟩⟩
    have hx := flatD_get L j x hj
    have c0 := hc g rfl _ _ hx.1
    have c1 := hc g rfl _ _ hx.2
    rw [Addr.add_lit, Nat.zero_add] at c0 c1
    rw [Nat.zero_add]
    exact ⟨c0, c1⟩

theorem Dl.of_own' {w : World} {base n : Nat} {e : TypeId} {v : Value} {L : List (Int × Int)} (h : w.ownsRow base e 2 v n (flatD L)) : ∃ A c, v = .slice A n c ∧ Dl w A n c L ∧ ∀ ad, A = some ad → base ≤ ad.block := by
  obtain ⟨A, c, rfl, hd⟩ := Dl.of_own h
  refine ⟨A, c, rfl, hd, fun ad e => ?_⟩
  subst e
  exact (h.lt ad.block rfl).1
theorem kept_of_below {w w' : World} (h : Below w.heap.size w w') : Kept w w' :=
  ⟨h.frame _, fun _ ha => h.frozen ha, h.size⟩
theorem Kept.drewN {W w : World} (h : Kept W w) (n : Nat) : Kept W (w.drewN n) := h
theorem Kept.setCell {W w : World} (h : Kept W w) {a : Addr} (ha : W.heap.size ≤ a.block) (v : Value) : Kept W (w.setCell a v) := by
  obtain ⟨⟨h1, h2, h3⟩, hf, hs⟩ := h
  refine ⟨⟨h1, h2, fun i hi => ?_⟩, fun x hx => (World.frozen?_setCell _ _ _ _).trans (hf x hx), by simpa [World.setCell] using hs⟩
  rw [Below.heap_setCell _ _ _ _ (by omega)]
  exact h3 i hi
theorem Kept.box0 {w : World} {W : World} {x0 x1 : Value} {t : TypeId} (hg : Kept (w.alloc (.cells #[x0, x1] t)) W) : W.cell? ⟨w.heap.size, 0, none⟩ = some x0 := hg.box 0 _ rfl
theorem Kept.box1 {w : World} {W : World} {x0 x1 : Value} {t : TypeId} (hg : Kept (w.alloc (.cells #[x0, x1] t)) W) : W.cell? ⟨w.heap.size, 1, none⟩ = some x1 := hg.box 1 _ rfl
theorem lt_of_kept {w w1 : World} {c : Array Value} {t : TypeId} (hg : Kept (w.alloc (.cells c t)) w1) : w.heap.size < w1.heap.size := by
  have := hg.2.2; simp at this; omega
end Go.Proofs.YtjcnjmlgedmmoaaDoor

namespace Go.Proofs.YtjcnjmlgedmmoaaDoor
open Go.RowKit

def or2 (x y : Int) : Int := if x ≠ 0 then x else y
theorem grow3 (w : World) (o1 o2 o3 : Obj) : ((w.alloc o1).alloc o2).drew.alloc o3 = Sort.grow (w.drewN 1) #[o1, o2, o3] := by
  rw [Sort.alloc_eq_grow, Sort.alloc_eq_grow, Sort.alloc_eq_grow]
  show Sort.grow (Sort.grow (Sort.grow (w.drewN 1) #[o1]) #[o2]) #[o3] = _
  rw [Sort.grow_grow, Sort.grow_grow]
  rfl

end Go.Proofs.YtjcnjmlgedmmoaaDoor

namespace Go.Proofs.YtjcnjmlgedmmoaaDoor
open Go.RowKit

/-- P5.1. -/
def rightD (x : Int × Int) : Bool := decide (0 ≤ x.1 ∧ x.1 < 64 ∧ 1 ≤ x.2 ∧ x.2 ≤ 1073741824)
theorem rightD_bd {d : Int × Int} (h : rightD d = true) : 0 ≤ d.1 ∧ d.1 < 64 ∧ 1 ≤ d.2 ∧ d.2 ≤ 1073741824 := by
  unfold rightD at h; exact of_decide_eq_true h
/-- P5.3. -/
def putD (b : ByteArray) (x : Int × Int) : ByteArray := b ++ putS (zigI x.1).toNat ++ putS (zigI x.2).toNat

end Go.Proofs.YtjcnjmlgedmmoaaDoor

namespace Go.Proofs.YtjcnjmlgedmmoaaDoor

/-- Up to which number a replica's dots are all there. -/
def atV (V : List Int) (rep : Int) : Int := if 0 ≤ rep then V.getD rep.toNat 0 else 0
theorem atV_nat (V : List Int) (k : Nat) : atV V k = V.getD k 0 := by
  unfold atV; rw [if_pos (by omega), Int.toNat_natCast]
theorem atV_nil (r : Int) : atV [] r = 0 := by unfold atV; split <;> simp
theorem atV_neg (V : List Int) {r : Int} (h : r < 0) : atV V r = 0 := by unfold atV; rw [if_neg (by omega)]
theorem atV_out (V : List Int) {r : Int} (h : (V.length : Int) ≤ r) : atV V r = 0 := by
  unfold atV
  split
  · rw [List.getD_eq_getElem?_getD, List.getElem?_eq_none (by omega)]; rfl
  · rfl
theorem atV_in {V : List Int} {k : Nat} {n : Int} (h : V[k]? = some n) : atV V k = n := by
  rw [atV_nat, List.getD_eq_getElem?_getD, h]; rfl
/-- P6.2. -/
def hasC (V : List Int) (C : List (Int × Int)) (d : Int × Int) : Prop := (1 ≤ d.2 ∧ d.2 ≤ atV V d.1) ∨ d ∈ C
instance (V : List Int) (C : List (Int × Int)) (d : Int × Int) : Decidable (hasC V C d) := inferInstanceAs (Decidable ((1 ≤ d.2 ∧ d.2 ≤ atV V d.1) ∨ d ∈ C))
structure VecOk (V : List Int) : Prop where
  len : V.length ≤ 64
  bd : ∀ n ∈ V, 0 ≤ n ∧ n ≤ 1073741824
theorem VecOk.at_bd {V : List Int} (h : VecOk V) (r : Int) : 0 ≤ atV V r ∧ atV V r ≤ 1073741824 := by
  unfold atV
  split
  · rw [List.getD_eq_getElem?_getD]
    cases hk : V[r.toNat]? with
    | none => simp
    | some n => exact h.bd n (List.mem_of_getElem? hk)
  · simp
/-- P6.1. -/
structure RightC (V : List Int) (C : List (Int × Int)) : Prop where
  vec : VecOk V
  last : ∀ k : Nat, V.length = k + 1 → V.getD k 0 ≠ 0
  rise : Rise C
  right : ∀ d ∈ C, rightD d = true
  apart : ∀ d ∈ C, atV V d.1 < d.2 - 1
theorem right_le {V V' : List Int} {C C' : List (Int × Int)} (hv : VecOk V') (h' : ∀ d ∈ C', atV V' d.1 < d.2 - 1) (he : ∀ d, hasC V C d → hasC V' C' d) (r : Int) : atV V r ≤ atV V' r := by
  refine Classical.byContradiction fun hn => ?_
  have hb := hv.at_bd r
  rcases he (r, atV V' r + 1) (.inl ⟨by simp only; omega, by simp only; omega⟩) with h | h
  · simp only at h; omega
  · have := h' _ h
    simp only at this; omega
theorem vec_same {V V' : List Int} (h : ∀ k : Nat, V.length = k + 1 → V.getD k 0 ≠ 0) (h' : ∀ k : Nat, V'.length = k + 1 → V'.getD k 0 ≠ 0) (he : ∀ r, atV V r = atV V' r) : V = V' := by
  have hl : ∀ {V V' : List Int}, (∀ k : Nat, V'.length = k + 1 → V'.getD k 0 ≠ 0) → (∀ r, atV V r = atV V' r) → V'.length ≤ V.length := by
    intro V V' h' he
    refine Classical.byContradiction fun hn => ?_
    obtain ⟨k, hk⟩ : ∃ k, V'.length = k + 1 := ⟨V'.length - 1, by omega⟩
    have h1 := he k
    rw [atV_out V (by omega), atV_nat] at h1
    exact h' k hk h1.symm
  have e : V.length = V'.length := Nat.le_antisymm (hl h (fun r => (he r).symm)) (hl h' he)
  refine List.ext_getElem e fun i h1 h2 => ?_
  have := he i
  rwa [atV_in (List.getElem?_eq_getElem h1), atV_in (List.getElem?_eq_getElem h2)] at this
/-- P6.13: sets that have the same dots are the same. -/
theorem right_unique {V V' : List Int} {C C' : List (Int × Int)} (h : RightC V C) (h' : RightC V' C') (he : ∀ d, hasC V C d ↔ hasC V' C' d) : V = V' ∧ C = C' := by
  have ha : ∀ r, atV V r = atV V' r := fun r => Int.le_antisymm (right_le h'.vec h'.apart (fun d => (he d).1) r) (right_le h.vec h.apart (fun d => (he d).2) r)
  refine ⟨vec_same h.last h'.last ha, rise_unique C C' h.rise h'.rise fun d => ⟨fun hd => ?_, fun hd => ?_⟩⟩
  · rcases (he d).1 (.inr hd) with h1 | h1
    · have := h.apart d hd
      rw [ha] at this; omega
    · exact h1
  · rcases (he d).2 (.inr hd) with h1 | h1
    · have := h'.apart d hd
      rw [← ha] at this; omega
    · exact h1
/-- The set of the dots that S tells. -/
structure SetC (S : Int × Int → Prop) (V : List Int) (C : List (Int × Int)) : Prop where
  right : RightC V C
  has : ∀ d, hasC V C d ↔ S d
theorem SetC.same {S S' : Int × Int → Prop} {V V' : List Int} {C C' : List (Int × Int)} (h : SetC S V C) (h' : SetC S' V' C') (he : ∀ d, S d ↔ S' d) : V = V' ∧ C = C' :=
  right_unique h.right h'.right fun d => ((h.has d).trans (he d)).trans (h'.has d).symm
theorem SetC.self {V : List Int} {C : List (Int × Int)} (h : RightC V C) : SetC (hasC V C) V C := ⟨h, fun _ => Iff.rfl⟩
theorem RightC.has_right {V : List Int} {C : List (Int × Int)} (h : RightC V C) {d : Int × Int} (hd : hasC V C d) : rightD d = true := by
  rcases hd with ⟨h1, h2⟩ | hd
  · unfold rightD
    rw [decide_eq_true_iff]
    have hb := h.vec.at_bd d.1
    have hl := h.vec.len
    refine ⟨?_, ?_, h1, by omega⟩
    · refine Classical.byContradiction fun hn => ?_
      rw [atV_neg V (by omega)] at h2; omega
    · refine Classical.byContradiction fun hn => ?_
      rw [atV_out V (by omega)] at h2; omega
  · exact h.right d hd

/-- Noughts behind, up to n numbers. -/
def padV (V : List Int) (n : Nat) : List Int := V ++ List.replicate (n - V.length) 0
theorem padV_len (V : List Int) (n : Nat) : (padV V n).length = max V.length n := by
  unfold padV; rw [List.length_append, List.length_replicate]; omega
theorem padV_getD (V : List Int) (n k : Nat) : (padV V n).getD k 0 = V.getD k 0 := by
  unfold padV
  rw [List.getD_eq_getElem?_getD, List.getD_eq_getElem?_getD]
  rcases Nat.lt_or_ge k V.length with h | h
  · rw [List.getElem?_append_left h]
  · rw [List.getElem?_append_right h, List.getElem?_eq_none h, List.getElem?_replicate]
    split <;> rfl
theorem padV_at (V : List Int) (n : Nat) (r : Int) : atV (padV V n) r = atV V r := by
  unfold atV; split
  · exact padV_getD V n _
  · rfl
theorem padV_ok {V : List Int} (h : VecOk V) {n : Nat} (hn : n ≤ 64) : VecOk (padV V n) := by
  refine ⟨by rw [padV_len]; have := h.len; omega, fun x hx => ?_⟩
  unfold padV at hx
  rcases List.mem_append.1 hx with hx | hx
  · exact h.bd x hx
  · have := (List.mem_replicate.1 hx).2
    omega
theorem set_at {V : List Int} {k : Nat} (hk : k < V.length) (x : Int) (r : Int) : atV (V.set k x) r = if r = k then x else atV V r := by
  by_cases hr : 0 ≤ r
  · obtain ⟨j, rfl⟩ : ∃ j : Nat, r = j := ⟨r.toNat, by omega⟩
    rw [atV_nat, atV_nat, List.getD_eq_getElem?_getD, List.getD_eq_getElem?_getD, List.getElem?_set]
    by_cases e : k = j
    · subst e; simp [hk]
    · rw [if_neg e, if_neg (by omega)]
  · rw [atV_neg _ (by omega), atV_neg _ (by omega), if_neg (by omega)]
theorem set_ok {V : List Int} (h : VecOk V) (k : Nat) {x : Int} (h0 : 0 ≤ x) (h1 : x ≤ 1073741824) : VecOk (V.set k x) := by
  refine ⟨by rw [List.length_set]; exact h.len, fun n hn => ?_⟩
  rcases List.mem_or_eq_of_mem_set hn with hn | rfl
  · exact h.bd n hn
  · exact ⟨h0, h1⟩

/-- What is kept while dots are gone through, rising. -/
structure InvC (V0 : List Int) (P : List (Int × Int)) (V : List Int) (C : List (Int × Int)) : Prop where
  vec : VecOk V
  sub : C.Sublist P
  right : ∀ d ∈ C, rightD d = true
  apart : ∀ d ∈ C, atV V d.1 < d.2 - 1
  has : ∀ d, hasC V C d ↔ hasC V0 [] d ∨ (rightD d = true ∧ d ∈ P)
theorem InvC.start {V0 : List Int} (h : VecOk V0) : InvC V0 [] V0 [] :=
  ⟨h, List.Sublist.refl _, (fun d hd => by cases hd), (fun d hd => by cases hd), fun d => by simp⟩
theorem InvC.skip {V0 V : List Int} {P C : List (Int × Int)} (h : InvC V0 P V C) {d : Int × Int} (hd : rightD d = true → hasC V C d) : InvC V0 (P ++ [d]) V C := by
  refine ⟨h.vec, h.sub.trans (List.sublist_append_left _ _), h.right, h.apart, fun x => ?_⟩
  rw [h.has]
  constructor
  · rintro (hx | ⟨h1, h2⟩)
    · exact .inl hx
    · exact .inr ⟨h1, List.mem_append_left _ h2⟩
  · rintro (hx | ⟨h1, h2⟩)
    · exact .inl hx
    · rcases List.mem_append.1 h2 with h2 | h2
      · exact .inr ⟨h1, h2⟩
      · obtain rfl : x = d := by simpa using h2
        exact (h.has x).1 (hd h1)
theorem InvC.pad {V0 V : List Int} {P C : List (Int × Int)} (h : InvC V0 P V C) {n : Nat} (hn : n ≤ 64) : InvC V0 P (padV V n) C := by
  refine ⟨padV_ok h.vec hn, h.sub, h.right, fun d hd => by rw [padV_at]; exact h.apart d hd, fun d => ?_⟩
  unfold hasC
  rw [padV_at]
  exact h.has d
theorem InvC.inc {V0 V : List Int} {P C : List (Int × Int)} (h : InvC V0 P V C) {d : Int × Int} (hP : ∀ p ∈ P, LtD p d) (hd : rightD d = true) (hl : d.1.toNat < V.length) (he : d.2 = atV V d.1 + 1) : InvC V0 (P ++ [d]) (V.set d.1.toNat d.2) C := by
  obtain ⟨b1, b2, b3, b4⟩ := rightD_bd hd
  have hat : ∀ r, atV (V.set d.1.toNat d.2) r = if r = d.1 then d.2 else atV V r := fun r => by
    rw [set_at hl, show ((d.1.toNat : Nat) : Int) = d.1 by omega]
  have hC : ∀ x ∈ C, x.1 ≠ d.1 := fun x hx e => by
    have h1 := h.apart x hx
    have h2 := hP x (h.sub.mem hx)
    unfold LtD at h2
    rw [e] at h1
    omega
  refine ⟨set_ok h.vec _ (by omega) b4, h.sub.trans (List.sublist_append_left _ _), h.right, fun x hx => by rw [hat, if_neg (hC x hx)]; exact h.apart x hx, fun x => ?_⟩
  have hh := h.has x
  have key : hasC (V.set d.1.toNat d.2) C x ↔ hasC V C x ∨ x = d := by
    unfold hasC
    rw [hat]
    by_cases e : x.1 = d.1
    · rw [if_pos e, e]
      constructor
      · rintro (⟨h1, h2⟩ | h1)
        · by_cases e2 : x.2 = d.2
          · exact .inr (Prod.ext e e2)
          · exact .inl (.inl ⟨h1, by omega⟩)
        · exact .inl (.inr h1)
      · rintro ((⟨h1, h2⟩ | h1) | h1)
        · exact .inl ⟨h1, by omega⟩
        · exact .inr h1
        · subst h1; exact .inl ⟨b3, Int.le_refl _⟩
    · rw [if_neg e]
      constructor
      · exact .inl
      · rintro (h1 | h1)
        · exact h1
        · exact absurd (h1 ▸ rfl) e
  rw [key, hh, List.mem_append, List.mem_singleton]
  constructor
  · rintro ((h1 | ⟨h1, h2⟩) | h1)
    · exact .inl h1
    · exact .inr ⟨h1, .inl h2⟩
    · exact .inr ⟨h1 ▸ hd, .inr h1⟩
  · rintro (h1 | ⟨h1, h2 | h2⟩)
    · exact .inl (.inl h1)
    · exact .inl (.inr ⟨h1, h2⟩)
    · exact .inr h2
theorem InvC.put {V0 V : List Int} {P C : List (Int × Int)} (h : InvC V0 P V C) {d : Int × Int} (hd : rightD d = true) (he : atV V d.1 + 1 < d.2) : InvC V0 (P ++ [d]) V (C ++ [d]) := by
  refine ⟨h.vec, List.Sublist.append h.sub (List.Sublist.refl _), fun x hx => ?_, fun x hx => ?_, fun x => ?_⟩
  · rcases List.mem_append.1 hx with hx | hx
    · exact h.right x hx
    · obtain rfl : x = d := by simpa using hx
      exact hd
  · rcases List.mem_append.1 hx with hx | hx
    · exact h.apart x hx
    · obtain rfl : x = d := by simpa using hx
      omega
  · have hh := h.has x
    have key : hasC V (C ++ [d]) x ↔ hasC V C x ∨ x = d := by
      unfold hasC
      rw [List.mem_append, List.mem_singleton, or_assoc]
    rw [key, hh, List.mem_append, List.mem_singleton]
    constructor
    · rintro ((h1 | ⟨h1, h2⟩) | h1)
      · exact .inl h1
      · exact .inr ⟨h1, .inl h2⟩
      · exact .inr ⟨h1 ▸ hd, .inr h1⟩
    · rintro (h1 | ⟨h1, h2 | h2⟩)
      · exact .inl (.inl h1)
      · exact .inl (.inr ⟨h1, h2⟩)
      · exact .inr h2
theorem take_at {V : List Int} {n : Nat} (hz : ∀ j, n ≤ j → V.getD j 0 = 0) (r : Int) : atV (V.take n) r = atV V r := by
  unfold atV
  split
  · rw [List.getD_eq_getElem?_getD, List.getElem?_take]
    split
    · rw [List.getD_eq_getElem?_getD]
    · rw [hz _ (by omega)]; rfl
  · rfl
/-- P6.3: what is left when all are gone through, and the noughts at the end let go. -/
theorem InvC.fin {V0 V : List Int} {X C : List (Int × Int)} (h : InvC V0 X V C) (hX : Rise X) {n : Nat} (hn : n ≤ V.length) (hz : ∀ j, n ≤ j → V.getD j 0 = 0) (hl : ∀ k, n = k + 1 → V.getD k 0 ≠ 0) :
    SetC (fun d => hasC V0 [] d ∨ (rightD d = true ∧ d ∈ X)) (V.take n) C := by
  refine ⟨⟨⟨by rw [List.length_take]; have := h.vec.len; omega, fun x hx => h.vec.bd x (List.mem_of_mem_take hx)⟩, fun k hk => ?_, hX.sublist h.sub, h.right, fun d hd => by rw [take_at hz]; exact h.apart d hd⟩, fun d => ?_⟩
  · rw [List.length_take] at hk
    have hk2 : n = k + 1 := by omega
    have := hl k hk2
    rwa [List.getD_eq_getElem?_getD, List.getElem?_take, if_pos (by omega), ← List.getD_eq_getElem?_getD]
  · unfold hasC
    rw [take_at hz]
    exact h.has d
/-- Compacting, of a Vec that is good and any dots. -/
def CompS (V : List Int) (L : List (Int × Int)) (d : Int × Int) : Prop := hasC V [] d ∨ (rightD d = true ∧ d ∈ L)
theorem SetC.comp {V V' : List Int} {X L C' : List (Int × Int)} (h : SetC (fun d => hasC V [] d ∨ (rightD d = true ∧ d ∈ X)) V' C') (hX : ∀ d, d ∈ X ↔ d ∈ L) : SetC (CompS V L) V' C' :=
  ⟨h.right, fun d => by rw [h.has]; unfold CompS; rw [hX]⟩
/-- P6.6: the greater of both, everywhere. -/
def maxV (V W : List Int) : List Int := (List.range (max V.length W.length)).map fun (k : Nat) => max (atV V k) (atV W k)
theorem maxV_len (V W : List Int) : (maxV V W).length = max V.length W.length := by unfold maxV; rw [List.length_map, List.length_range]
theorem maxV_at (V W : List Int) (r : Int) : atV (maxV V W) r = max (atV V r) (atV W r) := by
  by_cases h : 0 ≤ r ∧ r < (max V.length W.length : Nat)
  · obtain ⟨k, rfl⟩ : ∃ k : Nat, r = k := ⟨r.toNat, by omega⟩
    have hk : k < max V.length W.length := by omega
    have : (maxV V W)[k]? = some (max (atV V k) (atV W k)) := by
      unfold maxV; rw [List.getElem?_map, List.getElem?_range hk]; rfl
    exact atV_in this
  · rcases Int.lt_or_le r 0 with hr | hr
    · rw [atV_neg _ hr, atV_neg _ hr, atV_neg _ hr]; rfl
    · rw [atV_out _ (by rw [maxV_len]; omega), atV_out V (by omega), atV_out W (by omega)]; rfl
theorem maxV_ok {V W : List Int} (h1 : VecOk V) (h2 : VecOk W) : VecOk (maxV V W) := by
  refine ⟨by rw [maxV_len]; have := h1.len; have := h2.len; omega, fun n hn => ?_⟩
  unfold maxV at hn
  obtain ⟨k, _, rfl⟩ := List.mem_map.1 hn
  have a := h1.at_bd k
  have b := h2.at_bd k
  omega
theorem join_has {V W : List Int} {C D : List (Int × Int)} (h1 : RightC V C) (h2 : RightC W D) (d : Int × Int) : CompS (maxV V W) (C ++ D) d ↔ hasC V C d ∨ hasC W D d := by
  unfold CompS hasC
  rw [maxV_at V W d.1, List.mem_append]
  constructor
  · rintro ((⟨a, b⟩ | h) | ⟨_, h | h⟩)
    · rcases Int.le_total (atV V d.1) (atV W d.1) with hh | hh
      · exact .inr (.inl ⟨a, by omega⟩)
      · exact .inl (.inl ⟨a, by omega⟩)
    · cases h
    · exact .inl (.inr h)
    · exact .inr (.inr h)
  · rintro ((⟨a, b⟩ | h) | (⟨a, b⟩ | h))
    · exact .inl (.inl ⟨a, by omega⟩)
    · exact .inr ⟨h1.right d h, .inl h⟩
    · exact .inl (.inl ⟨a, by omega⟩)
    · exact .inr ⟨h2.right d h, .inr h⟩
theorem vecOk_nil : VecOk [] := ⟨by simp, fun n hn => by cases hn⟩
theorem of_has (L : List (Int × Int)) (d : Int × Int) : CompS [] L d ↔ rightD d = true ∧ d ∈ L := by
  unfold CompS hasC
  rw [atV_nil]
  constructor
  · rintro ((h | h) | h)
    · omega
    · cases h
    · exact h
  · exact .inr
theorem add_has {V : List Int} {C : List (Int × Int)} (h : RightC V C) (x d : Int × Int) : CompS V (C ++ [x]) d ↔ hasC V C d ∨ (rightD d = true ∧ d = x) := by
  unfold CompS hasC
  rw [List.mem_append, List.mem_singleton]
  constructor
  · rintro ((h1 | h1) | ⟨h1, h2 | h2⟩)
    · exact .inl (.inl h1)
    · cases h1
    · exact .inl (.inr h2)
    · exact .inr ⟨h1, h2⟩
  · rintro ((h1 | h1) | ⟨h1, h2⟩)
    · exact .inl (.inl h1)
    · exact .inr ⟨h.right d h1, .inl h1⟩
    · exact .inr ⟨h1, .inr h2⟩
end Go.Proofs.YtjcnjmlgedmmoaaDoor

namespace Go.Proofs.YtjcnjmlgedmmoaaDoor
open Go.RowKit

theorem kept_grown {W w w' : World} {row : Option Nat} (h : Kept W w) (hg : w.grownBy w' row) (hr : ∀ k, row = some k → W.heap.size ≤ k) : Kept W w' := by
  have hb : Below W.heap.size w w' := Below.grown (Below.refl _ w) hg h.2.2 hr
  obtain ⟨⟨h1, h2, h3⟩, hf, hs⟩ := h
  refine ⟨⟨hb.os.trans h1, hb.output.trans h2, fun i hi => ?_⟩, fun a ha => (hb.frozen ha).trans (hf a ha), Nat.le_trans hs hb.size⟩
  rw [hb.block i hi]
  exact h3 i hi

end Go.Proofs.YtjcnjmlgedmmoaaDoor

namespace Go.Proofs.YtjcnjmlgedmmoaaDoor
open Go.RowKit

theorem dot_ne {x1 x2 y1 y2 : Int} (h : ¬ (y1, y2) = ((x1, x2) : Int × Int)) : (y1 == x1) = false ∨ ((y1 == x1) = true ∧ (y2 == x2) = false) := by
  simp only [Prod.mk.injEq, not_and] at h
  by_cases e : y1 = x1
  · exact .inr ⟨by simpa using e, by simpa using h e⟩
  · exact .inl (by simpa using e)
theorem mem_no {L : List (Int × Int)} {x : Int × Int} {n : Nat} (hn : L.length = n) (h : ∀ j, j < n → L[j]? ≠ some x) : decide (x ∈ L) = false := by
  rw [decide_eq_false_iff_not]
  intro hm
  obtain ⟨j, hj⟩ := List.getElem?_of_mem hm
  exact h j (by rw [← hn]; exact (List.getElem?_eq_some_iff.1 hj).1) hj

end Go.Proofs.YtjcnjmlgedmmoaaDoor

namespace Go.Proofs.YtjcnjmlgedmmoaaDoor
open Go.RowKit

end Go.Proofs.YtjcnjmlgedmmoaaDoor

namespace Go.Proofs.YtjcnjmlgedmmoaaDoor
open Go.RowKit

structure SD where
  A : Option Addr
  n : Nat
  c : Nat
  L : List (Int × Int)
def totD (SS : List SD) (k : Nat) : Nat := ((SS.take k).map (·.n)).sum
def catD (SS : List SD) (k : Nat) : List (Int × Int) := (SS.take k).flatMap (·.L)
theorem totD_succ (SS : List SD) (k : Nat) (s : SD) (h : SS[k]? = some s) : totD SS (k + 1) = totD SS k + s.n := by
  unfold totD; rw [List.take_add_one, h]; simp
theorem catD_succ (SS : List SD) (k : Nat) (s : SD) (h : SS[k]? = some s) : catD SS (k + 1) = catD SS k ++ s.L := by
  unfold catD; rw [List.take_add_one, h]; simp
theorem totD_le (SS : List SD) (k : Nat) : totD SS k ≤ totD SS SS.length := by
  unfold totD
  rw [List.take_length]
  induction SS generalizing k with
  | nil => simp
  | cons a r ih =>
    cases k with
    | zero => simp
    | succ k => have := ih k; simp only [List.take_succ_cons, List.map_cons, List.sum_cons]; omega

end Go.Proofs.YtjcnjmlgedmmoaaDoor

namespace Go.Proofs.YtjcnjmlgedmmoaaDoor
open Go.RowKit

theorem dl_head {w : World} {A : Option Addr} {n c k : Nat} {L : List (Int × Int)} (h : Dl w A n c L) (hk : k ≤ n) : Dl w A k c (L.take k) := by
  obtain ⟨h1, h2, h3, h4, h5⟩ := h
  refine ⟨by rw [List.length_take]; omega, by omega, h3, h4, ?_⟩
  rcases h5 with h0 | ⟨b, o, hA, hc⟩
  · exact .inl (by omega)
  · refine .inr ⟨b, o, hA, fun j x hj => hc j x ?_⟩
    rw [List.getElem?_take] at hj
    split at hj
    · exact hj
    · cases hj
theorem dl_one (w : World) (x1 x2 : Int) (t : TypeId) : Dl (w.alloc (.cells #[.int .i64 x1, .int .i64 x2] t)) (some ⟨w.heap.size, 0, none⟩) 1 1 [(x1, x2)] := by
  refine ⟨rfl, Nat.le_refl _, by simp [maxLen], (fun h => by cases h), .inr ⟨w.heap.size, 0, rfl, fun j x hj => ?_⟩⟩
  match j, hj with
  | 0, hj =>
    obtain rfl : (x1, x2) = x := by simpa using hj
    exact ⟨by rw [World.cell?_alloc_new]; rfl, by rw [World.cell?_alloc_new]; rfl⟩
  | j + 1, hj => simp at hj

/-- What With leaves. -/
def Withs (A0 : Option Addr) (L : List (Int × Int)) (x : Int × Int) (w : World) (e : Ending) (w' : World) : Prop :=
  ∃ A m c X, e = .returned (.slice A m c) ∧ Dl w' A m c X ∧ WithD L x X ∧ m ≤ L.length + 1 ∧ Kept w w' ∧ (A = A0 ∨ ∀ ad, A = some ad → w.heap.size ≤ ad.block)

end Go.Proofs.YtjcnjmlgedmmoaaDoor

namespace Go.Proofs.YtjcnjmlgedmmoaaDoor
open Go.RowKit

def Il (w : World) (A : Option Addr) (n c : Nat) (V : List Int) : Prop :=
  n = V.length ∧ n ≤ c ∧ c ≤ maxLen ∧ (A = none → c = 0) ∧ (n = 0 ∨ ∃ b o, A = some ⟨b, o, none⟩ ∧ ∀ j x, V[j]? = some x → w.cell? ⟨b, o + j, none⟩ = some (.int .i64 x))
theorem Il.kept {w w' : World} {A : Option Addr} {n c : Nat} {V : List Int} (h : Il w A n c V) (hk : Kept w w') : Il w' A n c V :=
  ⟨h.1, h.2.1, h.2.2.1, h.2.2.2.1, h.2.2.2.2.imp id fun ⟨b, o, hA, hc⟩ => ⟨b, o, hA, fun j x hj => hk.cell (hc j x hj)⟩⟩
theorem Il.nil (w : World) : Il w none 0 0 [] := ⟨rfl, Nat.le_refl _, Nat.zero_le _, fun _ => rfl, .inl rfl⟩
theorem Il.cap {w : World} {A : Option Addr} {n c : Nat} {V : List Int} (h : Il w A n c V) : n ≤ c ∧ c ≤ 9223372036854775807 := ⟨h.2.1, h.2.2.1⟩
theorem Il.get {w : World} {A : Option Addr} {n c : Nat} {V : List Int} (h : Il w A n c V) {k : Nat} (hk : k < n) :
    ∃ b o x, A = some ⟨b, o, none⟩ ∧ V[k]? = some x ∧ w.cell? ⟨b, o + k, none⟩ = some (.int .i64 x) := by
  have hl : k < V.length := by rw [← h.1]; exact hk
  rcases h.2.2.2.2 with h0 | ⟨b, o, hA, hc⟩
  · omega
  · exact ⟨b, o, V[k], hA, List.getElem?_eq_getElem hl, hc k V[k] (List.getElem?_eq_getElem hl)⟩

/-- The cells of ints. -/
def intsV (V : List Int) : List Value := V.map fun x => .int .i64 x
theorem intsV_app (V W : List Int) : intsV (V ++ W) = intsV V ++ intsV W := List.map_append
theorem intsV_len (V : List Int) : (intsV V).length = V.length := List.length_map ..
theorem intsV_one (V : List Int) : ∀ u ∈ intsV V, u.oneCell' = true := by
  intro u hu
  obtain ⟨x, _, rfl⟩ := List.mem_map.1 hu
  rfl
theorem intsV_get {V : List Int} {j : Nat} {x : Int} (h : V[j]? = some x) : (intsV V)[j]? = some (.int .i64 x) := by
  unfold intsV; rw [List.getElem?_map, h]; rfl
theorem Il.of_own {w : World} {base n : Nat} {e : TypeId} {v : Value} {V : List Int} (h : w.ownsRow base e 1 v n (intsV V)) : ∃ A c, v = .slice A n c ∧ Il w A n c V := by
  have hl : n = V.length := by have := h.1; rw [intsV_len] at this; omega
  have hc := fun g (hg : v.ownBlock = some g) => h.cells (g := g) hg
  rcases h.2 with ⟨rfl, h0⟩ | ⟨g, cap, cur, rfl, hb, hg, h1, h2, _⟩
  · subst h0
    exact ⟨none, 0, rfl, hl, Nat.le_refl _, Nat.zero_le _, fun _ => rfl, .inl rfl⟩
  · refine ⟨some ⟨g, 0, none⟩, cap, rfl, hl, h1, h2, fun h => by simp at h, .inr ⟨g, 0, rfl, fun j x hj => ?_⟩⟩
    have := hc g rfl _ _ (intsV_get hj)
    rwa [Addr.add_lit] at this
theorem infoI : (Tryd.prog.info? 3).map (fun i => (i.zero, i.size, i.bytes)) = some (some (.int .i64 0), 1, 8) := by kernel_rfl
theorem il_head {w : World} {A : Option Addr} {n c k : Nat} {V : List Int} (h : Il w A n c V) (hk : k ≤ n) : Il w A k c (V.take k) := by
  obtain ⟨h1, h2, h3, h4, h5⟩ := h
  refine ⟨by rw [List.length_take]; omega, by omega, h3, h4, ?_⟩
  rcases h5 with h0 | ⟨b, o, hA, hc⟩
  · exact .inl (by omega)
  · refine .inr ⟨b, o, hA, fun j x hj => hc j x ?_⟩
    rw [List.getElem?_take] at hj
    split at hj
    · exact hj
    · cases hj
end Go.Proofs.YtjcnjmlgedmmoaaDoor

namespace Go.Proofs.YtjcnjmlgedmmoaaDoor
open Go.RowKit

theorem Kept.blk {W W' : World} (h : Kept W W') {i : Nat} (hi : i < W.heap.size) : W'.heap[i]? = W.heap[i]? := by
  have hk := h.1.2.2 i hi
  cases h1 : W.heap[i]? with
  | none => rw [h1] at hk; exact hk
  | some o =>
    rw [h1] at hk
    cases h2 : W'.heap[i]? with
    | none => rw [h2] at hk; cases o <;> simp at hk
    | some o' =>
      rw [h2] at hk
      cases o <;> cases o' <;> simp only [false_or, Option.some.injEq, reduceCtorEq] at hk ⊢
      case cells.cells c t fr c' t' fr' =>
        obtain ⟨rfl, rfl, _, he⟩ := hk
        have : c' = c := Array.ext_getElem? fun j => he j (fun f => f)
        subst this; rfl
      all_goals first | exact hk | (obtain ⟨rfl, rfl⟩ := hk; rfl)
theorem kept_blk {W W' : World} (h1 : W'.os = W.os) (h2 : W'.output = W.output) (h3 : W.heap.size ≤ W'.heap.size) (h : ∀ i, i < W.heap.size → W'.heap[i]? = W.heap[i]?) : Kept W W' := by
  refine ⟨⟨h1, h2, fun i hi => ?_⟩, fun a ha => World.frozen?_of_block (w := W) (h _ ha), h3⟩
  have := (World.keptBut_refl W (fun _ => False)).2.2 i hi
  rw [h i hi]
  exact this

/-- All that W has, but for block G. -/
structure KeptE (G : Nat) (W w : World) : Prop where
  os : w.os = W.os
  output : w.output = W.output
  size : W.heap.size ≤ w.heap.size
  blk : ∀ i, i < W.heap.size → i ≠ G → w.heap[i]? = W.heap[i]?
theorem KeptE.of {G : Nat} {W w : World} (h : Kept W w) : KeptE G W w := ⟨h.1.1, h.1.2.1, h.2.2, fun _ hi _ => h.blk hi⟩
theorem KeptE.refl (G : Nat) (W : World) : KeptE G W W := .of (Kept.refl W)
theorem KeptE.trans {G : Nat} {W w u : World} (h : KeptE G W w) (k : Kept w u) : KeptE G W u :=
  ⟨k.1.1.trans h.os, k.1.2.1.trans h.output, Nat.le_trans h.size k.2.2, fun i hi hg => (k.blk (Nat.lt_of_lt_of_le hi h.size)).trans (h.blk i hi hg)⟩
theorem KeptE.grown {G : Nat} {W w u : World} {row : Option Nat} (h : KeptE G W w) (k : w.grownBy u row) (hr : ∀ g, row = some g → g = G ∨ W.heap.size ≤ g) : KeptE G W u :=
  ⟨k.os.trans h.os, k.output.trans h.output, Nat.le_trans h.size k.size, fun i hi hg => (k.block i (Nat.lt_of_lt_of_le hi h.size) (fun e => by
    rcases hr i e.symm with h1 | h1
    · exact hg h1
    · omega)).trans (h.blk i hi hg)⟩
theorem KeptE.set {G : Nat} {W w : World} (h : KeptE G W w) {a : Addr} (ha : a.block = G ∨ W.heap.size ≤ a.block) (v : Value) : KeptE G W (w.setCell a v) :=
  ⟨h.os, h.output, by have := h.size; simpa [World.setCell] using this, fun i hi hg => by
    rw [Deep.blk_setCell_other w a v i (fun e => by rcases ha with h1 | h1 <;> omega)]
    exact h.blk i hi hg⟩
theorem KeptE.kept {G : Nat} {W0 W w : World} (h : KeptE G W w) (k : Kept W0 W) (hG : W0.heap.size ≤ G) : Kept W0 w :=
  kept_blk (h.os.trans k.1.1) (h.output.trans k.1.2.1) (Nat.le_trans k.2.2 h.size) fun i hi => (h.blk i (Nat.lt_of_lt_of_le hi k.2.2) (by omega)).trans (k.blk hi)
theorem KeptE.cell {G : Nat} {W w : World} (h : KeptE G W w) {b o : Nat} {v : Value} (hb : b ≠ G) (hc : W.cell? ⟨b, o, none⟩ = some v) : w.cell? ⟨b, o, none⟩ = some v := by
  rw [World.cell?_of_block (w := W) (h.blk b (World.block_lt_of_cell? W _ hc) hb)]
  exact hc
theorem KeptE.froz {G : Nat} {W w : World} (h : KeptE G W w) {b o : Nat} {f : Bool} (hb : b ≠ G) (hl : b < W.heap.size) (hc : W.frozen? ⟨b, o, none⟩ = f) : w.frozen? ⟨b, o, none⟩ = f := by
  rw [World.frozen?_of_block (w := W) (h.blk b hl hb)]
  exact hc
end Go.Proofs.YtjcnjmlgedmmoaaDoor

