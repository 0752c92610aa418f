/-
  What is proved: words for memory that layer 5's contracts use: a slice of dots that lies in memory ('Dl'), and what a world that has all that another one has keeps of it.
  dot.Cmp, called with any two dots, returns their order (P5.2), and lays blocks alone; the document's Cmp likewise.
  Right and Put of package dot and of the document's layer 5, called with any dot, return what P5.1 and P5.3 say; the world has new blocks at most.
  plain facts on sets of dots (P6.1 to P6.9, P6.13, P6.14): what is in one, when one is right, that sets with the same dots are the same, and what compacting makes of any dots; no program is spoken of here.
  append of a slice of dots onto a row of the call's own; slices.Clone at dots: the result lies in a row of its own and holds the slice's dots; the world has new blocks at most.
  dot.Has and the document's Has, called with any slice of dots that lies in memory and any dot, tell whether it is there (P5.7); the laws' Same tells whether two slices hold the same dots; the world has new blocks at most.
  slices.BinarySearchFunc at dots, with dot.Cmp, called with any rising slice of dots and any dot, returns its place and whether it is there; the world has new blocks at most.
  slices.Grow of the nil slice, and slices.Concat of any slices of dots (a million dots at most in all), as the library's text has them, at dots: the result lies in a row of its own and holds the slices' dots, one slice behind the other; the world has new blocks at most.
  dot.With, called with any rising slice of dots that lies in memory and any dot, returns the slice's dots with that one at its place (P5.5); the world has new blocks at most.
  words for memory that layer 6's contracts use: a slice of ints that lies in memory ('Il'), append of such onto a row of the call's own, and what a world that has all that another one has keeps of it.
  worlds that have all that another one has but for one block ('KeptE'): what is read of other blocks reads on.
  rows that a call owns, beside one another: a row reads on behind what leaves older blocks alone; two rows of other kinds of elements are apart; an int of a row written; worlds that have all that another one has but for one block ('KeptE').
  words for memory that layer 13's contracts use: a slice of pairs that lies in memory ('Pal'), its head and its tail, append of such, or of one, onto a row of the call's own.
  the document's first of layer 13, called with any slice of pairs, any value and either side, returns the first pair on whose side the value is; the world has new blocks at most.
  the document's forth, back, Apply, Back and Turn of layer 13 (P13.1 to P13.3), called with any table and value, return what the chapter says; the world has new blocks at most.
  the document's Turn and Same of layer 13 (P13.3, P13.8), called with any tables, return what the chapter says; the world has new blocks at most.
  the document's kinds of layer 13 (a part of P13.4), called with any table of bounded texts and two kinds, tells whether all its values are of these kinds and right, none on the left twice, and not too many; the world has new blocks at most.
-/
import Derived.Test.YtofnpifooaijcaaGreatProg
import Derived.Test.YtofnpifooaijcaaGreatM4
import Derived.Laws.StructEq
import Derived.WalkKit
import Derived.WalkSmall
import Derived.OwnWalk
import Derived.Lib.Hide
import Derived.Below
import Derived.Shelf.GgSortFunc.RowK
import Derived.Test.YtofnpifooaijcaaGreatM2
import Derived.Sort.Grow
import Derived.Lib.SliceRun
import Derived.Lib.Walk
import Derived.Lib.AppendZerosOnto
import Derived.Lib.AppendZeros
import Derived.Test.YtofnpifooaijcaaGreatM1
import Derived.BigQuiet
import Derived.Maps.AppendAt
import Derived.Deep.Heap
import Derived.OneCell
import Derived.Test.YtofnpifooaijcaaGreatM3
import Derived.Deep.DeepCutAuto
namespace Go.Proofs.YtofnpifooaijcaaGreat
open Go.RowKit
def dotV (x : Int × Int) : Value := .agg #[.int .i64 x.1, .int .i64 x.2]
def Dl (w : World) (A : Option Addr) (n c : Nat) (L : List (Int × Int)) : Prop :=
  n = L.length ∧ n ≤ c ∧ c ≤ maxLen ∧ (A = none → c = 0) ∧ (n = 0 ∨ ∃ b o, A = some ⟨b, o, none⟩ ∧ ∀ j x, L[j]? = some x → w.cell? ⟨b, o + j * 2, none⟩ = some (.int .i64 x.1) ∧ w.cell? ⟨b, o + j * 2 + 1, none⟩ = some (.int .i64 x.2))
theorem Dl.kept {w w' : World} {A : Option Addr} {n c : Nat} {L : List (Int × Int)} (h : Dl w A n c L) (hk : Kept w w') : Dl w' A n c L :=
  ⟨h.1, h.2.1, h.2.2.1, h.2.2.2.1, h.2.2.2.2.imp id fun ⟨b, o, hA, hc⟩ => ⟨b, o, hA, fun j x hj => ⟨hk.cell (hc j x hj).1, hk.cell (hc j x hj).2⟩⟩⟩
theorem Dl.nil (w : World) : Dl w none 0 0 [] := ⟨rfl, Nat.le_refl _, Nat.zero_le _, fun _ => rfl, .inl rfl⟩
theorem Dl.len {w : World} {A : Option Addr} {n c : Nat} {L : List (Int × Int)} (h : Dl w A n c L) : L.length = n := h.1.symm
theorem Dl.cap {w : World} {A : Option Addr} {n c : Nat} {L : List (Int × Int)} (h : Dl w A n c L) : n ≤ c ∧ c ≤ 9223372036854775807 := ⟨h.2.1, h.2.2.1⟩
theorem Dl.get {w : World} {A : Option Addr} {n c : Nat} {L : List (Int × Int)} (h : Dl w A n c L) {k : Nat} (hk : k < n) :
    ∃ b o x, A = some ⟨b, o, none⟩ ∧ L[k]? = some x ∧ w.cell? ⟨b, o + k * 2, none⟩ = some (.int .i64 x.1) ∧ w.cell? ⟨b, o + k * 2 + 1, none⟩ = some (.int .i64 x.2) := by
  have hl : k < L.length := by rw [← h.1]; exact hk
  rcases h.2.2.2.2 with h0 | ⟨b, o, hA, hc⟩
  · omega
  · have := hc k L[k] (List.getElem?_eq_getElem hl)
    exact ⟨b, o, L[k], hA, List.getElem?_eq_getElem hl, this.1, this.2⟩
def flatD (L : List (Int × Int)) : List Value := L.flatMap fun x => [.int .i64 x.1, .int .i64 x.2]
theorem flatD_nil : flatD [] = [] := rfl
theorem flatD_cons (x : Int × Int) (L : List (Int × Int)) : flatD (x :: L) = .int .i64 x.1 :: .int .i64 x.2 :: flatD L := rfl
theorem flatD_app (L M : List (Int × Int)) : flatD (L ++ M) = flatD L ++ flatD M := List.flatMap_append
theorem flatD_len (L : List (Int × Int)) : (flatD L).length = L.length * 2 := by
  induction L with
  | nil => rfl
  | cons x L ih => rw [flatD_cons, List.length_cons, List.length_cons, List.length_cons, ih]; omega
theorem flatD_one (L : List (Int × Int)) : ∀ u ∈ flatD L, u.oneCell' = true := by
  intro u hu
  obtain ⟨x, _, hx⟩ := List.mem_flatMap.1 hu
  simp only [List.mem_cons, List.not_mem_nil, or_false] at hx
  rcases hx with rfl | rfl <;> rfl
theorem flatD_get : ∀ (L : List (Int × Int)) (j : Nat) (x : Int × Int), L[j]? = some x → (flatD L)[j * 2]? = some (.int .i64 x.1) ∧ (flatD L)[j * 2 + 1]? = some (.int .i64 x.2)
  | [], j, x, h => by simp at h
  | y :: L, 0, x, h => by
    obtain rfl : y = x := by simpa using h
    exact ⟨rfl, rfl⟩
  | y :: L, j + 1, x, h => by
    have ih := flatD_get L j x (by simpa using h)
    rw [flatD_cons, show (j + 1) * 2 = (j * 2) + 1 + 1 by omega]
    simpa using ih
theorem flatD_at : ∀ (L : List (Int × Int)) (i : Nat) (u : Value), (flatD L)[i]? = some u → ∃ j x, L[j]? = some x ∧ ((i = j * 2 ∧ u = .int .i64 x.1) ∨ (i = j * 2 + 1 ∧ u = .int .i64 x.2))
  | [], i, u, h => by simp [flatD_nil] at h
  | y :: L, 0, u, h => ⟨0, y, rfl, .inl ⟨rfl, by simpa [flatD_cons] using h.symm⟩⟩
  | y :: L, 1, u, h => ⟨0, y, rfl, .inr ⟨rfl, by simpa [flatD_cons] using h.symm⟩⟩
  | y :: L, i + 2, u, h => by
    obtain ⟨j, x, hj, hc⟩ := flatD_at L i u (by simpa [flatD_cons] using h)
    refine ⟨j + 1, x, by simpa using hj, ?_⟩
    rcases hc with ⟨h1, h2⟩ | ⟨h1, h2⟩
    · exact .inl ⟨by omega, h2⟩
    · exact .inr ⟨by omega, h2⟩
theorem Dl.of_own {w : World} {base n : Nat} {e : TypeId} {v : Value} {L : List (Int × Int)} (h : w.ownsRow base e 2 v n (flatD L)) : ∃ A c, v = .slice A n c ∧ Dl w A n c L := by
  have hl : n = L.length := by have := h.1; rw [flatD_len] at this; omega
  have hc := fun g (hg : v.ownBlock = some g) => h.cells (g := g) hg
  rcases h.2 with ⟨rfl, h0⟩ | ⟨g, cap, cur, rfl, hb, hg, h1, h2, _⟩
  · subst h0
    exact ⟨none, 0, rfl, hl, Nat.le_refl _, Nat.zero_le _, fun _ => rfl, .inl rfl⟩
  · refine ⟨some ⟨g, 0, none⟩, cap, rfl, hl, h1, h2, fun h => by simp at h, .inr ⟨g, 0, rfl, fun j x hj => ?_⟩⟩
    have hx := flatD_get L j x hj
    have c0 := hc g rfl _ _ hx.1
    have c1 := hc g rfl _ _ hx.2
    rw [Addr.add_lit, Nat.zero_add] at c0 c1
    rw [Nat.zero_add]
    exact ⟨c0, c1⟩
theorem Dl.of_own' {w : World} {base n : Nat} {e : TypeId} {v : Value} {L : List (Int × Int)} (h : w.ownsRow base e 2 v n (flatD L)) : ∃ A c, v = .slice A n c ∧ Dl w A n c L ∧ ∀ ad, A = some ad → base ≤ ad.block := by
  obtain ⟨A, c, rfl, hd⟩ := Dl.of_own h
  refine ⟨A, c, rfl, hd, fun ad e => ?_⟩
  subst e
  exact (h.lt ad.block rfl).1
theorem kept_of_below {w w' : World} (h : Below w.heap.size w w') : Kept w w' :=
  ⟨h.frame _, fun _ ha => h.frozen ha, h.size⟩
theorem Kept.drewN {W w : World} (h : Kept W w) (n : Nat) : Kept W (w.drewN n) := h
theorem Kept.setCell {W w : World} (h : Kept W w) {a : Addr} (ha : W.heap.size ≤ a.block) (v : Value) : Kept W (w.setCell a v) := by
  obtain ⟨⟨h1, h2, h3⟩, hf, hs⟩ := h
  refine ⟨⟨h1, h2, fun i hi => ?_⟩, fun x hx => (World.frozen?_setCell _ _ _ _).trans (hf x hx), by simpa [World.setCell] using hs⟩
  rw [Below.heap_setCell _ _ _ _ (by omega)]
  exact h3 i hi
theorem Kept.box0 {w : World} {W : World} {x0 x1 : Value} {t : TypeId} (hg : Kept (w.alloc (.cells #[x0, x1] t)) W) : W.cell? ⟨w.heap.size, 0, none⟩ = some x0 := hg.box 0 _ rfl
theorem Kept.box1 {w : World} {W : World} {x0 x1 : Value} {t : TypeId} (hg : Kept (w.alloc (.cells #[x0, x1] t)) W) : W.cell? ⟨w.heap.size, 1, none⟩ = some x1 := hg.box 1 _ rfl
theorem lt_of_kept {w w1 : World} {c : Array Value} {t : TypeId} (hg : Kept (w.alloc (.cells c t)) w1) : w.heap.size < w1.heap.size := by
  have := hg.2.2; simp at this; omega
def rightD (x : Int × Int) : Bool := decide (0 ≤ x.1 ∧ x.1 < 64 ∧ 1 ≤ x.2 ∧ x.2 ≤ 1073741824)
end Go.Proofs.YtofnpifooaijcaaGreat
namespace Go.Proofs.YtofnpifooaijcaaGreat
end Go.Proofs.YtofnpifooaijcaaGreat
namespace Go.Proofs.YtofnpifooaijcaaGreat
open Go.RowKit
theorem kept_grown {W w w' : World} {row : Option Nat} (h : Kept W w) (hg : w.grownBy w' row) (hr : ∀ k, row = some k → W.heap.size ≤ k) : Kept W w' := by
  have hb : Below W.heap.size w w' := Below.grown (Below.refl _ w) hg h.2.2 hr
  obtain ⟨⟨h1, h2, h3⟩, hf, hs⟩ := h
  refine ⟨⟨hb.os.trans h1, hb.output.trans h2, fun i hi => ?_⟩, fun a ha => (hb.frozen ha).trans (hf a ha), Nat.le_trans hs hb.size⟩
  rw [hb.block i hi]
  exact h3 i hi
theorem Kept.blk {W W' : World} (h : Kept W W') {i : Nat} (hi : i < W.heap.size) : W'.heap[i]? = W.heap[i]? := by
  have hk := h.1.2.2 i hi
  cases h1 : W.heap[i]? with
  | none => rw [h1] at hk; exact hk
  | some o =>
    rw [h1] at hk
    cases h2 : W'.heap[i]? with
    | none => rw [h2] at hk; cases o <;> simp at hk
    | some o' =>
      rw [h2] at hk
      cases o <;> cases o' <;> simp only [false_or, Option.some.injEq, reduceCtorEq] at hk ⊢
      case cells.cells c t fr c' t' fr' =>
        obtain ⟨rfl, rfl, _, he⟩ := hk
        have : c' = c := Array.ext_getElem? fun j => he j (fun f => f)
        subst this; rfl
      all_goals first | exact hk | (obtain ⟨rfl, rfl⟩ := hk; rfl)
theorem kept_blk {W W' : World} (h1 : W'.os = W.os) (h2 : W'.output = W.output) (h3 : W.heap.size ≤ W'.heap.size) (h : ∀ i, i < W.heap.size → W'.heap[i]? = W.heap[i]?) : Kept W W' := by
  refine ⟨⟨h1, h2, fun i hi => ?_⟩, fun a ha => World.frozen?_of_block (w := W) (h _ ha), h3⟩
  have := (World.keptBut_refl W (fun _ => False)).2.2 i hi
  rw [h i hi]
  exact this
structure KeptE (G : Nat) (W w : World) : Prop where
  os : w.os = W.os
  output : w.output = W.output
  size : W.heap.size ≤ w.heap.size
  blk : ∀ i, i < W.heap.size → i ≠ G → w.heap[i]? = W.heap[i]?
theorem KeptE.of {G : Nat} {W w : World} (h : Kept W w) : KeptE G W w := ⟨h.1.1, h.1.2.1, h.2.2, fun _ hi _ => h.blk hi⟩
theorem KeptE.refl (G : Nat) (W : World) : KeptE G W W := .of (Kept.refl W)
theorem KeptE.trans {G : Nat} {W w u : World} (h : KeptE G W w) (k : Kept w u) : KeptE G W u :=
  ⟨k.1.1.trans h.os, k.1.2.1.trans h.output, Nat.le_trans h.size k.2.2, fun i hi hg => (k.blk (Nat.lt_of_lt_of_le hi h.size)).trans (h.blk i hi hg)⟩
theorem KeptE.grown {G : Nat} {W w u : World} {row : Option Nat} (h : KeptE G W w) (k : w.grownBy u row) (hr : ∀ g, row = some g → g = G ∨ W.heap.size ≤ g) : KeptE G W u :=
  ⟨k.os.trans h.os, k.output.trans h.output, Nat.le_trans h.size k.size, fun i hi hg => (k.block i (Nat.lt_of_lt_of_le hi h.size) (fun e => by
    rcases hr i e.symm with h1 | h1
    · exact hg h1
    · omega)).trans (h.blk i hi hg)⟩
theorem KeptE.set {G : Nat} {W w : World} (h : KeptE G W w) {a : Addr} (ha : a.block = G ∨ W.heap.size ≤ a.block) (v : Value) : KeptE G W (w.setCell a v) :=
  ⟨h.os, h.output, by have := h.size; simpa [World.setCell] using this, fun i hi hg => by
    rw [Deep.blk_setCell_other w a v i (fun e => by rcases ha with h1 | h1 <;> omega)]
    exact h.blk i hi hg⟩
theorem KeptE.kept {G : Nat} {W0 W w : World} (h : KeptE G W w) (k : Kept W0 W) (hG : W0.heap.size ≤ G) : Kept W0 w :=
  kept_blk (h.os.trans k.1.1) (h.output.trans k.1.2.1) (Nat.le_trans k.2.2 h.size) fun i hi => (h.blk i (Nat.lt_of_lt_of_le hi k.2.2) (by omega)).trans (k.blk hi)
theorem KeptE.cell {G : Nat} {W w : World} (h : KeptE G W w) {b o : Nat} {v : Value} (hb : b ≠ G) (hc : W.cell? ⟨b, o, none⟩ = some v) : w.cell? ⟨b, o, none⟩ = some v := by
  rw [World.cell?_of_block (w := W) (h.blk b (World.block_lt_of_cell? W _ hc) hb)]
  exact hc
theorem KeptE.froz {G : Nat} {W w : World} (h : KeptE G W w) {b o : Nat} {f : Bool} (hb : b ≠ G) (hl : b < W.heap.size) (hc : W.frozen? ⟨b, o, none⟩ = f) : w.frozen? ⟨b, o, none⟩ = f := by
  rw [World.frozen?_of_block (w := W) (h.blk b hl hb)]
  exact hc
section
variable {w : World} {base : Nat} {e : TypeId} {size : Nat} {v : Value} {n : Nat} {xs : List Value}
theorem own_blk {w' : World} (h : w.ownsRow base e size v n xs) (hb : ∀ g, v.ownBlock = some g → w'.heap[g]? = w.heap[g]?) : w'.ownsRow base e size v n xs := by
  obtain ⟨h1, h2⟩ := h
  refine ⟨h1, ?_⟩
  rcases h2 with h2 | ⟨g, cap, cur, rfl, hg, hh, r⟩
  · exact .inl h2
  · exact .inr ⟨g, cap, cur, rfl, hg, by rw [hb g rfl]; exact hh, r⟩
theorem own_kept {w' : World} (h : w.ownsRow base e size v n xs) (hk : Kept w w') : w'.ownsRow base e size v n xs :=
  own_blk h fun g hg => hk.blk (h.lt g hg).2
end
set_option linter.unusedVariables false
structure PaO (w : World) (b o : Nat) (x : Pa) : Prop where
  c0 : w.cell? ⟨b, o, none⟩ = some (.int .i64 x.f.k)
  c1 : w.cell? ⟨b, o + 1, none⟩ = some (.int .i64 x.f.n)
  c2 : w.cell? ⟨b, o + 2, none⟩ = some (.string x.f.t)
  c3 : w.cell? ⟨b, o + 3, none⟩ = some (.int .i64 x.t.k)
  c4 : w.cell? ⟨b, o + 4, none⟩ = some (.int .i64 x.t.n)
  c5 : w.cell? ⟨b, o + 5, none⟩ = some (.string x.t.t)
theorem PaO.kept {w w' : World} {b o : Nat} {x : Pa} (h : PaO w b o x) (hg : Kept w w') : PaO w' b o x :=
  ⟨hg.cell h.c0, hg.cell h.c1, hg.cell h.c2, hg.cell h.c3, hg.cell h.c4, hg.cell h.c5⟩
structure PaB (w : World) (b : Nat) (x : Pa) : Prop where
  c0 : w.cell? ⟨b, 0, none⟩ = some (.int .i64 x.f.k)
  c1 : w.cell? ⟨b, 1, none⟩ = some (.int .i64 x.f.n)
  c2 : w.cell? ⟨b, 2, none⟩ = some (.string x.f.t)
  c3 : w.cell? ⟨b, 3, none⟩ = some (.int .i64 x.t.k)
  c4 : w.cell? ⟨b, 4, none⟩ = some (.int .i64 x.t.n)
  c5 : w.cell? ⟨b, 5, none⟩ = some (.string x.t.t)
  f : ∀ j, w.frozen? ⟨b, j, none⟩ = false
  lt : b < w.heap.size
theorem PaB.kept {w w' : World} {b : Nat} {x : Pa} (h : PaB w b x) (hg : Kept w w') : PaB w' b x :=
  ⟨hg.cell h.c0, hg.cell h.c1, hg.cell h.c2, hg.cell h.c3, hg.cell h.c4, hg.cell h.c5, fun j => (hg.2.1 ⟨b, j, none⟩ h.lt).trans (h.f j), Nat.lt_of_lt_of_le h.lt hg.2.2⟩
theorem PaB.new (w : World) (x : Pa) (t : TypeId) : PaB (w.alloc (.cells #[.int .i64 x.f.k, .int .i64 x.f.n, .string x.f.t, .int .i64 x.t.k, .int .i64 x.t.n, .string x.t.t] t)) w.heap.size x :=
  ⟨(Kept.refl _).box 0 _ rfl, (Kept.refl _).box 1 _ rfl, (Kept.refl _).box 2 _ rfl, (Kept.refl _).box 3 _ rfl, (Kept.refl _).box 4 _ rfl, (Kept.refl _).box 5 _ rfl, fun j => by rw [frozen?_alloc_cells]; simp [World.frozen?], by simp⟩
def Pal (w : World) (A : Option Addr) (n c : Nat) (L : List Pa) : Prop :=
  n = L.length ∧ n ≤ c ∧ c ≤ maxLen ∧ (A = none → c = 0) ∧ (n = 0 ∨ ∃ b o, A = some ⟨b, o, none⟩ ∧ ∀ j x, L[j]? = some x → PaO w b (o + j * 6) x)
theorem Pal.kept {w w' : World} {A : Option Addr} {n c : Nat} {L : List Pa} (h : Pal w A n c L) (hk : Kept w w') : Pal w' A n c L :=
  ⟨h.1, h.2.1, h.2.2.1, h.2.2.2.1, h.2.2.2.2.imp id fun ⟨b, o, hA, hc⟩ => ⟨b, o, hA, fun j x hj => (hc j x hj).kept hk⟩⟩
theorem Pal.nil (w : World) : Pal w none 0 0 [] := ⟨rfl, Nat.le_refl _, Nat.zero_le _, fun _ => rfl, .inl rfl⟩
theorem Pal.cap {w : World} {A : Option Addr} {n c : Nat} {L : List Pa} (h : Pal w A n c L) : n ≤ c ∧ c ≤ 9223372036854775807 := ⟨h.2.1, h.2.2.1⟩
theorem Pal.get {w : World} {A : Option Addr} {n c : Nat} {L : List Pa} (h : Pal w A n c L) {k : Nat} (hk : k < n) :
    ∃ b o x, A = some ⟨b, o, none⟩ ∧ L[k]? = some x ∧ PaO w b (o + k * 6) x := by
  have hl : k < L.length := by rw [← h.1]; exact hk
  rcases h.2.2.2.2 with h0 | ⟨b, o, hA, hc⟩
  · omega
  · exact ⟨b, o, L[k], hA, List.getElem?_eq_getElem hl, hc k L[k] (List.getElem?_eq_getElem hl)⟩
def cellPa (x : Pa) : List Value := [.int .i64 x.f.k, .int .i64 x.f.n, .string x.f.t, .int .i64 x.t.k, .int .i64 x.t.n, .string x.t.t]
def flatPa (L : List Pa) : List Value := L.flatMap cellPa
theorem flatPa_nil : flatPa [] = [] := rfl
theorem flatPa_cons (x : Pa) (L : List Pa) : flatPa (x :: L) = cellPa x ++ flatPa L := rfl
theorem flatPa_app (L M : List Pa) : flatPa (L ++ M) = flatPa L ++ flatPa M := List.flatMap_append
theorem flatPa_len (L : List Pa) : (flatPa L).length = L.length * 6 := by
  induction L with
  | nil => rfl
  | cons x L ih => rw [flatPa_cons, List.length_append, List.length_cons, ih]; show 6 + _ = _; omega
theorem flatPa_one (L : List Pa) : ∀ u ∈ flatPa L, u.oneCell' = true := by
  intro u hu
  obtain ⟨x, _, hx⟩ := List.mem_flatMap.1 hu
  simp only [cellPa, List.mem_cons, List.not_mem_nil, or_false] at hx
  rcases hx with rfl | rfl | rfl | rfl | rfl | rfl <;> rfl
theorem flatPa_get : ∀ (L : List Pa) (j : Nat) (x : Pa), L[j]? = some x → ∀ i, i < 6 → (flatPa L)[j * 6 + i]? = (cellPa x)[i]?
  | [], j, x, h, _, _ => by simp at h
  | y :: L, 0, x, h, i, hi => by
    obtain rfl : y = x := by simpa using h
    rw [flatPa_cons, List.getElem?_append_left (by show 0 * 6 + i < 6; omega), Nat.zero_mul, Nat.zero_add]
  | y :: L, j + 1, x, h, i, hi => by
    have ih := flatPa_get L j x (by simpa using h) i hi
    rw [flatPa_cons, List.getElem?_append_right (by show 6 ≤ _; omega), ← ih]
    congr 1
    show (j + 1) * 6 + i - 6 = _
    omega
theorem flatPa_at : ∀ (L : List Pa) (i : Nat) (u : Value), (flatPa L)[i]? = some u → ∃ j x r, L[j]? = some x ∧ i = j * 6 + r ∧ r < 6 ∧ (cellPa x)[r]? = some u
  | [], i, u, h => by simp [flatPa_nil] at h
  | y :: L, i, u, h => by
    rw [flatPa_cons] at h
    by_cases hi : i < 6
    · rw [List.getElem?_append_left (by exact hi)] at h
      exact ⟨0, y, i, rfl, by omega, hi, h⟩
    · rw [List.getElem?_append_right (by show 6 ≤ i; omega)] at h
      obtain ⟨j, x, r, h1, h2, h3, h4⟩ := flatPa_at L (i - 6) u h
      exact ⟨j + 1, x, r, by simpa using h1, by omega, h3, h4⟩
theorem PaO.of_flat {w : World} {b o : Nat} {x : Pa} (h : ∀ i u, (cellPa x)[i]? = some u → w.cell? ⟨b, o + i, none⟩ = some u) : PaO w b o x :=
  ⟨h 0 _ rfl, h 1 _ rfl, h 2 _ rfl, h 3 _ rfl, h 4 _ rfl, h 5 _ rfl⟩
theorem PaO.flat {w : World} {b o : Nat} {x : Pa} (h : PaO w b o x) : ∀ i u, (cellPa x)[i]? = some u → w.cell? ⟨b, o + i, none⟩ = some u := by
  intro i u hu
  match i, hu with
  | 0, hu => obtain rfl := Option.some.inj hu; exact h.c0
  | 1, hu => obtain rfl := Option.some.inj hu; exact h.c1
  | 2, hu => obtain rfl := Option.some.inj hu; exact h.c2
  | 3, hu => obtain rfl := Option.some.inj hu; exact h.c3
  | 4, hu => obtain rfl := Option.some.inj hu; exact h.c4
  | 5, hu => obtain rfl := Option.some.inj hu; exact h.c5
  | i + 6, hu => simp [cellPa] at hu
theorem PaB.o {w : World} {b : Nat} {x : Pa} (h : PaB w b x) : PaO w b 0 x := ⟨h.c0, h.c1, h.c2, h.c3, h.c4, h.c5⟩
theorem Pal.of_own' {w : World} {base n : Nat} {e : TypeId} {v : Value} {L : List Pa} (h : w.ownsRow base e 6 v n (flatPa L)) : ∃ A c, v = .slice A n c ∧ Pal w A n c L ∧ ∀ ad, A = some ad → base ≤ ad.block := by
  have hl : n = L.length := by have := h.1; rw [flatPa_len] at this; omega
  have hc := fun g (hg : v.ownBlock = some g) => h.cells (g := g) hg
  have hlt := fun g (hg : v.ownBlock = some g) => h.lt g hg
  rcases h.2 with ⟨rfl, h0⟩ | ⟨g, cap, cur, rfl, hb, hg, h1, h2, _⟩
  · subst h0
    exact ⟨none, 0, rfl, ⟨hl, Nat.le_refl _, Nat.zero_le _, fun _ => rfl, .inl rfl⟩, fun ad he => by cases he⟩
  · refine ⟨some ⟨g, 0, none⟩, cap, rfl, ⟨hl, h1, h2, fun h => by simp at h, .inr ⟨g, 0, rfl, fun j x hj => ?_⟩⟩, fun ad he => by cases he; exact hb⟩
    refine PaO.of_flat fun i u hu => ?_
    have hi : i < 6 := (List.getElem?_eq_some_iff.1 hu).1
    have := hc g rfl _ u ((flatPa_get L j x hj i hi).trans hu)
    rw [Addr.add_lit, Nat.zero_add] at this
    rw [Nat.zero_add]
    exact this
theorem info_pa : (Tryz.prog.info? 99).map (fun i => (i.zero, i.size, i.bytes)) = some (some (.agg #[.int .i64 0, .int .i64 0, .string ⟨#[]⟩, .int .i64 0, .int .i64 0, .string ⟨#[]⟩]), 6, 64) := by kernel_rfl
theorem app_pas (w : World) (base : Nat) (v : Value) (n : Nat) (xs : List Value) (h : w.ownsRow base 99 6 v n xs) (A : Option Addr) (m c : Nat) (L : List Pa) (hs : Pal w A m c L) (hb : n + m ≤ 1000000000) (hbase : base ≤ w.heap.size) :
    ∃ v' w', (Builtin.append_ #[29, 29] 29 #[v, .slice A m c]).run Tryz.prog w = .ok v' w' ∧ w'.ownsRow base 99 6 v' (n + m) (xs ++ flatPa L) ∧ w.grownBy w' v.ownBlock ∧ (v'.ownBlock = v.ownBlock ∨ v'.ownBlock = some w.heap.size) := by
  obtain ⟨i0, hi0, hz0, hz1, hz2⟩ := info_parts info_pa
  cases A with
  | none =>
    obtain rfl := hs.2.2.2.1 rfl
    obtain rfl : m = 0 := by have := hs.2.1; omega
    have hL : L = [] := List.eq_nil_of_length_eq_zero hs.1.symm
    subst hL
    exact ⟨v, w, run_append_owned_none w base _ _ _ i0 6 Tryz.underlying29 hi0 v n xs h, by simpa [flatPa_nil] using h, World.grownBy.refl w _, .inl rfl⟩
  | some ad =>
    obtain ⟨v', w', hr, ho, hg, _, hat⟩ := run_append_own_at (P := Tryz.prog) w base 29 29 99 i0 (.agg #[.int .i64 0, .int .i64 0, .string ⟨#[]⟩, .int .i64 0, .int .i64 0, .string ⟨#[]⟩]) 6 64 Tryz.underlying29 hi0 hz0 hz1 hz2 rfl (by decide) v n xs h ad m c (flatPa L)
      (by rw [flatPa_len, hs.1]) (fun j u hj => by
        obtain ⟨k, x, r, hk, rfl, hr9, hu⟩ := flatPa_at L j u hj
        have hkl := (List.getElem?_eq_some_iff.1 hk).1
        obtain ⟨b, o, y, hA, hy, hc⟩ := hs.get (k := k) (by rw [hs.1]; exact hkl)
        obtain rfl : y = x := Option.some.inj (hy.symm.trans hk)
        obtain rfl := Option.some.inj hA
        rw [Addr.add_lit, ← Nat.add_assoc]
        exact hc.flat r u hu) (flatPa_one _) (by simp only [maxLen]; omega) (by omega) hbase
    exact ⟨v', w', hr, ho, hg, hat⟩
theorem pa_one {w : World} {x : Pa} {b : Nat} (h : PaB w b x) : Pal w (some ⟨b, 0, none⟩) 1 1 [x] := by
  refine ⟨rfl, Nat.le_refl _, by simp [maxLen], (fun h => by cases h), .inr ⟨b, 0, rfl, fun j y hj => ?_⟩⟩
  match j, hj with
  | 0, hj =>
    obtain rfl : x = y := by simpa using hj
    exact h.o
  | j + 1, hj => simp at hj
def sideR (rt : Bool) (p : Pa) : Va := if rt then p.t else p.f
def firstR (L : List Pa) (v : Va) (rt : Bool) : Pa × Bool := match L.find? (fun p => decide (sideR rt p = v)) with
  | some p => (p, true)
  | none => (.none, false)
theorem firstR_F (L : List Pa) (v : Va) : firstR L v false = match fstF L v with
  | some p => (p, true)
  | none => (.none, false) := rfl
theorem firstR_T (L : List Pa) (v : Va) : firstR L v true = match fstT L v with
  | some p => (p, true)
  | none => (.none, false) := rfl
theorem firstR_at {L : List Pa} {v : Va} {rt : Bool} {t : Nat} {x : Pa} (hx : L[t]? = some x) (hm : sideR rt x = v) (hall : ∀ y ∈ L.take t, sideR rt y ≠ v) : firstR L v rt = (x, true) := by
  have e : L.find? (fun p => decide (sideR rt p = v)) = some x := by
    obtain ⟨h1, h2⟩ := List.getElem?_eq_some_iff.1 hx
    have hs : L = L.take t ++ x :: L.drop (t + 1) := by
      have := List.drop_eq_getElem_cons h1
      rw [h2] at this
      rw [← this, List.take_append_drop]
    rw [hs, List.find?_append, List.find?_eq_none.2 (fun y hy => by simpa using hall y hy), Option.none_or, List.find?_cons_of_pos (by simpa using hm)]
  unfold firstR
  rw [e]
theorem firstR_no {L : List Pa} {v : Va} {rt : Bool} (hall : ∀ y ∈ L, sideR rt y ≠ v) : firstR L v rt = (.none, false) := by
  unfold firstR
  rw [List.find?_eq_none.2 (fun y hy => by simpa using hall y hy)]
theorem tvs_eq {a b : ByteArray} (h : (a.toList == b.toList) = true) : a = b := by
  rw [beq_iff_eq, Lib.toList_data, Lib.toList_data] at h
  exact ba_ext h
theorem va_eq {x y : Va} (h : x = y) : (x.k == y.k) = true ∧ (x.n == y.n) = true ∧ (x.t.toList == y.t.toList) = true := by subst h; simp
theorem va_of {x y : Va} (h0 : (x.k == y.k) = true) (h1 : (x.n == y.n) = true) (h2 : (x.t.toList == y.t.toList) = true) : x = y := by
  obtain ⟨k, n, t⟩ := x
  obtain ⟨k', n', t'⟩ := y
  have e := tvs_eq h2
  simp only [beq_iff_eq] at h0 h1 e
  subst h0 h1 e
  rfl
theorem va_ne {x y : Va} (h : x ≠ y) : (x.k == y.k) = false ∨ ((x.k == y.k) = true ∧ (x.n == y.n) = false) ∨ ((x.k == y.k) = true ∧ (x.n == y.n) = true ∧ (x.t.toList == y.t.toList) = false) := by
  by_cases h0 : (x.k == y.k) = true
  case neg => exact .inl (by rw [← Bool.not_eq_true]; exact h0)
  by_cases h1 : (x.n == y.n) = true
  case neg => exact .inr (.inl ⟨h0, by rw [← Bool.not_eq_true]; exact h1⟩)
  exact .inr (.inr ⟨h0, h1, by rw [← Bool.not_eq_true]; exact fun h2 => h (va_of h0 h1 h2)⟩)
structure VaO (w : World) (b : Nat) (v : Va) : Prop where
  c0 : w.cell? ⟨b, 0, none⟩ = some (.int .i64 v.k)
  c1 : w.cell? ⟨b, 1, none⟩ = some (.int .i64 v.n)
  c2 : w.cell? ⟨b, 2, none⟩ = some (.string v.t)
  f : ∀ j, w.frozen? ⟨b, j, none⟩ = false
  lt : b < w.heap.size
theorem VaO.kept {w w' : World} {b : Nat} {v : Va} (h : VaO w b v) (hg : Kept w w') : VaO w' b v :=
  ⟨hg.cell h.c0, hg.cell h.c1, hg.cell h.c2, fun j => (hg.2.1 ⟨b, j, none⟩ h.lt).trans (h.f j), Nat.lt_of_lt_of_le h.lt hg.2.2⟩
theorem VaO.new (w : World) (v : Va) (ty : TypeId) : VaO (w.alloc (.cells #[.int .i64 v.k, .int .i64 v.n, .string v.t] ty)) w.heap.size v :=
  ⟨(Kept.refl _).box 0 _ rfl, (Kept.refl _).box 1 _ rfl, (Kept.refl _).box 2 _ rfl, fun j => by rw [frozen?_alloc_cells]; simp [World.frozen?], by simp⟩
structure TabB (w : World) (b : Nat) (A : Option Addr) (n c : Nat) (T : Tb) : Prop where
  c0 : w.cell? ⟨b, 0, none⟩ = some (.slice A n c)
  c1 : w.cell? ⟨b, 1, none⟩ = some (.bool T.keep)
  c2 : w.cell? ⟨b, 2, none⟩ = some (.int .i64 T.d.k)
  c3 : w.cell? ⟨b, 3, none⟩ = some (.int .i64 T.d.n)
  c4 : w.cell? ⟨b, 4, none⟩ = some (.string T.d.t)
  c5 : w.cell? ⟨b, 5, none⟩ = some (.int .i64 T.b.k)
  c6 : w.cell? ⟨b, 6, none⟩ = some (.int .i64 T.b.n)
  c7 : w.cell? ⟨b, 7, none⟩ = some (.string T.b.t)
  c8 : w.cell? ⟨b, 8, none⟩ = some (.bool T.tu)
  f : ∀ j, w.frozen? ⟨b, j, none⟩ = false
  lt : b < w.heap.size
theorem TabB.kept {w w' : World} {b : Nat} {A : Option Addr} {n c : Nat} {T : Tb} (h : TabB w b A n c T) (hg : Kept w w') : TabB w' b A n c T :=
  ⟨hg.cell h.c0, hg.cell h.c1, hg.cell h.c2, hg.cell h.c3, hg.cell h.c4, hg.cell h.c5, hg.cell h.c6, hg.cell h.c7, hg.cell h.c8, fun j => (hg.2.1 ⟨b, j, none⟩ h.lt).trans (h.f j), Nat.lt_of_lt_of_le h.lt hg.2.2⟩
theorem TabB.new (w : World) (A : Option Addr) (n c : Nat) (T : Tb) (ty : TypeId) : TabB (w.alloc (.cells #[.slice A n c, .bool T.keep, .int .i64 T.d.k, .int .i64 T.d.n, .string T.d.t, .int .i64 T.b.k, .int .i64 T.b.n, .string T.b.t, .bool T.tu] ty)) w.heap.size A n c T :=
  ⟨(Kept.refl _).box 0 _ rfl, (Kept.refl _).box 1 _ rfl, (Kept.refl _).box 2 _ rfl, (Kept.refl _).box 3 _ rfl, (Kept.refl _).box 4 _ rfl, (Kept.refl _).box 5 _ rfl, (Kept.refl _).box 6 _ rfl, (Kept.refl _).box 7 _ rfl, (Kept.refl _).box 8 _ rfl, fun j => by rw [frozen?_alloc_cells]; simp [World.frozen?], by simp⟩
theorem forthT_at {T : Tb} {v : Va} {y : Pa} {z : Bool} (h : firstR T.L v false = (y, z)) : forthT T v = if z = true then y.t else if T.keep = true then v else T.d := by
  rw [firstR_F] at h
  unfold forthT
  split at h <;> rename_i e <;> rw [e] <;> obtain ⟨rfl, rfl⟩ := Prod.mk.inj h <;> simp
theorem backT_at {T : Tb} {v : Va} {y : Pa} {z : Bool} (h : firstR T.L v true = (y, z)) : backT T v = if z = true then y.f else if T.keep = true then v else T.b := by
  rw [firstR_T] at h
  unfold backT
  split at h <;> rename_i e <;> rw [e] <;> obtain ⟨rfl, rfl⟩ := Prod.mk.inj h <;> simp
theorem pa_ne {x y : Pa} (h : x ≠ y) : x.f ≠ y.f ∨ (x.f = y.f ∧ x.t ≠ y.t) := by
  by_cases e : x.f = y.f
  · exact .inr ⟨e, fun e2 => h (by cases x; cases y; simp_all)⟩
  · exact .inl e
theorem tb_ext {T S : Tb} (h1 : T.L = S.L) (h2 : T.keep = S.keep) (h3 : T.d = S.d) (h4 : T.b = S.b) (h5 : T.tu = S.tu) : T = S := by
  cases T; cases S; simp_all
theorem bool_eq {a b : Bool} (h : a = b) : (a == b) = true ∧ (a != b) = false := by subst h; cases a <;> exact ⟨rfl, rfl⟩
theorem bool_ne {a b : Bool} (h : a ≠ b) : (a == b) = false ∧ (a != b) = true := by cases a <;> cases b <;> simp_all
theorem bool_of (p : Prop) : ∃ r : Bool, r = true ↔ p := by
  by_cases h : p
  · exact ⟨true, by simp [h]⟩
  · exact ⟨false, by simp [h]⟩
def SzP (L : List Pa) : Prop := ∀ p ∈ L, p.f.t.size ≤ 1099511627776 ∧ p.t.t.size ≤ 1099511627776
structure KinP (L : List Pa) (a b : Int) : Prop where
  ok : ∀ p ∈ L, rightVa p.f = true ∧ rightVa p.t = true ∧ p.f.k = a ∧ p.t.k = b
  once : L.Pairwise fun p q => p.f ≠ q.f
def KindsP (L : List Pa) (a b : Int) : Prop := KinP L a b ∧ L.length ≤ 8
theorem KinP.nil (a b : Int) : KinP [] a b := ⟨fun p hp => by simp at hp, .nil⟩
theorem KinP.snoc {L : List Pa} {a b : Int} {t : Nat} {x : Pa} (h : KinP (L.take t) a b) (hx : L[t]? = some x) (h1 : rightVa x.f = true ∧ rightVa x.t = true ∧ x.f.k = a ∧ x.t.k = b) (h2 : ∀ y ∈ L.take t, y.f ≠ x.f) : KinP (L.take (t + 1)) a b := by
  rw [List.take_add_one, hx, Option.toList_some]
  refine ⟨fun p hp => ?_, ?_⟩
  · rw [List.mem_append, List.mem_singleton] at hp
    rcases hp with hp | rfl
    · exact h.ok p hp
    · exact h1
  · rw [List.pairwise_append]
    exact ⟨h.once, List.pairwise_singleton _ _, fun p hp q hq => by rw [List.mem_singleton] at hq; subst hq; exact h2 p hp⟩
theorem kinP_not {L : List Pa} {a b : Int} {t : Nat} {x : Pa} (hx : L[t]? = some x) (h : ¬ (rightVa x.f = true ∧ rightVa x.t = true ∧ x.f.k = a ∧ x.t.k = b)) : ¬ KindsP L a b :=
  fun k => h (k.1.ok x (List.mem_of_getElem? hx))
theorem kinP_twice {L : List Pa} {a b : Int} {t : Nat} {x y : Pa} (hx : L[t]? = some x) (hy : y ∈ L.take t) (e : y.f = x.f) : ¬ KindsP L a b := fun k => by
  obtain ⟨i, hi⟩ := List.getElem?_of_mem hy
  rw [List.getElem?_take] at hi
  split at hi
  · rename_i hit
    obtain ⟨h1, e1⟩ := List.getElem?_eq_some_iff.1 hi
    obtain ⟨h2, e2⟩ := List.getElem?_eq_some_iff.1 hx
    have := List.pairwise_iff_getElem.1 k.1.once i t h1 h2 hit
    rw [e1, e2] at this
    exact this e
  · cases hi
end Go.Proofs.YtofnpifooaijcaaGreat
