/-
  What is proved: slices.Grow of the nil slice, and slices.Concat of any slices of dots (a million dots at most in all), as the library's text has them, at dots: the result lies in a row of its own and holds the slices' dots, one slice behind the other; the world has new blocks at most.
  dot.With, called with any rising slice of dots that lies in memory and any dot, returns the slice's dots with that one at its place (P5.5); the world has new blocks at most.
  words for memory that layer 6's contracts use: a slice of ints that lies in memory ('Il'), append of such onto a row of the call's own, and what a world that has all that another one has keeps of it.
  worlds that have all that another one has but for one block ('KeptE'): what is read of other blocks reads on.
  rows that a call owns, beside one another: a row reads on behind what leaves older blocks alone; two rows of other kinds of elements are apart; an int of a row written; worlds that have all that another one has but for one block ('KeptE').
  words for memory that layer 11's contracts use: a slice of fields that lies in memory ('Fl'), its head and its tail, append of such, or of one, onto a row of the call's own.
  strings.Count at a text of one byte returns what its documentation says: the library's contract, laid at this program's numbers.
-/
import Derived.Test.YtapcaflmfkcfkaaM7
import Derived.Maps.AppendAt
import Derived.Test.YtapcaflmfkcfkaaM6
import Derived.Deep.Heap
import Derived.OneCell
import Derived.Shelf.Strings.Count
import Derived.Test.YtapcaflmfkcfkaaProg
namespace Go.Proofs.Ytapcaflmfkcfkaa
open Go.RowKit

structure SD where
  A : Option Addr
  n : Nat
  c : Nat
  L : List (Int × Int)
def totD (SS : List SD) (k : Nat) : Nat := ((SS.take k).map (·.n)).sum
def catD (SS : List SD) (k : Nat) : List (Int × Int) := (SS.take k).flatMap (·.L)
theorem totD_succ (SS : List SD) (k : Nat) (s : SD) (h : SS[k]? = some s) : totD SS (k + 1) = totD SS k + s.n := by
  unfold totD; rw [List.take_add_one, h]; simp
theorem catD_succ (SS : List SD) (k : Nat) (s : SD) (h : SS[k]? = some s) : catD SS (k + 1) = catD SS k ++ s.L := by
  unfold catD; rw [List.take_add_one, h]; simp
theorem totD_le (SS : List SD) (k : Nat) : totD SS k ≤ totD SS SS.length := by
  unfold totD
  rw [List.take_length]
  induction SS generalizing k with
  | nil => simp
  | cons a r ih =>
    cases k with
    | zero => simp
    | succ k => have := ih k; simp only [List.take_succ_cons, List.map_cons, List.sum_cons]; omega

end Go.Proofs.Ytapcaflmfkcfkaa

namespace Go.Proofs.Ytapcaflmfkcfkaa
open Go.RowKit

theorem dl_head {w : World} {A : Option Addr} {n c k : Nat} {L : List (Int × Int)} (h : Dl w A n c L) (hk : k ≤ n) : Dl w A k c (L.take k) := by
  obtain ⟨h1, h2, h3, h4, h5⟩ := h
  refine ⟨by rw [List.length_take]; omega, by omega, h3, h4, ?_⟩
  rcases h5 with h0 | ⟨b, o, hA, hc⟩
  · exact .inl (by omega)
  · refine .inr ⟨b, o, hA, fun j x hj => hc j x ?_⟩
    rw [List.getElem?_take] at hj
    split at hj
    · exact hj
    · cases hj
theorem dl_one (w : World) (x1 x2 : Int) (t : TypeId) : Dl (w.alloc (.cells #[.int .i64 x1, .int .i64 x2] t)) (some ⟨w.heap.size, 0, none⟩) 1 1 [(x1, x2)] := by
  refine ⟨rfl, Nat.le_refl _, by simp [maxLen], (fun h => by cases h), .inr ⟨w.heap.size, 0, rfl, fun j x hj => ?_⟩⟩
  match j, hj with
  | 0, hj =>
    obtain rfl : (x1, x2) = x := by simpa using hj
    exact ⟨by rw [World.cell?_alloc_new]; rfl, by rw [World.cell?_alloc_new]; rfl⟩
  | j + 1, hj => simp at hj

/-- What With leaves. -/
def Withs (A0 : Option Addr) (L : List (Int × Int)) (x : Int × Int) (w : World) (e : Ending) (w' : World) : Prop :=
  ∃ A m c X, e = .returned (.slice A m c) ∧ Dl w' A m c X ∧ WithD L x X ∧ m ≤ L.length + 1 ∧ Kept w w' ∧ (A = A0 ∨ ∀ ad, A = some ad → w.heap.size ≤ ad.block)

end Go.Proofs.Ytapcaflmfkcfkaa

namespace Go.Proofs.Ytapcaflmfkcfkaa
open Go.RowKit

def Il (w : World) (A : Option Addr) (n c : Nat) (V : List Int) : Prop :=
  n = V.length ∧ n ≤ c ∧ c ≤ maxLen ∧ (A = none → c = 0) ∧ (n = 0 ∨ ∃ b o, A = some ⟨b, o, none⟩ ∧ ∀ j x, V[j]? = some x → w.cell? ⟨b, o + j, none⟩ = some (.int .i64 x))
theorem Il.kept {w w' : World} {A : Option Addr} {n c : Nat} {V : List Int} (h : Il w A n c V) (hk : Kept w w') : Il w' A n c V :=
  ⟨h.1, h.2.1, h.2.2.1, h.2.2.2.1, h.2.2.2.2.imp id fun ⟨b, o, hA, hc⟩ => ⟨b, o, hA, fun j x hj => hk.cell (hc j x hj)⟩⟩
theorem Il.nil (w : World) : Il w none 0 0 [] := ⟨rfl, Nat.le_refl _, Nat.zero_le _, fun _ => rfl, .inl rfl⟩
theorem Il.cap {w : World} {A : Option Addr} {n c : Nat} {V : List Int} (h : Il w A n c V) : n ≤ c ∧ c ≤ 9223372036854775807 := ⟨h.2.1, h.2.2.1⟩
theorem Il.get {w : World} {A : Option Addr} {n c : Nat} {V : List Int} (h : Il w A n c V) {k : Nat} (hk : k < n) :
    ∃ b o x, A = some ⟨b, o, none⟩ ∧ V[k]? = some x ∧ w.cell? ⟨b, o + k, none⟩ = some (.int .i64 x) := by
  have hl : k < V.length := by rw [← h.1]; exact hk
  rcases h.2.2.2.2 with h0 | ⟨b, o, hA, hc⟩
  · omega
  · exact ⟨b, o, V[k], hA, List.getElem?_eq_getElem hl, hc k V[k] (List.getElem?_eq_getElem hl)⟩

/-- The cells of ints. -/
def intsV (V : List Int) : List Value := V.map fun x => .int .i64 x
theorem intsV_app (V W : List Int) : intsV (V ++ W) = intsV V ++ intsV W := List.map_append
theorem intsV_len (V : List Int) : (intsV V).length = V.length := List.length_map ..
theorem intsV_one (V : List Int) : ∀ u ∈ intsV V, u.oneCell' = true := by
  intro u hu
  obtain ⟨x, _, rfl⟩ := List.mem_map.1 hu
  rfl
theorem intsV_get {V : List Int} {j : Nat} {x : Int} (h : V[j]? = some x) : (intsV V)[j]? = some (.int .i64 x) := by
  unfold intsV; rw [List.getElem?_map, h]; rfl
theorem Il.of_own {w : World} {base n : Nat} {e : TypeId} {v : Value} {V : List Int} (h : w.ownsRow base e 1 v n (intsV V)) : ∃ A c, v = .slice A n c ∧ Il w A n c V := by
  have hl : n = V.length := by have := h.1; rw [intsV_len] at this; omega
  have hc := fun g (hg : v.ownBlock = some g) => h.cells (g := g) hg
  rcases h.2 with ⟨rfl, h0⟩ | ⟨g, cap, cur, rfl, hb, hg, h1, h2, _⟩
  · subst h0
    exact ⟨none, 0, rfl, hl, Nat.le_refl _, Nat.zero_le _, fun _ => rfl, .inl rfl⟩
  · refine ⟨some ⟨g, 0, none⟩, cap, rfl, hl, h1, h2, fun h => by simp at h, .inr ⟨g, 0, rfl, fun j x hj => ?_⟩⟩
    have := hc g rfl _ _ (intsV_get hj)
    rwa [Addr.add_lit] at this
theorem infoI : (Try.prog.info? 3).map (fun i => (i.zero, i.size, i.bytes)) = some (some (.int .i64 0), 1, 8) := by kernel_rfl
theorem il_head {w : World} {A : Option Addr} {n c k : Nat} {V : List Int} (h : Il w A n c V) (hk : k ≤ n) : Il w A k c (V.take k) := by
  obtain ⟨h1, h2, h3, h4, h5⟩ := h
  refine ⟨by rw [List.length_take]; omega, by omega, h3, h4, ?_⟩
  rcases h5 with h0 | ⟨b, o, hA, hc⟩
  · exact .inl (by omega)
  · refine .inr ⟨b, o, hA, fun j x hj => hc j x ?_⟩
    rw [List.getElem?_take] at hj
    split at hj
    · exact hj
    · cases hj
end Go.Proofs.Ytapcaflmfkcfkaa

namespace Go.Proofs.Ytapcaflmfkcfkaa
open Go.RowKit

theorem Kept.blk {W W' : World} (h : Kept W W') {i : Nat} (hi : i < W.heap.size) : W'.heap[i]? = W.heap[i]? := by
  have hk := h.1.2.2 i hi
  cases h1 : W.heap[i]? with
  | none => rw [h1] at hk; exact hk
  | some o =>
    rw [h1] at hk
    cases h2 : W'.heap[i]? with
    | none => rw [h2] at hk; cases o <;> simp at hk
    | some o' =>
      rw [h2] at hk
      cases o <;> cases o' <;> simp only [false_or, Option.some.injEq, reduceCtorEq] at hk ⊢
      case cells.cells c t fr c' t' fr' =>
        obtain ⟨rfl, rfl, _, he⟩ := hk
        have : c' = c := Array.ext_getElem? fun j => he j (fun f => f)
        subst this; rfl
      all_goals first | exact hk | (obtain ⟨rfl, rfl⟩ := hk; rfl)
theorem kept_blk {W W' : World} (h1 : W'.os = W.os) (h2 : W'.output = W.output) (h3 : W.heap.size ≤ W'.heap.size) (h : ∀ i, i < W.heap.size → W'.heap[i]? = W.heap[i]?) : Kept W W' := by
  refine ⟨⟨h1, h2, fun i hi => ?_⟩, fun a ha => World.frozen?_of_block (w := W) (h _ ha), h3⟩
  have := (World.keptBut_refl W (fun _ => False)).2.2 i hi
  rw [h i hi]
  exact this

/-- All that W has, but for block G. -/
structure KeptE (G : Nat) (W w : World) : Prop where
  os : w.os = W.os
  output : w.output = W.output
  size : W.heap.size ≤ w.heap.size
  blk : ∀ i, i < W.heap.size → i ≠ G → w.heap[i]? = W.heap[i]?
theorem KeptE.of {G : Nat} {W w : World} (h : Kept W w) : KeptE G W w := ⟨h.1.1, h.1.2.1, h.2.2, fun _ hi _ => h.blk hi⟩
theorem KeptE.refl (G : Nat) (W : World) : KeptE G W W := .of (Kept.refl W)
theorem KeptE.trans {G : Nat} {W w u : World} (h : KeptE G W w) (k : Kept w u) : KeptE G W u :=
  ⟨k.1.1.trans h.os, k.1.2.1.trans h.output, Nat.le_trans h.size k.2.2, fun i hi hg => (k.blk (Nat.lt_of_lt_of_le hi h.size)).trans (h.blk i hi hg)⟩
theorem KeptE.grown {G : Nat} {W w u : World} {row : Option Nat} (h : KeptE G W w) (k : w.grownBy u row) (hr : ∀ g, row = some g → g = G ∨ W.heap.size ≤ g) : KeptE G W u :=
  ⟨k.os.trans h.os, k.output.trans h.output, Nat.le_trans h.size k.size, fun i hi hg => (k.block i (Nat.lt_of_lt_of_le hi h.size) (fun e => by
    rcases hr i e.symm with h1 | h1
    · exact hg h1
    · omega)).trans (h.blk i hi hg)⟩
theorem KeptE.set {G : Nat} {W w : World} (h : KeptE G W w) {a : Addr} (ha : a.block = G ∨ W.heap.size ≤ a.block) (v : Value) : KeptE G W (w.setCell a v) :=
  ⟨h.os, h.output, by have := h.size; simpa [World.setCell] using this, fun i hi hg => by
    rw [Deep.blk_setCell_other w a v i (fun e => by rcases ha with h1 | h1 <;> omega)]
    exact h.blk i hi hg⟩
theorem KeptE.kept {G : Nat} {W0 W w : World} (h : KeptE G W w) (k : Kept W0 W) (hG : W0.heap.size ≤ G) : Kept W0 w :=
  kept_blk (h.os.trans k.1.1) (h.output.trans k.1.2.1) (Nat.le_trans k.2.2 h.size) fun i hi => (h.blk i (Nat.lt_of_lt_of_le hi k.2.2) (by omega)).trans (k.blk hi)
theorem KeptE.cell {G : Nat} {W w : World} (h : KeptE G W w) {b o : Nat} {v : Value} (hb : b ≠ G) (hc : W.cell? ⟨b, o, none⟩ = some v) : w.cell? ⟨b, o, none⟩ = some v := by
  rw [World.cell?_of_block (w := W) (h.blk b (World.block_lt_of_cell? W _ hc) hb)]
  exact hc
theorem KeptE.froz {G : Nat} {W w : World} (h : KeptE G W w) {b o : Nat} {f : Bool} (hb : b ≠ G) (hl : b < W.heap.size) (hc : W.frozen? ⟨b, o, none⟩ = f) : w.frozen? ⟨b, o, none⟩ = f := by
  rw [World.frozen?_of_block (w := W) (h.blk b hl hb)]
  exact hc
end Go.Proofs.Ytapcaflmfkcfkaa

namespace Go.Proofs.Ytapcaflmfkcfkaa
open Go.RowKit

theorem Dl.keptE {G : Nat} {w w' : World} {A : Option Addr} {n c : Nat} {L : List (Int × Int)} (h : Dl w A n c L) (hk : KeptE G w w') (hA : ∀ ad, A = some ad → ad.block ≠ G) : Dl w' A n c L :=
  ⟨h.1, h.2.1, h.2.2.1, h.2.2.2.1, h.2.2.2.2.imp id fun ⟨b, o, hA2, hc⟩ => ⟨b, o, hA2, fun j x hj => ⟨hk.cell (hA _ hA2) (hc j x hj).1, hk.cell (hA _ hA2) (hc j x hj).2⟩⟩⟩
theorem Il.keptE {G : Nat} {w w' : World} {A : Option Addr} {n c : Nat} {V : List Int} (h : Il w A n c V) (hk : KeptE G w w') (hA : ∀ ad, A = some ad → ad.block ≠ G) : Il w' A n c V :=
  ⟨h.1, h.2.1, h.2.2.1, h.2.2.2.1, h.2.2.2.2.imp id fun ⟨b, o, hA2, hc⟩ => ⟨b, o, hA2, fun j x hj => hk.cell (hA _ hA2) (hc j x hj)⟩⟩

section
variable {w : World} {base : Nat} {e : TypeId} {size : Nat} {v : Value} {n : Nat} {xs : List Value}
theorem own_blk {w' : World} (h : w.ownsRow base e size v n xs) (hb : ∀ g, v.ownBlock = some g → w'.heap[g]? = w.heap[g]?) : w'.ownsRow base e size v n xs := by
  obtain ⟨h1, h2⟩ := h
  refine ⟨h1, ?_⟩
  rcases h2 with h2 | ⟨g, cap, cur, rfl, hg, hh, r⟩
  · exact .inl h2
  · exact .inr ⟨g, cap, cur, rfl, hg, by rw [hb g rfl]; exact hh, r⟩
theorem own_kept {w' : World} (h : w.ownsRow base e size v n xs) (hk : Kept w w') : w'.ownsRow base e size v n xs :=
  own_blk h fun g hg => hk.blk (h.lt g hg).2
theorem own_kind (h : w.ownsRow base e size v n xs) {g : Nat} (hg : v.ownBlock = some g) : ∃ c, w.heap[g]? = some (.cells c e (0, 0)) := by
  rcases h.2 with ⟨rfl, _⟩ | ⟨g', cap, cur, rfl, _, hgg, _⟩
  · simp [Value.ownBlock] at hg
  · simp [Value.ownBlock] at hg
    subst hg
    exact ⟨cur, hgg⟩
/-- Rows of two kinds of elements lie in two blocks. -/
theorem own_apart {base' size' n' : Nat} {e' : TypeId} {u : Value} {ys : List Value} (h : w.ownsRow base e size v n xs) (k : w.ownsRow base' e' size' u n' ys) (he : e ≠ e') : v.ownBlock = none ∨ v.ownBlock ≠ u.ownBlock := by
  cases hv : v.ownBlock with
  | none => exact .inl rfl
  | some g =>
    refine .inr fun hu => ?_
    obtain ⟨c1, h1⟩ := own_kind h hv
    obtain ⟨c2, h2⟩ := own_kind k hu.symm
    rw [h1] at h2
    simp only [Option.some.injEq, Obj.cells.injEq] at h2
    exact he h2.2.1
end
theorem own_mono {w : World} {base base' : Nat} {e : TypeId} {size : Nat} {v : Value} {n : Nat} {xs : List Value} (h : w.ownsRow base e size v n xs) (hb : ∀ g, v.ownBlock = some g → base' ≤ g) : w.ownsRow base' e size v n xs := by
  obtain ⟨h1, h2⟩ := h
  refine ⟨h1, ?_⟩
  rcases h2 with h2 | ⟨g, cap, cur, rfl, hg, r⟩
  · exact .inl h2
  · exact .inr ⟨g, cap, cur, rfl, hb g rfl, r⟩
/-- A row of ints that is not empty: its cells may be read and written. -/
theorem own_int {w : World} {base : Nat} {e : TypeId} {v : Value} {n : Nat} {V : List Int} (h : w.ownsRow base e 1 v n (intsV V)) {k : Nat} {x : Int} (hx : V[k]? = some x) :
    ∃ g cap, v = .slice (some ⟨g, 0, none⟩) n cap ∧ base ≤ g ∧ n ≤ cap ∧ cap ≤ maxLen ∧ w.cell? ⟨g, k, none⟩ = some (.int .i64 x) ∧ w.frozen? ⟨g, k, none⟩ = false ∧
      ∀ y : Int, (w.setCell ⟨g, k, none⟩ (.int .i64 y)).ownsRow base e 1 v n (intsV (V.set k y)) := by
  have hk := (List.getElem?_eq_some_iff.1 hx).1
  have hcell := fun g (hg : v.ownBlock = some g) => h.cells (g := g) hg
  obtain ⟨h1, h2⟩ := h
  have hn : n = V.length := by rw [intsV_len] at h1; omega
  rcases h2 with ⟨rfl, h0⟩ | ⟨g, cap, cur, rfl, hg, hh, hnc, hcm, hcs, htk⟩
  · omega
  · have hc := hcell g rfl k _ (intsV_get hx)
    rw [Addr.add_lit, Nat.zero_add] at hc
    refine ⟨g, cap, rfl, hg, hnc, hcm, hc, by simp [World.frozen?, hh], fun y => ⟨by rw [intsV_len, List.length_set, ← intsV_len]; exact h1, .inr ⟨g, cap, cur.setIfInBounds k (.int .i64 y), rfl, hg, ?_, hnc, hcm, by rw [Array.size_setIfInBounds]; exact hcs, ?_⟩⟩⟩
    · show (w.heap.modify g _)[g]? = _
      rw [Array.getElem?_modify, if_pos rfl, hh]
      rfl
    · rw [Array.toList_setIfInBounds]
      apply List.ext_getElem?
      intro i
      have e1 : (cur.toList.take (n * 1))[i]? = (intsV V)[i]? := by rw [htk]
      rw [List.getElem?_take, List.getElem?_set]
      unfold intsV at e1 ⊢
      rw [List.getElem?_map] at e1 ⊢
      rw [List.getElem?_set]
      rw [List.getElem?_take] at e1
      by_cases hi : i < n * 1
      · rw [if_pos hi] at e1 ⊢
        by_cases hki : k = i
        · subst hki
          have hlt : k < cur.size := by omega
          simp [hlt, hk]
        · rw [if_neg hki, if_neg hki]
          exact e1
      · rw [if_neg hi] at e1 ⊢
        have hi2 : V.length ≤ i := by omega
        rw [if_neg (by omega), List.getElem?_eq_none hi2]; rfl
end Go.Proofs.Ytapcaflmfkcfkaa

namespace Go.Proofs.Ytapcaflmfkcfkaa
open Go.RowKit
set_option linter.unusedVariables false

structure FdO (w : World) (b o : Nat) (x : Fd) : Prop where
  c0 : w.cell? ⟨b, o, none⟩ = some (.string x.p)
  c1 : w.cell? ⟨b, o + 1, none⟩ = some (.int .i64 x.k)
  c2 : w.cell? ⟨b, o + 2, none⟩ = some (.int .i64 x.t)
  c3 : w.cell? ⟨b, o + 3, none⟩ = some (.int .i64 x.vk)
  c4 : w.cell? ⟨b, o + 4, none⟩ = some (.int .i64 x.vn)
  c5 : w.cell? ⟨b, o + 5, none⟩ = some (.string x.vt)
theorem FdO.kept {w w' : World} {b o : Nat} {x : Fd} (h : FdO w b o x) (hg : Kept w w') : FdO w' b o x :=
  ⟨hg.cell h.c0, hg.cell h.c1, hg.cell h.c2, hg.cell h.c3, hg.cell h.c4, hg.cell h.c5⟩
/-- In a block of its own. -/
structure FdB (w : World) (b : Nat) (x : Fd) : Prop where
  c0 : w.cell? ⟨b, 0, none⟩ = some (.string x.p)
  c1 : w.cell? ⟨b, 1, none⟩ = some (.int .i64 x.k)
  c2 : w.cell? ⟨b, 2, none⟩ = some (.int .i64 x.t)
  c3 : w.cell? ⟨b, 3, none⟩ = some (.int .i64 x.vk)
  c4 : w.cell? ⟨b, 4, none⟩ = some (.int .i64 x.vn)
  c5 : w.cell? ⟨b, 5, none⟩ = some (.string x.vt)
  f : ∀ j, w.frozen? ⟨b, j, none⟩ = false
  lt : b < w.heap.size
theorem FdB.kept {w w' : World} {b : Nat} {x : Fd} (h : FdB w b x) (hg : Kept w w') : FdB w' b x :=
  ⟨hg.cell h.c0, hg.cell h.c1, hg.cell h.c2, hg.cell h.c3, hg.cell h.c4, hg.cell h.c5, fun j => (hg.2.1 ⟨b, j, none⟩ h.lt).trans (h.f j), Nat.lt_of_lt_of_le h.lt hg.2.2⟩
theorem FdB.new (w : World) (x : Fd) (t : TypeId) : FdB (w.alloc (.cells #[.string x.p, .int .i64 x.k, .int .i64 x.t, .int .i64 x.vk, .int .i64 x.vn, .string x.vt] t)) w.heap.size x :=
  ⟨(Kept.refl _).box 0 _ rfl, (Kept.refl _).box 1 _ rfl, (Kept.refl _).box 2 _ rfl, (Kept.refl _).box 3 _ rfl, (Kept.refl _).box 4 _ rfl, (Kept.refl _).box 5 _ rfl, fun j => by rw [frozen?_alloc_cells]; simp [World.frozen?], by simp⟩
def Fl (w : World) (A : Option Addr) (n c : Nat) (L : List Fd) : Prop :=
  n = L.length ∧ n ≤ c ∧ c ≤ maxLen ∧ (A = none → c = 0) ∧ (n = 0 ∨ ∃ b o, A = some ⟨b, o, none⟩ ∧ ∀ j x, L[j]? = some x → FdO w b (o + j * 6) x)
theorem Fl.kept {w w' : World} {A : Option Addr} {n c : Nat} {L : List Fd} (h : Fl w A n c L) (hk : Kept w w') : Fl w' A n c L :=
  ⟨h.1, h.2.1, h.2.2.1, h.2.2.2.1, h.2.2.2.2.imp id fun ⟨b, o, hA, hc⟩ => ⟨b, o, hA, fun j x hj => (hc j x hj).kept hk⟩⟩
theorem Fl.nil (w : World) : Fl w none 0 0 [] := ⟨rfl, Nat.le_refl _, Nat.zero_le _, fun _ => rfl, .inl rfl⟩
theorem Fl.len {w : World} {A : Option Addr} {n c : Nat} {L : List Fd} (h : Fl w A n c L) : L.length = n := h.1.symm
theorem Fl.cap {w : World} {A : Option Addr} {n c : Nat} {L : List Fd} (h : Fl w A n c L) : n ≤ c ∧ c ≤ 9223372036854775807 := ⟨h.2.1, h.2.2.1⟩
theorem Fl.get {w : World} {A : Option Addr} {n c : Nat} {L : List Fd} (h : Fl w A n c L) {k : Nat} (hk : k < n) :
    ∃ b o x, A = some ⟨b, o, none⟩ ∧ L[k]? = some x ∧ FdO w b (o + k * 6) x := by
  have hl : k < L.length := by rw [← h.1]; exact hk
  rcases h.2.2.2.2 with h0 | ⟨b, o, hA, hc⟩
  · omega
  · exact ⟨b, o, L[k], hA, List.getElem?_eq_getElem hl, hc k L[k] (List.getElem?_eq_getElem hl)⟩

/-- The cells. -/
def cellF (x : Fd) : List Value := [.string x.p, .int .i64 x.k, .int .i64 x.t, .int .i64 x.vk, .int .i64 x.vn, .string x.vt]
def flatF (L : List Fd) : List Value := L.flatMap cellF
theorem flatF_nil : flatF [] = [] := rfl
theorem flatF_cons (x : Fd) (L : List Fd) : flatF (x :: L) = cellF x ++ flatF L := rfl
theorem flatF_app (L M : List Fd) : flatF (L ++ M) = flatF L ++ flatF M := List.flatMap_append
theorem flatF_len (L : List Fd) : (flatF L).length = L.length * 6 := by
  induction L with
  | nil => rfl
  | cons x L ih => rw [flatF_cons, List.length_append, List.length_cons, ih]; show 6 + _ = _; omega
theorem flatF_one (L : List Fd) : ∀ u ∈ flatF L, u.oneCell' = true := by
  intro u hu
  obtain ⟨x, _, hx⟩ := List.mem_flatMap.1 hu
  simp only [cellF, List.mem_cons, List.not_mem_nil, or_false] at hx
  rcases hx with rfl | rfl | rfl | rfl | rfl | rfl <;> rfl
theorem flatF_get : ∀ (L : List Fd) (j : Nat) (x : Fd), L[j]? = some x → ∀ i, i < 6 → (flatF L)[j * 6 + i]? = (cellF x)[i]?
  | [], j, x, h, _, _ => by simp at h
  | y :: L, 0, x, h, i, hi => by
    obtain rfl : y = x := by simpa using h
    rw [flatF_cons, List.getElem?_append_left (by show 0 * 6 + i < 6; omega), Nat.zero_mul, Nat.zero_add]
  | y :: L, j + 1, x, h, i, hi => by
    have ih := flatF_get L j x (by simpa using h) i hi
    rw [flatF_cons, List.getElem?_append_right (by show 6 ≤ _; omega), ← ih]
    congr 1
    show (j + 1) * 6 + i - 6 = _
    omega
theorem flatF_at : ∀ (L : List Fd) (i : Nat) (u : Value), (flatF L)[i]? = some u → ∃ j x r, L[j]? = some x ∧ i = j * 6 + r ∧ r < 6 ∧ (cellF x)[r]? = some u
  | [], i, u, h => by simp [flatF_nil] at h
  | y :: L, i, u, h => by
    rw [flatF_cons] at h
    by_cases hi : i < 6
    · rw [List.getElem?_append_left (by exact hi)] at h
      exact ⟨0, y, i, rfl, by omega, hi, h⟩
    · rw [List.getElem?_append_right (by show 6 ≤ i; omega)] at h
      obtain ⟨j, x, r, h1, h2, h3, h4⟩ := flatF_at L (i - 6) u h
      exact ⟨j + 1, x, r, by simpa using h1, by omega, h3, h4⟩
theorem FdO.of_flat {w : World} {b o : Nat} {x : Fd} (h : ∀ i u, (cellF x)[i]? = some u → w.cell? ⟨b, o + i, none⟩ = some u) : FdO w b o x :=
  ⟨h 0 _ rfl, h 1 _ rfl, h 2 _ rfl, h 3 _ rfl, h 4 _ rfl, h 5 _ rfl⟩
theorem FdO.flat {w : World} {b o : Nat} {x : Fd} (h : FdO w b o x) : ∀ i u, (cellF x)[i]? = some u → w.cell? ⟨b, o + i, none⟩ = some u := by
  intro i u hu
  match i, hu with
  | 0, hu => obtain rfl := Option.some.inj hu; exact h.c0
  | 1, hu => obtain rfl := Option.some.inj hu; exact h.c1
  | 2, hu => obtain rfl := Option.some.inj hu; exact h.c2
  | 3, hu => obtain rfl := Option.some.inj hu; exact h.c3
  | 4, hu => obtain rfl := Option.some.inj hu; exact h.c4
  | 5, hu => obtain rfl := Option.some.inj hu; exact h.c5
  | i + 6, hu => simp [cellF] at hu
theorem FdB.o {w : World} {b : Nat} {x : Fd} (h : FdB w b x) : FdO w b 0 x := ⟨h.c0, h.c1, h.c2, h.c3, h.c4, h.c5⟩
theorem Fl.of_own' {w : World} {base n : Nat} {e : TypeId} {v : Value} {L : List Fd} (h : w.ownsRow base e 6 v n (flatF L)) : ∃ A c, v = .slice A n c ∧ Fl w A n c L ∧ ∀ ad, A = some ad → base ≤ ad.block := by
  have hl : n = L.length := by have := h.1; rw [flatF_len] at this; omega
  have hc := fun g (hg : v.ownBlock = some g) => h.cells (g := g) hg
  have hlt := fun g (hg : v.ownBlock = some g) => h.lt g hg
  rcases h.2 with ⟨rfl, h0⟩ | ⟨g, cap, cur, rfl, hb, hg, h1, h2, _⟩
  · subst h0
    exact ⟨none, 0, rfl, ⟨hl, Nat.le_refl _, Nat.zero_le _, fun _ => rfl, .inl rfl⟩, fun ad he => by cases he⟩
  · refine ⟨some ⟨g, 0, none⟩, cap, rfl, ⟨hl, h1, h2, fun h => by simp at h, .inr ⟨g, 0, rfl, fun j x hj => ?_⟩⟩, fun ad he => by cases he; exact hb⟩
    refine FdO.of_flat fun i u hu => ?_
    have hi : i < 6 := (List.getElem?_eq_some_iff.1 hu).1
    have := hc g rfl _ u ((flatF_get L j x hj i hi).trans hu)
    rw [Addr.add_lit, Nat.zero_add] at this
    rw [Nat.zero_add]
    exact this
theorem Fl.of_own {w : World} {base n : Nat} {e : TypeId} {v : Value} {L : List Fd} (h : w.ownsRow base e 6 v n (flatF L)) : ∃ A c, v = .slice A n c ∧ Fl w A n c L := by
  obtain ⟨A, c, h1, h2, _⟩ := Fl.of_own' h
  exact ⟨A, c, h1, h2⟩
theorem info_fl : (Try.prog.info? 44).map (fun i => (i.zero, i.size, i.bytes)) = some (some (.agg #[.string ⟨#[]⟩, .int .i64 0, .int .i64 0, .int .i64 0, .int .i64 0, .string ⟨#[]⟩]), 6, 64) := by kernel_rfl
theorem app_fls (w : World) (base : Nat) (v : Value) (n : Nat) (xs : List Value) (h : w.ownsRow base 44 6 v n xs) (A : Option Addr) (m c : Nat) (L : List Fd) (hs : Fl w A m c L) (hb : n + m ≤ 1000000000) (hbase : base ≤ w.heap.size) :
    ∃ v' w', (Builtin.append_ #[22, 22] 22 #[v, .slice A m c]).run Try.prog w = .ok v' w' ∧ w'.ownsRow base 44 6 v' (n + m) (xs ++ flatF L) ∧ w.grownBy w' v.ownBlock ∧ (v'.ownBlock = v.ownBlock ∨ v'.ownBlock = some w.heap.size) := by
  obtain ⟨i0, hi0, hz0, hz1, hz2⟩ := info_parts info_fl
  cases A with
  | none =>
    obtain rfl := hs.2.2.2.1 rfl
    obtain rfl : m = 0 := by have := hs.2.1; omega
    have hL : L = [] := List.eq_nil_of_length_eq_zero hs.1.symm
    subst hL
    exact ⟨v, w, run_append_owned_none w base _ _ _ i0 6 Try.underlying22 hi0 v n xs h, by simpa [flatF_nil] using h, World.grownBy.refl w _, .inl rfl⟩
  | some ad =>
    obtain ⟨v', w', hr, ho, hg, _, hat⟩ := run_append_own_at (P := Try.prog) w base 22 22 44 i0 (.agg #[.string ⟨#[]⟩, .int .i64 0, .int .i64 0, .int .i64 0, .int .i64 0, .string ⟨#[]⟩]) 6 64 Try.underlying22 hi0 hz0 hz1 hz2 rfl (by decide) v n xs h ad m c (flatF L)
      (by rw [flatF_len, hs.1]) (fun j u hj => by
        obtain ⟨k, x, r, hk, rfl, hr9, hu⟩ := flatF_at L j u hj
        have hkl := (List.getElem?_eq_some_iff.1 hk).1
        obtain ⟨b, o, y, hA, hy, hc⟩ := hs.get (k := k) (by rw [hs.1]; exact hkl)
        obtain rfl : y = x := Option.some.inj (hy.symm.trans hk)
        obtain rfl := Option.some.inj hA
        rw [Addr.add_lit, ← Nat.add_assoc]
        exact hc.flat r u hu) (flatF_one _) (by simp only [maxLen]; omega) (by omega) hbase
    exact ⟨v', w', hr, ho, hg, hat⟩
/-- A row of entries that a call makes; U: what is left alone. -/
structure OutF (U wr : World) (v : Value) (L : List Fd) : Prop where
  own : wr.ownsRow U.heap.size 44 6 v L.length (flatF L)
  ke : Kept U wr
theorem OutF.start (U : World) : OutF U U (.slice none 0 0) [] := ⟨World.ownsRow_nil _ _ _ _, Kept.refl _⟩
theorem OutF.kept {U wr w' : World} {v : Value} {L : List Fd} (h : OutF U wr v L) (hk : Kept wr w') : OutF U w' v L := ⟨own_kept h.own hk, h.ke.trans hk⟩
theorem OutF.form {U wr : World} {v : Value} {L : List Fd} (h : OutF U wr v L) : ∃ A c, v = .slice A L.length c ∧ Fl wr A L.length c L ∧ (∀ ad, A = some ad → U.heap.size ≤ ad.block) ∧ L.length ≤ c ∧ c ≤ 9223372036854775807 := by
  obtain ⟨A, c, h1, h2, h3⟩ := Fl.of_own' h.own
  exact ⟨A, c, h1, h2, h3, h2.cap.1, h2.cap.2⟩
theorem OutF.app {U wr : World} {v : Value} {L : List Fd} (h : OutF U wr v L) (A : Option Addr) (m c : Nat) (M : List Fd) (hs : Fl wr A m c M) (hb : L.length + m ≤ 1000000000) :
    ∃ v' w', (Builtin.append_ #[22, 22] 22 #[v, .slice A m c]).run Try.prog wr = .ok v' w' ∧ OutF U w' v' (L ++ M) := by
  obtain ⟨v', w', hr, ho, hg, _⟩ := app_fls wr U.heap.size v L.length (flatF L) h.own A m c M hs hb h.ke.2.2
  refine ⟨v', w', hr, ?_, kept_grown h.ke hg fun k hk => (h.own.lt k hk).1⟩
  rw [List.length_append, flatF_app, ← hs.1]
  exact ho
theorem fl_one {w : World} {x : Fd} {b : Nat} (h : FdB w b x) : Fl w (some ⟨b, 0, none⟩) 1 1 [x] := by
  refine ⟨rfl, Nat.le_refl _, by simp [maxLen], (fun h => by cases h), .inr ⟨b, 0, rfl, fun j y hj => ?_⟩⟩
  match j, hj with
  | 0, hj =>
    obtain rfl : x = y := by simpa using hj
    exact h.o
  | j + 1, hj => simp at hj

theorem size_fl (W : World) : (Go.sizeOf (Try.prog.elem 22)).run Try.prog W = .ok 6 W := by kernel_rfl
theorem fl_head {w : World} {A : Option Addr} {n c k : Nat} {L : List Fd} (h : Fl w A n c L) (hk : k ≤ n) {c' : Nat} (hc : k ≤ c') (hc2 : c' ≤ c) : Fl w A k c' (L.take k) := by
  obtain ⟨h1, h2, h3, h4, h5⟩ := h
  refine ⟨by rw [List.length_take]; omega, hc, by omega, fun e => by have := h4 e; omega, ?_⟩
  rcases h5 with h0 | ⟨b, o, hA, hc⟩
  · exact .inl (by omega)
  · refine .inr ⟨b, o, hA, fun j x hj => hc j x ?_⟩
    rw [List.getElem?_take] at hj
    split at hj
    · exact hj
    · cases hj
theorem fl_tail {w : World} {A : Option Addr} {n c k : Nat} {L : List Fd} (h : Fl w A n c L) (hk : k ≤ n) : ∃ A2, Fl w A2 (n - k) (c - k) (L.drop k) ∧
    (∀ W : World, (Instr.slice 22 (.slice A n c) (some (.int .i64 (k : Int))) none none).run Try.prog W = .ok (.slice A2 (n - k) (c - k)) W) ∧
    (∀ W : World, (Instr.sliceAt 22 (.slice A n c) (some (.int .i64 (k : Int))) none none).run Try.prog W = .ok (.slice A2 (n - k) (c - k)) W) := by
  obtain ⟨h1, h2, h3, h4, h5⟩ := h
  have hr : ∀ W : World, (Instr.slice 22 (.slice A n c) (some (.int .i64 (k : Int))) none none).run Try.prog W = .ok (.slice (if c = k then A else A.map (·.add (k * 6))) (n - k) (c - k)) W := fun W => by
    rw [run_slice_l W 22 _ n c (by kernel_rfl) .i64 (k : Int) (by omega) (by omega), size_fl]
    simp only [Result.andThen, sliced, Int.toNat_natCast]
  refine ⟨_, ?_, hr, fun W => by rw [run_sliceAt_slice W _ _ _ _ _ (by kernel_rfl)]; exact hr W⟩
  refine ⟨by rw [List.length_drop]; omega, by omega, by omega, fun he => ?_, ?_⟩
  · by_cases hc : c = k
    · omega
    · rw [if_neg hc, Option.map_eq_none_iff] at he
      have := h4 he
      omega
  · rcases h5 with h0 | ⟨b, o, hA, hc⟩
    · exact .inl (by omega)
    · by_cases hkn : k = n
      · exact .inl (by omega)
      · refine .inr ⟨b, o + k * 6, ?_, fun j x hj => ?_⟩
        · rw [if_neg (by omega), hA, Option.map_some, Addr.add_lit]
        · rw [List.getElem?_drop] at hj
          have := hc _ x hj
          rw [show o + k * 6 + j * 6 = o + (k + j) * 6 by omega]
          exact this
end Go.Proofs.Ytapcaflmfkcfkaa

namespace Go.Proofs
open Go.Shelf
def Try.lays138_ren : Go.Shelf.Ren := ⟨fun | 138 => 56 | 195 => 68 | 218 => 69 | 143 => 70 | 219 => 77 | 217 => 79 | 225 => 80 | 224 => 81 | 267 => 82 | 266 => 83 | 314 => 84 | n => n, fun | 9 => 9 | 3 => 3 | 4 => 4 | 5 => 5 | 0 => 0 | 46 => 69 | 146 => 95 | 51 => 81 | n => n, fun | 1 => 0 | n => n⟩
theorem Try.lays138 : Go.Proofs.Lays.n138 Try.prog Try.lays138_ren := {
  mixed := by kernel_rfl
  f138 := Try.func56.trans (congrArg some (by kernel_rfl))
  f143 := Try.func70.trans (congrArg some (by kernel_rfl))
  f195 := Try.func68.trans (congrArg some (by kernel_rfl))
  f217 := Try.func79.trans (congrArg some (by kernel_rfl))
  f218 := Try.func69.trans (congrArg some (by kernel_rfl))
  f219 := Try.func77.trans (congrArg some (by kernel_rfl))
  f224 := Try.func81.trans (congrArg some (by kernel_rfl))
  f225 := Try.func80.trans (congrArg some (by kernel_rfl))
  f266 := Try.func83.trans (congrArg some (by kernel_rfl))
  f267 := Try.func82.trans (congrArg some (by kernel_rfl))
  f314 := Try.func84.trans (congrArg some (by kernel_rfl))
  t0 := Try.underlying0
  a0 := Try.isAgg0
  z0 := Try.sizeOf0
  v0 := Try.zeroValue0
  t3 := Try.underlying3
  a3 := Try.isAgg3
  z3 := Try.sizeOf3
  v3 := Try.zeroValue3
  t4 := Try.underlying4
  a4 := Try.isAgg4
  z4 := Try.sizeOf4
  v4 := Try.zeroValue4
  t5 := Try.underlying5
  a5 := Try.isAgg5
  z5 := Try.sizeOf5
  v5 := Try.zeroValue5
  t9 := Try.underlying9
  a9 := Try.isAgg9
  z9 := Try.sizeOf9
  v9 := Try.zeroValue9
  t46 := Try.underlying69
  a46 := Try.isAgg69
  z46 := Try.sizeOf69
  v46 := Try.zeroValue69
  t51 := Try.underlying81
  a51 := Try.isAgg81
  z51 := Try.sizeOf81
  v51 := Try.zeroValue81
  t146 := Try.underlying95
  a146 := Try.isAgg95
  z146 := Try.sizeOf95
  v146 := Try.zeroValue95
  g1 := by kernel_rfl }
open Go.RowKit Go.Lib in
theorem Try.strings_Count_one (s : ByteArray) (c : UInt8) (w : World) :
    Calls Try.prog 56 #[.string s, .string ⟨#[c]⟩] w fun e w' => e = .returned (.int .i64 (Lib.countByte s.data.toList c)) ∧ w' = w := Any.strings_Count_one Try.lays138 s c w
end Go.Proofs

