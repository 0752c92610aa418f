/-
  What is proved: worlds that have all that another one has but for one block ('KeptE'): what is read of other blocks reads on.
  rows that a call owns, beside one another: a row reads on behind what leaves older blocks alone; two rows of other kinds of elements are apart; an int of a row written; worlds that have all that another one has but for one block ('KeptE').
  the document's Compact of layer 6, called with any set that lies in memory and whose Vec is good, returns the set of all that Vec and Cloud have, those that are not right let go (P6.3); the world has new blocks at most.
  the document's Take of layer 6, called with any text of bounded length, returns what P6.12 says; the world has new blocks at most.
-/
import Derived.Test.YtoggcpfogeoeaaaGreatDoorM9
import Derived.Deep.Heap
import Derived.OneCell
import Derived.Test.YtoggcpfogeoeaaaGreatDoorM14
import Derived.Test.YtoggcpfogeoeaaaGreatDoorM15
import Derived.Test.YtoggcpfogeoeaaaGreatDoorM10
namespace Go.Proofs.YtoggcpfogeoeaaaGreatDoor
open Go.RowKit

theorem Kept.blk {W W' : World} (h : Kept W W') {i : Nat} (hi : i < W.heap.size) : W'.heap[i]? = W.heap[i]? := by
  have hk := h.1.2.2 i hi
  cases h1 : W.heap[i]? with
  | none => rw [h1] at hk; exact hk
  | some o =>
    rw [h1] at hk
    cases h2 : W'.heap[i]? with
    | none => rw [h2] at hk; cases o <;> simp at hk
    | some o' =>
      rw [h2] at hk
      cases o <;> cases o' <;> simp only [false_or, Option.some.injEq, reduceCtorEq] at hk ⊢
      case cells.cells c t fr c' t' fr' =>
        obtain ⟨rfl, rfl, _, he⟩ := hk
        have : c' = c := Array.ext_getElem? fun j => he j (fun f => f)
        subst this; rfl
      all_goals first | exact hk | (obtain ⟨rfl, rfl⟩ := hk; rfl)
theorem kept_blk {W W' : World} (h1 : W'.os = W.os) (h2 : W'.output = W.output) (h3 : W.heap.size ≤ W'.heap.size) (h : ∀ i, i < W.heap.size → W'.heap[i]? = W.heap[i]?) : Kept W W' := by
  refine ⟨⟨h1, h2, fun i hi => ?_⟩, fun a ha => World.frozen?_of_block (w := W) (h _ ha), h3⟩
  have := (World.keptBut_refl W (fun _ => False)).2.2 i hi
  rw [h i hi]
  exact this

/-- All that W has, but for block G. -/
structure KeptE (G : Nat) (W w : World) : Prop where
  os : w.os = W.os
  output : w.output = W.output
  size : W.heap.size ≤ w.heap.size
  blk : ∀ i, i < W.heap.size → i ≠ G → w.heap[i]? = W.heap[i]?
theorem KeptE.of {G : Nat} {W w : World} (h : Kept W w) : KeptE G W w := ⟨h.1.1, h.1.2.1, h.2.2, fun _ hi _ => h.blk hi⟩
theorem KeptE.refl (G : Nat) (W : World) : KeptE G W W := .of (Kept.refl W)
theorem KeptE.trans {G : Nat} {W w u : World} (h : KeptE G W w) (k : Kept w u) : KeptE G W u :=
  ⟨k.1.1.trans h.os, k.1.2.1.trans h.output, Nat.le_trans h.size k.2.2, fun i hi hg => (k.blk (Nat.lt_of_lt_of_le hi h.size)).trans (h.blk i hi hg)⟩
theorem KeptE.grown {G : Nat} {W w u : World} {row : Option Nat} (h : KeptE G W w) (k : w.grownBy u row) (hr : ∀ g, row = some g → g = G ∨ W.heap.size ≤ g) : KeptE G W u :=
  ⟨k.os.trans h.os, k.output.trans h.output, Nat.le_trans h.size k.size, fun i hi hg => (k.block i (Nat.lt_of_lt_of_le hi h.size) (fun e => by
    rcases hr i e.symm with h1 | h1
    · exact hg h1
    · omega)).trans (h.blk i hi hg)⟩
theorem KeptE.set {G : Nat} {W w : World} (h : KeptE G W w) {a : Addr} (ha : a.block = G ∨ W.heap.size ≤ a.block) (v : Value) : KeptE G W (w.setCell a v) :=
  ⟨h.os, h.output, by have := h.size; simpa [World.setCell] using this, fun i hi hg => by
    rw [Deep.blk_setCell_other w a v i (fun e => by rcases ha with h1 | h1 <;> omega)]
    exact h.blk i hi hg⟩
theorem KeptE.kept {G : Nat} {W0 W w : World} (h : KeptE G W w) (k : Kept W0 W) (hG : W0.heap.size ≤ G) : Kept W0 w :=
  kept_blk (h.os.trans k.1.1) (h.output.trans k.1.2.1) (Nat.le_trans k.2.2 h.size) fun i hi => (h.blk i (Nat.lt_of_lt_of_le hi k.2.2) (by omega)).trans (k.blk hi)
theorem KeptE.cell {G : Nat} {W w : World} (h : KeptE G W w) {b o : Nat} {v : Value} (hb : b ≠ G) (hc : W.cell? ⟨b, o, none⟩ = some v) : w.cell? ⟨b, o, none⟩ = some v := by
  rw [World.cell?_of_block (w := W) (h.blk b (World.block_lt_of_cell? W _ hc) hb)]
  exact hc
theorem KeptE.froz {G : Nat} {W w : World} (h : KeptE G W w) {b o : Nat} {f : Bool} (hb : b ≠ G) (hl : b < W.heap.size) (hc : W.frozen? ⟨b, o, none⟩ = f) : w.frozen? ⟨b, o, none⟩ = f := by
  rw [World.frozen?_of_block (w := W) (h.blk b hl hb)]
  exact hc
end Go.Proofs.YtoggcpfogeoeaaaGreatDoor

namespace Go.Proofs.YtoggcpfogeoeaaaGreatDoor
open Go.RowKit

theorem Dl.keptE {G : Nat} {w w' : World} {A : Option Addr} {n c : Nat} {L : List (Int × Int)} (h : Dl w A n c L) (hk : KeptE G w w') (hA : ∀ ad, A = some ad → ad.block ≠ G) : Dl w' A n c L :=
  ⟨h.1, h.2.1, h.2.2.1, h.2.2.2.1, h.2.2.2.2.imp id fun ⟨b, o, hA2, hc⟩ => ⟨b, o, hA2, fun j x hj => ⟨hk.cell (hA _ hA2) (hc j x hj).1, hk.cell (hA _ hA2) (hc j x hj).2⟩⟩⟩
theorem Il.keptE {G : Nat} {w w' : World} {A : Option Addr} {n c : Nat} {V : List Int} (h : Il w A n c V) (hk : KeptE G w w') (hA : ∀ ad, A = some ad → ad.block ≠ G) : Il w' A n c V :=
  ⟨h.1, h.2.1, h.2.2.1, h.2.2.2.1, h.2.2.2.2.imp id fun ⟨b, o, hA2, hc⟩ => ⟨b, o, hA2, fun j x hj => hk.cell (hA _ hA2) (hc j x hj)⟩⟩

theorem app_dots_at (w : World) (base : Nat) (v : Value) (n : Nat) (xs : List Value) (h : w.ownsRow base 31 2 v n xs) (A : Option Addr) (m c : Nat) (L : List (Int × Int)) (hs : Dl w A m c L) (hb : n + m ≤ 8000000000000) (hbase : base ≤ w.heap.size) :
    ∃ v' w', (Builtin.append_ #[23, 23] 23 #[v, .slice A m c]).run Tryz.prog w = .ok v' w' ∧ w'.ownsRow base 31 2 v' (n + m) (xs ++ flatD L) ∧ w.grownBy w' v.ownBlock ∧ (v'.ownBlock = v.ownBlock ∨ v'.ownBlock = some w.heap.size) := by
  obtain ⟨i0, hi0, hz0, hz1, hz2⟩ := info_parts infoDot
  cases A with
  | none =>
    obtain rfl := hs.2.2.2.1 rfl
    obtain rfl : m = 0 := by have := hs.2.1; omega
    have hL : L = [] := List.eq_nil_of_length_eq_zero hs.1.symm
    subst hL
    exact ⟨v, w, run_append_owned_none w base _ _ _ i0 2 Tryz.underlying23 hi0 v n xs h, by simpa [flatD_nil] using h, World.grownBy.refl w _, .inl rfl⟩
  | some ad =>
    obtain ⟨v', w', hr, ho, hg, _, hat⟩ := run_append_own_at (P := Tryz.prog) w base 23 23 31 i0 (.agg #[.int .i64 0, .int .i64 0]) 2 16 Tryz.underlying23 hi0 hz0 hz1 hz2 rfl (by decide) v n xs h ad m c (flatD L)
      (by rw [flatD_len, hs.1]) (fun j u hj => by
        obtain ⟨k, x, hk, hc⟩ := flatD_at L j u hj
        have hkl := (List.getElem?_eq_some_iff.1 hk).1
        obtain ⟨b, o, y, hA, hy, c1, c2⟩ := hs.get (k := k) (by rw [hs.1]; exact hkl)
        obtain rfl : y = x := Option.some.inj (hy.symm.trans hk)
        obtain rfl := Option.some.inj hA
        rw [Addr.add_lit]
        rcases hc with ⟨rfl, rfl⟩ | ⟨rfl, rfl⟩
        · exact c1
        · exact c2) (flatD_one _) (by simp only [maxLen]; omega) (by omega) hbase
    exact ⟨v', w', hr, ho, hg, hat⟩


section
variable {w : World} {base : Nat} {e : TypeId} {size : Nat} {v : Value} {n : Nat} {xs : List Value}
theorem own_blk {w' : World} (h : w.ownsRow base e size v n xs) (hb : ∀ g, v.ownBlock = some g → w'.heap[g]? = w.heap[g]?) : w'.ownsRow base e size v n xs := by
  obtain ⟨h1, h2⟩ := h
  refine ⟨h1, ?_⟩
  rcases h2 with h2 | ⟨g, cap, cur, rfl, hg, hh, r⟩
  · exact .inl h2
  · exact .inr ⟨g, cap, cur, rfl, hg, by rw [hb g rfl]; exact hh, r⟩
theorem own_kept {w' : World} (h : w.ownsRow base e size v n xs) (hk : Kept w w') : w'.ownsRow base e size v n xs :=
  own_blk h fun g hg => hk.blk (h.lt g hg).2
theorem own_kind (h : w.ownsRow base e size v n xs) {g : Nat} (hg : v.ownBlock = some g) : ∃ c, w.heap[g]? = some (.cells c e (0, 0)) := by
  rcases h.2 with ⟨rfl, _⟩ | ⟨g', cap, cur, rfl, _, hgg, _⟩
  · simp [Value.ownBlock] at hg
  · simp [Value.ownBlock] at hg
    subst hg
    exact ⟨cur, hgg⟩
/-- Rows of two kinds of elements lie in two blocks. -/
theorem own_apart {base' size' n' : Nat} {e' : TypeId} {u : Value} {ys : List Value} (h : w.ownsRow base e size v n xs) (k : w.ownsRow base' e' size' u n' ys) (he : e ≠ e') : v.ownBlock = none ∨ v.ownBlock ≠ u.ownBlock := by
  cases hv : v.ownBlock with
  | none => exact .inl rfl
  | some g =>
    refine .inr fun hu => ?_
    obtain ⟨c1, h1⟩ := own_kind h hv
    obtain ⟨c2, h2⟩ := own_kind k hu.symm
    rw [h1] at h2
    simp only [Option.some.injEq, Obj.cells.injEq] at h2
    exact he h2.2.1
end
theorem own_mono {w : World} {base base' : Nat} {e : TypeId} {size : Nat} {v : Value} {n : Nat} {xs : List Value} (h : w.ownsRow base e size v n xs) (hb : ∀ g, v.ownBlock = some g → base' ≤ g) : w.ownsRow base' e size v n xs := by
  obtain ⟨h1, h2⟩ := h
  refine ⟨h1, ?_⟩
  rcases h2 with h2 | ⟨g, cap, cur, rfl, hg, r⟩
  · exact .inl h2
  · exact .inr ⟨g, cap, cur, rfl, hb g rfl, r⟩
/-- A row of ints that is not empty: its cells may be read and written. -/
theorem own_int {w : World} {base : Nat} {e : TypeId} {v : Value} {n : Nat} {V : List Int} (h : w.ownsRow base e 1 v n (intsV V)) {k : Nat} {x : Int} (hx : V[k]? = some x) :
    ∃ g cap, v = .slice (some ⟨g, 0, none⟩) n cap ∧ base ≤ g ∧ n ≤ cap ∧ cap ≤ maxLen ∧ w.cell? ⟨g, k, none⟩ = some (.int .i64 x) ∧ w.frozen? ⟨g, k, none⟩ = false ∧
      ∀ y : Int, (w.setCell ⟨g, k, none⟩ (.int .i64 y)).ownsRow base e 1 v n (intsV (V.set k y)) := by
  have hk := (List.getElem?_eq_some_iff.1 hx).1
  have hcell := fun g (hg : v.ownBlock = some g) => h.cells (g := g) hg
  obtain ⟨h1, h2⟩ := h
  have hn : n = V.length := by rw [intsV_len] at h1; omega
  rcases h2 with ⟨rfl, h0⟩ | ⟨g, cap, cur, rfl, hg, hh, hnc, hcm, hcs, htk⟩
  · omega
  · have hc := hcell g rfl k _ (intsV_get hx)
    rw [Addr.add_lit, Nat.zero_add] at hc
    refine ⟨g, cap, rfl, hg, hnc, hcm, hc, by simp [World.frozen?, hh], fun y => ⟨by rw [intsV_len, List.length_set, ← intsV_len]; exact h1, .inr ⟨g, cap, cur.setIfInBounds k (.int .i64 y), rfl, hg, ?_, hnc, hcm, by rw [Array.size_setIfInBounds]; exact hcs, ?_⟩⟩⟩
    · show (w.heap.modify g _)[g]? = _
      rw [Array.getElem?_modify, if_pos rfl, hh]
      rfl
    · rw [Array.toList_setIfInBounds]
      apply List.ext_getElem?
      intro i
      have e1 : (cur.toList.take (n * 1))[i]? = (intsV V)[i]? := by rw [htk]
      rw [List.getElem?_take, List.getElem?_set]
      unfold intsV at e1 ⊢
      rw [List.getElem?_map] at e1 ⊢
      rw [List.getElem?_set]
      rw [List.getElem?_take] at e1
      by_cases hi : i < n * 1
      · rw [if_pos hi] at e1 ⊢
        by_cases hki : k = i
        · subst hki
          have hlt : k < cur.size := by omega
          simp [hlt, hk]
        · rw [if_neg hki, if_neg hki]
          exact e1
      · rw [if_neg hi] at e1 ⊢
        have hi2 : V.length ≤ i := by omega
        rw [if_neg (by omega), List.getElem?_eq_none hi2]; rfl
end Go.Proofs.YtoggcpfogeoeaaaGreatDoor

namespace Go.Proofs.YtoggcpfogeoeaaaGreatDoor
open Go.RowKit

theorem padV_succ {V : List Int} {t : Nat} (h : V.length ≤ t) : padV V (t + 1) = padV V t ++ [0] := by
  unfold padV
  rw [show t + 1 - V.length = (t - V.length) + 1 by omega, List.replicate_succ', List.append_assoc]
theorem padV_self (V : List Int) : padV V V.length = V := by unfold padV; simp
theorem il_one (w : World) (x : Int) (t : TypeId) : Il (w.alloc (.cells #[.int .i64 x] t)) (some ⟨w.heap.size, 0, none⟩) 1 1 [x] := by
  refine ⟨rfl, Nat.le_refl _, by simp [maxLen], (fun h => by cases h), .inr ⟨w.heap.size, 0, rfl, fun j y hj => ?_⟩⟩
  match j, hj with
  | 0, hj =>
    obtain rfl : x = y := by simpa using hj
    rw [World.cell?_alloc_new]; rfl
  | j + 1, hj => simp at hj
/-- The rows that Compact owns, and what it leaves alone. -/
structure MemC (w u : World) (G : Nat) (wr : World) (v : Value) (V : List Int) (v2 : Value) (C : List (Int × Int)) : Prop where
  iv : wr.ownsRow (w.heap.size + 2) 3 1 v V.length (intsV V)
  own : ∀ g, v.ownBlock = some g → g = G ∨ u.heap.size ≤ g
  dv : wr.ownsRow u.heap.size 31 2 v2 C.length (flatD C)
  ke : KeptE G u wr
  lo : w.heap.size + 2 ≤ u.heap.size
section
variable {w u wr : World} {G : Nat} {v v2 : Value} {V : List Int} {C : List (Int × Int)}
theorem MemC.kept {wr' : World} (h : MemC w u G wr v V v2 C) (hk : Kept wr wr') : MemC w u G wr' v V v2 C :=
  ⟨own_kept h.iv hk, h.own, own_kept h.dv hk, h.ke.trans hk, h.lo⟩
theorem MemC.ints (h : MemC w u G wr v V v2 C) : ∃ A c, v = .slice A V.length c ∧ V.length ≤ c ∧ c ≤ 9223372036854775807 := by
  obtain ⟨A, c, rfl, hi⟩ := Il.of_own h.iv
  exact ⟨A, c, rfl, hi.cap.1, hi.cap.2⟩
theorem MemC.grow (h : MemC w u G wr v V v2 C) (hl : V.length ≤ 1000) :
    ∃ v' w', (Builtin.append_ #[25, 25] 25 #[v, .slice (some ⟨wr.heap.size, 0, none⟩) 1 1]).run Tryz.prog (wr.alloc (.cells #[.int .i64 0] 3)) = .ok v' w' ∧ MemC w u G w' v' (V ++ [0]) v2 C ∧
      ∀ (b : Nat) (cs : Array Value), wr.heap[b]? = some (Obj.cells cs 31 (0, 0)) → w'.heap[b]? = some (Obj.cells cs 31 (0, 0)) := by
  have hk := (Kept.refl wr).alloc #[.int .i64 0] 3
  have h2 := h.kept hk
  obtain ⟨v', w', hr, ho, hg, hat⟩ := app_ints _ _ v V.length _ h2.iv (some ⟨wr.heap.size, 0, none⟩) 1 1 [0] (il_one wr 0 _) (by omega) (by have := h.lo; have := h2.ke.size; omega)
  have hsz := h2.ke.size
  refine ⟨v', w', hr, ⟨by rw [List.length_append, intsV_app]; exact ho, fun g hgb => ?_, own_blk h2.dv fun g hgb => ?_, h2.ke.grown hg h2.own, h.lo⟩, fun b cs hb => ?_⟩
  · rcases hat with e | e
    · exact h2.own g (e ▸ hgb)
    · rw [e] at hgb
      exact .inr (by obtain rfl := Option.some.inj hgb; exact hsz)
  · rcases own_apart h2.dv h2.iv (by decide) with e | e
    · rw [e] at hgb; cases hgb
    · exact hg.block g (h2.dv.lt g hgb).2 (fun e2 => e (hgb.trans e2))
  · have hb2 : (wr.alloc (.cells #[.int .i64 0] 3)).heap[b]? = some (Obj.cells cs 31 (0, 0)) := by
      rw [hk.blk (by
        rcases Nat.lt_or_ge b wr.heap.size with h' | h'
        · exact h'
        · rw [Array.getElem?_eq_none h'] at hb; cases hb)]
      exact hb
    rw [hg.block b (by
      rcases Nat.lt_or_ge b (wr.alloc (.cells #[.int .i64 0] 3)).heap.size with h' | h'
      · exact h'
      · rw [Array.getElem?_eq_none h'] at hb2; cases hb2) (fun e => by
        obtain ⟨c2, hc2⟩ := own_kind h2.iv e.symm
        rw [hb2] at hc2
        simp only [Option.some.injEq, Obj.cells.injEq] at hc2
        exact absurd hc2.2.1 (by decide))]
    exact hb2
theorem MemC.put (h : MemC w u G wr v V v2 C) (hl : C.length ≤ 1000000) (x : Int × Int) :
    ∃ v' w', (Builtin.append_ #[23, 23] 23 #[v2, .slice (some ⟨wr.heap.size, 0, none⟩) 1 1]).run Tryz.prog (wr.alloc (.cells #[.int .i64 x.1, .int .i64 x.2] 31)) = .ok v' w' ∧ MemC w u G w' v V v' (C ++ [x]) := by
  have hk := (Kept.refl wr).alloc #[.int .i64 x.1, .int .i64 x.2] 31
  have h2 := h.kept hk
  obtain ⟨v', w', hr, ho, hg, hat⟩ := app_dots_at _ _ v2 C.length _ h2.dv (some ⟨wr.heap.size, 0, none⟩) 1 1 [x] (dl_one wr x.1 x.2 _) (by omega) (by have := h2.ke.size; omega)
  refine ⟨v', w', hr, ⟨own_blk h2.iv fun g hgb => ?_, h.own, by rw [List.length_append, flatD_app]; exact ho, h2.ke.grown hg (fun g hgb => .inr (h2.dv.lt g hgb).1), h.lo⟩⟩
  rcases own_apart h2.iv h2.dv (by decide) with e | e
  · rw [e] at hgb; cases hgb
  · exact hg.block g (h2.iv.lt g hgb).2 (fun e2 => e (hgb.trans e2))
theorem MemC.set (h : MemC w u G wr v V v2 C) {j : Nat} {x : Int} (hx : V[j]? = some x) :
    ∃ g cap, v = .slice (some ⟨g, 0, none⟩) V.length cap ∧ V.length ≤ cap ∧ cap ≤ 9223372036854775807 ∧ wr.cell? ⟨g, j, none⟩ = some (.int .i64 x) ∧ wr.frozen? ⟨g, j, none⟩ = false ∧ ∀ y : Int, MemC w u G (wr.setCell ⟨g, j, none⟩ (.int .i64 y)) v (V.set j y) v2 C := by
  obtain ⟨g, cap, hv, hg, hnc, hcm, hc, hf, hs⟩ := own_int h.iv hx
  have hvb : v.ownBlock = some g := by rw [hv]; rfl
  refine ⟨g, cap, hv, hnc, hcm, hc, hf, fun y => ⟨by rw [List.length_set]; exact hs y, h.own, ownsRow_setCell_other h.dv (fun e => ?_) _, h.ke.set (h.own g hvb) _, h.lo⟩⟩
  rcases own_apart h.iv h.dv (by decide) with e2 | e2
  · rw [e2] at hvb; cases hvb
  · exact e2 (hvb.trans e.symm)
theorem MemC.start {w1 : World} (ho : w1.ownsRow (w.heap.size + 2) 3 1 v V.length (intsV V)) (hG : ∀ g, v.ownBlock = some g → g = G) (hk : Kept w1 u) (hlo : w.heap.size + 2 ≤ w1.heap.size) : MemC w u G u v V (.slice none 0 0) [] :=
  ⟨own_kept ho hk, fun g hg => .inl (hG g hg), World.ownsRow_nil _ _ _ _, .refl _ _, Nat.le_trans hlo hk.2.2⟩
end
theorem lt_of_some {w : World} {b : Nat} {o : Obj} (h : w.heap[b]? = some o) : b < w.heap.size := by
  rcases Nat.lt_or_ge b w.heap.size with h' | h'
  · exact h'
  · rw [Array.getElem?_eq_none h'] at h; cases h
theorem blk_kept {w w' : World} {b : Nat} {o : Obj} (h : w.heap[b]? = some o) (hk : Kept w w') : w'.heap[b]? = some o := by
  rw [hk.blk (lt_of_some h)]; exact h
theorem blk_cells {w : World} {b : Nat} {x0 x1 : Value} {t : TypeId} {f : Nat × Nat} (h : w.heap[b]? = some (Obj.cells #[x0, x1] t f)) : w.cell? ⟨b, 0, none⟩ = some x0 ∧ w.cell? ⟨b, 1, none⟩ = some x1 := by
  simp [World.cell?, h]
/-- What the calls that make a set leave. -/
def Sets (S : Int × Int → Prop) (mx : Nat) (w : World) (e : Ending) (w' : World) : Prop :=
  ∃ A n c B m k V C, e = .returned (.agg #[.slice A n c, .slice B m k]) ∧ Il w' A n c V ∧ Dl w' B m k C ∧ SetC S V C ∧ m ≤ mx ∧ Kept w w'
/-- The same, in blocks of their own. -/
def SetsF (S : Int × Int → Prop) (mx : Nat) (w : World) (e : Ending) (w' : World) : Prop :=
  ∃ A n c B m k V C, e = .returned (.agg #[.slice A n c, .slice B m k]) ∧ Il w' A n c V ∧ Dl w' B m k C ∧ SetC S V C ∧ m ≤ mx ∧ Kept w w' ∧ (∀ ad, A = some ad → w.heap.size ≤ ad.block) ∧ ∀ ad, B = some ad → w.heap.size ≤ ad.block
theorem SetsF.sets {S : Int × Int → Prop} {mx : Nat} {w w' : World} {e : Ending} (h : SetsF S mx w e w') : Sets S mx w e w' := by
  obtain ⟨A, n, c, B, m, k, V, C, h1, h2, h3, h4, h5, h6, _⟩ := h
  exact ⟨A, n, c, B, m, k, V, C, h1, h2, h3, h4, h5, h6⟩
theorem sets_box {S : Int × Int → Prop} {mx : Nat} {W w0 w5 : World} {b n c m k : Nat} {A B : Option Addr} {V : List Int} {C : List (Int × Int)} (hi : Il w5 A n c V) (hd : Dl w5 B m k C) (hfa : ∀ ad, A = some ad → w0.heap.size ≤ ad.block) (hfb : ∀ ad, B = some ad → w0.heap.size ≤ ad.block)
    (hb : b < w0.heap.size) (hW : W.heap.size ≤ b) (hk : Kept W w5) (hs : SetC S V C) (hm : m ≤ mx) :
    SetsF S mx W (.returned (.agg #[.slice A n c, .slice B m k])) ((w5.setCell ⟨b, 0, none⟩ (.slice A n c)).setCell ⟨b, 1, none⟩ (.slice B m k)) := by
  have hE : KeptE b w5 ((w5.setCell ⟨b, 0, none⟩ (.slice A n c)).setCell ⟨b, 1, none⟩ (.slice B m k)) := ((KeptE.refl b w5).set (.inl rfl) _).set (.inl rfl) _
  refine ⟨A, n, c, B, m, k, V, C, rfl, hi.keptE hE (fun ad e => by have := hfa ad e; omega), hd.keptE hE (fun ad e => by have := hfb ad e; omega), hs, hm, kept_set2 hk _ _ hW, fun ad e => by have := hfa ad e; omega, fun ad e => by have := hfb ad e; omega⟩

end Go.Proofs.YtoggcpfogeoeaaaGreatDoor

namespace Go.Proofs.YtoggcpfogeoeaaaGreatDoor
open Go.RowKit

def takeVs : Nat → List Int → ByteArray → List Int × ByteArray × Nat
  | 0, V, s => (V, s, 0)
  | k + 1, V, s => if tkE s ≠ 0 then ([], ⟨#[]⟩, tkE s) else takeVs k (V ++ [tiN s]) (tkR s)
def takeDs : Nat → List (Int × Int) → ByteArray → List (Int × Int) × ByteArray × Nat
  | 0, C, s => (C, s, 0)
  | k + 1, C, s => if tdE s ≠ 0 then ([], ⟨#[]⟩, tdE s) else takeDs k (C ++ [tdX s]) (tdR s)
open Classical in
noncomputable def formC (V : List Int) (C : List (Int × Int)) (r : ByteArray) : List Int × List (Int × Int) × ByteArray × Nat :=
  if RightC V C then (V, C, r, 0) else ([], [], ⟨#[]⟩, 3)
noncomputable def cloudC (V : List Int) (s : ByteArray) : List Int × List (Int × Int) × ByteArray × Nat :=
  if tkE s ≠ 0 then ([], [], ⟨#[]⟩, tkE s) else if (tkR s).size < tkN s then ([], [], ⟨#[]⟩, 2)
  else if (takeDs (tkN s) [] (tkR s)).2.2 ≠ 0 then ([], [], ⟨#[]⟩, (takeDs (tkN s) [] (tkR s)).2.2)
  else formC V (takeDs (tkN s) [] (tkR s)).1 (takeDs (tkN s) [] (tkR s)).2.1
/-- P6.12. -/
noncomputable def tcL (s : ByteArray) : List Int × List (Int × Int) × ByteArray × Nat :=
  if tkE s ≠ 0 then ([], [], ⟨#[]⟩, tkE s) else if 64 < tkN s then ([], [], ⟨#[]⟩, 4)
  else if (takeVs (tkN s) [] (tkR s)).2.2 ≠ 0 then ([], [], ⟨#[]⟩, (takeVs (tkN s) [] (tkR s)).2.2)
  else cloudC (takeVs (tkN s) [] (tkR s)).1 (takeVs (tkN s) [] (tkR s)).2.1
theorem takeVs_err {k : Nat} {V : List Int} {s : ByteArray} (h : tkE s ≠ 0) : takeVs (k + 1) V s = ([], ⟨#[]⟩, tkE s) := by rw [takeVs, if_pos h]
theorem takeVs_ok {k : Nat} {V : List Int} {s : ByteArray} (h : tkE s = 0) : takeVs (k + 1) V s = takeVs k (V ++ [tiN s]) (tkR s) := by rw [takeVs, if_neg (by simp [h])]
theorem takeDs_err {k : Nat} {C : List (Int × Int)} {s : ByteArray} (h : tdE s ≠ 0) : takeDs (k + 1) C s = ([], ⟨#[]⟩, tdE s) := by rw [takeDs, if_pos h]
theorem takeDs_ok {k : Nat} {C : List (Int × Int)} {s : ByteArray} (h : tdE s = 0) : takeDs (k + 1) C s = takeDs k (C ++ [tdX s]) (tdR s) := by rw [takeDs, if_neg (by simp [h])]
theorem tdR_size (s : ByteArray) : (tdR s).size ≤ s.size := by
  have h1 := tkR_size s
  have h2 := tkR_size (tkR s)
  unfold tdR tdL
  split
  · exact Nat.zero_le _
  · split
    · exact Nat.zero_le _
    · split
      · show (tkR (tkR s)).size ≤ s.size; omega
      · exact Nat.zero_le _
/-- What Take leaves. -/
def TakeC (s : ByteArray) (w : World) (e : Ending) (w' : World) : Prop :=
  ∃ A n c B m k V C r z, e = .returned (.tuple #[.agg #[.slice A n c, .slice B m k], .string r, .int .i64 ((z : Nat) : Int)]) ∧ Il w' A n c V ∧ Dl w' B m k C ∧ tcL s = (V, C, r, z) ∧ Kept w w'
theorem TakeC.err {s : ByteArray} {w w5 : World} {b z : Nat} (hs : tcL s = ([], [], ⟨#[]⟩, z)) (hk : Kept w w5) (hb : w.heap.size ≤ b) :
    TakeC s w (.returned (.tuple #[.agg #[.slice none 0 0, .slice none 0 0], .string ⟨#[]⟩, .int .i64 (z : Int)])) ((w5.setCell ⟨b, 0, none⟩ (.slice none 0 0)).setCell ⟨b, 1, none⟩ (.slice none 0 0)) :=
  ⟨none, 0, 0, none, 0, 0, [], [], ⟨#[]⟩, z, rfl, Il.nil _, Dl.nil _, hs, kept_set2 hk _ _ hb⟩

theorem TakeC.ok {s : ByteArray} {w w5 U : World} {b : Nat} {v u : Value} {V : List Int} {C : List (Int × Int)} {r : ByteArray} (hs : tcL s = (V, C, r, 0)) (hk : Kept w w5) (hb : w.heap.size ≤ b) (hbU : b < U.heap.size)
    (hv : w5.ownsRow U.heap.size 3 1 v V.length (intsV V)) (hu : w5.ownsRow U.heap.size 31 2 u C.length (flatD C)) :
    TakeC s w (.returned (.tuple #[.agg #[v, u], .string r, .int .i64 0])) ((w5.setCell ⟨b, 0, none⟩ v).setCell ⟨b, 1, none⟩ u) := by
  have hne : ∀ {x : Value} {n : Nat} {xs : List Value} {e : TypeId} {sz : Nat} {wx : World}, wx.ownsRow U.heap.size e sz x n xs → x.ownBlock ≠ some b := fun hh e => by have := (hh.lt b e).1; omega
  have hv2 := ownsRow_setCell_other (ownsRow_setCell_other hv (a := ⟨b, 0, none⟩) (hne hv) v) (a := ⟨b, 1, none⟩) (hne hv) u
  have hu2 := ownsRow_setCell_other (ownsRow_setCell_other hu (a := ⟨b, 0, none⟩) (hne hu) v) (a := ⟨b, 1, none⟩) (hne hu) u
  obtain ⟨A, c, rfl, hi⟩ := Il.of_own hv2
  obtain ⟨B, k, rfl, hd⟩ := Dl.of_own hu2
  exact ⟨A, _, c, B, _, k, V, C, r, 0, rfl, hi, hd, hs, kept_set2 hk _ _ hb⟩

/-- The set that is made, in its box. -/
structure MemT (U : World) (b : Nat) (wr : World) (v : Value) (V : List Int) (u : Value) (C : List (Int × Int)) : Prop where
  iv : wr.ownsRow U.heap.size 3 1 v V.length (intsV V)
  dv : wr.ownsRow U.heap.size 31 2 u C.length (flatD C)
  box : wr.heap[b]? = some (Obj.cells #[v, u] 27 (0, 0))
  ke : KeptE b U wr
  lo : b < U.heap.size
section
variable {U wr : World} {b : Nat} {v u : Value} {V : List Int} {C : List (Int × Int)}
theorem MemT.kept {w' : World} (h : MemT U b wr v V u C) (hk : Kept wr w') : MemT U b w' v V u C :=
  ⟨own_kept h.iv hk, own_kept h.dv hk, blk_kept h.box hk, h.ke.trans hk, h.lo⟩
theorem MemT.forms (h : MemT U b wr v V u C) : ∃ A c B k, v = .slice A V.length c ∧ u = .slice B C.length k ∧ V.length ≤ c ∧ c ≤ 9223372036854775807 ∧ C.length ≤ k ∧ k ≤ 9223372036854775807 := by
  obtain ⟨A, c, rfl, hi⟩ := Il.of_own h.iv
  obtain ⟨B, k, rfl, hd⟩ := Dl.of_own h.dv
  exact ⟨A, c, B, k, rfl, rfl, hi.cap.1, hi.cap.2, hd.cap.1, hd.cap.2⟩
theorem MemT.c0 (h : MemT U b wr v V u C) : wr.cell? ⟨b, 0, none⟩ = some v := (blk_cells h.box).1
theorem MemT.c1 (h : MemT U b wr v V u C) : wr.cell? ⟨b, 1, none⟩ = some u := (blk_cells h.box).2
theorem MemT.f (h : MemT U b wr v V u C) (i : Nat) : wr.frozen? ⟨b, i, none⟩ = false := by simp [World.frozen?, h.box]
theorem set_blk {w : World} {b i : Nat} {c : Array Value} {t : TypeId} (h : w.heap[b]? = some (Obj.cells c t (0, 0))) (x : Value) : (w.setCell ⟨b, i, none⟩ x).heap[b]? = some (Obj.cells (c.setIfInBounds i x) t (0, 0)) := by
  show (w.heap.modify b _)[b]? = _
  rw [Array.getElem?_modify, if_pos rfl, h]
  rfl
theorem MemT.putV (h : MemT U b wr v V u C) (hl : V.length ≤ 1000) (x : Int) :
    ∃ A c w5, (Builtin.append_ #[25, 25] 25 #[v, .slice (some ⟨wr.heap.size, 0, none⟩) 1 1]).run Tryz.prog (wr.alloc (.cells #[.int .i64 x] 3)) = .ok (.slice A (V.length + 1) c) w5 ∧
      w5.cell? ⟨b, 0, none⟩ = some v ∧ w5.frozen? ⟨b, 0, none⟩ = false ∧ MemT U b (w5.setCell ⟨b, 0, none⟩ (.slice A (V.length + 1) c)) (.slice A (V.length + 1) c) (V ++ [x]) u C := by
  have h2 := h.kept ((Kept.refl wr).alloc #[.int .i64 x] 3)
  obtain ⟨v', w5, hr, ho, hg, _⟩ := app_ints _ _ v V.length _ h2.iv (some ⟨wr.heap.size, 0, none⟩) 1 1 [x] (il_one wr x _) (by omega) (Nat.le_trans h.ke.size (by simp))
  rw [← intsV_app] at ho
  have hbn : ∀ g, v.ownBlock = some g → g ≠ b := fun g hgb => by have := (h2.iv.lt g hgb).1; have := h.lo; omega
  have hbx : w5.heap[b]? = some (Obj.cells #[v, u] 27 (0, 0)) := by
    rw [hg.block b (lt_of_some h2.box) (fun e => hbn b e.symm rfl)]; exact h2.box
  have hd5 : w5.ownsRow U.heap.size 31 2 u C.length (flatD C) := own_blk h2.dv fun g hgb => by
    rcases own_apart h2.dv h2.iv (by decide) with e | e
    · rw [e] at hgb; cases hgb
    · exact hg.block g (h2.dv.lt g hgb).2 (fun e2 => e (hgb.trans e2))
  obtain ⟨A, c, rfl, _⟩ := Il.of_own ho
  have hne : ∀ {x : Value} {n : Nat} {xs : List Value} {e : TypeId} {sz : Nat}, w5.ownsRow U.heap.size e sz x n xs → x.ownBlock ≠ some b := fun hh e => by have := (hh.lt b e).1; have := h.lo; omega
  refine ⟨A, c, w5, hr, (blk_cells hbx).1, by simp [World.frozen?, hbx], ⟨by rw [List.length_append]; exact ownsRow_setCell_other ho (hne ho) _, ownsRow_setCell_other hd5 (hne hd5) _, by rw [set_blk hbx]; rfl, (h2.ke.grown hg fun g hgb => .inr (h2.iv.lt g hgb).1).set (.inl rfl) _, h.lo⟩⟩
theorem MemT.putD (h : MemT U b wr v V u C) (hl : C.length ≤ 1000000) (x1 x2 : Int) :
    ∃ B k w5, (Builtin.append_ #[23, 23] 23 #[u, .slice (some ⟨wr.heap.size, 0, none⟩) 1 1]).run Tryz.prog (wr.alloc (.cells #[.int .i64 x1, .int .i64 x2] 31)) = .ok (.slice B (C.length + 1) k) w5 ∧
      w5.cell? ⟨b, 1, none⟩ = some u ∧ w5.frozen? ⟨b, 1, none⟩ = false ∧ MemT U b (w5.setCell ⟨b, 1, none⟩ (.slice B (C.length + 1) k)) v V (.slice B (C.length + 1) k) (C ++ [(x1, x2)]) := by
  have h2 := h.kept ((Kept.refl wr).alloc #[.int .i64 x1, .int .i64 x2] 31)
  obtain ⟨u', w5, hr, ho, hg, _⟩ := app_dots_at _ _ u C.length _ h2.dv (some ⟨wr.heap.size, 0, none⟩) 1 1 [(x1, x2)] (dl_one wr x1 x2 _) (by omega) (Nat.le_trans h.ke.size (by simp))
  rw [← flatD_app] at ho
  have hbn : ∀ g, u.ownBlock = some g → g ≠ b := fun g hgb => by have := (h2.dv.lt g hgb).1; have := h.lo; omega
  have hbx : w5.heap[b]? = some (Obj.cells #[v, u] 27 (0, 0)) := by
    rw [hg.block b (lt_of_some h2.box) (fun e => hbn b e.symm rfl)]; exact h2.box
  have hd5 : w5.ownsRow U.heap.size 3 1 v V.length (intsV V) := own_blk h2.iv fun g hgb => by
    rcases own_apart h2.iv h2.dv (by decide) with e | e
    · rw [e] at hgb; cases hgb
    · exact hg.block g (h2.iv.lt g hgb).2 (fun e2 => e (hgb.trans e2))
  obtain ⟨B, k, rfl, _⟩ := Dl.of_own ho
  have hne : ∀ {x : Value} {n : Nat} {xs : List Value} {e : TypeId} {sz : Nat}, w5.ownsRow U.heap.size e sz x n xs → x.ownBlock ≠ some b := fun hh e => by have := (hh.lt b e).1; have := h.lo; omega
  refine ⟨B, k, w5, hr, (blk_cells hbx).2, by simp [World.frozen?, hbx], ⟨ownsRow_setCell_other hd5 (hne hd5) _, by rw [List.length_append]; exact ownsRow_setCell_other ho (hne ho) _, by rw [set_blk hbx]; rfl, (h2.ke.grown hg fun g hgb => .inr (h2.dv.lt g hgb).1).set (.inl rfl) _, h.lo⟩⟩
theorem MemT.start (w : World) : MemT (w.alloc (.cells #[.slice none 0 0, .slice none 0 0] 27)) w.heap.size (w.alloc (.cells #[.slice none 0 0, .slice none 0 0] 27)) (.slice none 0 0) [] (.slice none 0 0) [] :=
  ⟨World.ownsRow_nil _ _ _ _, World.ownsRow_nil _ _ _ _, heap_alloc_new w _, .refl _ _, by simp⟩
end

end Go.Proofs.YtoggcpfogeoeaaaGreatDoor

