/-
  What is proved: rows that a call owns, beside one another: a row reads on behind what leaves older blocks alone; two rows of other kinds of elements are apart; an int of a row written; worlds that have all that another one has but for one block ('KeptE').
-/
import Derived.Test.YtkooihljddibfaaGreatM8
import Derived.Test.YtkooihljddibfaaGreatM10
import Derived.Deep.Heap
import Derived.OneCell
namespace Go.Proofs.YtkooihljddibfaaGreat
open Go.RowKit

theorem Dl.keptE {G : Nat} {w w' : World} {A : Option Addr} {n c : Nat} {L : List (Int × Int)} (h : Dl w A n c L) (hk : KeptE G w w') (hA : ∀ ad, A = some ad → ad.block ≠ G) : Dl w' A n c L :=
  ⟨h.1, h.2.1, h.2.2.1, h.2.2.2.1, h.2.2.2.2.imp id fun ⟨b, o, hA2, hc⟩ => ⟨b, o, hA2, fun j x hj => ⟨hk.cell (hA _ hA2) (hc j x hj).1, hk.cell (hA _ hA2) (hc j x hj).2⟩⟩⟩
theorem Il.keptE {G : Nat} {w w' : World} {A : Option Addr} {n c : Nat} {V : List Int} (h : Il w A n c V) (hk : KeptE G w w') (hA : ∀ ad, A = some ad → ad.block ≠ G) : Il w' A n c V :=
  ⟨h.1, h.2.1, h.2.2.1, h.2.2.2.1, h.2.2.2.2.imp id fun ⟨b, o, hA2, hc⟩ => ⟨b, o, hA2, fun j x hj => hk.cell (hA _ hA2) (hc j x hj)⟩⟩

theorem app_dots_at (w : World) (base : Nat) (v : Value) (n : Nat) (xs : List Value) (h : w.ownsRow base 30 2 v n xs) (A : Option Addr) (m c : Nat) (L : List (Int × Int)) (hs : Dl w A m c L) (hb : n + m ≤ 8000000000000) (hbase : base ≤ w.heap.size) :
    ∃ v' w', (Builtin.append_ #[24, 24] 24 #[v, .slice A m c]).run Tryz.prog w = .ok v' w' ∧ w'.ownsRow base 30 2 v' (n + m) (xs ++ flatD L) ∧ w.grownBy w' v.ownBlock ∧ (v'.ownBlock = v.ownBlock ∨ v'.ownBlock = some w.heap.size) := by
  obtain ⟨i0, hi0, hz0, hz1, hz2⟩ := info_parts infoDot
  cases A with
  | none =>
    obtain rfl := hs.2.2.2.1 rfl
    obtain rfl : m = 0 := by have := hs.2.1; omega
    have hL : L = [] := List.eq_nil_of_length_eq_zero hs.1.symm
    subst hL
    exact ⟨v, w, run_append_owned_none w base _ _ _ i0 2 Tryz.underlying24 hi0 v n xs h, by simpa [flatD_nil] using h, World.grownBy.refl w _, .inl rfl⟩
  | some ad =>
    obtain ⟨v', w', hr, ho, hg, _, hat⟩ := run_append_own_at (P := Tryz.prog) w base 24 24 30 i0 (.agg #[.int .i64 0, .int .i64 0]) 2 16 Tryz.underlying24 hi0 hz0 hz1 hz2 rfl (by decide) v n xs h ad m c (flatD L)
      (by rw [flatD_len, hs.1]) (fun j u hj => by
        obtain ⟨k, x, hk, hc⟩ := flatD_at L j u hj
        have hkl := (List.getElem?_eq_some_iff.1 hk).1
        obtain ⟨b, o, y, hA, hy, c1, c2⟩ := hs.get (k := k) (by rw [hs.1]; exact hkl)
        obtain rfl : y = x := Option.some.inj (hy.symm.trans hk)
        obtain rfl := Option.some.inj hA
        rw [Addr.add_lit]
        rcases hc with ⟨rfl, rfl⟩ | ⟨rfl, rfl⟩
        · exact c1
        · exact c2) (flatD_one _) (by simp only [maxLen]; omega) (by omega) hbase
    exact ⟨v', w', hr, ho, hg, hat⟩


section
variable {w : World} {base : Nat} {e : TypeId} {size : Nat} {v : Value} {n : Nat} {xs : List Value}
theorem own_blk {w' : World} (h : w.ownsRow base e size v n xs) (hb : ∀ g, v.ownBlock = some g → w'.heap[g]? = w.heap[g]?) : w'.ownsRow base e size v n xs := by
  obtain ⟨h1, h2⟩ := h
  refine ⟨h1, ?_⟩
  rcases h2 with h2 | ⟨g, cap, cur, rfl, hg, hh, r⟩
  · exact .inl h2
  · exact .inr ⟨g, cap, cur, rfl, hg, by rw [hb g rfl]; exact hh, r⟩
theorem own_kept {w' : World} (h : w.ownsRow base e size v n xs) (hk : Kept w w') : w'.ownsRow base e size v n xs :=
  own_blk h fun g hg => hk.blk (h.lt g hg).2
theorem own_kind (h : w.ownsRow base e size v n xs) {g : Nat} (hg : v.ownBlock = some g) : ∃ c, w.heap[g]? = some (.cells c e (0, 0)) := by
  rcases h.2 with ⟨rfl, _⟩ | ⟨g', cap, cur, rfl, _, hgg, _⟩
  · simp [Value.ownBlock] at hg
  · simp [Value.ownBlock] at hg
    subst hg
    exact ⟨cur, hgg⟩
/-- Rows of two kinds of elements lie in two blocks. -/
theorem own_apart {base' size' n' : Nat} {e' : TypeId} {u : Value} {ys : List Value} (h : w.ownsRow base e size v n xs) (k : w.ownsRow base' e' size' u n' ys) (he : e ≠ e') : v.ownBlock = none ∨ v.ownBlock ≠ u.ownBlock := by
  cases hv : v.ownBlock with
  | none => exact .inl rfl
  | some g =>
    refine .inr fun hu => ?_
    obtain ⟨c1, h1⟩ := own_kind h hv
    obtain ⟨c2, h2⟩ := own_kind k hu.symm
    rw [h1] at h2
    simp only [Option.some.injEq, Obj.cells.injEq] at h2
    exact he h2.2.1
end
theorem own_mono {w : World} {base base' : Nat} {e : TypeId} {size : Nat} {v : Value} {n : Nat} {xs : List Value} (h : w.ownsRow base e size v n xs) (hb : ∀ g, v.ownBlock = some g → base' ≤ g) : w.ownsRow base' e size v n xs := by
  obtain ⟨h1, h2⟩ := h
  refine ⟨h1, ?_⟩
  rcases h2 with h2 | ⟨g, cap, cur, rfl, hg, r⟩
  · exact .inl h2
  · exact .inr ⟨g, cap, cur, rfl, hb g rfl, r⟩
/-- A row of ints that is not empty: its cells may be read and written. -/
theorem own_int {w : World} {base : Nat} {e : TypeId} {v : Value} {n : Nat} {V : List Int} (h : w.ownsRow base e 1 v n (intsV V)) {k : Nat} {x : Int} (hx : V[k]? = some x) :
    ∃ g cap, v = .slice (some ⟨g, 0, none⟩) n cap ∧ base ≤ g ∧ n ≤ cap ∧ cap ≤ maxLen ∧ w.cell? ⟨g, k, none⟩ = some (.int .i64 x) ∧ w.frozen? ⟨g, k, none⟩ = false ∧
      ∀ y : Int, (w.setCell ⟨g, k, none⟩ (.int .i64 y)).ownsRow base e 1 v n (intsV (V.set k y)) := by
  have hk := (List.getElem?_eq_some_iff.1 hx).1
  have hcell := fun g (hg : v.ownBlock = some g) => h.cells (g := g) hg
  obtain ⟨h1, h2⟩ := h
  have hn : n = V.length := by rw [intsV_len] at h1; omega
  rcases h2 with ⟨rfl, h0⟩ | ⟨g, cap, cur, rfl, hg, hh, hnc, hcm, hcs, htk⟩
  · omega
  · have hc := hcell g rfl k _ (intsV_get hx)
    rw [Addr.add_lit, Nat.zero_add] at hc
    refine ⟨g, cap, rfl, hg, hnc, hcm, hc, by simp [World.frozen?, hh], fun y => ⟨by rw [intsV_len, List.length_set, ← intsV_len]; exact h1, .inr ⟨g, cap, cur.setIfInBounds k (.int .i64 y), rfl, hg, ?_, hnc, hcm, by rw [Array.size_setIfInBounds]; exact hcs, ?_⟩⟩⟩
    · show (w.heap.modify g _)[g]? = _
      rw [Array.getElem?_modify, if_pos rfl, hh]
      rfl
    · rw [Array.toList_setIfInBounds]
      apply List.ext_getElem?
      intro i
      have e1 : (cur.toList.take (n * 1))[i]? = (intsV V)[i]? := by rw [htk]
      rw [List.getElem?_take, List.getElem?_set]
      unfold intsV at e1 ⊢
      rw [List.getElem?_map] at e1 ⊢
      rw [List.getElem?_set]
      rw [List.getElem?_take] at e1
      by_cases hi : i < n * 1
      · rw [if_pos hi] at e1 ⊢
        by_cases hki : k = i
        · subst hki
          have hlt : k < cur.size := by omega
          simp [hlt, hk]
        · rw [if_neg hki, if_neg hki]
          exact e1
      · rw [if_neg hi] at e1 ⊢
        have hi2 : V.length ≤ i := by omega
        rw [if_neg (by omega), List.getElem?_eq_none hi2]; rfl
end Go.Proofs.YtkooihljddibfaaGreat
