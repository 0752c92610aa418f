/-
  What is proved: rows that a call owns, beside one another: a row reads on behind what leaves older blocks alone; two rows of other kinds of elements are apart; an int of a row written; worlds that have all that another one has but for one block ('KeptE').
  words for memory that layer 13's contracts use: a slice of pairs that lies in memory ('Pal'), its head and its tail, append of such, or of one, onto a row of the call's own.
  the document's first of layer 13, called with any slice of pairs, any value and either side, returns the first pair on whose side the value is; the world has new blocks at most.
-/
import Derived.Test.YtjcnjmlgedmmoaaDoorM8
import Derived.Deep.Heap
import Derived.OneCell
import Derived.Test.YtjcnjmlgedmmoaaDoorM5
import Derived.Test.YtjcnjmlgedmmoaaDoorM6
namespace Go.Proofs.YtjcnjmlgedmmoaaDoor
open Go.RowKit

theorem Dl.keptE {G : Nat} {w w' : World} {A : Option Addr} {n c : Nat} {L : List (Int × Int)} (h : Dl w A n c L) (hk : KeptE G w w') (hA : ∀ ad, A = some ad → ad.block ≠ G) : Dl w' A n c L :=
  ⟨h.1, h.2.1, h.2.2.1, h.2.2.2.1, h.2.2.2.2.imp id fun ⟨b, o, hA2, hc⟩ => ⟨b, o, hA2, fun j x hj => ⟨hk.cell (hA _ hA2) (hc j x hj).1, hk.cell (hA _ hA2) (hc j x hj).2⟩⟩⟩
theorem Il.keptE {G : Nat} {w w' : World} {A : Option Addr} {n c : Nat} {V : List Int} (h : Il w A n c V) (hk : KeptE G w w') (hA : ∀ ad, A = some ad → ad.block ≠ G) : Il w' A n c V :=
  ⟨h.1, h.2.1, h.2.2.1, h.2.2.2.1, h.2.2.2.2.imp id fun ⟨b, o, hA2, hc⟩ => ⟨b, o, hA2, fun j x hj => hk.cell (hA _ hA2) (hc j x hj)⟩⟩

section
variable {w : World} {base : Nat} {e : TypeId} {size : Nat} {v : Value} {n : Nat} {xs : List Value}
theorem own_blk {w' : World} (h : w.ownsRow base e size v n xs) (hb : ∀ g, v.ownBlock = some g → w'.heap[g]? = w.heap[g]?) : w'.ownsRow base e size v n xs := by
  obtain ⟨h1, h2⟩ := h
  refine ⟨h1, ?_⟩
  rcases h2 with h2 | ⟨g, cap, cur, rfl, hg, hh, r⟩
  · exact .inl h2
  · exact .inr ⟨g, cap, cur, rfl, hg, by rw [hb g rfl]; exact hh, r⟩
theorem own_kept {w' : World} (h : w.ownsRow base e size v n xs) (hk : Kept w w') : w'.ownsRow base e size v n xs :=
  own_blk h fun g hg => hk.blk (h.lt g hg).2
theorem own_kind (h : w.ownsRow base e size v n xs) {g : Nat} (hg : v.ownBlock = some g) : ∃ c, w.heap[g]? = some (.cells c e (0, 0)) := by
  rcases h.2 with ⟨rfl, _⟩ | ⟨g', cap, cur, rfl, _, hgg, _⟩
  · simp [Value.ownBlock] at hg
  · simp [Value.ownBlock] at hg
    subst hg
    exact ⟨cur, hgg⟩
/-- Rows of two kinds of elements lie in two blocks. -/
theorem own_apart {base' size' n' : Nat} {e' : TypeId} {u : Value} {ys : List Value} (h : w.ownsRow base e size v n xs) (k : w.ownsRow base' e' size' u n' ys) (he : e ≠ e') : v.ownBlock = none ∨ v.ownBlock ≠ u.ownBlock := by
  cases hv : v.ownBlock with
  | none => exact .inl rfl
  | some g =>
    refine .inr fun hu => ?_
    obtain ⟨c1, h1⟩ := own_kind h hv
    obtain ⟨c2, h2⟩ := own_kind k hu.symm
    rw [h1] at h2
    simp only [Option.some.injEq, Obj.cells.injEq] at h2
    exact he h2.2.1
end
theorem own_mono {w : World} {base base' : Nat} {e : TypeId} {size : Nat} {v : Value} {n : Nat} {xs : List Value} (h : w.ownsRow base e size v n xs) (hb : ∀ g, v.ownBlock = some g → base' ≤ g) : w.ownsRow base' e size v n xs := by
  obtain ⟨h1, h2⟩ := h
  refine ⟨h1, ?_⟩
  rcases h2 with h2 | ⟨g, cap, cur, rfl, hg, r⟩
  · exact .inl h2
  · exact .inr ⟨g, cap, cur, rfl, hb g rfl, r⟩
/-- A row of ints that is not empty: its cells may be read and written. -/
theorem own_int {w : World} {base : Nat} {e : TypeId} {v : Value} {n : Nat} {V : List Int} (h : w.ownsRow base e 1 v n (intsV V)) {k : Nat} {x : Int} (hx : V[k]? = some x) :
    ∃ g cap, v = .slice (some ⟨g, 0, none⟩) n cap ∧ base ≤ g ∧ n ≤ cap ∧ cap ≤ maxLen ∧ w.cell? ⟨g, k, none⟩ = some (.int .i64 x) ∧ w.frozen? ⟨g, k, none⟩ = false ∧
      ∀ y : Int, (w.setCell ⟨g, k, none⟩ (.int .i64 y)).ownsRow base e 1 v n (intsV (V.set k y)) := by
  have hk := (List.getElem?_eq_some_iff.1 hx).1
  have hcell := fun g (hg : v.ownBlock = some g) => h.cells (g := g) hg
  obtain ⟨h1, h2⟩ := h
  have hn : n = V.length := by rw [intsV_len] at h1; omega
  rcases h2 with ⟨rfl, h0⟩ | ⟨g, cap, cur, rfl, hg, hh, hnc, hcm, hcs, htk⟩
  · omega
  · have hc := hcell g rfl k _ (intsV_get hx)
    rw [Addr.add_lit, Nat.zero_add] at hc
    refine ⟨g, cap, rfl, hg, hnc, hcm, hc, by simp [World.frozen?, hh], fun y => ⟨by rw [intsV_len, List.length_set, ← intsV_len]; exact h1, .inr ⟨g, cap, cur.setIfInBounds k (.int .i64 y), rfl, hg, ?_, hnc, hcm, by rw [Array.size_setIfInBounds]; exact hcs, ?_⟩⟩⟩
    · show (w.heap.modify g _)[g]? = _
      rw [Array.getElem?_modify, if_pos rfl, hh]
      rfl
    · rw [Array.toList_setIfInBounds]
      apply List.ext_getElem?
      intro i
      have e1 : (cur.toList.take (n * 1))[i]? = (intsV V)[i]? := by rw [htk]
      rw [List.getElem?_take, List.getElem?_set]
      unfold intsV at e1 ⊢
      rw [List.getElem?_map] at e1 ⊢
      rw [List.getElem?_set]
      rw [List.getElem?_take] at e1
      by_cases hi : i < n * 1
      · rw [if_pos hi] at e1 ⊢
        by_cases hki : k = i
        · subst hki
          have hlt : k < cur.size := by omega
          simp [hlt, hk]
        · rw [if_neg hki, if_neg hki]
          exact e1
      · rw [if_neg hi] at e1 ⊢
        have hi2 : V.length ≤ i := by omega
        rw [if_neg (by omega), List.getElem?_eq_none hi2]; rfl
end Go.Proofs.YtjcnjmlgedmmoaaDoor

namespace Go.Proofs.YtjcnjmlgedmmoaaDoor
open Go.RowKit
set_option linter.unusedVariables false

structure PaO (w : World) (b o : Nat) (x : Pa) : Prop where
  c0 : w.cell? ⟨b, o, none⟩ = some (.int .i64 x.f.k)
  c1 : w.cell? ⟨b, o + 1, none⟩ = some (.int .i64 x.f.n)
  c2 : w.cell? ⟨b, o + 2, none⟩ = some (.string x.f.t)
  c3 : w.cell? ⟨b, o + 3, none⟩ = some (.int .i64 x.t.k)
  c4 : w.cell? ⟨b, o + 4, none⟩ = some (.int .i64 x.t.n)
  c5 : w.cell? ⟨b, o + 5, none⟩ = some (.string x.t.t)
theorem PaO.kept {w w' : World} {b o : Nat} {x : Pa} (h : PaO w b o x) (hg : Kept w w') : PaO w' b o x :=
  ⟨hg.cell h.c0, hg.cell h.c1, hg.cell h.c2, hg.cell h.c3, hg.cell h.c4, hg.cell h.c5⟩
/-- In a block of its own. -/
structure PaB (w : World) (b : Nat) (x : Pa) : Prop where
  c0 : w.cell? ⟨b, 0, none⟩ = some (.int .i64 x.f.k)
  c1 : w.cell? ⟨b, 1, none⟩ = some (.int .i64 x.f.n)
  c2 : w.cell? ⟨b, 2, none⟩ = some (.string x.f.t)
  c3 : w.cell? ⟨b, 3, none⟩ = some (.int .i64 x.t.k)
  c4 : w.cell? ⟨b, 4, none⟩ = some (.int .i64 x.t.n)
  c5 : w.cell? ⟨b, 5, none⟩ = some (.string x.t.t)
  f : ∀ j, w.frozen? ⟨b, j, none⟩ = false
  lt : b < w.heap.size
theorem PaB.kept {w w' : World} {b : Nat} {x : Pa} (h : PaB w b x) (hg : Kept w w') : PaB w' b x :=
  ⟨hg.cell h.c0, hg.cell h.c1, hg.cell h.c2, hg.cell h.c3, hg.cell h.c4, hg.cell h.c5, fun j => (hg.2.1 ⟨b, j, none⟩ h.lt).trans (h.f j), Nat.lt_of_lt_of_le h.lt hg.2.2⟩
theorem PaB.new (w : World) (x : Pa) (t : TypeId) : PaB (w.alloc (.cells #[.int .i64 x.f.k, .int .i64 x.f.n, .string x.f.t, .int .i64 x.t.k, .int .i64 x.t.n, .string x.t.t] t)) w.heap.size x :=
  ⟨(Kept.refl _).box 0 _ rfl, (Kept.refl _).box 1 _ rfl, (Kept.refl _).box 2 _ rfl, (Kept.refl _).box 3 _ rfl, (Kept.refl _).box 4 _ rfl, (Kept.refl _).box 5 _ rfl, fun j => by rw [frozen?_alloc_cells]; simp [World.frozen?], by simp⟩
def Pal (w : World) (A : Option Addr) (n c : Nat) (L : List Pa) : Prop :=
  n = L.length ∧ n ≤ c ∧ c ≤ maxLen ∧ (A = none → c = 0) ∧ (n = 0 ∨ ∃ b o, A = some ⟨b, o, none⟩ ∧ ∀ j x, L[j]? = some x → PaO w b (o + j * 6) x)
theorem Pal.kept {w w' : World} {A : Option Addr} {n c : Nat} {L : List Pa} (h : Pal w A n c L) (hk : Kept w w') : Pal w' A n c L :=
  ⟨h.1, h.2.1, h.2.2.1, h.2.2.2.1, h.2.2.2.2.imp id fun ⟨b, o, hA, hc⟩ => ⟨b, o, hA, fun j x hj => (hc j x hj).kept hk⟩⟩
theorem Pal.nil (w : World) : Pal w none 0 0 [] := ⟨rfl, Nat.le_refl _, Nat.zero_le _, fun _ => rfl, .inl rfl⟩
theorem Pal.len {w : World} {A : Option Addr} {n c : Nat} {L : List Pa} (h : Pal w A n c L) : L.length = n := h.1.symm
theorem Pal.cap {w : World} {A : Option Addr} {n c : Nat} {L : List Pa} (h : Pal w A n c L) : n ≤ c ∧ c ≤ 9223372036854775807 := ⟨h.2.1, h.2.2.1⟩
theorem Pal.get {w : World} {A : Option Addr} {n c : Nat} {L : List Pa} (h : Pal w A n c L) {k : Nat} (hk : k < n) :
    ∃ b o x, A = some ⟨b, o, none⟩ ∧ L[k]? = some x ∧ PaO w b (o + k * 6) x := by
  have hl : k < L.length := by rw [← h.1]; exact hk
  rcases h.2.2.2.2 with h0 | ⟨b, o, hA, hc⟩
  · omega
  · exact ⟨b, o, L[k], hA, List.getElem?_eq_getElem hl, hc k L[k] (List.getElem?_eq_getElem hl)⟩

/-- The cells. -/
def cellPa (x : Pa) : List Value := [.int .i64 x.f.k, .int .i64 x.f.n, .string x.f.t, .int .i64 x.t.k, .int .i64 x.t.n, .string x.t.t]
def flatPa (L : List Pa) : List Value := L.flatMap cellPa
theorem flatPa_nil : flatPa [] = [] := rfl
theorem flatPa_cons (x : Pa) (L : List Pa) : flatPa (x :: L) = cellPa x ++ flatPa L := rfl
theorem flatPa_app (L M : List Pa) : flatPa (L ++ M) = flatPa L ++ flatPa M := List.flatMap_append
theorem flatPa_len (L : List Pa) : (flatPa L).length = L.length * 6 := by
  induction L with
  | nil => rfl
  | cons x L ih => rw [flatPa_cons, List.length_append, List.length_cons, ih]; show 6 + _ = _; omega
theorem flatPa_one (L : List Pa) : ∀ u ∈ flatPa L, u.oneCell' = true := by
  intro u hu
  obtain ⟨x, _, hx⟩ := List.mem_flatMap.1 hu
  simp only [cellPa, List.mem_cons, List.not_mem_nil, or_false] at hx
  rcases hx with rfl | rfl | rfl | rfl | rfl | rfl <;> rfl
theorem flatPa_get : ∀ (L : List Pa) (j : Nat) (x : Pa), L[j]? = some x → ∀ i, i < 6 → (flatPa L)[j * 6 + i]? = (cellPa x)[i]?
  | [], j, x, h, _, _ => by simp at h
  | y :: L, 0, x, h, i, hi => by
    obtain rfl : y = x := by simpa using h
    rw [flatPa_cons, List.getElem?_append_left (by show 0 * 6 + i < 6; omega), Nat.zero_mul, Nat.zero_add]
  | y :: L, j + 1, x, h, i, hi => by
    have ih := flatPa_get L j x (by simpa using h) i hi
    rw [flatPa_cons, List.getElem?_append_right (by show 6 ≤ _; omega), ← ih]
    congr 1
    show (j + 1) * 6 + i - 6 = _
    omega
theorem flatPa_at : ∀ (L : List Pa) (i : Nat) (u : Value), (flatPa L)[i]? = some u → ∃ j x r, L[j]? = some x ∧ i = j * 6 + r ∧ r < 6 ∧ (cellPa x)[r]? = some u
  | [], i, u, h => by simp [flatPa_nil] at h
  | y :: L, i, u, h => by
    rw [flatPa_cons] at h
    by_cases hi : i < 6
    · rw [List.getElem?_append_left (by exact hi)] at h
      exact ⟨0, y, i, rfl, by omega, hi, h⟩
    · rw [List.getElem?_append_right (by show 6 ≤ i; omega)] at h
      obtain ⟨j, x, r, h1, h2, h3, h4⟩ := flatPa_at L (i - 6) u h
      exact ⟨j + 1, x, r, by simpa using h1, by omega, h3, h4⟩
theorem PaO.of_flat {w : World} {b o : Nat} {x : Pa} (h : ∀ i u, (cellPa x)[i]? = some u → w.cell? ⟨b, o + i, none⟩ = some u) : PaO w b o x :=
  ⟨h 0 _ rfl, h 1 _ rfl, h 2 _ rfl, h 3 _ rfl, h 4 _ rfl, h 5 _ rfl⟩
theorem PaO.flat {w : World} {b o : Nat} {x : Pa} (h : PaO w b o x) : ∀ i u, (cellPa x)[i]? = some u → w.cell? ⟨b, o + i, none⟩ = some u := by
  intro i u hu
  match i, hu with
  | 0, hu => obtain rfl := Option.some.inj hu; exact h.c0
  | 1, hu => obtain rfl := Option.some.inj hu; exact h.c1
  | 2, hu => obtain rfl := Option.some.inj hu; exact h.c2
  | 3, hu => obtain rfl := Option.some.inj hu; exact h.c3
  | 4, hu => obtain rfl := Option.some.inj hu; exact h.c4
  | 5, hu => obtain rfl := Option.some.inj hu; exact h.c5
  | i + 6, hu => simp [cellPa] at hu
theorem PaB.o {w : World} {b : Nat} {x : Pa} (h : PaB w b x) : PaO w b 0 x := ⟨h.c0, h.c1, h.c2, h.c3, h.c4, h.c5⟩
theorem Pal.of_own' {w : World} {base n : Nat} {e : TypeId} {v : Value} {L : List Pa} (h : w.ownsRow base e 6 v n (flatPa L)) : ∃ A c, v = .slice A n c ∧ Pal w A n c L ∧ ∀ ad, A = some ad → base ≤ ad.block := by
  have hl : n = L.length := by have := h.1; rw [flatPa_len] at this; omega
  have hc := fun g (hg : v.ownBlock = some g) => h.cells (g := g) hg
  have hlt := fun g (hg : v.ownBlock = some g) => h.lt g hg
  rcases h.2 with ⟨rfl, h0⟩ | ⟨g, cap, cur, rfl, hb, hg, h1, h2, _⟩
  · subst h0
    exact ⟨none, 0, rfl, ⟨hl, Nat.le_refl _, Nat.zero_le _, fun _ => rfl, .inl rfl⟩, fun ad he => by cases he⟩
  · refine ⟨some ⟨g, 0, none⟩, cap, rfl, ⟨hl, h1, h2, fun h => by simp at h, .inr ⟨g, 0, rfl, fun j x hj => ?_⟩⟩, fun ad he => by cases he; exact hb⟩
    refine PaO.of_flat fun i u hu => ?_
    have hi : i < 6 := (List.getElem?_eq_some_iff.1 hu).1
    have := hc g rfl _ u ((flatPa_get L j x hj i hi).trans hu)
    rw [Addr.add_lit, Nat.zero_add] at this
    rw [Nat.zero_add]
    exact this
theorem Pal.of_own {w : World} {base n : Nat} {e : TypeId} {v : Value} {L : List Pa} (h : w.ownsRow base e 6 v n (flatPa L)) : ∃ A c, v = .slice A n c ∧ Pal w A n c L := by
  obtain ⟨A, c, h1, h2, _⟩ := Pal.of_own' h
  exact ⟨A, c, h1, h2⟩
theorem info_pa : (Tryd.prog.info? 44).map (fun i => (i.zero, i.size, i.bytes)) = some (some (.agg #[.int .i64 0, .int .i64 0, .string ⟨#[]⟩, .int .i64 0, .int .i64 0, .string ⟨#[]⟩]), 6, 64) := by kernel_rfl
theorem app_pas (w : World) (base : Nat) (v : Value) (n : Nat) (xs : List Value) (h : w.ownsRow base 44 6 v n xs) (A : Option Addr) (m c : Nat) (L : List Pa) (hs : Pal w A m c L) (hb : n + m ≤ 1000000000) (hbase : base ≤ w.heap.size) :
    ∃ v' w', (Builtin.append_ #[22, 22] 22 #[v, .slice A m c]).run Tryd.prog w = .ok v' w' ∧ w'.ownsRow base 44 6 v' (n + m) (xs ++ flatPa L) ∧ w.grownBy w' v.ownBlock ∧ (v'.ownBlock = v.ownBlock ∨ v'.ownBlock = some w.heap.size) := by
  obtain ⟨i0, hi0, hz0, hz1, hz2⟩ := info_parts info_pa
  cases A with
  | none =>
    obtain rfl := hs.2.2.2.1 rfl
    obtain rfl : m = 0 := by have := hs.2.1; omega
    have hL : L = [] := List.eq_nil_of_length_eq_zero hs.1.symm
    subst hL
    exact ⟨v, w, run_append_owned_none w base _ _ _ i0 6 Tryd.underlying22 hi0 v n xs h, by simpa [flatPa_nil] using h, World.grownBy.refl w _, .inl rfl⟩
  | some ad =>
    obtain ⟨v', w', hr, ho, hg, _, hat⟩ := run_append_own_at (P := Tryd.prog) w base 22 22 44 i0 (.agg #[.int .i64 0, .int .i64 0, .string ⟨#[]⟩, .int .i64 0, .int .i64 0, .string ⟨#[]⟩]) 6 64 Tryd.underlying22 hi0 hz0 hz1 hz2 rfl (by decide) v n xs h ad m c (flatPa L)
      (by rw [flatPa_len, hs.1]) (fun j u hj => by
        obtain ⟨k, x, r, hk, rfl, hr9, hu⟩ := flatPa_at L j u hj
        have hkl := (List.getElem?_eq_some_iff.1 hk).1
        obtain ⟨b, o, y, hA, hy, hc⟩ := hs.get (k := k) (by rw [hs.1]; exact hkl)
        obtain rfl : y = x := Option.some.inj (hy.symm.trans hk)
        obtain rfl := Option.some.inj hA
        rw [Addr.add_lit, ← Nat.add_assoc]
        exact hc.flat r u hu) (flatPa_one _) (by simp only [maxLen]; omega) (by omega) hbase
    exact ⟨v', w', hr, ho, hg, hat⟩
/-- A row of entries that a call makes; U: what is left alone. -/
structure OutPa (U wr : World) (v : Value) (L : List Pa) : Prop where
  own : wr.ownsRow U.heap.size 44 6 v L.length (flatPa L)
  ke : Kept U wr
theorem OutPa.start (U : World) : OutPa U U (.slice none 0 0) [] := ⟨World.ownsRow_nil _ _ _ _, Kept.refl _⟩
theorem OutPa.kept {U wr w' : World} {v : Value} {L : List Pa} (h : OutPa U wr v L) (hk : Kept wr w') : OutPa U w' v L := ⟨own_kept h.own hk, h.ke.trans hk⟩
theorem OutPa.form {U wr : World} {v : Value} {L : List Pa} (h : OutPa U wr v L) : ∃ A c, v = .slice A L.length c ∧ Pal wr A L.length c L ∧ (∀ ad, A = some ad → U.heap.size ≤ ad.block) ∧ L.length ≤ c ∧ c ≤ 9223372036854775807 := by
  obtain ⟨A, c, h1, h2, h3⟩ := Pal.of_own' h.own
  exact ⟨A, c, h1, h2, h3, h2.cap.1, h2.cap.2⟩
theorem OutPa.app {U wr : World} {v : Value} {L : List Pa} (h : OutPa U wr v L) (A : Option Addr) (m c : Nat) (M : List Pa) (hs : Pal wr A m c M) (hb : L.length + m ≤ 1000000000) :
    ∃ v' w', (Builtin.append_ #[22, 22] 22 #[v, .slice A m c]).run Tryd.prog wr = .ok v' w' ∧ OutPa U w' v' (L ++ M) := by
  obtain ⟨v', w', hr, ho, hg, _⟩ := app_pas wr U.heap.size v L.length (flatPa L) h.own A m c M hs hb h.ke.2.2
  refine ⟨v', w', hr, ?_, kept_grown h.ke hg fun k hk => (h.own.lt k hk).1⟩
  rw [List.length_append, flatPa_app, ← hs.1]
  exact ho
theorem pa_one {w : World} {x : Pa} {b : Nat} (h : PaB w b x) : Pal w (some ⟨b, 0, none⟩) 1 1 [x] := by
  refine ⟨rfl, Nat.le_refl _, by simp [maxLen], (fun h => by cases h), .inr ⟨b, 0, rfl, fun j y hj => ?_⟩⟩
  match j, hj with
  | 0, hj =>
    obtain rfl : x = y := by simpa using hj
    exact h.o
  | j + 1, hj => simp at hj

theorem size_pa (W : World) : (Go.sizeOf (Tryd.prog.elem 22)).run Tryd.prog W = .ok 6 W := by kernel_rfl
theorem pa_head {w : World} {A : Option Addr} {n c k : Nat} {L : List Pa} (h : Pal w A n c L) (hk : k ≤ n) {c' : Nat} (hc : k ≤ c') (hc2 : c' ≤ c) : Pal w A k c' (L.take k) := by
  obtain ⟨h1, h2, h3, h4, h5⟩ := h
  refine ⟨by rw [List.length_take]; omega, hc, by omega, fun e => by have := h4 e; omega, ?_⟩
  rcases h5 with h0 | ⟨b, o, hA, hc⟩
  · exact .inl (by omega)
  · refine .inr ⟨b, o, hA, fun j x hj => hc j x ?_⟩
    rw [List.getElem?_take] at hj
    split at hj
    · exact hj
    · cases hj
theorem pa_tail {w : World} {A : Option Addr} {n c k : Nat} {L : List Pa} (h : Pal w A n c L) (hk : k ≤ n) : ∃ A2, Pal w A2 (n - k) (c - k) (L.drop k) ∧
    (∀ W : World, (Instr.slice 22 (.slice A n c) (some (.int .i64 (k : Int))) none none).run Tryd.prog W = .ok (.slice A2 (n - k) (c - k)) W) ∧
    (∀ W : World, (Instr.sliceAt 22 (.slice A n c) (some (.int .i64 (k : Int))) none none).run Tryd.prog W = .ok (.slice A2 (n - k) (c - k)) W) := by
  obtain ⟨h1, h2, h3, h4, h5⟩ := h
  have hr : ∀ W : World, (Instr.slice 22 (.slice A n c) (some (.int .i64 (k : Int))) none none).run Tryd.prog W = .ok (.slice (if c = k then A else A.map (·.add (k * 6))) (n - k) (c - k)) W := fun W => by
    rw [run_slice_l W 22 _ n c (by kernel_rfl) .i64 (k : Int) (by omega) (by omega), size_pa]
    simp only [Result.andThen, sliced, Int.toNat_natCast]
  refine ⟨_, ?_, hr, fun W => by rw [run_sliceAt_slice W _ _ _ _ _ (by kernel_rfl)]; exact hr W⟩
  refine ⟨by rw [List.length_drop]; omega, by omega, by omega, fun he => ?_, ?_⟩
  · by_cases hc : c = k
    · omega
    · rw [if_neg hc, Option.map_eq_none_iff] at he
      have := h4 he
      omega
  · rcases h5 with h0 | ⟨b, o, hA, hc⟩
    · exact .inl (by omega)
    · by_cases hkn : k = n
      · exact .inl (by omega)
      · refine .inr ⟨b, o + k * 6, ?_, fun j x hj => ?_⟩
        · rw [if_neg (by omega), hA, Option.map_some, Addr.add_lit]
        · rw [List.getElem?_drop] at hj
          have := hc _ x hj
          rw [show o + k * 6 + j * 6 = o + (k + j) * 6 by omega]
          exact this
end Go.Proofs.YtjcnjmlgedmmoaaDoor

namespace Go.Proofs.YtjcnjmlgedmmoaaDoor
open Go.RowKit
set_option linter.unusedVariables false

/-- What is found. -/
def sideR (rt : Bool) (p : Pa) : Va := if rt then p.t else p.f
def firstR (L : List Pa) (v : Va) (rt : Bool) : Pa × Bool := match L.find? (fun p => decide (sideR rt p = v)) with
  | some p => (p, true)
  | none => (.none, false)
theorem firstR_F (L : List Pa) (v : Va) : firstR L v false = match fstF L v with
  | some p => (p, true)
  | none => (.none, false) := rfl
theorem firstR_T (L : List Pa) (v : Va) : firstR L v true = match fstT L v with
  | some p => (p, true)
  | none => (.none, false) := rfl
theorem firstR_at {L : List Pa} {v : Va} {rt : Bool} {t : Nat} {x : Pa} (hx : L[t]? = some x) (hm : sideR rt x = v) (hall : ∀ y ∈ L.take t, sideR rt y ≠ v) : firstR L v rt = (x, true) := by
  have e : L.find? (fun p => decide (sideR rt p = v)) = some x := by
    obtain ⟨h1, h2⟩ := List.getElem?_eq_some_iff.1 hx
    have hs : L = L.take t ++ x :: L.drop (t + 1) := by
      have := List.drop_eq_getElem_cons h1
      rw [h2] at this
      rw [← this, List.take_append_drop]
    rw [hs, List.find?_append, List.find?_eq_none.2 (fun y hy => by simpa using hall y hy), Option.none_or, List.find?_cons_of_pos (by simpa using hm)]
  unfold firstR
  rw [e]
theorem firstR_no {L : List Pa} {v : Va} {rt : Bool} (hall : ∀ y ∈ L, sideR rt y ≠ v) : firstR L v rt = (.none, false) := by
  unfold firstR
  rw [List.find?_eq_none.2 (fun y hy => by simpa using hall y hy)]
theorem tvs_eq {a b : ByteArray} (h : (a.toList == b.toList) = true) : a = b := by
  rw [beq_iff_eq, Lib.toList_data, Lib.toList_data] at h
  exact ba_ext h
theorem va_eq {x y : Va} (h : x = y) : (x.k == y.k) = true ∧ (x.n == y.n) = true ∧ (x.t.toList == y.t.toList) = true := by subst h; simp
theorem va_of {x y : Va} (h0 : (x.k == y.k) = true) (h1 : (x.n == y.n) = true) (h2 : (x.t.toList == y.t.toList) = true) : x = y := by
  obtain ⟨k, n, t⟩ := x
  obtain ⟨k', n', t'⟩ := y
  have e := tvs_eq h2
  simp only [beq_iff_eq] at h0 h1 e
  subst h0 h1 e
  rfl
theorem va_ne {x y : Va} (h : x ≠ y) : (x.k == y.k) = false ∨ ((x.k == y.k) = true ∧ (x.n == y.n) = false) ∨ ((x.k == y.k) = true ∧ (x.n == y.n) = true ∧ (x.t.toList == y.t.toList) = false) := by
  by_cases h0 : (x.k == y.k) = true
  case neg => exact .inl (by rw [← Bool.not_eq_true]; exact h0)
  by_cases h1 : (x.n == y.n) = true
  case neg => exact .inr (.inl ⟨h0, by rw [← Bool.not_eq_true]; exact h1⟩)
  exact .inr (.inr ⟨h0, h1, by rw [← Bool.not_eq_true]; exact fun h2 => h (va_of h0 h1 h2)⟩)
/-- A value in a block of its own. -/
structure VaO (w : World) (b : Nat) (v : Va) : Prop where
  c0 : w.cell? ⟨b, 0, none⟩ = some (.int .i64 v.k)
  c1 : w.cell? ⟨b, 1, none⟩ = some (.int .i64 v.n)
  c2 : w.cell? ⟨b, 2, none⟩ = some (.string v.t)
  f : ∀ j, w.frozen? ⟨b, j, none⟩ = false
  lt : b < w.heap.size
theorem VaO.kept {w w' : World} {b : Nat} {v : Va} (h : VaO w b v) (hg : Kept w w') : VaO w' b v :=
  ⟨hg.cell h.c0, hg.cell h.c1, hg.cell h.c2, fun j => (hg.2.1 ⟨b, j, none⟩ h.lt).trans (h.f j), Nat.lt_of_lt_of_le h.lt hg.2.2⟩
theorem VaO.new (w : World) (v : Va) (ty : TypeId) : VaO (w.alloc (.cells #[.int .i64 v.k, .int .i64 v.n, .string v.t] ty)) w.heap.size v :=
  ⟨(Kept.refl _).box 0 _ rfl, (Kept.refl _).box 1 _ rfl, (Kept.refl _).box 2 _ rfl, fun j => by rw [frozen?_alloc_cells]; simp [World.frozen?], by simp⟩
set_option maxRecDepth 100000 in
set_option maxHeartbeats 8000000 in
theorem rfirst_any (A : Option Addr) (n c : Nat) (L : List Pa) (v : Va) (rt : Bool) (w : World) (h : Pal w A n c L) (y : Pa) (z : Bool) (hyz : firstR L v rt = (y, z)) :
    Calls Tryd.prog 42 #[.slice A n c, .agg #[.int .i64 v.k, .int .i64 v.n, .string v.t], .bool rt] w fun e w' => e = .returned (.tuple #[.agg #[.int .i64 y.f.k, .int .i64 y.f.n, .string y.f.t, .int .i64 y.t.k, .int .i64 y.t.n, .string y.t.t], .bool z]) ∧ Kept w w' := by
  have hk := ((Kept.refl w).alloc #[.int .i64 v.k, .int .i64 v.n, .string v.t] 24).alloc #[.int .i64 0, .int .i64 0, .string ⟨#[]⟩, .int .i64 0, .int .i64 0, .string ⟨#[]⟩] 44
  have hcap := h.cap.1; have hcap2 := h.cap.2
  have HNL := Lib.hid h.1; have HY := Lib.hid hyz
  have hv := (VaO.new w v 24).kept ((Kept.refl _).alloc #[.int .i64 0, .int .i64 0, .string ⟨#[]⟩, .int .i64 0, .int .i64 0, .string ⟨#[]⟩] 44)
  have hr := PaB.new (w.alloc (.cells #[.int .i64 v.k, .int .i64 v.n, .string v.t] 24)) .none 44
  simp only [Pa.none, Va.zero] at hr
  rw [show (w.alloc (.cells #[.int .i64 v.k, .int .i64 v.n, .string v.t] 24)).heap.size = w.heap.size + 1 by simp] at hr
  have hh := h.kept hk
  obtain ⟨U, hU⟩ : ∃ U, (w.alloc (.cells #[.int .i64 v.k, .int .i64 v.n, .string v.t] 24)).alloc (.cells #[.int .i64 0, .int .i64 0, .string ⟨#[]⟩, .int .i64 0, .int .i64 0, .string ⟨#[]⟩] 44) = U := ⟨_, rfl⟩
  rw [hU] at hk hv hh hr
  have HK := Lib.hid hk; have HUU := Lib.hid hU; have HRES := Lib.hid hr; have HV := Lib.hid hv; have HH := Lib.hid hh
  clear h hyz hk hU hr hv hh
  go_enter Tryd.func42, Tryd.ntmps42
  go_wp2_with fail
  rw [HUU.out]
  go_loopw [12] (fun i wr => ∃ t : Nat, t ≤ n ∧ i = .int .i64 t ∧ Kept U wr ∧ ∀ x ∈ L.take t, sideR rt x ≠ v) (fun i _ => n - (intOf i).toNat)
  case atStart => exact ⟨0, Nat.zero_le _, rfl, Kept.refl _, fun x hx => by simp at hx⟩
  case round =>
    obtain ⟨t, ht, rfl, hkr, hall⟩ := hrel
    have HKR := Lib.hid hkr; have HA := Lib.hid hall
    clear hkr hall
    by_cases hlt : t < n
    · obtain ⟨g, o, x, rfl, hx, EX⟩ := (HH.out.kept HKR.out).get hlt
      have x0 := EX.c0; have x1 := EX.c1; have x2 := EX.c2; have x3 := EX.c3; have x4 := EX.c4; have x5 := EX.c5
      have HXX := Lib.hid hx
      have hka := (Kept.refl wr).alloc #[.int .i64 x.f.k, .int .i64 x.f.n, .string x.f.t, .int .i64 x.t.k, .int .i64 x.t.n, .string x.t.t] 44
      have hE := PaB.new wr x 44
      have HKA := Lib.hid (HKR.out.trans hka)
      have e0 := hE.c0; have e1 := hE.c1; have e2 := hE.c2; have e3 := hE.c3; have e4 := hE.c4; have e5 := hE.c5
      have hv2 := HV.out.kept HKA.out
      have v0 := hv2.c0; have v1 := hv2.c1; have v2 := hv2.c2
      have hr := HRES.out.kept HKA.out
      have rf := hr.f
      have r0 := hr.c0; have r1 := hr.c1; have r2 := hr.c2; have r3 := hr.c3; have r4 := hr.c4; have r5 := hr.c5
      clear EX hx hka hE hv2 hr
      cases rt with
      | true =>
        by_cases hq : x.t = v
        · have hyz := HY.out
          rw [firstR_at HXX.out (show sideR true x = v from hq) HA.out] at hyz
          obtain ⟨rfl, rfl⟩ := Prod.mk.inj hyz
          obtain ⟨q0, q1, q2⟩ := va_eq hq
          clear hyz hq
          go_wp2_with fail
          refine bodyPost_ret (by simp [results, Tryd.results42, go_sem, *]) rfl ⟨rfl, ?_⟩
          exact ((((((HK.out.trans HKA.out).setCell (Nat.le_add_right _ 1) _).setCell (Nat.le_add_right _ 1) _).setCell (Nat.le_add_right _ 1) _).setCell (Nat.le_add_right _ 1) _).setCell (Nat.le_add_right _ 1) _).setCell (Nat.le_add_right _ 1) _
        · have hne := va_ne hq
          have HN := Lib.hid (show ∀ y ∈ L.take (t + 1), sideR true y ≠ v from fun y hy => by
            rw [List.take_add_one, HXX.out, Option.toList_some, List.mem_append, List.mem_singleton] at hy
            rcases hy with hy | rfl
            · exact HA.out y hy
            · exact hq)
          clear hq rf r0 r1 r2 r3 r4 r5
          rcases hne with q0 | ⟨q0, q1⟩ | ⟨q0, q1, q2⟩ <;>
          · go_wp2_with fail
            go_roundw
            case rel => exact ⟨t + 1, hlt, by go_num, HKA.out, HN.out⟩
            case measure => simp [intOf]; omega
      | false =>
        by_cases hq : x.f = v
        · have hyz := HY.out
          rw [firstR_at HXX.out (show sideR false x = v from hq) HA.out] at hyz
          obtain ⟨rfl, rfl⟩ := Prod.mk.inj hyz
          obtain ⟨q0, q1, q2⟩ := va_eq hq
          clear hyz hq
          go_wp2_with fail
          refine bodyPost_ret (by simp [results, Tryd.results42, go_sem, *]) rfl ⟨rfl, ?_⟩
          exact ((((((HK.out.trans HKA.out).setCell (Nat.le_add_right _ 1) _).setCell (Nat.le_add_right _ 1) _).setCell (Nat.le_add_right _ 1) _).setCell (Nat.le_add_right _ 1) _).setCell (Nat.le_add_right _ 1) _).setCell (Nat.le_add_right _ 1) _
        · have hne := va_ne hq
          have HN := Lib.hid (show ∀ y ∈ L.take (t + 1), sideR false y ≠ v from fun y hy => by
            rw [List.take_add_one, HXX.out, Option.toList_some, List.mem_append, List.mem_singleton] at hy
            rcases hy with hy | rfl
            · exact HA.out y hy
            · exact hq)
          clear hq rf r0 r1 r2 r3 r4 r5
          rcases hne with q0 | ⟨q0, q1⟩ | ⟨q0, q1, q2⟩ <;>
          · go_wp2_with fail
            go_roundw
            case rel => exact ⟨t + 1, hlt, by go_num, HKA.out, HN.out⟩
            case measure => simp [intOf]; omega
    · obtain rfl : t = n := by omega
      have hyz := HY.out
      rw [firstR_no (fun y hy => HA.out y (by rw [List.take_of_length_le (by rw [← HNL.out]; exact Nat.le_refl _)]; exact hy))] at hyz
      obtain ⟨rfl, rfl⟩ := Prod.mk.inj hyz
      have hr := HRES.out.kept HKR.out
      have rf := hr.f
      have r0 := hr.c0; have r1 := hr.c1; have r2 := hr.c2; have r3 := hr.c3; have r4 := hr.c4; have r5 := hr.c5
      clear hyz hr
      go_wp2_with fail
      refine bodyPost_ret (by simp [results, Tryd.results42, go_sem, Pa.none, Va.zero, *]) rfl ⟨rfl, ?_⟩
      exact ((((((HK.out.trans HKR.out).setCell (Nat.le_add_right _ 1) _).setCell (Nat.le_add_right _ 1) _).setCell (Nat.le_add_right _ 1) _).setCell (Nat.le_add_right _ 1) _).setCell (Nat.le_add_right _ 1) _).setCell (Nat.le_add_right _ 1) _
end Go.Proofs.YtjcnjmlgedmmoaaDoor

