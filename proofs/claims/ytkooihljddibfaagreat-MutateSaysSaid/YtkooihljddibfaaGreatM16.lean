/-
  What is proved: words for memory that layer 8's contracts use: a slice of entries that lies in memory ('El'), its head and its tail, append of such, or of one, onto a row of the call's own; what a world that has all that another one has keeps of it.
  slices.BinarySearchFunc at entries, with entry.Cmp, called with any slice of entries that rise and any entry, returns its dot's place and whether an entry with that dot is there; so do find and Get of package store (P8.2), called with any state whose entries rise and any dot; the world has new blocks at most.
  the helper Same of layer 5's laws returns true of two slices that hold the same dots; it draws alone.
  slices.Clone at ints, slices.Equal at ints and at dots, as the library's text has them; Same (P6.10) and higher (the greater number of each replica) of package ctx; the world has new blocks at most.
-/
import Derived.Test.YtkooihljddibfaaGreatM13
import Derived.Test.YtkooihljddibfaaGreatERight
import Derived.Test.YtkooihljddibfaaGreatRow
import Derived.BigQuiet
import Derived.Test.YtkooihljddibfaaGreatM6
import Derived.WalkSpells
import Derived.WalkLawsBesides
import Derived.LoopTactic
import Derived.Outline
import Derived.Deep.QuietTactic
import Derived.Test.YtkooihljddibfaaGreatM7
import Derived.IntWalk
namespace Go.Proofs.YtkooihljddibfaaGreat
open Go.RowKit

/-- What an event left, in the nine cells from o on. -/
structure EntO (w : World) (b o : Nat) (x : En) : Prop where
  c0 : w.cell? ⟨b, o, none⟩ = some (.int .i64 x.d.1)
  c1 : w.cell? ⟨b, o + 1, none⟩ = some (.int .i64 x.d.2)
  c2 : w.cell? ⟨b, o + 2, none⟩ = some (.string x.p)
  c3 : w.cell? ⟨b, o + 3, none⟩ = some (.int .i64 x.k)
  c4 : w.cell? ⟨b, o + 4, none⟩ = some (.int .i64 x.vk)
  c5 : w.cell? ⟨b, o + 5, none⟩ = some (.int .i64 x.vn)
  c6 : w.cell? ⟨b, o + 6, none⟩ = some (.string x.vt)
  c7 : w.cell? ⟨b, o + 7, none⟩ = some (.int .i64 x.e.1)
  c8 : w.cell? ⟨b, o + 8, none⟩ = some (.int .i64 x.e.2)
theorem EntO.kept {w w' : World} {b o : Nat} {x : En} (h : EntO w b o x) (hg : Kept w w') : EntO w' b o x :=
  ⟨hg.cell h.c0, hg.cell h.c1, hg.cell h.c2, hg.cell h.c3, hg.cell h.c4, hg.cell h.c5, hg.cell h.c6, hg.cell h.c7, hg.cell h.c8⟩
def El (w : World) (A : Option Addr) (n c : Nat) (L : List En) : Prop :=
  n = L.length ∧ n ≤ c ∧ c ≤ maxLen ∧ (A = none → c = 0) ∧ (n = 0 ∨ ∃ b o, A = some ⟨b, o, none⟩ ∧ ∀ j x, L[j]? = some x → EntO w b (o + j * 9) x)
theorem El.kept {w w' : World} {A : Option Addr} {n c : Nat} {L : List En} (h : El w A n c L) (hk : Kept w w') : El w' A n c L :=
  ⟨h.1, h.2.1, h.2.2.1, h.2.2.2.1, h.2.2.2.2.imp id fun ⟨b, o, hA, hc⟩ => ⟨b, o, hA, fun j x hj => (hc j x hj).kept hk⟩⟩
theorem El.nil (w : World) : El w none 0 0 [] := ⟨rfl, Nat.le_refl _, Nat.zero_le _, fun _ => rfl, .inl rfl⟩
theorem El.len {w : World} {A : Option Addr} {n c : Nat} {L : List En} (h : El w A n c L) : L.length = n := h.1.symm
theorem El.cap {w : World} {A : Option Addr} {n c : Nat} {L : List En} (h : El w A n c L) : n ≤ c ∧ c ≤ 9223372036854775807 := ⟨h.2.1, h.2.2.1⟩
theorem El.get {w : World} {A : Option Addr} {n c : Nat} {L : List En} (h : El w A n c L) {k : Nat} (hk : k < n) :
    ∃ b o x, A = some ⟨b, o, none⟩ ∧ L[k]? = some x ∧ EntO w b (o + k * 9) x := by
  have hl : k < L.length := by rw [← h.1]; exact hk
  rcases h.2.2.2.2 with h0 | ⟨b, o, hA, hc⟩
  · omega
  · exact ⟨b, o, L[k], hA, List.getElem?_eq_getElem hl, hc k L[k] (List.getElem?_eq_getElem hl)⟩

/-- The cells of entries. -/
def cellE (x : En) : List Value := [.int .i64 x.d.1, .int .i64 x.d.2, .string x.p, .int .i64 x.k, .int .i64 x.vk, .int .i64 x.vn, .string x.vt, .int .i64 x.e.1, .int .i64 x.e.2]
def flatE (L : List En) : List Value := L.flatMap cellE
theorem flatE_nil : flatE [] = [] := rfl
theorem flatE_cons (x : En) (L : List En) : flatE (x :: L) = cellE x ++ flatE L := rfl
theorem flatE_app (L M : List En) : flatE (L ++ M) = flatE L ++ flatE M := List.flatMap_append
theorem flatE_len (L : List En) : (flatE L).length = L.length * 9 := by
  induction L with
  | nil => rfl
  | cons x L ih => rw [flatE_cons, List.length_append, List.length_cons, ih]; show 9 + _ = _; omega
theorem flatE_one (L : List En) : ∀ u ∈ flatE L, u.oneCell' = true := by
  intro u hu
  obtain ⟨x, _, hx⟩ := List.mem_flatMap.1 hu
  simp only [cellE, List.mem_cons, List.not_mem_nil, or_false] at hx
  rcases hx with rfl | rfl | rfl | rfl | rfl | rfl | rfl | rfl | rfl <;> rfl
theorem flatE_get : ∀ (L : List En) (j : Nat) (x : En), L[j]? = some x → ∀ i, i < 9 → (flatE L)[j * 9 + i]? = (cellE x)[i]?
  | [], j, x, h, _, _ => by simp at h
  | y :: L, 0, x, h, i, hi => by
    obtain rfl : y = x := by simpa using h
    rw [flatE_cons, List.getElem?_append_left (by show 0 * 9 + i < 9; omega), Nat.zero_mul, Nat.zero_add]
  | y :: L, j + 1, x, h, i, hi => by
    have ih := flatE_get L j x (by simpa using h) i hi
    rw [flatE_cons, List.getElem?_append_right (by show 9 ≤ _; omega), ← ih]
    congr 1
    show (j + 1) * 9 + i - 9 = _
    omega
theorem flatE_at : ∀ (L : List En) (i : Nat) (u : Value), (flatE L)[i]? = some u → ∃ j x r, L[j]? = some x ∧ i = j * 9 + r ∧ r < 9 ∧ (cellE x)[r]? = some u
  | [], i, u, h => by simp [flatE_nil] at h
  | y :: L, i, u, h => by
    rw [flatE_cons] at h
    by_cases hi : i < 9
    · rw [List.getElem?_append_left (by exact hi)] at h
      exact ⟨0, y, i, rfl, by omega, hi, h⟩
    · rw [List.getElem?_append_right (by show 9 ≤ i; omega)] at h
      obtain ⟨j, x, r, h1, h2, h3, h4⟩ := flatE_at L (i - 9) u h
      exact ⟨j + 1, x, r, by simpa using h1, by omega, h3, h4⟩
theorem EntO.of_flat {w : World} {b o : Nat} {x : En} (h : ∀ i u, (cellE x)[i]? = some u → w.cell? ⟨b, o + i, none⟩ = some u) : EntO w b o x :=
  ⟨h 0 _ rfl, h 1 _ rfl, h 2 _ rfl, h 3 _ rfl, h 4 _ rfl, h 5 _ rfl, h 6 _ rfl, h 7 _ rfl, h 8 _ rfl⟩
theorem EntO.flat {w : World} {b o : Nat} {x : En} (h : EntO w b o x) : ∀ i u, (cellE x)[i]? = some u → w.cell? ⟨b, o + i, none⟩ = some u := by
  intro i u hu
  match i, hu with
  | 0, hu => obtain rfl := Option.some.inj hu; exact h.c0
  | 1, hu => obtain rfl := Option.some.inj hu; exact h.c1
  | 2, hu => obtain rfl := Option.some.inj hu; exact h.c2
  | 3, hu => obtain rfl := Option.some.inj hu; exact h.c3
  | 4, hu => obtain rfl := Option.some.inj hu; exact h.c4
  | 5, hu => obtain rfl := Option.some.inj hu; exact h.c5
  | 6, hu => obtain rfl := Option.some.inj hu; exact h.c6
  | 7, hu => obtain rfl := Option.some.inj hu; exact h.c7
  | 8, hu => obtain rfl := Option.some.inj hu; exact h.c8
  | i + 9, hu => simp [cellE] at hu
theorem Ent.entO {w : World} {b : Nat} {x : En} (h : Ent w b x) : EntO w b 0 x := ⟨h.c0, h.c1, h.c2, h.c3, h.c4, h.c5, h.c6, h.c7, h.c8⟩
theorem El.of_own' {w : World} {base n : Nat} {e : TypeId} {v : Value} {L : List En} (h : w.ownsRow base e 9 v n (flatE L)) : ∃ A c, v = .slice A n c ∧ El w A n c L ∧ ∀ ad, A = some ad → base ≤ ad.block := by
  have hl : n = L.length := by have := h.1; rw [flatE_len] at this; omega
  have hc := fun g (hg : v.ownBlock = some g) => h.cells (g := g) hg
  have hlt := fun g (hg : v.ownBlock = some g) => h.lt g hg
  rcases h.2 with ⟨rfl, h0⟩ | ⟨g, cap, cur, rfl, hb, hg, h1, h2, _⟩
  · subst h0
    exact ⟨none, 0, rfl, ⟨hl, Nat.le_refl _, Nat.zero_le _, fun _ => rfl, .inl rfl⟩, fun ad he => by cases he⟩
  · refine ⟨some ⟨g, 0, none⟩, cap, rfl, ⟨hl, h1, h2, fun h => by simp at h, .inr ⟨g, 0, rfl, fun j x hj => ?_⟩⟩, fun ad he => by cases he; exact hb⟩
    refine EntO.of_flat fun i u hu => ?_
    have hi : i < 9 := (List.getElem?_eq_some_iff.1 hu).1
    have := hc g rfl _ u ((flatE_get L j x hj i hi).trans hu)
    rw [Addr.add_lit, Nat.zero_add] at this
    rw [Nat.zero_add]
    exact this
theorem El.of_own {w : World} {base n : Nat} {e : TypeId} {v : Value} {L : List En} (h : w.ownsRow base e 9 v n (flatE L)) : ∃ A c, v = .slice A n c ∧ El w A n c L := by
  obtain ⟨A, c, h1, h2, _⟩ := El.of_own' h
  exact ⟨A, c, h1, h2⟩
theorem infoEn : (Tryz.prog.info? 34).map (fun i => (i.zero, i.size, i.bytes)) = some (some (.agg #[.int .i64 0, .int .i64 0, .string ⟨#[]⟩, .int .i64 0, .int .i64 0, .int .i64 0, .string ⟨#[]⟩, .int .i64 0, .int .i64 0]), 9, 88) := by kernel_rfl
theorem app_ens (w : World) (base : Nat) (v : Value) (n : Nat) (xs : List Value) (h : w.ownsRow base 34 9 v n xs) (A : Option Addr) (m c : Nat) (L : List En) (hs : El w A m c L) (hb : n + m ≤ 1000000000) (hbase : base ≤ w.heap.size) :
    ∃ v' w', (Builtin.append_ #[22, 22] 22 #[v, .slice A m c]).run Tryz.prog w = .ok v' w' ∧ w'.ownsRow base 34 9 v' (n + m) (xs ++ flatE L) ∧ w.grownBy w' v.ownBlock ∧ (v'.ownBlock = v.ownBlock ∨ v'.ownBlock = some w.heap.size) := by
  obtain ⟨i0, hi0, hz0, hz1, hz2⟩ := info_parts infoEn
  cases A with
  | none =>
    obtain rfl := hs.2.2.2.1 rfl
    obtain rfl : m = 0 := by have := hs.2.1; omega
    have hL : L = [] := List.eq_nil_of_length_eq_zero hs.1.symm
    subst hL
    exact ⟨v, w, run_append_owned_none w base _ _ _ i0 9 Tryz.underlying22 hi0 v n xs h, by simpa [flatE_nil] using h, World.grownBy.refl w _, .inl rfl⟩
  | some ad =>
    obtain ⟨v', w', hr, ho, hg, _, hat⟩ := run_append_own_at (P := Tryz.prog) w base 22 22 34 i0 (.agg #[.int .i64 0, .int .i64 0, .string ⟨#[]⟩, .int .i64 0, .int .i64 0, .int .i64 0, .string ⟨#[]⟩, .int .i64 0, .int .i64 0]) 9 88 Tryz.underlying22 hi0 hz0 hz1 hz2 rfl (by decide) v n xs h ad m c (flatE L)
      (by rw [flatE_len, hs.1]) (fun j u hj => by
        obtain ⟨k, x, r, hk, rfl, hr9, hu⟩ := flatE_at L j u hj
        have hkl := (List.getElem?_eq_some_iff.1 hk).1
        obtain ⟨b, o, y, hA, hy, hc⟩ := hs.get (k := k) (by rw [hs.1]; exact hkl)
        obtain rfl : y = x := Option.some.inj (hy.symm.trans hk)
        obtain rfl := Option.some.inj hA
        rw [Addr.add_lit, ← Nat.add_assoc]
        exact hc.flat r u hu) (flatE_one _) (by simp only [maxLen]; omega) (by omega) hbase
    exact ⟨v', w', hr, ho, hg, hat⟩
/-- A row of entries that a call makes; U: what is left alone. -/
structure OutE (U wr : World) (v : Value) (L : List En) : Prop where
  own : wr.ownsRow U.heap.size 34 9 v L.length (flatE L)
  ke : Kept U wr
theorem OutE.start (U : World) : OutE U U (.slice none 0 0) [] := ⟨World.ownsRow_nil _ _ _ _, Kept.refl _⟩
theorem OutE.kept {U wr w' : World} {v : Value} {L : List En} (h : OutE U wr v L) (hk : Kept wr w') : OutE U w' v L := ⟨own_kept h.own hk, h.ke.trans hk⟩
theorem OutE.form {U wr : World} {v : Value} {L : List En} (h : OutE U wr v L) : ∃ A c, v = .slice A L.length c ∧ El wr A L.length c L ∧ (∀ ad, A = some ad → U.heap.size ≤ ad.block) ∧ L.length ≤ c ∧ c ≤ 9223372036854775807 := by
  obtain ⟨A, c, h1, h2, h3⟩ := El.of_own' h.own
  exact ⟨A, c, h1, h2, h3, h2.cap.1, h2.cap.2⟩
theorem OutE.app {U wr : World} {v : Value} {L : List En} (h : OutE U wr v L) (A : Option Addr) (m c : Nat) (M : List En) (hs : El wr A m c M) (hb : L.length + m ≤ 1000000000) :
    ∃ v' w', (Builtin.append_ #[22, 22] 22 #[v, .slice A m c]).run Tryz.prog wr = .ok v' w' ∧ OutE U w' v' (L ++ M) := by
  obtain ⟨v', w', hr, ho, hg, _⟩ := app_ens wr U.heap.size v L.length (flatE L) h.own A m c M hs hb h.ke.2.2
  refine ⟨v', w', hr, ?_, kept_grown h.ke hg fun k hk => (h.own.lt k hk).1⟩
  rw [List.length_append, flatE_app, ← hs.1]
  exact ho
theorem el_one {w : World} {x : En} {b : Nat} (h : Ent w b x) : El w (some ⟨b, 0, none⟩) 1 1 [x] := by
  refine ⟨rfl, Nat.le_refl _, by simp [maxLen], (fun h => by cases h), .inr ⟨b, 0, rfl, fun j y hj => ?_⟩⟩
  match j, hj with
  | 0, hj =>
    obtain rfl : x = y := by simpa using hj
    exact h.entO
  | j + 1, hj => simp at hj

theorem sizeEn (W : World) : (Go.sizeOf (Tryz.prog.elem 22)).run Tryz.prog W = .ok 9 W := by kernel_rfl
theorem el_head {w : World} {A : Option Addr} {n c k : Nat} {L : List En} (h : El w A n c L) (hk : k ≤ n) {c' : Nat} (hc : k ≤ c') (hc2 : c' ≤ c) : El w A k c' (L.take k) := by
  obtain ⟨h1, h2, h3, h4, h5⟩ := h
  refine ⟨by rw [List.length_take]; omega, hc, by omega, fun e => by have := h4 e; omega, ?_⟩
  rcases h5 with h0 | ⟨b, o, hA, hc⟩
  · exact .inl (by omega)
  · refine .inr ⟨b, o, hA, fun j x hj => hc j x ?_⟩
    rw [List.getElem?_take] at hj
    split at hj
    · exact hj
    · cases hj
theorem el_tail {w : World} {A : Option Addr} {n c k : Nat} {L : List En} (h : El w A n c L) (hk : k ≤ n) : ∃ A2, El w A2 (n - k) (c - k) (L.drop k) ∧
    (∀ W : World, (Instr.slice 22 (.slice A n c) (some (.int .i64 (k : Int))) none none).run Tryz.prog W = .ok (.slice A2 (n - k) (c - k)) W) ∧
    (∀ W : World, (Instr.sliceAt 22 (.slice A n c) (some (.int .i64 (k : Int))) none none).run Tryz.prog W = .ok (.slice A2 (n - k) (c - k)) W) := by
  obtain ⟨h1, h2, h3, h4, h5⟩ := h
  have hr : ∀ W : World, (Instr.slice 22 (.slice A n c) (some (.int .i64 (k : Int))) none none).run Tryz.prog W = .ok (.slice (if c = k then A else A.map (·.add (k * 9))) (n - k) (c - k)) W := fun W => by
    rw [run_slice_l W 22 _ n c (by kernel_rfl) .i64 (k : Int) (by omega) (by omega), sizeEn]
    simp only [Result.andThen, sliced, Int.toNat_natCast]
  refine ⟨_, ?_, hr, fun W => by rw [run_sliceAt_slice W _ _ _ _ _ (by kernel_rfl)]; exact hr W⟩
  refine ⟨by rw [List.length_drop]; omega, by omega, by omega, fun he => ?_, ?_⟩
  · by_cases hc : c = k
    · omega
    · rw [if_neg hc, Option.map_eq_none_iff] at he
      have := h4 he
      omega
  · rcases h5 with h0 | ⟨b, o, hA, hc⟩
    · exact .inl (by omega)
    · by_cases hkn : k = n
      · exact .inl (by omega)
      · refine .inr ⟨b, o + k * 9, ?_, fun j x hj => ?_⟩
        · rw [if_neg (by omega), hA, Option.map_some, Addr.add_lit]
        · rw [List.getElem?_drop] at hj
          have := hc _ x hj
          rw [show o + k * 9 + j * 9 = o + (k + j) * 9 by omega]
          exact this
end Go.Proofs.YtkooihljddibfaaGreat

namespace Go.Proofs.YtkooihljddibfaaGreat
open Go.RowKit
set_option linter.unusedVariables false

theorem riseE_get {L : List En} (hr : RiseE L) {s t : Nat} {y z : En} (hs : L[s]? = some y) (ht : L[t]? = some z) (h : s < t) : LtD y.d z.d := by
  obtain ⟨e1, e2⟩ := List.getElem?_eq_some_iff.1 hs
  obtain ⟨e3, e4⟩ := List.getElem?_eq_some_iff.1 ht
  have := List.pairwise_iff_getElem.1 hr s t e1 e3 h
  rwa [e2, e4] at this
/-- Where a dot's place is. -/
structure PlaceE (L : List En) (d : Int × Int) (k : Nat) : Prop where
  le : k ≤ L.length
  lo : ∀ y ∈ L.take k, LtD y.d d
  no : hasE L d = false → ∀ y ∈ L.drop k, LtD d y.d
  yes : hasE L d = true → ∃ y, L[k]? = some y ∧ y.d = d
theorem place_at {L : List En} (hr : RiseE L) {d : Int × Int} {a : Nat} (ha : a ≤ L.length) (hlo : ∀ t y, t < a → L[t]? = some y → LtD y.d d) (hhi : ∀ t y, a ≤ t → L[t]? = some y → ¬ LtD y.d d) : PlaceE L d a := by
  refine ⟨ha, fun y hy => ?_, fun hno y hy => ?_, fun hyes => ?_⟩
  · obtain ⟨t, ht⟩ := List.getElem?_of_mem hy
    rw [List.getElem?_take] at ht
    split at ht
    · exact hlo t y (by assumption) ht
    · cases ht
  · obtain ⟨t, ht⟩ := List.getElem?_of_mem hy
    rw [List.getElem?_drop] at ht
    rcases LtD.tri y.d d with h3 | h3 | h3
    · exact absurd h3 (hhi _ y (by omega) ht)
    · rw [hasE_iff.2 ⟨y, List.mem_of_getElem? ht, h3⟩] at hno; cases hno
    · exact h3
  · obtain ⟨y, hy, hd⟩ := hasE_iff.1 hyes
    obtain ⟨t, ht⟩ := List.getElem?_of_mem hy
    rcases Nat.lt_trichotomy t a with h3 | h3 | h3
    · exact absurd (hd ▸ hlo t y h3 ht) (LtD.irrefl _)
    · subst h3; exact ⟨y, ht, hd⟩
    · exfalso
      obtain ⟨z, hz⟩ : ∃ z, L[a]? = some z := ⟨_, List.getElem?_eq_getElem (Nat.lt_trans h3 (List.getElem?_eq_some_iff.1 ht).1)⟩
      exact hhi a z (Nat.le_refl _) hz (hd ▸ riseE_get hr hz ht h3)
theorem has_at {L : List En} (hr : RiseE L) {d : Int × Int} {a : Nat} {y : En} (hlo : ∀ t y, t < a → L[t]? = some y → LtD y.d d) (hhi : ∀ t y, a ≤ t → L[t]? = some y → ¬ LtD y.d d) (hy : L[a]? = some y) : (cmpD y.d d == 0) = hasE L d := by
  rw [Bool.eq_iff_iff, beq_iff_eq, cmpD_eq]
  constructor
  · intro e; exact hasE_iff.2 ⟨y, List.mem_of_getElem? hy, e⟩
  · intro h
    obtain ⟨z, hz, hd⟩ := (place_at hr (Nat.le_of_lt (List.getElem?_eq_some_iff.1 hy).1) hlo hhi).yes h
    rw [hy] at hz
    rw [Option.some.inj hz]; exact hd
theorem has_end {L : List En} {d : Int × Int} (hlo : ∀ t y, t < L.length → L[t]? = some y → LtD y.d d) : hasE L d = false := by
  rw [← Bool.not_eq_true, hasE_iff]
  rintro ⟨y, hy, hd⟩
  obtain ⟨t, ht⟩ := List.getElem?_of_mem hy
  exact LtD.irrefl _ (hd ▸ hlo t y (List.getElem?_eq_some_iff.1 ht).1 ht)

set_option maxRecDepth 100000 in
set_option maxHeartbeats 8000000 in
theorem esearch_any (A : Option Addr) (n c : Nat) (L : List En) (x : En) (w : World) (h : El w A n c L) (hr : RiseE L) (hn : n ≤ 1000000) (z : Bool) (hz : hasE L x.d = z) :
    Calls Tryz.prog 72 #[.slice A n c, .agg #[.int .i64 x.d.1, .int .i64 x.d.2, .string x.p, .int .i64 x.k, .int .i64 x.vk, .int .i64 x.vn, .string x.vt, .int .i64 x.e.1, .int .i64 x.e.2], .func (.func 43) #[] #[]] w
      fun e w' => ∃ k : Nat, e = .returned (.tuple #[.int .i64 k, .bool z]) ∧ PlaceE L x.d k ∧ Kept w w' := by
  have hc1 := h.cap.1
  have hc2 := h.cap.2
  have HZ := Lib.hid hz
  have HD := Lib.hid h
  have HR := Lib.hid hr
  have HE := Lib.hid (Ent.new w x 34)
  clear h hr hz
  go_enter Tryz.func72, Tryz.ntmps72
  go_wp2_with fail
  go_loopw [9, 10] (fun i j wr => ∃ a b : Nat, a ≤ b ∧ b ≤ n ∧ i = .int .i64 a ∧ j = .int .i64 b ∧ Kept (w.alloc (.cells #[.int .i64 x.d.1, .int .i64 x.d.2, .string x.p, .int .i64 x.k, .int .i64 x.vk, .int .i64 x.vn, .string x.vt, .int .i64 x.e.1, .int .i64 x.e.2] 34)) wr ∧ (∀ t y, t < a → L[t]? = some y → LtD y.d x.d) ∧ (∀ t y, b ≤ t → L[t]? = some y → ¬ LtD y.d x.d)) (fun i j _ => (intOf j).toNat - (intOf i).toNat)
  case atStart => exact ⟨0, n, Nat.zero_le _, Nat.le_refl _, rfl, rfl, Kept.refl _, fun t y ht => absurd ht (by omega), fun t y ht hy => absurd (List.getElem?_eq_some_iff.1 hy).1 (by have := HD.out.1; omega)⟩
  case round =>
    obtain ⟨a, b, hab, hbn, rfl, rfl, hkr, hlo, hhi⟩ := hrel
    have HK := Lib.hid hkr
    have HLO := Lib.hid hlo
    have HHI := Lib.hid hhi
    have EX := HE.out.kept hkr
    have x0 := KExt.cell EX.c0; have x1 := KExt.cell EX.c1; have x2 := KExt.cell EX.c2; have x3 := KExt.cell EX.c3; have x4 := KExt.cell EX.c4; have x5 := KExt.cell EX.c5; have x6 := KExt.cell EX.c6; have x7 := KExt.cell EX.c7; have x8 := KExt.cell EX.c8
    clear hkr hlo hhi EX
    by_cases hlt : a < b
    · obtain ⟨m, hm⟩ : ∃ m : Nat, ((a : Int) + b) / 2 = (m : Int) := ⟨(a + b) / 2, by omega⟩
      have hma : a ≤ m := by omega
      have hmb : m < b := by omega
      have hmn : m < n := by omega
      have HM := Lib.hid hm
      clear hm
      go_wp2_with fail
      rw [HM.out]
      obtain ⟨g, o, y, rfl, hy, EY⟩ := (HD.out.kept (((Kept.refl w).alloc _ _).trans HK.out)).get hmn
      have y0 := KExt.cell EY.c0; have y1 := KExt.cell EY.c1; have y2 := KExt.cell EY.c2; have y3 := KExt.cell EY.c3; have y4 := KExt.cell EY.c4; have y5 := KExt.cell EY.c5; have y6 := KExt.cell EY.c6; have y7 := KExt.cell EY.c7; have y8 := KExt.cell EY.c8
      have HY := Lib.hid hy
      clear EY hy
      obtain ⟨r, hrr⟩ : ∃ r, cmpD y.d x.d = r := ⟨_, rfl⟩
      have AC := Lib.hid (fun w => ecmp_c y x r hrr w)
      by_cases hl : LtD y.d x.d
      · have hr0 : decide (r < 0) = true := by rw [decide_eq_true_iff, ← hrr]; exact (cmpD_lt _ _).2 hl
        have HN := Lib.hid (show ∀ t y, t < m + 1 → L[t]? = some y → LtD y.d x.d from fun t y2 ht hy2 => by
          rcases Nat.lt_or_ge t m with h3 | h3
          · exact (riseE_get HR.out hy2 HY.out h3).trans hl
          · obtain rfl : t = m := by omega
            obtain rfl := Option.some.inj (hy2.symm.trans HY.out)
            exact hl)
        clear hl hrr
        refine region_kept _ (by kernel_rfl) (by kernel_rfl) (Kept.refl _) ?_
        repeat (go_big_quiet_step ((first
          | (go_at_call 43; (with_reducible exact KExt.callsK (AC.out _)))
          | fail)))
        refine wpQuiet_nil ?_
        intro G
        clear y0 y1 y2 y3 y4 y5 y6 y7 y8 x0 x1 x2 x3 x4 x5 x6 x7 x8
        go_wp2_with fail
        go_roundw
        case rel => exact ⟨m + 1, b, by omega, hbn, by go_num, rfl, HK.out.trans G.g, HN.out, HHI.out⟩
        case measure => simp [intOf]; omega
      · have hr0 : decide (r < 0) = false := by rw [decide_eq_false_iff_not, ← hrr, cmpD_lt]; exact hl
        have HN := Lib.hid (show ∀ t y, m ≤ t → L[t]? = some y → ¬ LtD y.d x.d from fun t y2 ht hy2 h5 => by
          rcases Nat.lt_or_ge m t with h3 | h3
          · exact hl ((riseE_get HR.out HY.out hy2 h3).trans h5)
          · obtain rfl : t = m := by omega
            obtain rfl := Option.some.inj (hy2.symm.trans HY.out)
            exact hl h5)
        clear hl hrr
        refine region_kept _ (by kernel_rfl) (by kernel_rfl) (Kept.refl _) ?_
        repeat (go_big_quiet_step ((first
          | (go_at_call 43; (with_reducible exact KExt.callsK (AC.out _)))
          | fail)))
        refine wpQuiet_nil ?_
        intro G
        clear y0 y1 y2 y3 y4 y5 y6 y7 y8 x0 x1 x2 x3 x4 x5 x6 x7 x8
        go_wp2_with fail
        go_roundw
        case rel => exact ⟨a, m, by omega, by omega, rfl, rfl, HK.out.trans G.g, HLO.out, HN.out⟩
        case measure => simp [intOf]; omega
    · obtain rfl : a = b := by omega
      have HT := Lib.hid (place_at HR.out (by have := HD.out.1; omega) HLO.out HHI.out)
      have HK2 := Lib.hid (((Kept.refl w).alloc _ _).trans HK.out)
      by_cases han : a < n
      · obtain ⟨g, o, y, rfl, hy, EY⟩ := (HD.out.kept (((Kept.refl w).alloc _ _).trans HK.out)).get han
        have y0 := KExt.cell EY.c0; have y1 := KExt.cell EY.c1; have y2 := KExt.cell EY.c2; have y3 := KExt.cell EY.c3; have y4 := KExt.cell EY.c4; have y5 := KExt.cell EY.c5; have y6 := KExt.cell EY.c6; have y7 := KExt.cell EY.c7; have y8 := KExt.cell EY.c8
        obtain ⟨r, hrr⟩ : ∃ r, cmpD y.d x.d = r := ⟨_, rfl⟩
        have AC := Lib.hid (fun w => ecmp_c y x r hrr w)
        have hF : (r == 0) = z := by rw [← hrr, ← HZ.out]; exact has_at HR.out HLO.out HHI.out hy
        clear hrr hy EY
        go_wp2_with fail
        refine region_kept _ (by kernel_rfl) (by kernel_rfl) (Kept.refl _) ?_
        repeat (go_big_quiet_step ((first
          | (go_at_call 43; (with_reducible exact KExt.callsK (AC.out _)))
          | fail)))
        refine wpQuiet_nil ?_
        intro G
        clear y0 y1 y2 y3 y4 y5 y6 y7 y8 x0 x1 x2 x3 x4 x5 x6 x7 x8
        go_wp2_with fail
        go_ret2
        exact ⟨a, rfl, HT.out, HK2.out.trans G.g⟩
      · have hF := Lib.hid (show z = false by rw [← HZ.out]; exact has_end fun t y ht hy => HLO.out t y (by have := HD.out.1; omega) hy)
        go_wp2_with fail
        refine region_kept _ (by kernel_rfl) (by kernel_rfl) (Kept.refl _) ?_
        repeat (go_big_quiet_step (fail))
        refine wpQuiet_nil ?_
        intro G
        clear x0 x1 x2 x3 x4 x5 x6 x7 x8
        go_wp2_with fail
        go_ret2
        exact ⟨a, by rw [hF.out]; rfl, HT.out, HK2.out.trans G.g⟩

/-- The entry that is looked for. -/
def keyE (d : Int × Int) : En := ⟨d, ⟨#[]⟩, 0, 0, 0, ⟨#[]⟩, (0, 0)⟩
/-- A state, in three cells. -/
structure Box3 (w : World) (b : Nat) (u0 u1 u2 : Value) : Prop where
  c0 : w.cell? ⟨b, 0, none⟩ = some u0
  c1 : w.cell? ⟨b, 1, none⟩ = some u1
  c2 : w.cell? ⟨b, 2, none⟩ = some u2
  f : ∀ j, w.frozen? ⟨b, j, none⟩ = false
  lt : b < w.heap.size
theorem Box3.kept {w w' : World} {b : Nat} {u0 u1 u2 : Value} (h : Box3 w b u0 u1 u2) (hk : Kept w w') : Box3 w' b u0 u1 u2 :=
  ⟨hk.cell h.c0, hk.cell h.c1, hk.cell h.c2, fun j => (hk.2.1 ⟨b, j, none⟩ h.lt).trans (h.f j), Nat.lt_of_lt_of_le h.lt hk.2.2⟩
theorem Box3.new (w : World) (u0 u1 u2 : Value) (t : TypeId) : Box3 (w.alloc (.cells #[u0, u1, u2] t)) w.heap.size u0 u1 u2 :=
  ⟨(Kept.refl _).box 0 _ rfl, (Kept.refl _).box 1 _ rfl, (Kept.refl _).box 2 _ rfl, fun j => by rw [frozen?_alloc_cells]; simp [World.frozen?], by simp⟩
/-- An entry in nine cells that may be written. -/
structure EntF (w : World) (b : Nat) (x : En) : Prop where
  ent : Ent w b x
  f : ∀ j, w.frozen? ⟨b, j, none⟩ = false
theorem EntF.kept {w w' : World} {b : Nat} {x : En} (h : EntF w b x) (hk : Kept w w') : EntF w' b x :=
  ⟨h.ent.kept hk, fun j => (hk.2.1 ⟨b, j, none⟩ (show b < w.heap.size from World.block_lt_of_cell? w _ h.ent.c0)).trans (h.f j)⟩
theorem EntF.new (w : World) (x : En) (t : TypeId) : EntF (w.alloc (.cells #[.int .i64 x.d.1, .int .i64 x.d.2, .string x.p, .int .i64 x.k, .int .i64 x.vk, .int .i64 x.vn, .string x.vt, .int .i64 x.e.1, .int .i64 x.e.2] t)) w.heap.size x :=
  ⟨Ent.new w x t, fun j => by rw [frozen?_alloc_cells]; simp [World.frozen?]⟩

set_option maxRecDepth 100000 in
set_option maxHeartbeats 2000000 in
theorem find_any (A : Option Addr) (n c : Nat) (L : List En) (u1 u2 : Value) (d1 d2 : Int) (w : World) (h : El w A n c L) (hr : RiseE L) (hn : n ≤ 1000000) (z : Bool) (hz : hasE L (d1, d2) = z) :
    Calls Tryz.prog 48 #[.agg #[.slice A n c, u1, u2], .agg #[.int .i64 d1, .int .i64 d2]] w
      fun e w' => ∃ k : Nat, e = .returned (.tuple #[.int .i64 k, .bool z]) ∧ PlaceE L (d1, d2) k ∧ Kept w w' := by
  have hk := ((Kept.refl w).alloc #[.slice A n c, u1, u2] 28).alloc #[.int .i64 d1, .int .i64 d2] 30
  have HS := Lib.hid (esearch_any A n c L (keyE (d1, d2)) _ (h.kept hk) hr hn z hz)
  simp only [keyE] at HS
  have HK := Lib.hid hk
  clear h hr hk hz
  go_enter Tryz.func48, Tryz.ntmps48
  go_wp2_with fail
  go_at_call 72
  refine HS.out.mono ?_
  rintro e w1 ⟨k, rfl, hp, hk1⟩
  go_wp2_with fail
  go_ret2
  exact ⟨k, rfl, hp, HK.out.trans hk1⟩

end Go.Proofs.YtkooihljddibfaaGreat

namespace Go.Proofs.YtkooihljddibfaaGreat
open Go.RowKit

end Go.Proofs.YtkooihljddibfaaGreat

namespace Go.Proofs.YtkooihljddibfaaGreat
open Go.RowKit

set_option maxRecDepth 100000 in
set_option maxHeartbeats 1000000 in
theorem cloneI_any (A : Option Addr) (n c : Nat) (V : List Int) (w : World) (h : Il w A n c V) (hn : n ≤ 1000000) :
    Calls Tryz.prog 89 #[.slice A n c] w fun e w' => ∃ v, e = .returned v ∧ w'.ownsRow w.heap.size 3 1 v n (intsV V) ∧ Kept w w' := by
  have q22 : ∀ (w : World) (a : Option Addr) (n c n' c' : Nat), (binOp .eql 23 (.slice a n c) (.slice none n' c')).run Tryz.prog w = .ok (.bool a.isNone) w := fun w a n c n' c' => Lib.run_eql_slice_nil w _ _ a n c n' c' Tryz.underlying23
  cases A with
  | none =>
    obtain rfl : n = 0 := by have := h.2.2.2.1 rfl; have := h.2.1; omega
    have hL : V = [] := List.eq_nil_of_length_eq_zero h.1.symm
    subst hL
    clear h
    go_enter Tryz.func89, Tryz.ntmps89
    go_wp2
    go_ret
    exact ⟨_, rfl, World.ownsRow_nil _ _ _ _, Kept.refl _⟩
  | some ad =>
    obtain ⟨v1, w1, hr1, ho1, hg1, _⟩ := app_ints (w.alloc (.cells #[] 3)) w.heap.size (.slice (some ⟨w.heap.size, 0, none⟩) 0 0) 0 [] (World.ownsRow_made w #[] 0 (Nat.le_refl _) (Nat.zero_le _) (by simp)) (some ad) n c V (h.kept ((Kept.refl w).alloc _ _)) (by omega) (by simp)
    have HK := Lib.hid (kept_grown ((Kept.refl w).alloc #[] 3) hg1 (fun k hk => by simp [Value.ownBlock] at hk; omega))
    have HR1 := Lib.hid hr1
    have HO1 := Lib.hid ho1
    clear hr1 ho1 hg1 h
    go_enter Tryz.func89, Tryz.ntmps89
    go_wp2_with (at_builtin; refine Lib.wpList_append_run _ rfl _ _ _ _ rfl _ _ rfl rfl _ _ HR1.out ?_)
    go_ret
    refine ⟨_, rfl, ?_, HK.out⟩
    have := HO1.out
    rwa [Nat.zero_add, List.nil_append] at this


/-- The greater ones at the first t places. -/
def hiV (V W : List Int) (t : Nat) : List Int := (List.range V.length).map fun (k : Nat) => if k < t then max (atV V k) (atV W k) else atV V k
theorem hiV_len (V W : List Int) (t : Nat) : (hiV V W t).length = V.length := by unfold hiV; rw [List.length_map, List.length_range]
theorem hiV_get {V W : List Int} {t k : Nat} (hk : k < V.length) : (hiV V W t)[k]? = some (if k < t then max (atV V k) (atV W k) else atV V k) := by
  unfold hiV; rw [List.getElem?_map, List.getElem?_range hk]; rfl
theorem hiV_zero (V W : List Int) : hiV V W 0 = V := by
  refine List.ext_getElem? fun k => ?_
  by_cases hk : k < V.length
  · rw [hiV_get hk, if_neg (by omega), List.getElem?_eq_getElem hk, atV_in (List.getElem?_eq_getElem hk)]
  · rw [List.getElem?_eq_none (by rw [hiV_len]; omega), List.getElem?_eq_none (by omega)]
theorem hiV_succ {V W : List Int} {t : Nat} (ht : t < V.length) : hiV V W (t + 1) = (hiV V W t).set t (max (atV V t) (atV W t)) := by
  refine List.ext_getElem? fun k => ?_
  rw [List.getElem?_set, hiV_len]
  by_cases hk : k < V.length
  · rw [hiV_get hk, hiV_get hk]
    by_cases e : t = k
    · subst e; rw [if_pos (by omega), if_pos rfl, if_pos ht]
    · rw [if_neg e]
      by_cases h : k < t
      · rw [if_pos h, if_pos (by omega)]
      · rw [if_neg h, if_neg (by omega)]
  · rw [if_neg (by omega), List.getElem?_eq_none (by rw [hiV_len]; omega), List.getElem?_eq_none (by rw [hiV_len]; omega)]
theorem hiV_all {V W : List Int} (hv : VecOk V) (hl : W.length ≤ V.length) : hiV V W W.length = maxV V W := by
  refine List.ext_getElem? fun k => ?_
  by_cases hk : k < V.length
  · have h1 : (maxV V W)[k]? = some (max (atV V k) (atV W k)) := by
      unfold maxV; rw [List.getElem?_map, List.getElem?_range (by omega)]; rfl
    rw [hiV_get hk, h1]
    by_cases h : k < W.length
    · rw [if_pos h]
    · rw [if_neg h, atV_out W (r := (k : Int)) (by omega)]
      have := (hv.at_bd k).1
      rw [Int.max_eq_left this]
  · rw [List.getElem?_eq_none (by rw [hiV_len]; omega), List.getElem?_eq_none (by rw [maxV_len]; omega)]
theorem maxV_comm (V W : List Int) : maxV V W = maxV W V := by
  unfold maxV
  rw [Nat.max_comm]
  refine List.map_congr_left fun k _ => ?_
  exact Int.max_comm _ _

set_option maxRecDepth 100000 in
set_option maxHeartbeats 2000000 in
theorem higher_le (A : Option Addr) (n c : Nat) (V : List Int) (A' : Option Addr) (n' c' : Nat) (V' : List Int) (w : World) (h : Il w A n c V) (hv : VecOk V) (h' : Il w A' n' c' V') (hl : n' ≤ n) :
    Calls Tryz.prog 80 #[.slice A n c, .slice A' n' c'] w fun e w' => ∃ v, e = .returned v ∧ w'.ownsRow w.heap.size 3 1 v n (intsV (maxV V V')) ∧ Kept w w' := by
  have hcap := h.cap.1; have hcap2 := h.cap.2; have hcap' := h'.cap.1; have hcap2' := h'.cap.2
  have hn64 : n ≤ 64 := by have := hv.len; have := h.1; omega
  have HN := Lib.hid h.1; have HN' := Lib.hid h'.1
  have HV := Lib.hid hv
  have HI' := Lib.hid h'
  have HC := Lib.hid (cloneI_any A n c V w h (by omega))
  have d1 : decide ((n : Int) < n') = false := by rw [decide_eq_false_iff_not]; omega
  have d2 : decide (n < n') = false := by rw [decide_eq_false_iff_not]; omega
  clear h h' hv
  go_enter Tryz.func80, Tryz.ntmps80
  go_wp2_with fail
  go_at_call 89
  refine HC.out.mono ?_
  rintro e w1 ⟨v, rfl, ho, hk⟩
  have HO := Lib.hid (show w1.ownsRow w.heap.size 3 1 v n (intsV (hiV V V' 0)) by rw [hiV_zero]; exact ho)
  have HK := Lib.hid hk
  obtain ⟨A1, c1, rfl, hi1⟩ := Il.of_own ho
  have h11 := hi1.cap.1
  have h12 := hi1.cap.2
  clear ho hk hi1
  go_wp2_with fail
  go_loopw [19] (fun i wr => ∃ t : Nat, t ≤ n' ∧ i = .int .i64 t ∧ wr.ownsRow w.heap.size 3 1 (.slice A1 n c1) n (intsV (hiV V V' t)) ∧ Kept w wr) (fun i _ => n' - (intOf i).toNat)
  case atStart => exact ⟨0, Nat.zero_le _, rfl, HO.out, HK.out⟩
  case round =>
    obtain ⟨t, ht, rfl, hot, hkt⟩ := hrel
    have HOT := Lib.hid hot
    have HKT := Lib.hid hkt
    clear hot hkt
    by_cases hlt : t < n'
    · obtain ⟨b, o, y, rfl, hy, g1⟩ := (HI'.out.kept HKT.out).get hlt
      have htv : t < V.length := by have := HN.out; omega
      obtain ⟨G, cap, hv3, hb, _, _, hcell, hfroz, hset⟩ := own_int HOT.out (hiV_get (W := V') (t := t) htv)
      rw [if_neg (by omega)] at hcell
      obtain ⟨x, hx⟩ : ∃ x, atV V (t : Int) = x := ⟨_, rfl⟩
      rw [hx] at hcell
      simp only [Value.slice.injEq] at hv3
      obtain ⟨rfl, hjunk, rfl⟩ := hv3
      have HS := Lib.hid (show (wr.setCell ⟨G, t, none⟩ (.int .i64 (max x y))).ownsRow w.heap.size 3 1 (.slice (some ⟨G, 0, none⟩) n c1) n (intsV (hiV V V' (t + 1))) by
        rw [hiV_succ htv, hx, atV_in hy]; exact hset _)
      have HKS := Lib.hid (HKT.out.setCell (a := ⟨G, t, none⟩) hb (.int .i64 (max x y)))
      have htn : t < n := by omega
      clear hjunk hset hx hy
      go_wp2_with fail
      clear g1 hcell hfroz
      go_roundw
      case rel => exact ⟨t + 1, hlt, by go_num, HS.out, HKS.out⟩
      case measure => simp [intOf]; omega
    · obtain rfl : t = n' := by omega
      have HF := Lib.hid (show wr.ownsRow w.heap.size 3 1 (.slice A1 n c1) n (intsV (maxV V V')) by
        have := HOT.out
        rw [HN'.out, hiV_all HV.out (by have := HN.out; have := HN'.out; omega)] at this
        exact this)
      go_wp2_with fail
      go_ret
      exact ⟨_, rfl, HF.out, HKT.out⟩

set_option maxRecDepth 100000 in
set_option maxHeartbeats 2000000 in
theorem higher_lt (A : Option Addr) (n c : Nat) (V : List Int) (A' : Option Addr) (n' c' : Nat) (V' : List Int) (w : World) (h : Il w A n c V) (hv : VecOk V) (h' : Il w A' n' c' V') (hl : n' < n) :
    Calls Tryz.prog 80 #[.slice A' n' c', .slice A n c] w fun e w' => ∃ v, e = .returned v ∧ w'.ownsRow w.heap.size 3 1 v n (intsV (maxV V V')) ∧ Kept w w' := by
  have hcap := h.cap.1; have hcap2 := h.cap.2; have hcap' := h'.cap.1; have hcap2' := h'.cap.2
  have hn64 : n ≤ 64 := by have := hv.len; have := h.1; omega
  have HN := Lib.hid h.1; have HN' := Lib.hid h'.1
  have HV := Lib.hid hv
  have HI' := Lib.hid h'
  have HC := Lib.hid (cloneI_any A n c V w h (by omega))
  have d1 : decide ((n' : Int) < n) = true := by rw [decide_eq_true_iff]; omega
  have d2 : decide (n' < n) = true := by rw [decide_eq_true_iff]; omega
  clear h h' hv
  go_enter Tryz.func80, Tryz.ntmps80
  go_wp2_with fail
  go_at_call 89
  refine HC.out.mono ?_
  rintro e w1 ⟨v, rfl, ho, hk⟩
  have HO := Lib.hid (show w1.ownsRow w.heap.size 3 1 v n (intsV (hiV V V' 0)) by rw [hiV_zero]; exact ho)
  have HK := Lib.hid hk
  obtain ⟨A1, c1, rfl, hi1⟩ := Il.of_own ho
  have h11 := hi1.cap.1
  have h12 := hi1.cap.2
  clear ho hk hi1
  go_wp2_with fail
  go_loopw [19] (fun i wr => ∃ t : Nat, t ≤ n' ∧ i = .int .i64 t ∧ wr.ownsRow w.heap.size 3 1 (.slice A1 n c1) n (intsV (hiV V V' t)) ∧ Kept w wr) (fun i _ => n' - (intOf i).toNat)
  case atStart => exact ⟨0, Nat.zero_le _, rfl, HO.out, HK.out⟩
  case round =>
    obtain ⟨t, ht, rfl, hot, hkt⟩ := hrel
    have HOT := Lib.hid hot
    have HKT := Lib.hid hkt
    clear hot hkt
    by_cases hlt : t < n'
    · obtain ⟨b, o, y, rfl, hy, g1⟩ := (HI'.out.kept HKT.out).get hlt
      have htv : t < V.length := by have := HN.out; omega
      obtain ⟨G, cap, hv3, hb, _, _, hcell, hfroz, hset⟩ := own_int HOT.out (hiV_get (W := V') (t := t) htv)
      rw [if_neg (by omega)] at hcell
      obtain ⟨x, hx⟩ : ∃ x, atV V (t : Int) = x := ⟨_, rfl⟩
      rw [hx] at hcell
      simp only [Value.slice.injEq] at hv3
      obtain ⟨rfl, hjunk, rfl⟩ := hv3
      have HS := Lib.hid (show (wr.setCell ⟨G, t, none⟩ (.int .i64 (max x y))).ownsRow w.heap.size 3 1 (.slice (some ⟨G, 0, none⟩) n c1) n (intsV (hiV V V' (t + 1))) by
        rw [hiV_succ htv, hx, atV_in hy]; exact hset _)
      have HKS := Lib.hid (HKT.out.setCell (a := ⟨G, t, none⟩) hb (.int .i64 (max x y)))
      have htn : t < n := by omega
      clear hjunk hset hx hy
      go_wp2_with fail
      clear g1 hcell hfroz
      go_roundw
      case rel => exact ⟨t + 1, hlt, by go_num, HS.out, HKS.out⟩
      case measure => simp [intOf]; omega
    · obtain rfl : t = n' := by omega
      have HF := Lib.hid (show wr.ownsRow w.heap.size 3 1 (.slice A1 n c1) n (intsV (maxV V V')) by
        have := HOT.out
        rw [HN'.out, hiV_all HV.out (by have := HN.out; have := HN'.out; omega)] at this
        exact this)
      go_wp2_with fail
      go_ret
      exact ⟨_, rfl, HF.out, HKT.out⟩

theorem higher_any (A : Option Addr) (n c : Nat) (V : List Int) (A' : Option Addr) (n' c' : Nat) (V' : List Int) (w : World) (h : Il w A n c V) (hv : VecOk V) (h' : Il w A' n' c' V') (hv' : VecOk V') :
    Calls Tryz.prog 80 #[.slice A n c, .slice A' n' c'] w fun e w' => ∃ A1 n1 c1, e = .returned (.slice A1 n1 c1) ∧ Il w' A1 n1 c1 (maxV V V') ∧ Kept w w' := by
  rcases Nat.lt_or_ge n n' with hl | hl
  · refine (higher_lt A' n' c' V' A n c V w h' hv' h hl).mono ?_
    rintro e w' ⟨v, rfl, ho, hk⟩
    obtain ⟨A1, c1, rfl, hi1⟩ := Il.of_own ho
    exact ⟨A1, n', c1, rfl, by rw [maxV_comm]; exact hi1, hk⟩
  · refine (higher_le A n c V A' n' c' V' w h hv h' hl).mono ?_
    rintro e w' ⟨v, rfl, ho, hk⟩
    obtain ⟨A1, c1, rfl, hi1⟩ := Il.of_own ho
    exact ⟨A1, n, c1, rfl, hi1, hk⟩
end Go.Proofs.YtkooihljddibfaaGreat

