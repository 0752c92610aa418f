/-
  What is proved: words for memory that layer 11's contracts use: a slice of fields that lies in memory ('Fl'), its head and its tail, append of such, or of one, onto a row of the call's own.
  what the library's stable sort of fields asks of a program ('SortP'), and its innermost call: two parts of a row exchanged, in every world of the sort's; all else is kept.
  two parts of a row side by side, turned by the library's sort, in every world of the sort's; all else is kept.
-/
import Derived.Test.YtjieofiaoepccaaGreatDoorM10
import Derived.Test.YtjieofiaoepccaaGreatDoorM12
import Derived.Test.YtjieofiaoepccaaGreatDoorM11
import Derived.Shelf.SlSortCmp.KitK
import Derived.Sort.WalkB2
import Derived.Sort.WalkB12
import Derived.Deep.LoopGhost
namespace Go.Proofs.YtjieofiaoepccaaGreatDoor
open Go.RowKit
set_option linter.unusedVariables false

structure FdO (w : World) (b o : Nat) (x : Fd) : Prop where
  c0 : w.cell? ⟨b, o, none⟩ = some (.string x.p)
  c1 : w.cell? ⟨b, o + 1, none⟩ = some (.int .i64 x.k)
  c2 : w.cell? ⟨b, o + 2, none⟩ = some (.int .i64 x.t)
  c3 : w.cell? ⟨b, o + 3, none⟩ = some (.int .i64 x.vk)
  c4 : w.cell? ⟨b, o + 4, none⟩ = some (.int .i64 x.vn)
  c5 : w.cell? ⟨b, o + 5, none⟩ = some (.string x.vt)
theorem FdO.kept {w w' : World} {b o : Nat} {x : Fd} (h : FdO w b o x) (hg : Kept w w') : FdO w' b o x :=
  ⟨hg.cell h.c0, hg.cell h.c1, hg.cell h.c2, hg.cell h.c3, hg.cell h.c4, hg.cell h.c5⟩
/-- In a block of its own. -/
structure FdB (w : World) (b : Nat) (x : Fd) : Prop where
  c0 : w.cell? ⟨b, 0, none⟩ = some (.string x.p)
  c1 : w.cell? ⟨b, 1, none⟩ = some (.int .i64 x.k)
  c2 : w.cell? ⟨b, 2, none⟩ = some (.int .i64 x.t)
  c3 : w.cell? ⟨b, 3, none⟩ = some (.int .i64 x.vk)
  c4 : w.cell? ⟨b, 4, none⟩ = some (.int .i64 x.vn)
  c5 : w.cell? ⟨b, 5, none⟩ = some (.string x.vt)
  f : ∀ j, w.frozen? ⟨b, j, none⟩ = false
  lt : b < w.heap.size
theorem FdB.kept {w w' : World} {b : Nat} {x : Fd} (h : FdB w b x) (hg : Kept w w') : FdB w' b x :=
  ⟨hg.cell h.c0, hg.cell h.c1, hg.cell h.c2, hg.cell h.c3, hg.cell h.c4, hg.cell h.c5, fun j => (hg.2.1 ⟨b, j, none⟩ h.lt).trans (h.f j), Nat.lt_of_lt_of_le h.lt hg.2.2⟩
theorem FdB.new (w : World) (x : Fd) (t : TypeId) : FdB (w.alloc (.cells #[.string x.p, .int .i64 x.k, .int .i64 x.t, .int .i64 x.vk, .int .i64 x.vn, .string x.vt] t)) w.heap.size x :=
  ⟨(Kept.refl _).box 0 _ rfl, (Kept.refl _).box 1 _ rfl, (Kept.refl _).box 2 _ rfl, (Kept.refl _).box 3 _ rfl, (Kept.refl _).box 4 _ rfl, (Kept.refl _).box 5 _ rfl, fun j => by rw [frozen?_alloc_cells]; simp [World.frozen?], by simp⟩
def Fl (w : World) (A : Option Addr) (n c : Nat) (L : List Fd) : Prop :=
  n = L.length ∧ n ≤ c ∧ c ≤ maxLen ∧ (A = none → c = 0) ∧ (n = 0 ∨ ∃ b o, A = some ⟨b, o, none⟩ ∧ ∀ j x, L[j]? = some x → FdO w b (o + j * 6) x)
theorem Fl.kept {w w' : World} {A : Option Addr} {n c : Nat} {L : List Fd} (h : Fl w A n c L) (hk : Kept w w') : Fl w' A n c L :=
  ⟨h.1, h.2.1, h.2.2.1, h.2.2.2.1, h.2.2.2.2.imp id fun ⟨b, o, hA, hc⟩ => ⟨b, o, hA, fun j x hj => (hc j x hj).kept hk⟩⟩
theorem Fl.nil (w : World) : Fl w none 0 0 [] := ⟨rfl, Nat.le_refl _, Nat.zero_le _, fun _ => rfl, .inl rfl⟩
theorem Fl.len {w : World} {A : Option Addr} {n c : Nat} {L : List Fd} (h : Fl w A n c L) : L.length = n := h.1.symm
theorem Fl.cap {w : World} {A : Option Addr} {n c : Nat} {L : List Fd} (h : Fl w A n c L) : n ≤ c ∧ c ≤ 9223372036854775807 := ⟨h.2.1, h.2.2.1⟩
theorem Fl.get {w : World} {A : Option Addr} {n c : Nat} {L : List Fd} (h : Fl w A n c L) {k : Nat} (hk : k < n) :
    ∃ b o x, A = some ⟨b, o, none⟩ ∧ L[k]? = some x ∧ FdO w b (o + k * 6) x := by
  have hl : k < L.length := by rw [← h.1]; exact hk
  rcases h.2.2.2.2 with h0 | ⟨b, o, hA, hc⟩
  · omega
  · exact ⟨b, o, L[k], hA, List.getElem?_eq_getElem hl, hc k L[k] (List.getElem?_eq_getElem hl)⟩

/-- The cells. -/
def cellF (x : Fd) : List Value := [.string x.p, .int .i64 x.k, .int .i64 x.t, .int .i64 x.vk, .int .i64 x.vn, .string x.vt]
def flatF (L : List Fd) : List Value := L.flatMap cellF
theorem flatF_nil : flatF [] = [] := rfl
theorem flatF_cons (x : Fd) (L : List Fd) : flatF (x :: L) = cellF x ++ flatF L := rfl
theorem flatF_app (L M : List Fd) : flatF (L ++ M) = flatF L ++ flatF M := List.flatMap_append
theorem flatF_len (L : List Fd) : (flatF L).length = L.length * 6 := by
  induction L with
  | nil => rfl
  | cons x L ih => rw [flatF_cons, List.length_append, List.length_cons, ih]; show 6 + _ = _; omega
theorem flatF_one (L : List Fd) : ∀ u ∈ flatF L, u.oneCell' = true := by
  intro u hu
  obtain ⟨x, _, hx⟩ := List.mem_flatMap.1 hu
  simp only [cellF, List.mem_cons, List.not_mem_nil, or_false] at hx
  rcases hx with rfl | rfl | rfl | rfl | rfl | rfl <;> rfl
theorem flatF_get : ∀ (L : List Fd) (j : Nat) (x : Fd), L[j]? = some x → ∀ i, i < 6 → (flatF L)[j * 6 + i]? = (cellF x)[i]?
  | [], j, x, h, _, _ => by simp at h
  | y :: L, 0, x, h, i, hi => by
    obtain rfl : y = x := by simpa using h
    rw [flatF_cons, List.getElem?_append_left (by show 0 * 6 + i < 6; omega), Nat.zero_mul, Nat.zero_add]
  | y :: L, j + 1, x, h, i, hi => by
    have ih := flatF_get L j x (by simpa using h) i hi
    rw [flatF_cons, List.getElem?_append_right (by show 6 ≤ _; omega), ← ih]
    congr 1
    show (j + 1) * 6 + i - 6 = _
    omega
theorem flatF_at : ∀ (L : List Fd) (i : Nat) (u : Value), (flatF L)[i]? = some u → ∃ j x r, L[j]? = some x ∧ i = j * 6 + r ∧ r < 6 ∧ (cellF x)[r]? = some u
  | [], i, u, h => by simp [flatF_nil] at h
  | y :: L, i, u, h => by
    rw [flatF_cons] at h
    by_cases hi : i < 6
    · rw [List.getElem?_append_left (by exact hi)] at h
      exact ⟨0, y, i, rfl, by omega, hi, h⟩
    · rw [List.getElem?_append_right (by show 6 ≤ i; omega)] at h
      obtain ⟨j, x, r, h1, h2, h3, h4⟩ := flatF_at L (i - 6) u h
      exact ⟨j + 1, x, r, by simpa using h1, by omega, h3, h4⟩
theorem FdO.of_flat {w : World} {b o : Nat} {x : Fd} (h : ∀ i u, (cellF x)[i]? = some u → w.cell? ⟨b, o + i, none⟩ = some u) : FdO w b o x :=
  ⟨h 0 _ rfl, h 1 _ rfl, h 2 _ rfl, h 3 _ rfl, h 4 _ rfl, h 5 _ rfl⟩
theorem FdO.flat {w : World} {b o : Nat} {x : Fd} (h : FdO w b o x) : ∀ i u, (cellF x)[i]? = some u → w.cell? ⟨b, o + i, none⟩ = some u := by
  intro i u hu
  match i, hu with
  | 0, hu => obtain rfl := Option.some.inj hu; exact h.c0
  | 1, hu => obtain rfl := Option.some.inj hu; exact h.c1
  | 2, hu => obtain rfl := Option.some.inj hu; exact h.c2
  | 3, hu => obtain rfl := Option.some.inj hu; exact h.c3
  | 4, hu => obtain rfl := Option.some.inj hu; exact h.c4
  | 5, hu => obtain rfl := Option.some.inj hu; exact h.c5
  | i + 6, hu => simp [cellF] at hu
theorem FdB.o {w : World} {b : Nat} {x : Fd} (h : FdB w b x) : FdO w b 0 x := ⟨h.c0, h.c1, h.c2, h.c3, h.c4, h.c5⟩
theorem Fl.of_own' {w : World} {base n : Nat} {e : TypeId} {v : Value} {L : List Fd} (h : w.ownsRow base e 6 v n (flatF L)) : ∃ A c, v = .slice A n c ∧ Fl w A n c L ∧ ∀ ad, A = some ad → base ≤ ad.block := by
  have hl : n = L.length := by have := h.1; rw [flatF_len] at this; omega
  have hc := fun g (hg : v.ownBlock = some g) => h.cells (g := g) hg
  have hlt := fun g (hg : v.ownBlock = some g) => h.lt g hg
  rcases h.2 with ⟨rfl, h0⟩ | ⟨g, cap, cur, rfl, hb, hg, h1, h2, _⟩
  · subst h0
    exact ⟨none, 0, rfl, ⟨hl, Nat.le_refl _, Nat.zero_le _, fun _ => rfl, .inl rfl⟩, fun ad he => by cases he⟩
  · refine ⟨some ⟨g, 0, none⟩, cap, rfl, ⟨hl, h1, h2, fun h => by simp at h, .inr ⟨g, 0, rfl, fun j x hj => ?_⟩⟩, fun ad he => by cases he; exact hb⟩
    refine FdO.of_flat fun i u hu => ?_
    have hi : i < 6 := (List.getElem?_eq_some_iff.1 hu).1
    have := hc g rfl _ u ((flatF_get L j x hj i hi).trans hu)
    rw [Addr.add_lit, Nat.zero_add] at this
    rw [Nat.zero_add]
    exact this
theorem Fl.of_own {w : World} {base n : Nat} {e : TypeId} {v : Value} {L : List Fd} (h : w.ownsRow base e 6 v n (flatF L)) : ∃ A c, v = .slice A n c ∧ Fl w A n c L := by
  obtain ⟨A, c, h1, h2, _⟩ := Fl.of_own' h
  exact ⟨A, c, h1, h2⟩
theorem info_fl : (Tryz.prog.info? 30).map (fun i => (i.zero, i.size, i.bytes)) = some (some (.agg #[.string ⟨#[]⟩, .int .i64 0, .int .i64 0, .int .i64 0, .int .i64 0, .string ⟨#[]⟩]), 6, 64) := by kernel_rfl
theorem app_fls (w : World) (base : Nat) (v : Value) (n : Nat) (xs : List Value) (h : w.ownsRow base 30 6 v n xs) (A : Option Addr) (m c : Nat) (L : List Fd) (hs : Fl w A m c L) (hb : n + m ≤ 1000000000) (hbase : base ≤ w.heap.size) :
    ∃ v' w', (Builtin.append_ #[22, 22] 22 #[v, .slice A m c]).run Tryz.prog w = .ok v' w' ∧ w'.ownsRow base 30 6 v' (n + m) (xs ++ flatF L) ∧ w.grownBy w' v.ownBlock ∧ (v'.ownBlock = v.ownBlock ∨ v'.ownBlock = some w.heap.size) := by
  obtain ⟨i0, hi0, hz0, hz1, hz2⟩ := info_parts info_fl
  cases A with
  | none =>
    obtain rfl := hs.2.2.2.1 rfl
    obtain rfl : m = 0 := by have := hs.2.1; omega
    have hL : L = [] := List.eq_nil_of_length_eq_zero hs.1.symm
    subst hL
    exact ⟨v, w, run_append_owned_none w base _ _ _ i0 6 Tryz.underlying22 hi0 v n xs h, by simpa [flatF_nil] using h, World.grownBy.refl w _, .inl rfl⟩
  | some ad =>
    obtain ⟨v', w', hr, ho, hg, _, hat⟩ := run_append_own_at (P := Tryz.prog) w base 22 22 30 i0 (.agg #[.string ⟨#[]⟩, .int .i64 0, .int .i64 0, .int .i64 0, .int .i64 0, .string ⟨#[]⟩]) 6 64 Tryz.underlying22 hi0 hz0 hz1 hz2 rfl (by decide) v n xs h ad m c (flatF L)
      (by rw [flatF_len, hs.1]) (fun j u hj => by
        obtain ⟨k, x, r, hk, rfl, hr9, hu⟩ := flatF_at L j u hj
        have hkl := (List.getElem?_eq_some_iff.1 hk).1
        obtain ⟨b, o, y, hA, hy, hc⟩ := hs.get (k := k) (by rw [hs.1]; exact hkl)
        obtain rfl : y = x := Option.some.inj (hy.symm.trans hk)
        obtain rfl := Option.some.inj hA
        rw [Addr.add_lit, ← Nat.add_assoc]
        exact hc.flat r u hu) (flatF_one _) (by simp only [maxLen]; omega) (by omega) hbase
    exact ⟨v', w', hr, ho, hg, hat⟩
/-- A row of entries that a call makes; U: what is left alone. -/
structure OutF (U wr : World) (v : Value) (L : List Fd) : Prop where
  own : wr.ownsRow U.heap.size 30 6 v L.length (flatF L)
  ke : Kept U wr
theorem OutF.start (U : World) : OutF U U (.slice none 0 0) [] := ⟨World.ownsRow_nil _ _ _ _, Kept.refl _⟩
theorem OutF.kept {U wr w' : World} {v : Value} {L : List Fd} (h : OutF U wr v L) (hk : Kept wr w') : OutF U w' v L := ⟨own_kept h.own hk, h.ke.trans hk⟩
theorem OutF.form {U wr : World} {v : Value} {L : List Fd} (h : OutF U wr v L) : ∃ A c, v = .slice A L.length c ∧ Fl wr A L.length c L ∧ (∀ ad, A = some ad → U.heap.size ≤ ad.block) ∧ L.length ≤ c ∧ c ≤ 9223372036854775807 := by
  obtain ⟨A, c, h1, h2, h3⟩ := Fl.of_own' h.own
  exact ⟨A, c, h1, h2, h3, h2.cap.1, h2.cap.2⟩
theorem OutF.app {U wr : World} {v : Value} {L : List Fd} (h : OutF U wr v L) (A : Option Addr) (m c : Nat) (M : List Fd) (hs : Fl wr A m c M) (hb : L.length + m ≤ 1000000000) :
    ∃ v' w', (Builtin.append_ #[22, 22] 22 #[v, .slice A m c]).run Tryz.prog wr = .ok v' w' ∧ OutF U w' v' (L ++ M) := by
  obtain ⟨v', w', hr, ho, hg, _⟩ := app_fls wr U.heap.size v L.length (flatF L) h.own A m c M hs hb h.ke.2.2
  refine ⟨v', w', hr, ?_, kept_grown h.ke hg fun k hk => (h.own.lt k hk).1⟩
  rw [List.length_append, flatF_app, ← hs.1]
  exact ho
theorem fl_one {w : World} {x : Fd} {b : Nat} (h : FdB w b x) : Fl w (some ⟨b, 0, none⟩) 1 1 [x] := by
  refine ⟨rfl, Nat.le_refl _, by simp [maxLen], (fun h => by cases h), .inr ⟨b, 0, rfl, fun j y hj => ?_⟩⟩
  match j, hj with
  | 0, hj =>
    obtain rfl : x = y := by simpa using hj
    exact h.o
  | j + 1, hj => simp at hj

theorem size_fl (W : World) : (Go.sizeOf (Tryz.prog.elem 22)).run Tryz.prog W = .ok 6 W := by kernel_rfl
theorem fl_head {w : World} {A : Option Addr} {n c k : Nat} {L : List Fd} (h : Fl w A n c L) (hk : k ≤ n) {c' : Nat} (hc : k ≤ c') (hc2 : c' ≤ c) : Fl w A k c' (L.take k) := by
  obtain ⟨h1, h2, h3, h4, h5⟩ := h
  refine ⟨by rw [List.length_take]; omega, hc, by omega, fun e => by have := h4 e; omega, ?_⟩
  rcases h5 with h0 | ⟨b, o, hA, hc⟩
  · exact .inl (by omega)
  · refine .inr ⟨b, o, hA, fun j x hj => hc j x ?_⟩
    rw [List.getElem?_take] at hj
    split at hj
    · exact hj
    · cases hj
theorem fl_tail {w : World} {A : Option Addr} {n c k : Nat} {L : List Fd} (h : Fl w A n c L) (hk : k ≤ n) : ∃ A2, Fl w A2 (n - k) (c - k) (L.drop k) ∧
    (∀ W : World, (Instr.slice 22 (.slice A n c) (some (.int .i64 (k : Int))) none none).run Tryz.prog W = .ok (.slice A2 (n - k) (c - k)) W) ∧
    (∀ W : World, (Instr.sliceAt 22 (.slice A n c) (some (.int .i64 (k : Int))) none none).run Tryz.prog W = .ok (.slice A2 (n - k) (c - k)) W) := by
  obtain ⟨h1, h2, h3, h4, h5⟩ := h
  have hr : ∀ W : World, (Instr.slice 22 (.slice A n c) (some (.int .i64 (k : Int))) none none).run Tryz.prog W = .ok (.slice (if c = k then A else A.map (·.add (k * 6))) (n - k) (c - k)) W := fun W => by
    rw [run_slice_l W 22 _ n c (by kernel_rfl) .i64 (k : Int) (by omega) (by omega), size_fl]
    simp only [Result.andThen, sliced, Int.toNat_natCast]
  refine ⟨_, ?_, hr, fun W => by rw [run_sliceAt_slice W _ _ _ _ _ (by kernel_rfl)]; exact hr W⟩
  refine ⟨by rw [List.length_drop]; omega, by omega, by omega, fun he => ?_, ?_⟩
  · by_cases hc : c = k
    · omega
    · rw [if_neg hc, Option.map_eq_none_iff] at he
      have := h4 he
      omega
  · rcases h5 with h0 | ⟨b, o, hA, hc⟩
    · exact .inl (by omega)
    · by_cases hkn : k = n
      · exact .inl (by omega)
      · refine .inr ⟨b, o + k * 6, ?_, fun j x hj => ?_⟩
        · rw [if_neg (by omega), hA, Option.map_some, Addr.add_lit]
        · rw [List.getElem?_drop] at hj
          have := hc _ x hj
          rw [show o + k * 6 + j * 6 = o + (k + j) * 6 by omega]
          exact this
end Go.Proofs.YtjieofiaoepccaaGreatDoor

namespace Go.Proofs.YtjieofiaoepccaaGreatDoor
open Go.Shelf Go.RowKit Go.Lib Go.Sort
set_option linter.unusedVariables false

/-- The types that the sort names. -/
structure SortP (P : Program) (k : Nat) : Prop where
  mixed : P.follows .mixedOrders = true
  t0 : P.underlying 0 = some (TypeDesc.tuple #[])
  a0 : ∀ w, (isAgg 0).run P w = .ok false w
  z0 : ∀ w, (Go.sizeOf 0).run P w = .ok 1 w
  v0 : ∀ w, (zeroValue 0).run P w = .ok (Value.tuple #[]) w
  t3 : P.underlying 3 = some (TypeDesc.int IntKind.i64)
  a3 : ∀ w, (isAgg 3).run P w = .ok false w
  z3 : ∀ w, (Go.sizeOf 3).run P w = .ok 1 w
  v3 : ∀ w, (zeroValue 3).run P w = .ok (Value.int IntKind.i64 0) w
  t5 : P.underlying 85 = some (TypeDesc.int IntKind.u64)
  a5 : ∀ w, (isAgg 85).run P w = .ok false w
  z5 : ∀ w, (Go.sizeOf 85).run P w = .ok 1 w
  v5 : ∀ w, (zeroValue 85).run P w = .ok (Value.int IntKind.u64 0) w
  t4 : P.underlying 4 = some (TypeDesc.bool)
  a4 : ∀ w, (isAgg 4).run P w = .ok false w
  z4 : ∀ w, (Go.sizeOf 4).run P w = .ok 1 w
  v4 : ∀ w, (zeroValue 4).run P w = .ok (Value.bool false) w
  t22 : P.underlying 22 = some (TypeDesc.slice 30)
  a22 : ∀ w, (isAgg 22).run P w = .ok false w
  z22 : ∀ w, (Go.sizeOf 22).run P w = .ok 1 w
  v22 : ∀ w, (zeroValue 22).run P w = .ok (Value.slice none 0 0) w
  t25 : P.underlying 94 = some (TypeDesc.func #[30, 30] #[3] false)
  a25 : ∀ w, (isAgg 94).run P w = .ok false w
  z25 : ∀ w, (Go.sizeOf 94).run P w = .ok 1 w
  v25 : ∀ w, (zeroValue 94).run P w = .ok (Value.nilFunc) w
  aE : ∀ w, (isAgg 30).run P w = .ok true w
  zE : ∀ w, (Go.sizeOf 30).run P w = .ok k w
  fS : P.funcs[113]? = some Tryz.f113
  fR : P.funcs[104]? = some Tryz.f104
  fM : P.funcs[101]? = some Tryz.f101
theorem sortP : SortP Tryz.prog 6 where
  mixed := by kernel_rfl
  t0 := by kernel_rfl
  a0 := fun w => by kernel_rfl
  z0 := fun w => by kernel_rfl
  v0 := fun w => by kernel_rfl
  t3 := by kernel_rfl
  a3 := fun w => by kernel_rfl
  z3 := fun w => by kernel_rfl
  v3 := fun w => by kernel_rfl
  t5 := by kernel_rfl
  a5 := fun w => by kernel_rfl
  z5 := fun w => by kernel_rfl
  v5 := fun w => by kernel_rfl
  t4 := by kernel_rfl
  a4 := fun w => by kernel_rfl
  z4 := fun w => by kernel_rfl
  v4 := fun w => by kernel_rfl
  t22 := by kernel_rfl
  a22 := fun w => by kernel_rfl
  z22 := fun w => by kernel_rfl
  v22 := fun w => by kernel_rfl
  t25 := by kernel_rfl
  a25 := fun w => by kernel_rfl
  z25 := fun w => by kernel_rfl
  v25 := fun w => by kernel_rfl
  aE := fun w => by kernel_rfl
  zE := fun w => by kernel_rfl
  fS := by kernel_rfl
  fR := by kernel_rfl
  fM := by kernel_rfl
/-- A world of the sort's, its row told as a list. -/
abbrev SWF (enc : Fd → List Value) (k : Nat) (w0 : World) (blk off : Nat) (L : List Fd) (W : World) : Prop := SWK enc k w0 blk off L.toArray W

variable {P : Program}
set_option maxHeartbeats 4000000 in
set_option maxRecDepth 1000000 in
theorem swr_any (k : Nat) (LP : SortP P k) (enc : Fd → List Value) (g : Nat) (cb : Array Value) (blk off cap sz a b n : Nat) (d0 : Array Fd) (w0 w : World) (R : RowK enc k w0 blk off d0) (hs : d0.size = sz) (hsz : sz < 1000000)
    (Pr A M B S : List Fd) (hA : A.length = n) (hB : B.length = n) (ha : a = Pr.length) (hb : b = Pr.length + n + M.length) (hL : Pr.length + n + M.length + n + S.length = sz) (H : SWF enc k w0 blk off (Pr ++ (A ++ (M ++ (B ++ S)))) w) :
    Calls P 113 #[.slice (some ⟨blk, off, none⟩) sz cap, .int .i64 a, .int .i64 b, .int .i64 n, .func (.func g) #[] cb] w fun e w' => e = .returned (.tuple #[]) ∧ SWF enc k w0 blk off (Pr ++ (B ++ (M ++ (A ++ S)))) w' := by
  have mixed := LP.mixed; have t0 := LP.t0; have a0 := LP.a0; have z0 := LP.z0; have v0 := LP.v0; have t3 := LP.t3; have a3 := LP.a3; have z3 := LP.z3; have v3 := LP.v3; have t4 := LP.t4; have a4 := LP.a4; have z4 := LP.z4; have v4 := LP.v4; have t22 := LP.t22; have a22 := LP.a22; have z22 := LP.z22; have v22 := LP.v22; have t25 := LP.t25; have a25 := LP.a25; have z25 := LP.z25; have v25 := LP.v25; have aE := LP.aE; have zE := LP.zE
  have FG := LP.fS
  have S0 : Aside (SWK enc k w0 blk off (xch Pr A M B S 0).toArray w) := by rw [xch_zero]; exact H
  have HE : Aside (xch Pr A M B S n = Pr ++ (B ++ (M ++ (A ++ S)))) := xch_all Pr A M B S hA hB
  have hbn : b + n ≤ sz := by omega
  have han : a + n ≤ b := by omega
  have HQ : Aside (A.length = n ∧ B.length = n ∧ a = Pr.length ∧ b = Pr.length + n + M.length ∧ Pr.length + n + M.length + n + S.length = sz) := ⟨hA, hB, ha, hb, hL⟩
  clear H hA hB ha hb hL
  go_enter FG, Tryz.ntmps113
  go_wp2
  go_loopg [10] n (fun kx s10 wr => ∃ i : Nat, s10 = .int .i64 i ∧ i ≤ n ∧ n - i ≤ kx ∧ Aside (SWK enc k w0 blk off (xch Pr A M B S i).toArray wr))
  case atStart => exact ⟨0, rfl, Nat.zero_le _, Nat.le_refl _, S0⟩
  case round =>
    clear S0
    obtain ⟨i, rfl, hi, hkx, S1⟩ := hrel
    by_cases hlt : i < n
    · have hltz : (i : Int) < (n : Int) := by omega
      have hdk : (xch Pr A M B S i).toArray.size = sz := by simp only [List.size_toArray]; rw [xch_len]; have := HQ.out; omega
      have ST : Aside (swp (xch Pr A M B S i).toArray (a + i) (b + i) = (xch Pr A M B S (i + 1)).toArray) := xch_step Pr A M B S HQ.out.1 HQ.out.2.1 hlt HQ.out.2.2.1 HQ.out.2.2.2.1
      generalize (xch Pr A M B S i).toArray = dk at S1 hdk ST
      have ea44 : ((a : Int) + (i : Int)).toNat = a + i := by omega
      have pa44 : (0 : Int) ≤ (a : Int) + (i : Int) := by omega
      have ba44 : (a : Int) + (i : Int) < (sz : Int) := by omega
      have ra44 : IntKind.i64.wrap ((a : Int) + (i : Int)) = (a : Int) + (i : Int) := by rw [IntKind.wrap_i64]; omega
      have ec44 : ((b : Int) + (i : Int)).toNat = b + i := by omega
      have pc44 : (0 : Int) ≤ (b : Int) + (i : Int) := by omega
      have bc44 : (b : Int) + (i : Int) < (sz : Int) := by omega
      have rc44 : IntKind.i64.wrap ((b : Int) + (i : Int)) = (b : Int) + (i : Int) := by rw [IntKind.wrap_i64]; omega
      have S2 : Aside (SWK enc k w0 blk off (swp dk (a + i) (b + i)) ((wr.drew.setCells blk (off + (a + i) * k) (enc dk[b + i]!)).setCells blk (off + (b + i) * k) (enc dk[a + i]!))) := S1.out.swapped R (a + i) (b + i) (by omega) (by omega)
      have l44a := S1.out.ld1 R (by omega) P (a + i) (by omega)
      have l44b := S1.out.ld1 R (by omega) P (b + i) (by omega)
      have s44a := S1.out.st1 R (by omega) P (a + i) (by omega) dk[b + i]!
      have s44b := S1.out.st2 R (by omega) P (a + i) (b + i) (by omega) (by omega) dk[b + i]! dk[a + i]!
      have n44a : (enc dk[a + i]!).length = k := R.hk _
      have n44b : (enc dk[b + i]!).length = k := R.hk _
      rw [ST.out] at S2
      generalize enc dk[a + i]! = cI44 at S2 l44a s44b n44a
      generalize enc dk[b + i]! = cJ44 at S2 l44b s44a s44b n44b
      clear S1 ST
      go_wp2_with fail
      go_big_region_o
      clear l44a l44b s44a s44b
      generalize (wr.drew.setCells blk (off + (a + i) * k) cJ44).setCells blk (off + (b + i) * k) cI44 = w2 at S2 ⊢
      go_wp2
      go_roundg (n - (i + 1))
      case measure => omega
      case rel => exact ⟨i + 1, by go_num, hlt, Nat.le_refl _, S2⟩
    · have hlz : ¬ (i : Int) < (n : Int) := by omega
      obtain rfl : i = n := by omega
      go_wp2
      go_end0
      refine ⟨rfl, ?_⟩
      rw [HE.out] at S1
      exact S1.out
end Go.Proofs.YtjieofiaoepccaaGreatDoor

namespace Go.Proofs.YtjieofiaoepccaaGreatDoor
open Go.Shelf Go.RowKit Go.Lib Go.Sort
set_option linter.unusedVariables false
variable {P : Program}
/-- What is still to be turned. -/
def Turns (T : List Fd) (m i j sz : Nat) (Pr U V S : List Fd) : Prop :=
  U.length = i ∧ V.length = j ∧ m = Pr.length + i ∧ Pr.length + i + j + S.length = sz ∧ Pr ++ (V ++ (U ++ S)) = T
set_option maxHeartbeats 4000000 in
set_option maxRecDepth 1000000 in
theorem rot_any (k : Nat) (LP : SortP P k) (enc : Fd → List Value) (g : Nat) (cb : Array Value) (blk off cap sz a m b : Nat) (d0 : Array Fd) (w0 w : World) (R : RowK enc k w0 blk off d0) (hs : d0.size = sz) (hsz : sz < 1000000)
    (Pr U V S : List Fd) (hU : 0 < U.length) (hV : 0 < V.length) (ha : a = Pr.length) (hm : m = Pr.length + U.length) (hb : b = Pr.length + U.length + V.length) (hL : b + S.length = sz) (H : SWF enc k w0 blk off (Pr ++ (U ++ (V ++ S))) w) :
    Calls P 104 #[.slice (some ⟨blk, off, none⟩) sz cap, .int .i64 a, .int .i64 m, .int .i64 b, .func (.func g) #[] cb] w fun e w' => e = .returned (.tuple #[]) ∧ SWF enc k w0 blk off (Pr ++ (V ++ (U ++ S))) w' := by
  have mixed := LP.mixed; have t0 := LP.t0; have a0 := LP.a0; have z0 := LP.z0; have v0 := LP.v0; have t3 := LP.t3; have a3 := LP.a3; have z3 := LP.z3; have v3 := LP.v3; have t4 := LP.t4; have a4 := LP.a4; have z4 := LP.z4; have v4 := LP.v4; have t22 := LP.t22; have a22 := LP.a22; have z22 := LP.z22; have v22 := LP.v22; have t25 := LP.t25; have a25 := LP.a25; have z25 := LP.z25; have v25 := LP.v25
  have FG := LP.fR
  have e89 : ∀ args w, (callFunc 113 args).run P w = .ok (.enter 113 args) w := enters_of LP.fS (by kernel_rfl) rfl
  obtain ⟨T, hT⟩ : ∃ T, Pr ++ (V ++ (U ++ S)) = T := ⟨_, rfl⟩
  have HW := Lib.hid (fun (n a b : Nat) (w : World) (Pr A M B S : List Fd) (h1 : A.length = n) (h2 : B.length = n) (h3 : a = Pr.length) (h4 : b = Pr.length + n + M.length) (h5 : Pr.length + n + M.length + n + S.length = sz) => swr_any k LP enc g cb blk off cap sz a b n d0 w0 w R hs hsz Pr A M B S h1 h2 h3 h4 h5)
  obtain ⟨i0, hi0⟩ : ∃ i0, U.length = i0 := ⟨_, rfl⟩
  obtain ⟨j0, hj0⟩ : ∃ j0, V.length = j0 := ⟨_, rfl⟩
  have HT0 := Lib.hid (show Turns T m i0 j0 sz Pr U V S from ⟨hi0, hj0, by omega, by omega, hT⟩)
  have hT1 : 0 < i0 := by omega
  have hT2 : 0 < j0 := by omega
  have r1 : IntKind.i64.wrap ((m : Int) - (a : Int)) = (i0 : Int) := by rw [IntKind.wrap_i64]; omega
  have r2 : IntKind.i64.wrap ((b : Int) - (m : Int)) = (j0 : Int) := by rw [IntKind.wrap_i64]; omega
  have hbz : m < 1000000 := by omega
  have hij : i0 + j0 < 1000000 := by omega
  rw [hT]
  have S0 : Aside (SWF enc k w0 blk off (Pr ++ (U ++ (V ++ S))) w) := H
  clear H hU hV ha hm hb hL hT hi0 hj0
  go_enter FG, Tryz.ntmps104
  go_wp2
  clear r1 r2
  go_loopg [10, 11] (i0 + j0) (fun kx s10 s11 wr => ∃ (i j : Nat) (Pr U V S : List Fd), s10 = .int .i64 i ∧ s11 = .int .i64 j ∧ 0 < i ∧ 0 < j ∧ i + j ≤ kx ∧ i + j < 1000000 ∧ Hid (Turns T m i j sz Pr U V S) ∧ Aside (SWF enc k w0 blk off (Pr ++ (U ++ (V ++ S))) wr))
  case atStart => exact ⟨i0, j0, Pr, U, V, S, rfl, rfl, hT1, hT2, Nat.le_refl _, hij, HT0, S0⟩
  case round =>
    clear S0 HT0 hT1 hT2 hij
    obtain ⟨i, j, Pr, U, V, S, rfl, rfl, hi, hj, hkx, hij, HT, S1⟩ := hrel
    obtain ⟨p, hp⟩ : ∃ p, Pr.length = p := ⟨_, rfl⟩
    have rp : IntKind.i64.wrap ((m : Int) - (i : Int)) = (p : Int) := by have := HT.out.2.2.1; rw [IntKind.wrap_i64]; omega
    have HP := Lib.hid hp
    clear hp
    rcases Nat.lt_trichotomy i j with h | h | h
    · have q1 : ((i : Int) == (j : Int)) = false := by rw [beq_eq_false_iff_ne]; omega
      have q1' : ¬ (i : Int) = (j : Int) := by omega
      have q2 : ¬ (j : Int) < (i : Int) := by omega
      have ra : IntKind.i64.wrap ((m : Int) + (j : Int)) = (m : Int) + (j : Int) := by rw [IntKind.wrap_i64]; omega
      have rb : IntKind.i64.wrap ((m : Int) + (j : Int) - (i : Int)) = ((m + j - i : Nat) : Int) := by rw [IntKind.wrap_i64]; omega
      have rc : IntKind.i64.wrap ((j : Int) - (i : Int)) = ((j - i : Nat) : Int) := by rw [IntKind.wrap_i64]; omega
      have hC := Lib.hid (HW.out i p (m + j - i) wr Pr U (V.take (j - i)) (V.drop (j - i)) S HT.out.1 (by rw [List.length_drop]; obtain ⟨h1, h2, h3, h4, _⟩ := HT.out; omega) HP.out.symm (by rw [List.length_take]; obtain ⟨h1, h2, h3, h4, _⟩ := HT.out; omega) (by rw [List.length_take]; obtain ⟨h1, h2, h3, h4, _⟩ := HT.out; omega) (by
        have e : U ++ (V.take (j - i) ++ (V.drop (j - i) ++ S)) = U ++ (V ++ S) := by rw [← List.append_assoc (V.take _), List.take_append_drop]
        show SWF _ _ _ _ _ _ _
        rw [e]; exact S1.out))
      generalize m + j - i = mji at rb hC
      have HN := Lib.hid (show Turns T m i (j - i) sz Pr (V.drop (j - i)) (V.take (j - i)) (U ++ S) from by
        obtain ⟨h1, h2, h3, h4, h5⟩ := HT.out
        refine ⟨by rw [List.length_drop]; omega, by rw [List.length_take]; omega, h3, by rw [List.length_append]; omega, ?_⟩
        rw [← h5, ← List.append_assoc (V.take _), List.take_append_drop])
      have hji : 0 < j - i := by omega
      have hjj : i + (j - i) ≤ i + j - 1 := by omega
      generalize j - i = ji at rc HN hji hjj hC
      clear S1
      go_wp2_with (go_at_fn 113; refine hC.out.mono ?_; rintro e w2 ⟨rfl, hS2⟩)
      go_roundg (i + j - 1)
      case measure => omega
      case rel => exact ⟨i, ji, Pr, _, _, _, rfl, rfl, hi, hji, hjj, by omega, HN, hS2⟩
    · subst h
      have q1 : ((i : Int) == (i : Int)) = true := by simp
      have hC := Lib.hid (HW.out i p m wr Pr U [] V S HT.out.1 HT.out.2.1 HP.out.symm (by obtain ⟨h1, h2, h3, h4, _⟩ := HT.out; simp; omega) (by obtain ⟨h1, h2, h3, h4, _⟩ := HT.out; simp; omega) S1.out)
      have HF := Lib.hid (show Pr ++ (V ++ ([] ++ (U ++ S))) = T from HT.out.2.2.2.2)
      clear S1
      go_wp2_with (go_at_fn 113; refine hC.out.mono ?_; rintro e w2 ⟨rfl, hS2⟩)
      go_end0
      refine ⟨rfl, ?_⟩
      rw [HF.out] at hS2
      exact hS2
    · have q1 : ((i : Int) == (j : Int)) = false := by rw [beq_eq_false_iff_ne]; omega
      have q1' : ¬ (i : Int) = (j : Int) := by omega
      have q2 : (j : Int) < (i : Int) := by omega
      have rc : IntKind.i64.wrap ((i : Int) - (j : Int)) = ((i - j : Nat) : Int) := by rw [IntKind.wrap_i64]; omega
      have hC := Lib.hid (HW.out j p m wr Pr (U.take j) (U.drop j) V S (by rw [List.length_take]; obtain ⟨h1, h2, h3, h4, _⟩ := HT.out; omega) HT.out.2.1 HP.out.symm (by rw [List.length_drop]; obtain ⟨h1, h2, h3, h4, _⟩ := HT.out; omega) (by rw [List.length_drop]; obtain ⟨h1, h2, h3, h4, _⟩ := HT.out; omega) (by
        have e : U.take j ++ (U.drop j ++ (V ++ S)) = U ++ (V ++ S) := by rw [← List.append_assoc (U.take _), List.take_append_drop]
        show SWF _ _ _ _ _ _ _
        rw [e]; exact S1.out))
      have HN := Lib.hid (show Turns T m (i - j) j sz (Pr ++ V) (U.drop j) (U.take j) S from by
        obtain ⟨h1, h2, h3, h4, h5⟩ := HT.out
        refine ⟨by rw [List.length_drop]; omega, by rw [List.length_take]; omega, by rw [List.length_append]; omega, by rw [List.length_append]; omega, ?_⟩
        rw [← h5, ← List.append_assoc (U.take _), List.take_append_drop, List.append_assoc])
      have hji : 0 < i - j := by omega
      have hjj : i - j + j ≤ i + j - 1 := by omega
      generalize i - j = ij at rc HN hji hjj
      clear S1
      go_wp2_with (go_at_fn 113; refine hC.out.mono ?_; rintro e w2 ⟨rfl, hS2⟩)
      go_roundg (i + j - 1)
      case measure => omega
      case rel => exact ⟨ij, j, _, _, _, S, rfl, rfl, hji, hj, hjj, by omega, HN, by rw [List.append_assoc]; exact hS2⟩
end Go.Proofs.YtjieofiaoepccaaGreatDoor

