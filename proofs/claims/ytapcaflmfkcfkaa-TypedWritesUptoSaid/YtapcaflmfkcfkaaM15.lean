/-
  What is proved: words for memory that layer 12's contracts use: a slice of texts that lies in memory ('Txl'), its head and its tail, append of such, or of one, onto a row of the call's own.
  a map keyed by texts whose elements say nothing (a set of texts): what its block reads as behind texts put in; its keys.
  the library's slices.Sorted of what maps.Keys hands back for a set of texts, by the library's contracts at this program's numbers: the texts, rising, each once; the world has new blocks at most.
-/
import Derived.Test.YtapcaflmfkcfkaaM11
import Derived.Test.YtapcaflmfkcfkaaM8
import Derived.Maps.OwnSet
import Derived.MapViews
import Derived.Sort.KeysCollected
import Derived.Test.YtapcaflmfkcfkaaM14
import Derived.Shelf.SlIter.Nil
import Derived.Shelf.SortM.Plain
import Derived.Shelf.SortM.SortNone
namespace Go.Proofs.Ytapcaflmfkcfkaa
open Go.RowKit
set_option linter.unusedVariables false

structure TxO (w : World) (b o : Nat) (x : ByteArray) : Prop where
  c0 : w.cell? ⟨b, o, none⟩ = some (.string x)
theorem TxO.kept {w w' : World} {b o : Nat} {x : ByteArray} (h : TxO w b o x) (hg : Kept w w') : TxO w' b o x :=
  ⟨hg.cell h.c0⟩
/-- In a block of its own. -/
structure TxB (w : World) (b : Nat) (x : ByteArray) : Prop where
  c0 : w.cell? ⟨b, 0, none⟩ = some (.string x)
  f : ∀ j, w.frozen? ⟨b, j, none⟩ = false
  lt : b < w.heap.size
theorem TxB.kept {w w' : World} {b : Nat} {x : ByteArray} (h : TxB w b x) (hg : Kept w w') : TxB w' b x :=
  ⟨hg.cell h.c0, fun j => (hg.2.1 ⟨b, j, none⟩ h.lt).trans (h.f j), Nat.lt_of_lt_of_le h.lt hg.2.2⟩
theorem TxB.new (w : World) (x : ByteArray) (t : TypeId) : TxB (w.alloc (.cells #[.string x] t)) w.heap.size x :=
  ⟨(Kept.refl _).box 0 _ rfl, fun j => by rw [frozen?_alloc_cells]; simp [World.frozen?], by simp⟩
def Txl (w : World) (A : Option Addr) (n c : Nat) (L : List ByteArray) : Prop :=
  n = L.length ∧ n ≤ c ∧ c ≤ maxLen ∧ (A = none → c = 0) ∧ (n = 0 ∨ ∃ b o, A = some ⟨b, o, none⟩ ∧ ∀ j x, L[j]? = some x → TxO w b (o + j * 1) x)
theorem Txl.kept {w w' : World} {A : Option Addr} {n c : Nat} {L : List ByteArray} (h : Txl w A n c L) (hk : Kept w w') : Txl w' A n c L :=
  ⟨h.1, h.2.1, h.2.2.1, h.2.2.2.1, h.2.2.2.2.imp id fun ⟨b, o, hA, hc⟩ => ⟨b, o, hA, fun j x hj => (hc j x hj).kept hk⟩⟩
theorem Txl.nil (w : World) : Txl w none 0 0 [] := ⟨rfl, Nat.le_refl _, Nat.zero_le _, fun _ => rfl, .inl rfl⟩
theorem Txl.len {w : World} {A : Option Addr} {n c : Nat} {L : List ByteArray} (h : Txl w A n c L) : L.length = n := h.1.symm
theorem Txl.cap {w : World} {A : Option Addr} {n c : Nat} {L : List ByteArray} (h : Txl w A n c L) : n ≤ c ∧ c ≤ 9223372036854775807 := ⟨h.2.1, h.2.2.1⟩
theorem Txl.get {w : World} {A : Option Addr} {n c : Nat} {L : List ByteArray} (h : Txl w A n c L) {k : Nat} (hk : k < n) :
    ∃ b o x, A = some ⟨b, o, none⟩ ∧ L[k]? = some x ∧ TxO w b (o + k * 1) x := by
  have hl : k < L.length := by rw [← h.1]; exact hk
  rcases h.2.2.2.2 with h0 | ⟨b, o, hA, hc⟩
  · omega
  · exact ⟨b, o, L[k], hA, List.getElem?_eq_getElem hl, hc k L[k] (List.getElem?_eq_getElem hl)⟩

/-- The cells. -/
def cellX (x : ByteArray) : List Value := [.string x]
def flatX (L : List ByteArray) : List Value := L.flatMap cellX
theorem flatX_nil : flatX [] = [] := rfl
theorem flatX_cons (x : ByteArray) (L : List ByteArray) : flatX (x :: L) = cellX x ++ flatX L := rfl
theorem flatX_app (L M : List ByteArray) : flatX (L ++ M) = flatX L ++ flatX M := List.flatMap_append
theorem flatX_len (L : List ByteArray) : (flatX L).length = L.length * 1 := by
  induction L with
  | nil => rfl
  | cons x L ih => rw [flatX_cons, List.length_append, List.length_cons, ih]; show 1 + _ = _; omega
theorem flatX_one (L : List ByteArray) : ∀ u ∈ flatX L, u.oneCell' = true := by
  intro u hu
  obtain ⟨x, _, hx⟩ := List.mem_flatMap.1 hu
  simp only [cellX, List.mem_cons, List.not_mem_nil, or_false] at hx
  rcases hx with rfl <;> rfl
theorem flatX_get : ∀ (L : List ByteArray) (j : Nat) (x : ByteArray), L[j]? = some x → ∀ i, i < 1 → (flatX L)[j * 1 + i]? = (cellX x)[i]?
  | [], j, x, h, _, _ => by simp at h
  | y :: L, 0, x, h, i, hi => by
    obtain rfl : y = x := by simpa using h
    rw [flatX_cons, List.getElem?_append_left (by show 0 * 1 + i < 1; omega), Nat.zero_mul, Nat.zero_add]
  | y :: L, j + 1, x, h, i, hi => by
    have ih := flatX_get L j x (by simpa using h) i hi
    rw [flatX_cons, List.getElem?_append_right (by show 1 ≤ _; omega), ← ih]
    congr 1
    show (j + 1) * 1 + i - 1 = _
    omega
theorem flatX_at : ∀ (L : List ByteArray) (i : Nat) (u : Value), (flatX L)[i]? = some u → ∃ j x r, L[j]? = some x ∧ i = j * 1 + r ∧ r < 1 ∧ (cellX x)[r]? = some u
  | [], i, u, h => by simp [flatX_nil] at h
  | y :: L, i, u, h => by
    rw [flatX_cons] at h
    by_cases hi : i < 1
    · rw [List.getElem?_append_left (by exact hi)] at h
      exact ⟨0, y, i, rfl, by omega, hi, h⟩
    · rw [List.getElem?_append_right (by show 1 ≤ i; omega)] at h
      obtain ⟨j, x, r, h1, h2, h3, h4⟩ := flatX_at L (i - 1) u h
      exact ⟨j + 1, x, r, by simpa using h1, by omega, h3, h4⟩
theorem TxO.of_flat {w : World} {b o : Nat} {x : ByteArray} (h : ∀ i u, (cellX x)[i]? = some u → w.cell? ⟨b, o + i, none⟩ = some u) : TxO w b o x :=
  ⟨h 0 _ rfl⟩
theorem TxO.flat {w : World} {b o : Nat} {x : ByteArray} (h : TxO w b o x) : ∀ i u, (cellX x)[i]? = some u → w.cell? ⟨b, o + i, none⟩ = some u := by
  intro i u hu
  match i, hu with
  | 0, hu => obtain rfl := Option.some.inj hu; exact h.c0
  | i + 1, hu => simp [cellX] at hu
theorem TxB.o {w : World} {b : Nat} {x : ByteArray} (h : TxB w b x) : TxO w b 0 x := ⟨h.c0⟩
theorem Txl.of_own' {w : World} {base n : Nat} {e : TypeId} {v : Value} {L : List ByteArray} (h : w.ownsRow base e 1 v n (flatX L)) : ∃ A c, v = .slice A n c ∧ Txl w A n c L ∧ ∀ ad, A = some ad → base ≤ ad.block := by
  have hl : n = L.length := by have := h.1; rw [flatX_len] at this; omega
  have hc := fun g (hg : v.ownBlock = some g) => h.cells (g := g) hg
  have hlt := fun g (hg : v.ownBlock = some g) => h.lt g hg
  rcases h.2 with ⟨rfl, h0⟩ | ⟨g, cap, cur, rfl, hb, hg, h1, h2, _⟩
  · subst h0
    exact ⟨none, 0, rfl, ⟨hl, Nat.le_refl _, Nat.zero_le _, fun _ => rfl, .inl rfl⟩, fun ad he => by cases he⟩
  · refine ⟨some ⟨g, 0, none⟩, cap, rfl, ⟨hl, h1, h2, fun h => by simp at h, .inr ⟨g, 0, rfl, fun j x hj => ?_⟩⟩, fun ad he => by cases he; exact hb⟩
    refine TxO.of_flat fun i u hu => ?_
    have hi : i < 1 := (List.getElem?_eq_some_iff.1 hu).1
    have := hc g rfl _ u ((flatX_get L j x hj i hi).trans hu)
    rw [Addr.add_lit, Nat.zero_add] at this
    rw [Nat.zero_add]
    exact this
theorem Txl.of_own {w : World} {base n : Nat} {e : TypeId} {v : Value} {L : List ByteArray} (h : w.ownsRow base e 1 v n (flatX L)) : ∃ A c, v = .slice A n c ∧ Txl w A n c L := by
  obtain ⟨A, c, h1, h2, _⟩ := Txl.of_own' h
  exact ⟨A, c, h1, h2⟩
theorem info_tx : (Try.prog.info? 9).map (fun i => (i.zero, i.size, i.bytes)) = some (some (.string ⟨#[]⟩), 1, 16) := by kernel_rfl
theorem app_txs (w : World) (base : Nat) (v : Value) (n : Nat) (xs : List Value) (h : w.ownsRow base 9 1 v n xs) (A : Option Addr) (m c : Nat) (L : List ByteArray) (hs : Txl w A m c L) (hb : n + m ≤ 1000000000) (hbase : base ≤ w.heap.size) :
    ∃ v' w', (Builtin.append_ #[35, 35] 35 #[v, .slice A m c]).run Try.prog w = .ok v' w' ∧ w'.ownsRow base 9 1 v' (n + m) (xs ++ flatX L) ∧ w.grownBy w' v.ownBlock ∧ (v'.ownBlock = v.ownBlock ∨ v'.ownBlock = some w.heap.size) := by
  obtain ⟨i0, hi0, hz0, hz1, hz2⟩ := info_parts info_tx
  cases A with
  | none =>
    obtain rfl := hs.2.2.2.1 rfl
    obtain rfl : m = 0 := by have := hs.2.1; omega
    have hL : L = [] := List.eq_nil_of_length_eq_zero hs.1.symm
    subst hL
    exact ⟨v, w, run_append_owned_none w base _ _ _ i0 1 Try.underlying35 hi0 v n xs h, by simpa [flatX_nil] using h, World.grownBy.refl w _, .inl rfl⟩
  | some ad =>
    obtain ⟨v', w', hr, ho, hg, _, hat⟩ := run_append_own_at (P := Try.prog) w base 35 35 9 i0 (.string ⟨#[]⟩) 1 16 Try.underlying35 hi0 hz0 hz1 hz2 rfl (by decide) v n xs h ad m c (flatX L)
      (by rw [flatX_len, hs.1]) (fun j u hj => by
        obtain ⟨k, x, r, hk, rfl, hr9, hu⟩ := flatX_at L j u hj
        have hkl := (List.getElem?_eq_some_iff.1 hk).1
        obtain ⟨b, o, y, hA, hy, hc⟩ := hs.get (k := k) (by rw [hs.1]; exact hkl)
        obtain rfl : y = x := Option.some.inj (hy.symm.trans hk)
        obtain rfl := Option.some.inj hA
        rw [Addr.add_lit, ← Nat.add_assoc]
        exact hc.flat r u hu) (flatX_one _) (by simp only [maxLen]; omega) (by omega) hbase
    exact ⟨v', w', hr, ho, hg, hat⟩
/-- A row of entries that a call makes; U: what is left alone. -/
structure OutX (U wr : World) (v : Value) (L : List ByteArray) : Prop where
  own : wr.ownsRow U.heap.size 9 1 v L.length (flatX L)
  ke : Kept U wr
theorem OutX.start (U : World) : OutX U U (.slice none 0 0) [] := ⟨World.ownsRow_nil _ _ _ _, Kept.refl _⟩
theorem OutX.kept {U wr w' : World} {v : Value} {L : List ByteArray} (h : OutX U wr v L) (hk : Kept wr w') : OutX U w' v L := ⟨own_kept h.own hk, h.ke.trans hk⟩
theorem OutX.form {U wr : World} {v : Value} {L : List ByteArray} (h : OutX U wr v L) : ∃ A c, v = .slice A L.length c ∧ Txl wr A L.length c L ∧ (∀ ad, A = some ad → U.heap.size ≤ ad.block) ∧ L.length ≤ c ∧ c ≤ 9223372036854775807 := by
  obtain ⟨A, c, h1, h2, h3⟩ := Txl.of_own' h.own
  exact ⟨A, c, h1, h2, h3, h2.cap.1, h2.cap.2⟩
theorem OutX.app {U wr : World} {v : Value} {L : List ByteArray} (h : OutX U wr v L) (A : Option Addr) (m c : Nat) (M : List ByteArray) (hs : Txl wr A m c M) (hb : L.length + m ≤ 1000000000) :
    ∃ v' w', (Builtin.append_ #[35, 35] 35 #[v, .slice A m c]).run Try.prog wr = .ok v' w' ∧ OutX U w' v' (L ++ M) := by
  obtain ⟨v', w', hr, ho, hg, _⟩ := app_txs wr U.heap.size v L.length (flatX L) h.own A m c M hs hb h.ke.2.2
  refine ⟨v', w', hr, ?_, kept_grown h.ke hg fun k hk => (h.own.lt k hk).1⟩
  rw [List.length_append, flatX_app, ← hs.1]
  exact ho
theorem tx_one {w : World} {x : ByteArray} {b : Nat} (h : TxB w b x) : Txl w (some ⟨b, 0, none⟩) 1 1 [x] := by
  refine ⟨rfl, Nat.le_refl _, by simp [maxLen], (fun h => by cases h), .inr ⟨b, 0, rfl, fun j y hj => ?_⟩⟩
  match j, hj with
  | 0, hj =>
    obtain rfl : x = y := by simpa using hj
    exact h.o
  | j + 1, hj => simp at hj

theorem size_tx (W : World) : (Go.sizeOf (Try.prog.elem 35)).run Try.prog W = .ok 1 W := by kernel_rfl
theorem tx_head {w : World} {A : Option Addr} {n c k : Nat} {L : List ByteArray} (h : Txl w A n c L) (hk : k ≤ n) {c' : Nat} (hc : k ≤ c') (hc2 : c' ≤ c) : Txl w A k c' (L.take k) := by
  obtain ⟨h1, h2, h3, h4, h5⟩ := h
  refine ⟨by rw [List.length_take]; omega, hc, by omega, fun e => by have := h4 e; omega, ?_⟩
  rcases h5 with h0 | ⟨b, o, hA, hc⟩
  · exact .inl (by omega)
  · refine .inr ⟨b, o, hA, fun j x hj => hc j x ?_⟩
    rw [List.getElem?_take] at hj
    split at hj
    · exact hj
    · cases hj
theorem tx_tail {w : World} {A : Option Addr} {n c k : Nat} {L : List ByteArray} (h : Txl w A n c L) (hk : k ≤ n) : ∃ A2, Txl w A2 (n - k) (c - k) (L.drop k) ∧
    (∀ W : World, (Instr.slice 35 (.slice A n c) (some (.int .i64 (k : Int))) none none).run Try.prog W = .ok (.slice A2 (n - k) (c - k)) W) ∧
    (∀ W : World, (Instr.sliceAt 35 (.slice A n c) (some (.int .i64 (k : Int))) none none).run Try.prog W = .ok (.slice A2 (n - k) (c - k)) W) := by
  obtain ⟨h1, h2, h3, h4, h5⟩ := h
  have hr : ∀ W : World, (Instr.slice 35 (.slice A n c) (some (.int .i64 (k : Int))) none none).run Try.prog W = .ok (.slice (if c = k then A else A.map (·.add (k * 1))) (n - k) (c - k)) W := fun W => by
    rw [run_slice_l W 35 _ n c (by kernel_rfl) .i64 (k : Int) (by omega) (by omega), size_tx]
    simp only [Result.andThen, sliced, Int.toNat_natCast]
  refine ⟨_, ?_, hr, fun W => by rw [run_sliceAt_slice W _ _ _ _ _ (by kernel_rfl)]; exact hr W⟩
  refine ⟨by rw [List.length_drop]; omega, by omega, by omega, fun he => ?_, ?_⟩
  · by_cases hc : c = k
    · omega
    · rw [if_neg hc, Option.map_eq_none_iff] at he
      have := h4 he
      omega
  · rcases h5 with h0 | ⟨b, o, hA, hc⟩
    · exact .inl (by omega)
    · by_cases hkn : k = n
      · exact .inl (by omega)
      · refine .inr ⟨b, o + k * 1, ?_, fun j x hj => ?_⟩
        · rw [if_neg (by omega), hA, Option.map_some, Addr.add_lit]
        · rw [List.getElem?_drop] at hj
          have := hc _ x hj
          rw [show o + k * 1 + j * 1 = o + (k + j) * 1 by omega]
          exact this
end Go.Proofs.Ytapcaflmfkcfkaa

namespace Go.Proofs.Ytapcaflmfkcfkaa
open Go.RowKit Go.Maps Go.Sort
set_option linter.unusedVariables false

theorem strT : Try.prog.underlying 9 = some .string := by kernel_rfl
theorem keyedT : Maps.Keyed Try.prog 9 := string_keyed strT
theorem mapT : Try.prog.underlying 50 = some (.map 9 51) := by kernel_rfl
theorem zeroT (w : World) : (zeroValue 51).run Try.prog w = .ok (.agg #[]) w := by kernel_rfl
theorem keyT (s : ByteArray) (hs : s.size ≤ 1099511627776) : keyOf Try.prog 9 (.string s) = some (.string s.data.toList) := by
  simp [keyOf, mapKey]
  exact Nat.le_trans hs (by decide)
def litT (s : ByteArray) : Lit := .string s.data.toList
/-- The set that has the texts L. -/
def setT (L : List ByteArray) : DataW Unit := Maps.setOf (.agg []) (L.map litT)
theorem setT_put (L : List ByteArray) (d : ByteArray) : (setT L).put (litT d) (.agg []) = setT (L ++ [d]) := by
  unfold setT; rw [List.map_append, List.map_singleton, Maps.setOf_snoc]
theorem setT_has (L : List ByteArray) (x : List UInt8) : Maps.has (setT L) (.string x) = true ↔ ∃ d ∈ L, d.data.toList = x := by
  unfold setT
  rw [Maps.has_setOf _ _ _ (fun l hl => by obtain ⟨y, _, rfl⟩ := List.mem_map.1 hl; exact trivial), List.any_eq_true]
  constructor
  · rintro ⟨l, hl, he⟩
    obtain ⟨y, hy, rfl⟩ := List.mem_map.1 hl
    exact ⟨y, hy, by simpa [litT, Lit.sameKey] using he⟩
  · rintro ⟨y, hy, rfl⟩
    exact ⟨litT y, List.mem_map.2 ⟨y, hy, rfl⟩, by simp [litT, Lit.sameKey]⟩
/-- Block b is the set of the texts L. -/
def SetT (w : World) (b : Nat) (L : List ByteArray) : Prop := w.ownsMap Try.prog 9 unitElem b L.length (setT L)
theorem SetT.made (w : World) : SetT (w.alloc (.map #[] 0)) w.heap.size [] := World.ownsMap_made _ _ _ _
theorem SetT.kept {w w' : World} {b : Nat} {L : List ByteArray} (h : SetT w b L) (hk : Kept w w') : SetT w' b L := by
  obtain ⟨es, clock, hb, r⟩ := h
  exact ⟨es, clock, by rw [hk.blk (Array.getElem?_eq_some_iff.1 hb).1]; exact hb, r⟩
theorem SetT.put {w : World} {b : Nat} {L : List ByteArray} {d : ByteArray} (h : w.ownsMap Try.prog 9 unitElem b (L.length + 1) ((setT L).put (litT d) (.agg []))) : SetT w b (L ++ [d]) := by
  unfold SetT
  rw [List.length_append, ← setT_put]
  exact h
/-- The keys: each text of L, once. -/
theorem SetT.keys {w : World} {b : Nat} {L : List ByteArray} (h : SetT w b L) : (strKeys (setT L)).Nodup ∧ ∀ x, x ∈ strKeys (setT L) ↔ ∃ d ∈ L, d.data.toList = x := by
  obtain ⟨es, hD, hpw, _⟩ := World.ownsMap.entries h keyedT
  obtain ⟨es', hD', hko⟩ := World.ownsMap.keysOf h
  have hE : es = es' := by rw [hD] at hD'; simpa using hD'
  subst hE
  have hk : ∀ p ∈ es, ∃ x, p.1 = .string x := fun p hp => by obtain ⟨v, hv⟩ := hko p hp; obtain ⟨x, _, hx, _⟩ := Maps.keyOf_str strT hv; exact ⟨x, hx⟩
  refine ⟨?_, fun x => ?_⟩
  · rw [hD]
    show (es.map fun p => strOf p.1).Nodup
    refine List.pairwise_map.2 (hpw.imp_of_mem fun {p q} hp' hq' hne e => hne ?_)
    obtain ⟨a, ha⟩ := hk p hp'
    obtain ⟨b, hb⟩ := hk q hq'
    rw [ha, hb] at e ⊢
    exact congrArg _ e
  · rw [← setT_has, hD, has_eq, List.any_eq_true]
    show x ∈ es.map (fun p => strOf p.1) ↔ _
    rw [List.mem_map]
    constructor
    · rintro ⟨p, hp', rfl⟩
      obtain ⟨a, ha⟩ := hk p hp'
      exact ⟨p, hp', by rw [ha]; simp [Lit.sameKey, strOf]⟩
    · rintro ⟨p, hp', hs⟩
      obtain ⟨a, ha⟩ := hk p hp'
      rw [ha] at hs
      exact ⟨p, hp', by rw [ha]; simpa [Lit.sameKey, strOf] using hs⟩
/-- A row of texts, sorted, each once, is the row that P12.3 asks. -/
def ofB (l : List UInt8) : ByteArray := ⟨l.toArray⟩
theorem sorted_paths {L : List En} {ss : List (List UInt8)} (hn : ss.Nodup) (hm : ∀ x, x ∈ ss ↔ ∃ d ∈ L.map (·.p), d.data.toList = x) : PathsS L ((ss.mergeSort fun x y => decide (x ≤ y)).map ofB) := by
  have tr : ∀ a b c : List UInt8, leB a b = true → leB b c = true → leB a c = true := fun a b c h1 h2 => by simp only [leB, decide_eq_true_eq] at *; exact List.le_trans h1 h2
  have to : ∀ a b : List UInt8, (leB a b || leB b a) = true := fun a b => by simp only [leB, Bool.or_eq_true, decide_eq_true_eq]; exact List.le_total a b
  have hp := List.pairwise_mergeSort tr to ss
  have hnd : (ss.mergeSort leB).Nodup := (List.mergeSort_perm ss leB).nodup_iff.2 hn
  refine ⟨List.pairwise_map.2 ((hp.and hnd).imp fun {a b} h => ?_), fun p => ?_⟩
  · show a < b
    have h1 : a ≤ b := by have := h.1; simpa [leB] using this
    rcases List.le_iff_lt_or_eq.1 h1 with h2 | h2
    · exact h2
    · exact absurd h2 h.2
  · rw [List.mem_map]
    constructor
    · rintro ⟨l, hl, rfl⟩
      obtain ⟨d, hd, e⟩ := (hm l).1 ((List.mergeSort_perm ss leB).mem_iff.1 hl)
      obtain ⟨x, hx, rfl⟩ := List.mem_map.1 hd
      exact ⟨x, hx, by rw [← e]; rfl⟩
    · rintro ⟨x, hx, rfl⟩
      exact ⟨x.p.data.toList, (List.mergeSort_perm ss leB).mem_iff.2 ((hm _).2 ⟨x.p, List.mem_map.2 ⟨x, hx, rfl⟩, rfl⟩), rfl⟩
theorem flat_ofB (ss : List (List UInt8)) : flatX (ss.map ofB) = ss.map encStr := by
  induction ss with
  | nil => rfl
  | cons x ss ih => rw [List.map_cons, flatX_cons, ih]; rfl
end Go.Proofs.Ytapcaflmfkcfkaa

namespace Go.Proofs.Ytapcaflmfkcfkaa
open Go.RowKit Go.Maps Go.Sort Go.Shelf
set_option linter.unusedVariables false

theorem sortsY (m : Nat) : AnyZ.SortsIn Try.prog Try.sortedY_ren Fence.wide m :=
  ⟨fun blk off cap ss W hH hblk hsz => callsIn_wide.2 (AnyM.slices_Sort_string Try.sortY blk off cap ss W hH hblk hsz),
   fun p cap W => callsIn_wide.2 (AnyM.slices_Sort_string_none Try.sortY p cap W)⟩
theorem keysY_any (mb : Option Nat) (W : World) : Calls Try.prog 24 #[.map mb] W fun e w' => e = .returned (.func (.func 43) #[] #[.pointer (some ⟨W.heap.size, 0, none⟩)]) ∧ w' = W.alloc (.cells #[.map mb] 50) :=
  (callsIn_wide (n := 5)).1 (AnyZ.keys_in Try.keysY Fence.wide 5 trivial rfl mb W)
set_option maxHeartbeats 1000000 in
theorem sortedY_own (b nn : Nat) (D0 : DataW Unit) (R : Value → Option (DataW Unit × List MemPlace)) (w : World) (hown : w.ownsMap Try.prog 9 R b nn D0) (hmax : Maps.size D0 ≤ maxLen) (hbytes : Maps.size D0 * 16 ≤ 140737488355328) :
    Calls Try.prog 23 #[.func (.func 43) #[] #[.pointer (some ⟨w.heap.size, 0, none⟩)]] (w.alloc (.cells #[.map (some b)] 50)) fun e w' => ∃ (v : Value) (ss : List (List UInt8)), e = .returned v ∧ ss.Perm (strKeys D0) ∧
      w'.ownsRow (w.alloc (.cells #[.map (some b)] 50)).heap.size 9 1 v ss.length ((ss.mergeSort (fun x y => decide (x ≤ y))).map encStr) ∧ (v = .slice none 0 0 ↔ ss = []) ∧ Below (w.alloc (.cells #[.map (some b)] 50)).heap.size (w.alloc (.cells #[.map (some b)] 50)) w' := by
  refine (callsIn_wide (n := 5)).1 ?_
  have hbl := hown.lt
  have hseq : SeqGives Fence.wide 2 Try.prog 43 #[.pointer (some ⟨w.heap.size, 0, none⟩)] encStr (fun ss => ss.Perm (strKeys D0)) (Maps.size D0) (w.alloc (.cells #[.map (some b)] 50)) :=
    AnyZ.keys_gives (ρ := Try.keysY_ren) { Try.keysY with } Fence.wide _ trivial rfl (by omega) w.heap.size b nn D0 _ (by simp) (by simp) (by
      obtain ⟨es, clock, hb, Ft, hs, hD⟩ := hown
      exact ⟨es, clock, (Below.heap_alloc _ _ b hbl).trans hb, Ft, hs, hD⟩)
  exact AnyZ.sorted_in Try.sortedY Fence.wide 5 trivial trivial trivial trivial rfl (by omega) (sortsY _) (enters_of Try.func42 (by kernel_rfl) rfl) 43 #[.pointer (some ⟨w.heap.size, 0, none⟩)] trivial (enters_of Try.func43 (by kernel_rfl) rfl) _ _ hmax hbytes _ hseq
theorem size_setT (L : List ByteArray) : Maps.size (setT L) ≤ L.length := by
  have key : ∀ (l : List Lit) (m : DataW Unit), Maps.Tidy m → (∀ x ∈ l, WideAt.IsKeyLit x) → Maps.size (l.foldl (fun m x => m.put x (.agg [])) m) ≤ Maps.size m + l.length := by
    intro l
    induction l with
    | nil => intro m _ _; simp
    | cons x l ih =>
      intro m hm hl
      have h1 := ih (m.put x (.agg [])) (hm.put (hl x (by simp)) _) fun y hy => hl y (List.mem_cons_of_mem _ hy)
      have h2 := Maps.size_put (k := x) hm (.agg [] : DataW Unit)
      rw [List.foldl_cons, List.length_cons]
      split at h2 <;> omega
  have := key (L.map litT) (.map []) Maps.tidy_empty (fun l hl => by obtain ⟨y, _, rfl⟩ := List.mem_map.1 hl; exact trivial)
  rw [List.length_map] at this
  unfold setT Maps.setOf
  simpa [Maps.size] using this
/-- Of a set of the paths of entries. -/
theorem sortedY_any (b : Nat) (L : List En) (w : World) (h : SetT w b (L.map (·.p))) (hn : L.length ≤ 1000000) :
    Calls Try.prog 23 #[.func (.func 43) #[] #[.pointer (some ⟨w.heap.size, 0, none⟩)]] (w.alloc (.cells #[.map (some b)] 50)) fun e w' => ∃ A c M, e = .returned (.slice A M.length c) ∧ PathsS L M ∧ Txl w' A M.length c M ∧ M.length ≤ L.length ∧ Kept w w' := by
  have hs := size_setT (L.map (·.p))
  rw [List.length_map] at hs
  refine (sortedY_own b _ _ _ w h (by simp only [maxLen]; omega) (by omega)).mono ?_
  rintro e w' ⟨v, ss, rfl, hp, ho, _, hb⟩
  obtain ⟨k1, k2⟩ := h.keys
  have hps := sorted_paths (L := L) (hp.nodup_iff.2 k1) fun x => (hp.mem_iff).trans (k2 x)
  have hl : ((ss.mergeSort fun x y => decide (x ≤ y)).map ofB).length = ss.length := by rw [List.length_map]; exact (List.mergeSort_perm _ _).length_eq
  rw [← flat_ofB, ← hl] at ho
  obtain ⟨A, c, rfl, hx, _⟩ := Txl.of_own' ho
  refine ⟨A, c, _, rfl, hps, hx, ?_, ((Kept.refl w).alloc _ _).trans (kept_of_below hb)⟩
  rw [hl, hp.length_eq]
  have : (strKeys (setT (L.map (·.p)))).length ≤ Maps.size (setT (L.map (·.p))) := by
    cases setT (L.map (·.p)) <;> simp [strKeys, Maps.size]
  omega
end Go.Proofs.Ytapcaflmfkcfkaa

