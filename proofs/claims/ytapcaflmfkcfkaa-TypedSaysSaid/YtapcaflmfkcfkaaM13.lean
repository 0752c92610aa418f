/-
  What is proved: words for memory that layer 8's contracts use: a slice of entries that lies in memory ('El'), its head and its tail, append of such, or of one, onto a row of the call's own; what a world that has all that another one has keeps of it.
  a schema, a slice of entries and an entry among the arguments, opened: what they hold; what is read of the arguments reads on, in a world with new blocks at most.
  the document's Fits, All and Default of layer 12 (P12.1, P12.2, P12.4), called with any schema, entries and path of bounded texts, return what the chapter says; the world has new blocks at most.
-/
import Derived.Test.YtapcaflmfkcfkaaM6
import Derived.Test.YtapcaflmfkcfkaaERight
import Derived.Test.YtapcaflmfkcfkaaM8
import Derived.Test.YtapcaflmfkcfkaaM11
import Derived.ProofKit
import Derived.LaidMore
import Derived.OpenShut
import Derived.ChangeMaps5
import Derived.Stop.Joined
import Derived.Lib.SmallJoins
import Derived.Lib.LaidTab
import Derived.SizedLaws
import Derived.MakeChecks
import Derived.Carry
import Derived.WideKeyArgs
import Derived.Deep.Strs
import Derived.Deep.Frames
import Derived.Deep.SlicePairs
namespace Go.Proofs.Ytapcaflmfkcfkaa
open Go.RowKit

/-- What an event left, in the nine cells from o on. -/
structure EntO (w : World) (b o : Nat) (x : En) : Prop where
  c0 : w.cell? ⟨b, o, none⟩ = some (.int .i64 x.d.1)
  c1 : w.cell? ⟨b, o + 1, none⟩ = some (.int .i64 x.d.2)
  c2 : w.cell? ⟨b, o + 2, none⟩ = some (.string x.p)
  c3 : w.cell? ⟨b, o + 3, none⟩ = some (.int .i64 x.k)
  c4 : w.cell? ⟨b, o + 4, none⟩ = some (.int .i64 x.vk)
  c5 : w.cell? ⟨b, o + 5, none⟩ = some (.int .i64 x.vn)
  c6 : w.cell? ⟨b, o + 6, none⟩ = some (.string x.vt)
  c7 : w.cell? ⟨b, o + 7, none⟩ = some (.int .i64 x.e.1)
  c8 : w.cell? ⟨b, o + 8, none⟩ = some (.int .i64 x.e.2)
theorem EntO.kept {w w' : World} {b o : Nat} {x : En} (h : EntO w b o x) (hg : Kept w w') : EntO w' b o x :=
  ⟨hg.cell h.c0, hg.cell h.c1, hg.cell h.c2, hg.cell h.c3, hg.cell h.c4, hg.cell h.c5, hg.cell h.c6, hg.cell h.c7, hg.cell h.c8⟩
def El (w : World) (A : Option Addr) (n c : Nat) (L : List En) : Prop :=
  n = L.length ∧ n ≤ c ∧ c ≤ maxLen ∧ (A = none → c = 0) ∧ (n = 0 ∨ ∃ b o, A = some ⟨b, o, none⟩ ∧ ∀ j x, L[j]? = some x → EntO w b (o + j * 9) x)
theorem El.kept {w w' : World} {A : Option Addr} {n c : Nat} {L : List En} (h : El w A n c L) (hk : Kept w w') : El w' A n c L :=
  ⟨h.1, h.2.1, h.2.2.1, h.2.2.2.1, h.2.2.2.2.imp id fun ⟨b, o, hA, hc⟩ => ⟨b, o, hA, fun j x hj => (hc j x hj).kept hk⟩⟩
theorem El.nil (w : World) : El w none 0 0 [] := ⟨rfl, Nat.le_refl _, Nat.zero_le _, fun _ => rfl, .inl rfl⟩
theorem El.len {w : World} {A : Option Addr} {n c : Nat} {L : List En} (h : El w A n c L) : L.length = n := h.1.symm
theorem El.cap {w : World} {A : Option Addr} {n c : Nat} {L : List En} (h : El w A n c L) : n ≤ c ∧ c ≤ 9223372036854775807 := ⟨h.2.1, h.2.2.1⟩
theorem El.get {w : World} {A : Option Addr} {n c : Nat} {L : List En} (h : El w A n c L) {k : Nat} (hk : k < n) :
    ∃ b o x, A = some ⟨b, o, none⟩ ∧ L[k]? = some x ∧ EntO w b (o + k * 9) x := by
  have hl : k < L.length := by rw [← h.1]; exact hk
  rcases h.2.2.2.2 with h0 | ⟨b, o, hA, hc⟩
  · omega
  · exact ⟨b, o, L[k], hA, List.getElem?_eq_getElem hl, hc k L[k] (List.getElem?_eq_getElem hl)⟩

/-- The cells of entries. -/
def cellE (x : En) : List Value := [.int .i64 x.d.1, .int .i64 x.d.2, .string x.p, .int .i64 x.k, .int .i64 x.vk, .int .i64 x.vn, .string x.vt, .int .i64 x.e.1, .int .i64 x.e.2]
def flatE (L : List En) : List Value := L.flatMap cellE
theorem flatE_nil : flatE [] = [] := rfl
theorem flatE_cons (x : En) (L : List En) : flatE (x :: L) = cellE x ++ flatE L := rfl
theorem flatE_app (L M : List En) : flatE (L ++ M) = flatE L ++ flatE M := List.flatMap_append
theorem flatE_len (L : List En) : (flatE L).length = L.length * 9 := by
  induction L with
  | nil => rfl
  | cons x L ih => rw [flatE_cons, List.length_append, List.length_cons, ih]; show 9 + _ = _; omega
theorem flatE_one (L : List En) : ∀ u ∈ flatE L, u.oneCell' = true := by
  intro u hu
  obtain ⟨x, _, hx⟩ := List.mem_flatMap.1 hu
  simp only [cellE, List.mem_cons, List.not_mem_nil, or_false] at hx
  rcases hx with rfl | rfl | rfl | rfl | rfl | rfl | rfl | rfl | rfl <;> rfl
theorem flatE_get : ∀ (L : List En) (j : Nat) (x : En), L[j]? = some x → ∀ i, i < 9 → (flatE L)[j * 9 + i]? = (cellE x)[i]?
  | [], j, x, h, _, _ => by simp at h
  | y :: L, 0, x, h, i, hi => by
    obtain rfl : y = x := by simpa using h
    rw [flatE_cons, List.getElem?_append_left (by show 0 * 9 + i < 9; omega), Nat.zero_mul, Nat.zero_add]
  | y :: L, j + 1, x, h, i, hi => by
    have ih := flatE_get L j x (by simpa using h) i hi
    rw [flatE_cons, List.getElem?_append_right (by show 9 ≤ _; omega), ← ih]
    congr 1
    show (j + 1) * 9 + i - 9 = _
    omega
theorem flatE_at : ∀ (L : List En) (i : Nat) (u : Value), (flatE L)[i]? = some u → ∃ j x r, L[j]? = some x ∧ i = j * 9 + r ∧ r < 9 ∧ (cellE x)[r]? = some u
  | [], i, u, h => by simp [flatE_nil] at h
  | y :: L, i, u, h => by
    rw [flatE_cons] at h
    by_cases hi : i < 9
    · rw [List.getElem?_append_left (by exact hi)] at h
      exact ⟨0, y, i, rfl, by omega, hi, h⟩
    · rw [List.getElem?_append_right (by show 9 ≤ i; omega)] at h
      obtain ⟨j, x, r, h1, h2, h3, h4⟩ := flatE_at L (i - 9) u h
      exact ⟨j + 1, x, r, by simpa using h1, by omega, h3, h4⟩
theorem EntO.of_flat {w : World} {b o : Nat} {x : En} (h : ∀ i u, (cellE x)[i]? = some u → w.cell? ⟨b, o + i, none⟩ = some u) : EntO w b o x :=
  ⟨h 0 _ rfl, h 1 _ rfl, h 2 _ rfl, h 3 _ rfl, h 4 _ rfl, h 5 _ rfl, h 6 _ rfl, h 7 _ rfl, h 8 _ rfl⟩
theorem EntO.flat {w : World} {b o : Nat} {x : En} (h : EntO w b o x) : ∀ i u, (cellE x)[i]? = some u → w.cell? ⟨b, o + i, none⟩ = some u := by
  intro i u hu
  match i, hu with
  | 0, hu => obtain rfl := Option.some.inj hu; exact h.c0
  | 1, hu => obtain rfl := Option.some.inj hu; exact h.c1
  | 2, hu => obtain rfl := Option.some.inj hu; exact h.c2
  | 3, hu => obtain rfl := Option.some.inj hu; exact h.c3
  | 4, hu => obtain rfl := Option.some.inj hu; exact h.c4
  | 5, hu => obtain rfl := Option.some.inj hu; exact h.c5
  | 6, hu => obtain rfl := Option.some.inj hu; exact h.c6
  | 7, hu => obtain rfl := Option.some.inj hu; exact h.c7
  | 8, hu => obtain rfl := Option.some.inj hu; exact h.c8
  | i + 9, hu => simp [cellE] at hu
theorem Ent.entO {w : World} {b : Nat} {x : En} (h : Ent w b x) : EntO w b 0 x := ⟨h.c0, h.c1, h.c2, h.c3, h.c4, h.c5, h.c6, h.c7, h.c8⟩
theorem El.of_own' {w : World} {base n : Nat} {e : TypeId} {v : Value} {L : List En} (h : w.ownsRow base e 9 v n (flatE L)) : ∃ A c, v = .slice A n c ∧ El w A n c L ∧ ∀ ad, A = some ad → base ≤ ad.block := by
  have hl : n = L.length := by have := h.1; rw [flatE_len] at this; omega
  have hc := fun g (hg : v.ownBlock = some g) => h.cells (g := g) hg
  have hlt := fun g (hg : v.ownBlock = some g) => h.lt g hg
  rcases h.2 with ⟨rfl, h0⟩ | ⟨g, cap, cur, rfl, hb, hg, h1, h2, _⟩
  · subst h0
    exact ⟨none, 0, rfl, ⟨hl, Nat.le_refl _, Nat.zero_le _, fun _ => rfl, .inl rfl⟩, fun ad he => by cases he⟩
  · refine ⟨some ⟨g, 0, none⟩, cap, rfl, ⟨hl, h1, h2, fun h => by simp at h, .inr ⟨g, 0, rfl, fun j x hj => ?_⟩⟩, fun ad he => by cases he; exact hb⟩
    refine EntO.of_flat fun i u hu => ?_
    have hi : i < 9 := (List.getElem?_eq_some_iff.1 hu).1
    have := hc g rfl _ u ((flatE_get L j x hj i hi).trans hu)
    rw [Addr.add_lit, Nat.zero_add] at this
    rw [Nat.zero_add]
    exact this
theorem El.of_own {w : World} {base n : Nat} {e : TypeId} {v : Value} {L : List En} (h : w.ownsRow base e 9 v n (flatE L)) : ∃ A c, v = .slice A n c ∧ El w A n c L := by
  obtain ⟨A, c, h1, h2, _⟩ := El.of_own' h
  exact ⟨A, c, h1, h2⟩
theorem infoEn : (Try.prog.info? 33).map (fun i => (i.zero, i.size, i.bytes)) = some (some (.agg #[.int .i64 0, .int .i64 0, .string ⟨#[]⟩, .int .i64 0, .int .i64 0, .int .i64 0, .string ⟨#[]⟩, .int .i64 0, .int .i64 0]), 9, 88) := by kernel_rfl
theorem app_ens (w : World) (base : Nat) (v : Value) (n : Nat) (xs : List Value) (h : w.ownsRow base 33 9 v n xs) (A : Option Addr) (m c : Nat) (L : List En) (hs : El w A m c L) (hb : n + m ≤ 1000000000) (hbase : base ≤ w.heap.size) :
    ∃ v' w', (Builtin.append_ #[25, 25] 25 #[v, .slice A m c]).run Try.prog w = .ok v' w' ∧ w'.ownsRow base 33 9 v' (n + m) (xs ++ flatE L) ∧ w.grownBy w' v.ownBlock ∧ (v'.ownBlock = v.ownBlock ∨ v'.ownBlock = some w.heap.size) := by
  obtain ⟨i0, hi0, hz0, hz1, hz2⟩ := info_parts infoEn
  cases A with
  | none =>
    obtain rfl := hs.2.2.2.1 rfl
    obtain rfl : m = 0 := by have := hs.2.1; omega
    have hL : L = [] := List.eq_nil_of_length_eq_zero hs.1.symm
    subst hL
    exact ⟨v, w, run_append_owned_none w base _ _ _ i0 9 Try.underlying25 hi0 v n xs h, by simpa [flatE_nil] using h, World.grownBy.refl w _, .inl rfl⟩
  | some ad =>
    obtain ⟨v', w', hr, ho, hg, _, hat⟩ := run_append_own_at (P := Try.prog) w base 25 25 33 i0 (.agg #[.int .i64 0, .int .i64 0, .string ⟨#[]⟩, .int .i64 0, .int .i64 0, .int .i64 0, .string ⟨#[]⟩, .int .i64 0, .int .i64 0]) 9 88 Try.underlying25 hi0 hz0 hz1 hz2 rfl (by decide) v n xs h ad m c (flatE L)
      (by rw [flatE_len, hs.1]) (fun j u hj => by
        obtain ⟨k, x, r, hk, rfl, hr9, hu⟩ := flatE_at L j u hj
        have hkl := (List.getElem?_eq_some_iff.1 hk).1
        obtain ⟨b, o, y, hA, hy, hc⟩ := hs.get (k := k) (by rw [hs.1]; exact hkl)
        obtain rfl : y = x := Option.some.inj (hy.symm.trans hk)
        obtain rfl := Option.some.inj hA
        rw [Addr.add_lit, ← Nat.add_assoc]
        exact hc.flat r u hu) (flatE_one _) (by simp only [maxLen]; omega) (by omega) hbase
    exact ⟨v', w', hr, ho, hg, hat⟩
/-- A row of entries that a call makes; U: what is left alone. -/
structure OutE (U wr : World) (v : Value) (L : List En) : Prop where
  own : wr.ownsRow U.heap.size 33 9 v L.length (flatE L)
  ke : Kept U wr
theorem OutE.start (U : World) : OutE U U (.slice none 0 0) [] := ⟨World.ownsRow_nil _ _ _ _, Kept.refl _⟩
theorem OutE.kept {U wr w' : World} {v : Value} {L : List En} (h : OutE U wr v L) (hk : Kept wr w') : OutE U w' v L := ⟨own_kept h.own hk, h.ke.trans hk⟩
theorem OutE.form {U wr : World} {v : Value} {L : List En} (h : OutE U wr v L) : ∃ A c, v = .slice A L.length c ∧ El wr A L.length c L ∧ (∀ ad, A = some ad → U.heap.size ≤ ad.block) ∧ L.length ≤ c ∧ c ≤ 9223372036854775807 := by
  obtain ⟨A, c, h1, h2, h3⟩ := El.of_own' h.own
  exact ⟨A, c, h1, h2, h3, h2.cap.1, h2.cap.2⟩
theorem OutE.app {U wr : World} {v : Value} {L : List En} (h : OutE U wr v L) (A : Option Addr) (m c : Nat) (M : List En) (hs : El wr A m c M) (hb : L.length + m ≤ 1000000000) :
    ∃ v' w', (Builtin.append_ #[25, 25] 25 #[v, .slice A m c]).run Try.prog wr = .ok v' w' ∧ OutE U w' v' (L ++ M) := by
  obtain ⟨v', w', hr, ho, hg, _⟩ := app_ens wr U.heap.size v L.length (flatE L) h.own A m c M hs hb h.ke.2.2
  refine ⟨v', w', hr, ?_, kept_grown h.ke hg fun k hk => (h.own.lt k hk).1⟩
  rw [List.length_append, flatE_app, ← hs.1]
  exact ho
theorem el_one {w : World} {x : En} {b : Nat} (h : Ent w b x) : El w (some ⟨b, 0, none⟩) 1 1 [x] := by
  refine ⟨rfl, Nat.le_refl _, by simp [maxLen], (fun h => by cases h), .inr ⟨b, 0, rfl, fun j y hj => ?_⟩⟩
  match j, hj with
  | 0, hj =>
    obtain rfl : x = y := by simpa using hj
    exact h.entO
  | j + 1, hj => simp at hj

theorem sizeEn (W : World) : (Go.sizeOf (Try.prog.elem 25)).run Try.prog W = .ok 9 W := by kernel_rfl
theorem el_head {w : World} {A : Option Addr} {n c k : Nat} {L : List En} (h : El w A n c L) (hk : k ≤ n) {c' : Nat} (hc : k ≤ c') (hc2 : c' ≤ c) : El w A k c' (L.take k) := by
  obtain ⟨h1, h2, h3, h4, h5⟩ := h
  refine ⟨by rw [List.length_take]; omega, hc, by omega, fun e => by have := h4 e; omega, ?_⟩
  rcases h5 with h0 | ⟨b, o, hA, hc⟩
  · exact .inl (by omega)
  · refine .inr ⟨b, o, hA, fun j x hj => hc j x ?_⟩
    rw [List.getElem?_take] at hj
    split at hj
    · exact hj
    · cases hj
theorem el_tail {w : World} {A : Option Addr} {n c k : Nat} {L : List En} (h : El w A n c L) (hk : k ≤ n) : ∃ A2, El w A2 (n - k) (c - k) (L.drop k) ∧
    (∀ W : World, (Instr.slice 25 (.slice A n c) (some (.int .i64 (k : Int))) none none).run Try.prog W = .ok (.slice A2 (n - k) (c - k)) W) ∧
    (∀ W : World, (Instr.sliceAt 25 (.slice A n c) (some (.int .i64 (k : Int))) none none).run Try.prog W = .ok (.slice A2 (n - k) (c - k)) W) := by
  obtain ⟨h1, h2, h3, h4, h5⟩ := h
  have hr : ∀ W : World, (Instr.slice 25 (.slice A n c) (some (.int .i64 (k : Int))) none none).run Try.prog W = .ok (.slice (if c = k then A else A.map (·.add (k * 9))) (n - k) (c - k)) W := fun W => by
    rw [run_slice_l W 25 _ n c (by kernel_rfl) .i64 (k : Int) (by omega) (by omega), sizeEn]
    simp only [Result.andThen, sliced, Int.toNat_natCast]
  refine ⟨_, ?_, hr, fun W => by rw [run_sliceAt_slice W _ _ _ _ _ (by kernel_rfl)]; exact hr W⟩
  refine ⟨by rw [List.length_drop]; omega, by omega, by omega, fun he => ?_, ?_⟩
  · by_cases hc : c = k
    · omega
    · rw [if_neg hc, Option.map_eq_none_iff] at he
      have := h4 he
      omega
  · rcases h5 with h0 | ⟨b, o, hA, hc⟩
    · exact .inl (by omega)
    · by_cases hkn : k = n
      · exact .inl (by omega)
      · refine .inr ⟨b, o + k * 9, ?_, fun j x hj => ?_⟩
        · rw [if_neg (by omega), hA, Option.map_some, Addr.add_lit]
        · rw [List.getElem?_drop] at hj
          have := hc _ x hj
          rw [show o + k * 9 + j * 9 = o + (k + j) * 9 by omega]
          exact this
end Go.Proofs.Ytapcaflmfkcfkaa

namespace Go.Proofs.Ytapcaflmfkcfkaa
open Go.ChangeShapes Go.WideShapes Go.ChangeAt Go.RowKit Go.Joins
set_option linter.unusedVariables false

theorem cDot : Try.prog.cellsOf 29 = 2 := by kernel_rfl
theorem cInt : Try.prog.cellsOf 3 = 1 := by kernel_rfl
theorem cEnt : Try.prog.cellsOf 33 = 9 := by kernel_rfl
theorem cVal : Try.prog.cellsOf 31 = 3 := by kernel_rfl
theorem cStr : Try.prog.cellsOf 9 = 1 := by kernel_rfl
theorem laidOut : laidOutB Try.prog = true := by kernel_rfl
theorem own : ownKnob Try.prog.godebug = none := by kernel_rfl
theorem wf_bd {a : Int} (h : (Lit.int .i64 a).wf = true) : -9223372036854775808 ≤ a ∧ a ≤ 9223372036854775807 := by
  simp [Lit.wf] at h
  have h1 : IntKind.i64.min = -9223372036854775808 := by decide
  have h2 : IntKind.i64.max = 9223372036854775807 := by decide
  omega

theorem cFld : Try.prog.cellsOf 44 = 6 := by kernel_rfl
theorem cFlds : Try.prog.cellsOf 22 = 1 := by kernel_rfl
theorem cSch : Try.prog.cellsOf 24 = 1 := by kernel_rfl
/-- The numbers of an entry are ints of the kind's width, its texts are texts. -/
structure EnW (x : En) : Prop where
  d1 : (Lit.int .i64 x.d.1).wf = true
  d2 : (Lit.int .i64 x.d.2).wf = true
  p : x.p.size ≤ maxLen
  k : (Lit.int .i64 x.k).wf = true
  vk : (Lit.int .i64 x.vk).wf = true
  vn : (Lit.int .i64 x.vn).wf = true
  vt : x.vt.size ≤ maxLen
  e1 : (Lit.int .i64 x.e.1).wf = true
  e2 : (Lit.int .i64 x.e.2).wf = true
def dotE {H : Type} (x : Int × Int) : DataW H := .agg [.lit (.int .i64 x.1), .lit (.int .i64 x.2)]
def dataE {H : Type} (x : En) : DataW H := .agg [dotE x.d, .lit (.string x.p.data.toList), .lit (.int .i64 x.k), .agg [.lit (.int .i64 x.vk), .lit (.int .i64 x.vn), .lit (.string x.vt.data.toList)], dotE x.e]

/-- The numbers of a field are ints of the kind's width, its texts are texts. -/
structure FdW (x : Fd) : Prop where
  p : x.p.size ≤ maxLen
  vn : (Lit.int .i64 x.vn).wf = true
  vt : x.vt.size ≤ maxLen
section
variable {H : Type} {enc : TypeId × Value → H} {w : World} {base : Nat} {spare : Nat → Bool} {held : Bool}
theorem trod_dotE {n : Nat} {c0 c1 : Value} {y : DataW H × List MemPlace} (h : DataW.trod enc Try.prog w base spare held n 29 [c0, c1] = some y) :
    ∃ a : Int × Int, c0 = .int .i64 a.1 ∧ c1 = .int .i64 a.2 ∧ y = (dotE a, []) ∧ (Lit.int .i64 a.1).wf = true ∧ (Lit.int .i64 a.2).wf = true := by
  obtain ⟨y0, y1, m, rfl, _, h0, h1⟩ := trod_struct2 Try.underlying29 h
  simp only [cInt] at h0 h1
  obtain ⟨a, e0, rfl, w0⟩ := DataW.trod_int Try.underlying3 h0
  obtain ⟨b, e1, rfl, w1⟩ := DataW.trod_int Try.underlying3 h1
  simp at e0 e1
  subst e0 e1
  exact ⟨(a, b), rfl, rfl, rfl, w0, w1⟩
theorem trod_valE {n : Nat} {c0 c1 c2 : Value} {y : DataW H × List MemPlace} (h : DataW.trod enc Try.prog w base spare held n 31 [c0, c1, c2] = some y) :
    ∃ (a b : Int) (t : ByteArray), c0 = .int .i64 a ∧ c1 = .int .i64 b ∧ c2 = .string t ∧ y = (.agg [.lit (.int .i64 a), .lit (.int .i64 b), .lit (.string t.data.toList)], []) ∧ (Lit.int .i64 a).wf = true ∧ (Lit.int .i64 b).wf = true ∧ t.size ≤ maxLen := by
  obtain ⟨y0, y1, y2, m, rfl, _, h0, h1, h2⟩ := Deep.trod_struct3 Try.underlying31 h
  simp only [cInt, cStr] at h0 h1 h2
  obtain ⟨a, e0, rfl, w0⟩ := DataW.trod_int Try.underlying3 h0
  obtain ⟨b, e1, rfl, w1⟩ := DataW.trod_int Try.underlying3 h1
  obtain ⟨t, e2, rfl, w2⟩ := DataW.trod_string Try.underlying9 h2
  simp at e0 e1 e2
  subst e0 e1 e2
  exact ⟨a, b, t, rfl, rfl, rfl, rfl, w0, w1, w2⟩
instance : Inhabited En := ⟨.none⟩
theorem trod_entE {fuel : Nat} {l : List Value} {y : DataW H × List MemPlace} (hsz : l.length = 9) (hf : DataW.trod enc Try.prog w base spare held fuel 33 l = some y) :
    ∃ x : En, l = cellE x ∧ y = (dataE x, []) ∧ EnW x := by
  obtain ⟨c0, c1, c2, c3, c4, c5, c6, c7, c8, rfl⟩ : ∃ c0 c1 c2 c3 c4 c5 c6 c7 c8, l = [c0, c1, c2, c3, c4, c5, c6, c7, c8] := by
    match l, hsz with
    | [c0, c1, c2, c3, c4, c5, c6, c7, c8], _ => exact ⟨c0, c1, c2, c3, c4, c5, c6, c7, c8, rfl⟩
  obtain ⟨xs, n, _, hx, _, hxl, hfs⟩ := DataW.trod_struct Try.underlying33 hf
  obtain ⟨y0, y1, y2, y3, y4, rfl⟩ : ∃ y0 y1 y2 y3 y4, xs = [y0, y1, y2, y3, y4] := by
    match xs, hxl with
    | [y0, y1, y2, y3, y4], _ => exact ⟨y0, y1, y2, y3, y4, rfl⟩
  have h0 : DataW.trod enc Try.prog w base spare held n 29 (List.take (Try.prog.cellsOf 29) [c0, c1, c2, c3, c4, c5, c6, c7, c8]) = some y0 := hfs 0 _ rfl
  rw [cDot] at h0
  replace h0 : DataW.trod enc Try.prog w base spare held n 29 [c0, c1] = some y0 := h0
  have h1 : DataW.trod enc Try.prog w base spare held n 9 (List.take (Try.prog.cellsOf 9) [c2, c3, c4, c5, c6, c7, c8]) = some y1 := hfs 1 _ rfl
  rw [cStr] at h1
  replace h1 : DataW.trod enc Try.prog w base spare held n 9 [c2] = some y1 := h1
  have h2 : DataW.trod enc Try.prog w base spare held n 3 (List.take (Try.prog.cellsOf 3) [c3, c4, c5, c6, c7, c8]) = some y2 := hfs 2 _ rfl
  rw [cInt] at h2
  replace h2 : DataW.trod enc Try.prog w base spare held n 3 [c3] = some y2 := h2
  have h3 : DataW.trod enc Try.prog w base spare held n 31 (List.take (Try.prog.cellsOf 31) [c4, c5, c6, c7, c8]) = some y3 := hfs 3 _ rfl
  rw [cVal] at h3
  replace h3 : DataW.trod enc Try.prog w base spare held n 31 [c4, c5, c6] = some y3 := h3
  have h4 : DataW.trod enc Try.prog w base spare held n 29 (List.take (Try.prog.cellsOf 29) [c7, c8]) = some y4 := hfs 4 _ rfl
  rw [cDot] at h4
  replace h4 : DataW.trod enc Try.prog w base spare held n 29 [c7, c8] = some y4 := h4
  obtain ⟨dd, rfl, rfl, rfl, w0, w1⟩ := trod_dotE h0
  obtain ⟨pp, e2, rfl, w2⟩ := DataW.trod_string Try.underlying9 h1
  obtain ⟨kk, e3, rfl, w3⟩ := DataW.trod_int Try.underlying3 h2
  obtain ⟨vk, vn, vt, rfl, rfl, rfl, rfl, w4, w5, w6⟩ := trod_valE h3
  obtain ⟨ee, rfl, rfl, rfl, w7, w8⟩ := trod_dotE h4
  simp only [List.cons.injEq, and_true] at e2 e3
  subst e2 e3
  exact ⟨⟨dd, pp, kk, vk, vn, vt, ee⟩, rfl, by rw [hx]; rfl, w0, w1, w2, w3, w4, w5, w6, w7, w8⟩
theorem open_ents {fuel : Nat} {v : Value} {x : DataW H × List MemPlace} (h : DataW.trod enc Try.prog w base spare held fuel 25 [v] = some x) :
    ∃ A n c L rest, v = .slice A n c ∧ El w A n c L ∧ (∀ y ∈ L, EnW y) ∧ (x.1 = .slice (L.map dataE) rest ∨ L = []) := by
  rcases Deep.open_slice Try.underlying25 h with ⟨hcs, hx⟩ | ⟨a, len, cap, m, n, D, Pl, hcs, _, hl, hm, hmm, hx, hel⟩
  · simp at hcs
    subst hcs
    exact ⟨none, 0, 0, [], [], rfl, El.nil _, (fun y hy => by cases hy), .inr rfl⟩
  · simp at hcs
    subst hcs
    have hlm : len ≤ m := by rw [hmm]; split <;> omega
    rw [cEnt] at hel
    obtain ⟨f, hf⟩ := Deep.choose_lt (n := len) (p := fun i (x : En) => (∀ j u, (cellE x)[j]? = some u → w.cell? ((a.add (i * 9)).add j) = some u) ∧ D i = dataE x ∧ EnW x) (fun i hi => by
      obtain ⟨cs', h1, h2⟩ := hel i (by omega)
      obtain ⟨_, hlen, hcell⟩ := World.cells?_some h1
      obtain ⟨x, rfl, hy, hw⟩ := trod_entE hlen h2
      refine ⟨x, fun j u hu => ?_, congrArg Prod.fst hy, hw⟩
      have hj : j < 9 := (List.getElem?_eq_some_iff.1 hu).1
      rw [hcell j hj]; exact hu)
    refine ⟨some a, len, cap, (List.range len).map f, (List.range (m - len)).map fun j => D (len + j), rfl, ⟨by simp, hl, hm, (fun h => by cases h), ?_⟩, fun y hy => ?_, .inl ?_⟩
    · rcases Nat.eq_zero_or_pos len with h0 | h0
      · exact .inl h0
      · obtain ⟨b, off, spot⟩ := a
        have hspot : spot = none := by simpa [Addr.add] using World.cell?_spot ((hf 0 h0).1 0 _ rfl)
        subst hspot
        refine .inr ⟨b, off, rfl, fun j x hj => ?_⟩
        have hj2 := (List.getElem?_eq_some_iff.1 hj).1
        rw [List.length_map, List.length_range] at hj2
        rw [List.getElem?_map, List.getElem?_range hj2] at hj
        obtain rfl := Option.some.inj hj
        refine EntO.of_flat fun i u hu => ?_
        have := (hf j hj2).1 i u hu
        rw [Addr.add_lit, Addr.add_lit] at this
        exact this
    · obtain ⟨i, hi, rfl⟩ := List.mem_map.1 hy
      exact (hf i (List.mem_range.1 hi)).2.2
    · rw [hx]
      rw [List.map_map]
      exact congrArg (fun z => DataW.slice z _) (List.map_congr_left fun i hi => (hf i (List.mem_range.1 hi)).2.1)
set_option maxRecDepth 100000 in
theorem open_entsT {r : Reach} {b0 : Nat} {v : Value} {d : DataW H} {p : List MemPlace} (hv : Value.okWide Try.prog w r b0 25 v) (h : DataW.Trod enc Try.prog w base spare held 25 v d p) :
    ∃ A n c L, v = .slice A n c ∧ El w A n c L ∧ ∀ y ∈ L, EnW y := by
  obtain ⟨a0, len, cap, rfl⟩ := okWide_slice Try.underlying25 hv
  obtain ⟨fuel, hf⟩ := h
  obtain ⟨A, n, c, L, _, h1, h2, h3, _⟩ := open_ents (x := (d, p)) (by simpa [Value.cells] using hf)
  exact ⟨A, n, c, L, h1, h2, h3⟩
set_option maxRecDepth 100000 in
theorem open_entT {r : Reach} {b0 : Nat} {v : Value} {d : DataW H} {p : List MemPlace} (hv : Value.okWide Try.prog w r b0 33 v) (h : DataW.Trod enc Try.prog w base spare held 33 v d p) :
    ∃ x : En, v = .agg #[.int .i64 x.d.1, .int .i64 x.d.2, .string x.p, .int .i64 x.k, .int .i64 x.vk, .int .i64 x.vn, .string x.vt, .int .i64 x.e.1, .int .i64 x.e.2] ∧ d = dataE x ∧ p = [] ∧ EnW x := by
  obtain ⟨cs, rfl, hsz⟩ := okWide_struct Try.underlying33 hv
  rw [cEnt] at hsz
  obtain ⟨l⟩ := cs
  obtain ⟨fuel, hf⟩ := h
  obtain ⟨x, rfl, hy, hw⟩ := trod_entE (y := (d, p)) hsz hf
  exact ⟨x, rfl, congrArg Prod.fst hy, congrArg Prod.snd hy, hw⟩
instance : Inhabited Fd := ⟨.none⟩
theorem trod_valF {n : Nat} {c0 c1 c2 : Value} {y : DataW H × List MemPlace} (h : DataW.trod enc Try.prog w base spare held n 31 [c0, c1, c2] = some y) :
    ∃ (a b : Int) (t : ByteArray), c0 = .int .i64 a ∧ c1 = .int .i64 b ∧ c2 = .string t ∧ (Lit.int .i64 b).wf = true ∧ t.size ≤ maxLen := by
  obtain ⟨y0, y1, y2, m, rfl, _, h0, h1, h2⟩ := Deep.trod_struct3 Try.underlying31 h
  simp only [cInt, cStr] at h0 h1 h2
  obtain ⟨a, e0, rfl, w0⟩ := DataW.trod_int Try.underlying3 h0
  obtain ⟨b, e1, rfl, w1⟩ := DataW.trod_int Try.underlying3 h1
  obtain ⟨t, e2, rfl, w2⟩ := DataW.trod_string Try.underlying9 h2
  simp at e0 e1 e2
  subst e0 e1 e2
  exact ⟨a, b, t, rfl, rfl, rfl, w1, w2⟩
theorem trod_fd {fuel : Nat} {l : List Value} {y : DataW H × List MemPlace} (hsz : l.length = 6) (hf : DataW.trod enc Try.prog w base spare held fuel 44 l = some y) :
    ∃ x : Fd, l = cellF x ∧ FdW x := by
  obtain ⟨c0, c1, c2, c3, c4, c5, rfl⟩ : ∃ c0 c1 c2 c3 c4 c5, l = [c0, c1, c2, c3, c4, c5] := by
    match l, hsz with
    | [c0, c1, c2, c3, c4, c5], _ => exact ⟨c0, c1, c2, c3, c4, c5, rfl⟩
  obtain ⟨xs, n, _, hx, _, hxl, hfs⟩ := DataW.trod_struct Try.underlying44 hf
  obtain ⟨y0, y1, y2, y3, rfl⟩ : ∃ y0 y1 y2 y3, xs = [y0, y1, y2, y3] := by
    match xs, hxl with
    | [y0, y1, y2, y3], _ => exact ⟨y0, y1, y2, y3, rfl⟩
  have h0 : DataW.trod enc Try.prog w base spare held n 9 (List.take (Try.prog.cellsOf 9) [c0, c1, c2, c3, c4, c5]) = some y0 := hfs 0 _ rfl
  rw [cStr] at h0
  replace h0 : DataW.trod enc Try.prog w base spare held n 9 [c0] = some y0 := h0
  have h1 : DataW.trod enc Try.prog w base spare held n 3 (List.take (Try.prog.cellsOf 3) [c1, c2, c3, c4, c5]) = some y1 := hfs 1 _ rfl
  rw [cInt] at h1
  replace h1 : DataW.trod enc Try.prog w base spare held n 3 [c1] = some y1 := h1
  have h2 : DataW.trod enc Try.prog w base spare held n 3 (List.take (Try.prog.cellsOf 3) [c2, c3, c4, c5]) = some y2 := hfs 2 _ rfl
  rw [cInt] at h2
  replace h2 : DataW.trod enc Try.prog w base spare held n 3 [c2] = some y2 := h2
  have h3 : DataW.trod enc Try.prog w base spare held n 31 (List.take (Try.prog.cellsOf 31) [c3, c4, c5]) = some y3 := hfs 3 _ rfl
  rw [cVal] at h3
  replace h3 : DataW.trod enc Try.prog w base spare held n 31 [c3, c4, c5] = some y3 := h3
  obtain ⟨pp, e0, rfl, w0⟩ := DataW.trod_string Try.underlying9 h0
  obtain ⟨kk, e1, rfl, w1⟩ := DataW.trod_int Try.underlying3 h1
  obtain ⟨tt, e2, rfl, w2⟩ := DataW.trod_int Try.underlying3 h2
  obtain ⟨vk, vn, vt, rfl, rfl, rfl, w5, w6⟩ := trod_valF h3
  simp only [List.cons.injEq, and_true] at e0 e1 e2
  subst e0 e1 e2
  exact ⟨⟨pp, kk, tt, vk, vn, vt⟩, rfl, w0, w5, w6⟩
theorem open_fds {fuel : Nat} {v : Value} {x : DataW H × List MemPlace} (h : DataW.trod enc Try.prog w base spare held fuel 22 [v] = some x) :
    ∃ A n c L, v = .slice A n c ∧ Fl w A n c L ∧ (∀ y ∈ L, FdW y) := by
  rcases Deep.open_slice Try.underlying22 h with ⟨hcs, hx⟩ | ⟨a, len, cap, m, n, D, Pl, hcs, _, hl, hm, hmm, hx, hel⟩
  · simp at hcs
    subst hcs
    exact ⟨none, 0, 0, [], rfl, Fl.nil _, (fun y hy => by cases hy)⟩
  · simp at hcs
    subst hcs
    have hlm : len ≤ m := by rw [hmm]; split <;> omega
    rw [cFld] at hel
    obtain ⟨f, hf⟩ := Deep.choose_lt (n := len) (p := fun i (x : Fd) => (∀ j u, (cellF x)[j]? = some u → w.cell? ((a.add (i * 6)).add j) = some u) ∧ FdW x) (fun i hi => by
      obtain ⟨cs', h1, h2⟩ := hel i (by omega)
      obtain ⟨_, hlen, hcell⟩ := World.cells?_some h1
      obtain ⟨x, rfl, hw⟩ := trod_fd hlen h2
      refine ⟨x, fun j u hu => ?_, hw⟩
      have hj : j < 6 := (List.getElem?_eq_some_iff.1 hu).1
      rw [hcell j hj]; exact hu)
    refine ⟨some a, len, cap, (List.range len).map f, rfl, ⟨by simp, hl, hm, (fun h => by cases h), ?_⟩, fun y hy => ?_⟩
    · rcases Nat.eq_zero_or_pos len with h0 | h0
      · exact .inl h0
      · obtain ⟨b, off, spot⟩ := a
        have hspot : spot = none := by simpa [Addr.add] using World.cell?_spot ((hf 0 h0).1 0 _ rfl)
        subst hspot
        refine .inr ⟨b, off, rfl, fun j x hj => ?_⟩
        have hj2 := (List.getElem?_eq_some_iff.1 hj).1
        rw [List.length_map, List.length_range] at hj2
        rw [List.getElem?_map, List.getElem?_range hj2] at hj
        obtain rfl := Option.some.inj hj
        refine FdO.of_flat fun i u hu => ?_
        have := (hf j hj2).1 i u hu
        rw [Addr.add_lit, Addr.add_lit] at this
        exact this
    · obtain ⟨i, hi, rfl⟩ := List.mem_map.1 hy
      exact (hf i (List.mem_range.1 hi)).2
set_option maxRecDepth 100000 in
theorem open_schemaT {r : Reach} {b0 : Nat} {v : Value} {d : DataW H} {p : List MemPlace} (hv : Value.okWide Try.prog w r b0 24 v) (h : DataW.Trod enc Try.prog w base spare held 24 v d p) :
    ∃ A n c L, v = .agg #[.slice A n c] ∧ Fl w A n c L ∧ (∀ y ∈ L, FdW y) := by
  obtain ⟨cs, rfl, hsz⟩ := okWide_struct Try.underlying24 hv
  rw [cSch] at hsz
  obtain ⟨l⟩ := cs
  obtain ⟨c0, rfl⟩ : ∃ c0, l = [c0] := by
    match l, hsz with
    | [c0], _ => exact ⟨c0, rfl⟩
  obtain ⟨fuel, hf⟩ := h
  obtain ⟨xs, n, _, hx, _, hxl, hfs⟩ := DataW.trod_struct Try.underlying24 hf
  obtain ⟨y0, rfl⟩ : ∃ y0, xs = [y0] := by
    match xs, hxl with
    | [y0], _ => exact ⟨y0, rfl⟩
  have h0 : DataW.trod enc Try.prog w base spare held n 22 (List.take (Try.prog.cellsOf 22) [c0]) = some y0 := hfs 0 _ rfl
  rw [cFlds] at h0
  replace h0 : DataW.trod enc Try.prog w base spare held n 22 [c0] = some y0 := h0
  obtain ⟨A, n, c, L, rfl, hel, hw⟩ := open_fds h0
  exact ⟨A, n, c, L, rfl, hel, hw⟩
end
theorem Kept.same {W W' : World} (h : Kept W W') {p : MemPlace} (hp : p.block < W.heap.size) : W.sameAt W' p := by
  cases p with
  | cell b o => exact World.cell?_of_block (w := W) (h.blk hp)
  | map b => exact h.blk hp
theorem Kept.trod {H : Type} {enc : TypeId × Value → H} {t : TypeId} (hr : Try.prog.readableRec t = true) (hrow : t < Try.prog.types.size) {W W' : World} {v : Value} {d : DataW H} {ps : List MemPlace}
    (h : DataW.Trod enc Try.prog W 0 (fun _ => true) true t v d ps) (hb : Kept W W') (hlt : ∀ x ∈ ps, x.block < W.heap.size) :
    DataW.Trod enc Try.prog W' 0 (fun b => decide (b < W.heap.size)) true t v d ps :=
  WideElems.Trod_stays laidOut hr hrow h (fun x hx => hb.same (hlt x hx)) (fun x hx => by simpa using hlt x hx)
end Go.Proofs.Ytapcaflmfkcfkaa

namespace Go.Proofs.Ytapcaflmfkcfkaa
open Go.RowKit
set_option linter.unusedVariables false

theorem fitsE_at {L : List Fd} {x : En} {y : Fd} {z r : Bool} (h : findR L x.p = (y, z)) (hr : rightE x = r) : fitsE L x = (z && (r && (y.k == x.k && y.t == x.vk))) := by
  unfold fitsE
  rw [h, hr]
set_option maxRecDepth 100000 in
set_option maxHeartbeats 8000000 in
theorem rfits_any (A : Option Addr) (n c : Nat) (L : List Fd) (x : En) (w : World) (h : Fl w A n c L) (hw : ∀ y ∈ L, y.p.size ≤ 1099511627776) (sp : x.p.size ≤ 1099511627776) (st : x.vt.size ≤ 1099511627776) (b : Bool) (hb : fitsE L x = b) :
    Calls Try.prog 8 #[.agg #[.slice A n c], .agg #[.int .i64 x.d.1, .int .i64 x.d.2, .string x.p, .int .i64 x.k, .int .i64 x.vk, .int .i64 x.vn, .string x.vt, .int .i64 x.e.1, .int .i64 x.e.2]] w fun e w' => e = .returned (.bool b) ∧ Kept w w' := by
  have hk := ((Kept.refl w).alloc #[.slice A n c] 24).alloc #[.int .i64 x.d.1, .int .i64 x.d.2, .string x.p, .int .i64 x.k, .int .i64 x.vk, .int .i64 x.vn, .string x.vt, .int .i64 x.e.1, .int .i64 x.e.2] 33
  have hB := (Box1.new w (.slice A n c) 24).kept ((Kept.refl _).alloc #[.int .i64 x.d.1, .int .i64 x.d.2, .string x.p, .int .i64 x.k, .int .i64 x.vk, .int .i64 x.vn, .string x.vt, .int .i64 x.e.1, .int .i64 x.e.2] 33)
  have he := Ent.new (w.alloc (.cells #[.slice A n c] 24)) x 33
  rw [show (w.alloc (.cells #[.slice A n c] 24)).heap.size = w.heap.size + 1 by simp] at he
  have hh := h.kept hk
  obtain ⟨U, hU⟩ : ∃ U, (w.alloc (.cells #[.slice A n c] 24)).alloc (.cells #[.int .i64 x.d.1, .int .i64 x.d.2, .string x.p, .int .i64 x.k, .int .i64 x.vk, .int .i64 x.vn, .string x.vt, .int .i64 x.e.1, .int .i64 x.e.2] 33) = U := ⟨_, rfl⟩
  rw [hU] at hk hB hh he
  have HK := Lib.hid hk; have HUU := Lib.hid hU; have HE := Lib.hid he; have HB := Lib.hid hB; have HH := Lib.hid hh
  obtain ⟨y, z, hyz⟩ : ∃ y z, findR L x.p = (y, z) := ⟨_, _, rfl⟩
  obtain ⟨r, hr⟩ : ∃ r, rightE x = r := ⟨_, rfl⟩
  have AF := Lib.hid (fun w h => rfind_any A n c L x.p w h hw sp y z hyz)
  have AR := Lib.hid (fun w => reright_c x r hr w sp st)
  have HFIT := Lib.hid (show (z && (r && (y.k == x.k && y.t == x.vk))) = b by rw [← hb]; exact (fitsE_at hyz hr).symm)
  have d0 := HB.out.c0; have e2 := HE.out.c2
  clear h hw hk hU he hB hh hyz hr sp st hb
  go_enter Try.func8, Try.ntmps8
  go_wp2_with fail
  rw [HUU.out]
  go_wp2_with fail
  go_at_call 21
  refine (AF.out _ HH.out).mono ?_
  rintro e w1 ⟨rfl, hk1⟩
  have hka := (Kept.refl w1).alloc #[.string y.p, .int .i64 y.k, .int .i64 y.t, .int .i64 y.vk, .int .i64 y.vn, .string y.vt] 44
  have HG := Lib.hid (FdB.new w1 y 44)
  have HEA := Lib.hid (HE.out.kept (hk1.trans hka))
  have HKA := Lib.hid (HK.out.trans (hk1.trans hka))
  clear hk1 hka d0 e2
  have e0 := HEA.out.c0; have e1 := HEA.out.c1; have e2 := HEA.out.c2; have e3 := HEA.out.c3; have e4 := HEA.out.c4; have e5 := HEA.out.c5; have e6 := HEA.out.c6; have e7 := HEA.out.c7; have e8 := HEA.out.c8
  cases z with
  | false =>
    have HF := Lib.hid (show false = b by rw [← HFIT.out]; rfl)
    go_wp2_with fail
    go_ret
    exact ⟨ret_bool HF.out, HKA.out⟩
  | true =>
    go_wp2_with fail
    go_at_call 22
    refine (AR.out _).mono ?_
    rintro e w3 ⟨rfl, hk3⟩
    have hg := HG.out.kept hk3; have he := HEA.out.kept hk3
    have HK3 := Lib.hid (HKA.out.trans hk3)
    clear e0 e1 e2 e3 e4 e5 e6 e7 e8
    have g1 := hg.c1; have g2 := hg.c2; have e3 := he.c3; have e4 := he.c4
    clear hk3 hg he
    cases r with
    | false =>
      have HF := Lib.hid (show false = b by rw [← HFIT.out]; rfl)
      go_wp2_with fail
      go_ret
      exact ⟨ret_bool HF.out, HK3.out⟩
    | true =>
      by_cases q : y.k = x.k
      · by_cases q2 : y.t = x.vk
        · have HF := Lib.hid (show true = b by rw [← HFIT.out, q, q2]; simp)
          have p1 : (y.k == x.k) = true := by rw [q]; simp
          have p2 : (y.t == x.vk) = true := by rw [q2]; simp
          have p3 : decide (y.k = x.k) = true := decide_eq_true q
          have p4 : decide (y.t = x.vk) = true := decide_eq_true q2
          clear q q2
          go_wp2_with fail
          go_ret
          exact ⟨ret_bool HF.out, HK3.out⟩
        · have p2 : (y.t == x.vk) = false := by simpa using q2
          have HF := Lib.hid (show false = b by rw [← HFIT.out, p2]; simp)
          have p1 : (y.k == x.k) = true := by rw [q]; simp
          have p3 : decide (y.k = x.k) = true := decide_eq_true q
          have p4 : decide (y.t = x.vk) = false := decide_eq_false q2
          clear q q2
          go_wp2_with fail
          go_ret
          exact ⟨ret_bool HF.out, HK3.out⟩
      · have p1 : (y.k == x.k) = false := by simpa using q
        have HF := Lib.hid (show false = b by rw [← HFIT.out, p1]; simp)
        have p3 : decide (y.k = x.k) = false := decide_eq_false q
        clear q
        go_wp2_with fail
        go_ret
        exact ⟨ret_bool HF.out, HK3.out⟩
set_option maxRecDepth 100000 in
set_option maxHeartbeats 8000000 in
theorem rall_any (A : Option Addr) (n c : Nat) (L : List Fd) (A2 : Option Addr) (m k : Nat) (M : List En) (w : World) (h : Fl w A n c L) (hw : ∀ y ∈ L, y.p.size ≤ 1099511627776) (h2 : El w A2 m k M) (hs : ∀ x ∈ M, x.p.size ≤ 1099511627776 ∧ x.vt.size ≤ 1099511627776) (b : Bool) (hb : allE L M = b) :
    Calls Try.prog 14 #[.agg #[.slice A n c], .slice A2 m k] w fun e w' => e = .returned (.bool b) ∧ Kept w w' := by
  have hk := (Kept.refl w).alloc #[.slice A n c] 24
  have hcap := h2.cap.1; have hcap2 := h2.cap.2
  have HNL := Lib.hid h2.1; have HSZ := Lib.hid hs; have HWW := Lib.hid hw; have HY := Lib.hid hb
  have hB := Box1.new w (.slice A n c) 24
  have hh := h.kept hk; have hh2 := h2.kept hk
  obtain ⟨U, hU⟩ : ∃ U, w.alloc (.cells #[.slice A n c] 24) = U := ⟨_, rfl⟩
  rw [hU] at hk hB hh hh2
  have HK := Lib.hid hk; have HUU := Lib.hid hU; have HB := Lib.hid hB; have HH := Lib.hid hh; have HM := Lib.hid hh2
  clear h hw h2 hs hb hk hU hB hh hh2
  go_enter Try.func14, Try.ntmps14
  go_wp2_with fail
  rw [HUU.out]
  go_loopw [9] (fun i wr => ∃ t : Nat, t ≤ m ∧ i = .int .i64 t ∧ Kept U wr ∧ ∀ x ∈ M.take t, fitsE L x = true) (fun i _ => m - (intOf i).toNat)
  case atStart => exact ⟨0, Nat.zero_le _, rfl, Kept.refl _, fun x hx => by simp at hx⟩
  case round =>
    obtain ⟨t, ht, rfl, hkr, hall⟩ := hrel
    have HKR := Lib.hid hkr; have HA := Lib.hid hall
    clear hkr hall
    by_cases hlt : t < m
    · obtain ⟨g, o, x, rfl, hx, EX⟩ := (HM.out.kept HKR.out).get hlt
      have x0 := EX.c0; have x1 := EX.c1; have x2 := EX.c2; have x3 := EX.c3; have x4 := EX.c4; have x5 := EX.c5; have x6 := EX.c6; have x7 := EX.c7; have x8 := EX.c8
      have HXX := Lib.hid hx
      have hka := (Kept.refl wr).alloc #[.int .i64 x.d.1, .int .i64 x.d.2, .string x.p, .int .i64 x.k, .int .i64 x.vk, .int .i64 x.vn, .string x.vt, .int .i64 x.e.1, .int .i64 x.e.2] 33
      have hE := Ent.new wr x 33
      have e0 := hE.c0; have e1 := hE.c1; have e2 := hE.c2; have e3 := hE.c3; have e4 := hE.c4; have e5 := hE.c5; have e6 := hE.c6; have e7 := hE.c7; have e8 := hE.c8
      have d0 := (HB.out.kept (HKR.out.trans hka)).c0
      obtain ⟨bb, hbb⟩ : ∃ bb, fitsE L x = bb := ⟨_, rfl⟩
      have hsx := HSZ.out x (List.mem_of_getElem? hx)
      have AF := Lib.hid (fun w h => rfits_any A n c L x w h HWW.out hsx.1 hsx.2 bb hbb)
      have HKA := Lib.hid (HKR.out.trans hka); have HBB := Lib.hid hbb
      clear EX hx hka hE hbb hsx
      go_wp2_with fail
      go_at_call 8
      refine (AF.out _ (HH.out.kept HKA.out)).mono ?_
      rintro e w1 ⟨rfl, hk1⟩
      have HK1 := Lib.hid (HKA.out.trans hk1)
      clear hk1 x0 x1 x2 x3 x4 x5 x6 x7 x8 e0 e1 e2 e3 e4 e5 e6 e7 e8 d0
      cases bb with
      | false =>
        have HF := Lib.hid (show false = b by rw [← HY.out]; exact (allE_no HXX.out HBB.out).symm)
        go_wp2_with fail
        go_ret
        exact ⟨ret_bool HF.out, HK.out.trans HK1.out⟩
      | true =>
        have HN := Lib.hid (show ∀ y ∈ M.take (t + 1), fitsE L y = true from fun y hy => by
          rcases (mem_take_succ HXX.out y).1 hy with h | rfl
          · exact HA.out y h
          · exact HBB.out)
        go_wp2_with fail
        go_roundw
        case rel => exact ⟨t + 1, hlt, by go_num, HK1.out, HN.out⟩
        case measure => simp [intOf]; omega
    · obtain rfl : t = m := by omega
      have HF := Lib.hid (show true = b by
        rw [← HY.out]
        exact (allE_yes fun x hx => HA.out x (by rw [List.take_of_length_le (by rw [← HNL.out]; exact Nat.le_refl _)]; exact hx)).symm)
      go_wp2_with fail
      go_ret
      exact ⟨ret_bool HF.out, HK.out.trans HKR.out⟩
end Go.Proofs.Ytapcaflmfkcfkaa

