/-
  What is proved: words for the states that package store's functions hand back ('StS'); a slice of entries cut by three indices, and one entry appended to it: what comes of it lies in a row of its own; the world has new blocks at most.
  a word for a state that lies in memory ('Stt'): its entries, its numbers and its dots; a world with new blocks at most keeps it.
  slices of entries and of dots among the arguments, opened: what they hold; what is read of the arguments reads on, in a world with new blocks at most.
  a state (a struct of a slice of entries and a set of dots), by value, and a set of dots, among the arguments, opened.
  plain facts on states joined (P9.1 to P9.7): what a join is, that it is one alone; of states that give unlike things to no dot: in any order, together in any way, and twice as once; what covers two covers both joined; what is joined is one state without what is gone, and what the other one has beyond it; no program is spoken of here.
-/
import Derived.Test.YtkooihljddibfaaGreatM16
import Derived.Test.YtkooihljddibfaaGreatCComp
import Derived.ArgAppend
import Derived.ProofKit
import Derived.LaidMore
import Derived.OpenShut
import Derived.ChangeMaps5
import Derived.Stop.Joined
import Derived.Lib.SmallJoins
import Derived.Lib.LaidTab
import Derived.SizedLaws
import Derived.MakeChecks
import Derived.Carry
import Derived.WideKeyArgs
import Derived.Deep.Strs
import Derived.Deep.Frames
import Derived.Deep.SlicePairs
import Derived.SliceStrings
import Derived.WalkKit
import Derived.Test.YtkooihljddibfaaGreatM13
namespace Go.Proofs.YtkooihljddibfaaGreat
open Go.RowKit

theorem El.keptE {G : Nat} {w w' : World} {A : Option Addr} {n c : Nat} {L : List En} (h : El w A n c L) (hk : KeptE G w w') (hA : ∀ ad, A = some ad → ad.block ≠ G) : El w' A n c L :=
  ⟨h.1, h.2.1, h.2.2.1, h.2.2.2.1, h.2.2.2.2.imp id fun ⟨b, o, hA2, hc⟩ => ⟨b, o, hA2, fun j x hj => EntO.of_flat fun i u hu => hk.cell (hA _ hA2) ((hc j x hj).flat i u hu)⟩⟩
/-- A state with the entries L and the set of the dots that S tells. -/
def StS (L : List En) (S : Int × Int → Prop) (mx : Nat) (w : World) (e : Ending) (w' : World) : Prop :=
  ∃ A n c B m k D p q V C, e = .returned (.agg #[.slice A n c, .slice B m k, .slice D p q]) ∧ El w' A n c L ∧ Il w' B m k V ∧ Dl w' D p q C ∧ SetC S V C ∧ p ≤ mx ∧ Kept w w'
theorem st_box {L : List En} {S : Int × Int → Prop} {mx : Nat} {W w5 : World} {b n c m k p q : Nat} {A B D : Option Addr} {V : List Int} {C : List (Int × Int)} (he : El w5 A n c L) (hi : Il w5 B m k V) (hd : Dl w5 D p q C)
    (ha : ∀ ad, A = some ad → b < ad.block) (hb : ∀ ad, B = some ad → b < ad.block) (hdd : ∀ ad, D = some ad → b < ad.block) (hW : W.heap.size ≤ b) (hk : Kept W w5) (hs : SetC S V C) (hm : p ≤ mx) :
    StS L S mx W (.returned (.agg #[.slice A n c, .slice B m k, .slice D p q])) (((w5.setCell ⟨b, 0, none⟩ (.slice A n c)).setCell ⟨b, 1, none⟩ (.slice B m k)).setCell ⟨b, 2, none⟩ (.slice D p q)) := by
  have hE : KeptE b w5 (((w5.setCell ⟨b, 0, none⟩ (.slice A n c)).setCell ⟨b, 1, none⟩ (.slice B m k)).setCell ⟨b, 2, none⟩ (.slice D p q)) := (((KeptE.refl b w5).set (.inl rfl) _).set (.inl rfl) _).set (.inl rfl) _
  exact ⟨A, n, c, B, m, k, D, p, q, V, C, rfl, he.keptE hE (fun ad e => by have := ha ad e; omega), hi.keptE hE (fun ad e => by have := hb ad e; omega), hd.keptE hE (fun ad e => by have := hdd ad e; omega), hs, hm, ((hk.setCell hW _).setCell hW _).setCell hW _⟩
theorem run_ehead3 (A : Option Addr) (n c k : Nat) (hk : k ≤ c) (W : World) :
    (Instr.slice 22 (.slice A n c) none (some (.int .i64 (k : Int))) (some (.int .i64 (k : Int)))).run Tryz.prog W = .ok (.slice A k k) W := by
  rw [run_slice_hm W 22 _ n c (by kernel_rfl) .i64 .i64 (k : Int) (k : Int) (by omega) (by omega) (by omega), sizeEn]
  cases A <;> simp [Result.andThen, sliced, Addr.add]
theorem run_ehead4 (A : Option Addr) (n c k : Nat) (hk : k ≤ c) (W : World) :
    (Instr.sliceAt 22 (.slice A n c) none (some (.int .i64 (k : Int))) (some (.int .i64 (k : Int)))).run Tryz.prog W = .ok (.slice A k k) W := by
  rw [run_sliceAt_slice W _ _ _ _ _ (by kernel_rfl)]; exact run_ehead3 A n c k hk W
/-- One entry appended to a slice cut behind its length: into new memory. -/
theorem app_cut {U w : World} (hU : Kept U w) {A : Option Addr} {k : Nat} {M : List En} (h : El w A k k M) (hk : k ≤ 1000000) {b : Nat} {x : En} (hx : Ent w b x) :
    ∃ v' w', (Builtin.append_ #[22, 22] 22 #[.slice A k k, .slice (some ⟨b, 0, none⟩) 1 1]).run Tryz.prog w = .ok v' w' ∧ OutE U w' v' (M ++ [x]) := by
  have h1 := el_one hx
  cases A with
  | none =>
    obtain rfl := h.2.2.2.1 rfl
    have hM : M = [] := List.eq_nil_of_length_eq_zero h.1.symm
    subst hM
    exact OutE.app ⟨World.ownsRow_nil _ _ _ _, hU⟩ _ _ _ _ h1 (by simp)
  | some ad =>
    obtain ⟨i0, hi0, hz0, hz1, hz2⟩ := info_parts infoEn
    have hml := h.1
    have olds : ∀ j u, (flatE M)[j]? = some u → w.cell? (ad.add j) = some u := fun j u hj => by
      obtain ⟨t, y, r, ht, rfl, hr9, hu⟩ := flatE_at M j u hj
      have htl := (List.getElem?_eq_some_iff.1 ht).1
      obtain ⟨g, o, z, hA, hz, hc⟩ := h.get (k := t) (by omega)
      obtain rfl : z = y := Option.some.inj (hz.symm.trans ht)
      obtain rfl := Option.some.inj hA
      rw [Addr.add_lit, ← Nat.add_assoc]
      exact hc.flat r u hu
    obtain ⟨v', w', hr, ho, hg⟩ := run_append_arg_grows (P := Tryz.prog) w 22 22 34 i0 (.agg #[.int .i64 0, .int .i64 0, .string ⟨#[]⟩, .int .i64 0, .int .i64 0, .int .i64 0, .string ⟨#[]⟩, .int .i64 0, .int .i64 0]) 9 88 Tryz.underlying22 hi0 hz0 hz1 hz2 rfl (by decide)
      ad k k (flatE M) (by rw [flatE_len, ← hml]) olds ⟨b, 0, none⟩ 1 1 (flatE [x]) (by rw [flatE_len]; rfl) (fun j u hj => by
        obtain ⟨t, y, r, ht, rfl, hr9, hu⟩ := flatE_at [x] j u hj
        obtain ⟨g, o, z, hA, hz, hc⟩ := h1.get (k := t) (by have := (List.getElem?_eq_some_iff.1 ht).1; simpa using this)
        obtain rfl : z = y := Option.some.inj (hz.symm.trans ht)
        obtain ⟨rfl, rfl, _⟩ : b = g ∧ 0 = o ∧ True := by
          have := Option.some.inj hA
          simp only [Addr.mk.injEq] at this
          exact ⟨this.1, this.2.1, trivial⟩
        rw [Addr.add_lit, ← Nat.add_assoc]
        exact hc.flat r u hu) (by omega) (by simp only [maxLen]; omega) (by omega)
    refine ⟨v', w', hr, ⟨?_, kept_grown hU hg fun g hg => by cases hg⟩⟩
    rw [List.length_append, ← hml, flatE_app]
    exact own_mono ho fun g hg => Nat.le_trans hU.2.2 (ho.lt g hg).1
end Go.Proofs.YtkooihljddibfaaGreat

namespace Go.Proofs.YtkooihljddibfaaGreat
open Go.RowKit

/-- A state that lies in memory. -/
structure Stt (w : World) (A : Option Addr) (n c : Nat) (B : Option Addr) (m k : Nat) (D : Option Addr) (p q : Nat) (L : List En) (V : List Int) (C : List (Int × Int)) : Prop where
  el : El w A n c L
  il : Il w B m k V
  dl : Dl w D p q C
theorem Stt.kept {w w' : World} {A B D : Option Addr} {n c m k p q : Nat} {L : List En} {V : List Int} {C : List (Int × Int)} (h : Stt w A n c B m k D p q L V C) (hk : Kept w w') : Stt w' A n c B m k D p q L V C :=
  ⟨h.el.kept hk, h.il.kept hk, h.dl.kept hk⟩
end Go.Proofs.YtkooihljddibfaaGreat

namespace Go.Proofs.YtkooihljddibfaaGreat
open Go.ChangeShapes Go.WideShapes Go.ChangeAt Go.RowKit Go.Joins

theorem cDot : Tryz.prog.cellsOf 30 = 2 := by kernel_rfl
theorem cInt : Tryz.prog.cellsOf 3 = 1 := by kernel_rfl
theorem cEnt : Tryz.prog.cellsOf 34 = 9 := by kernel_rfl
theorem cVal : Tryz.prog.cellsOf 32 = 3 := by kernel_rfl
theorem cStr : Tryz.prog.cellsOf 9 = 1 := by kernel_rfl
theorem laidOut : laidOutB Tryz.prog = true := by kernel_rfl
theorem own : ownKnob Tryz.prog.godebug = none := by kernel_rfl
theorem wf_bd {a : Int} (h : (Lit.int .i64 a).wf = true) : -9223372036854775808 ≤ a ∧ a ≤ 9223372036854775807 := by
  simp [Lit.wf] at h
  have h1 : IntKind.i64.min = -9223372036854775808 := by decide
  have h2 : IntKind.i64.max = 9223372036854775807 := by decide
  omega

def Bd (a : Int) : Prop := -9223372036854775808 ≤ a ∧ a ≤ 9223372036854775807
/-- The numbers of an entry are ints of the kind's width, its texts are texts. -/
structure EnW (x : En) : Prop where
  d1 : (Lit.int .i64 x.d.1).wf = true
  d2 : (Lit.int .i64 x.d.2).wf = true
  p : x.p.size ≤ maxLen
  k : (Lit.int .i64 x.k).wf = true
  vk : (Lit.int .i64 x.vk).wf = true
  vn : (Lit.int .i64 x.vn).wf = true
  vt : x.vt.size ≤ maxLen
  e1 : (Lit.int .i64 x.e.1).wf = true
  e2 : (Lit.int .i64 x.e.2).wf = true
def dotE {H : Type} (x : Int × Int) : DataW H := .agg [.lit (.int .i64 x.1), .lit (.int .i64 x.2)]
def dataE {H : Type} (x : En) : DataW H := .agg [dotE x.d, .lit (.string x.p.data.toList), .lit (.int .i64 x.k), .agg [.lit (.int .i64 x.vk), .lit (.int .i64 x.vn), .lit (.string x.vt.data.toList)], dotE x.e]

section
variable {H : Type} {enc : TypeId × Value → H} {w : World} {base : Nat} {spare : Nat → Bool} {held : Bool}
theorem trod_dotE {n : Nat} {c0 c1 : Value} {y : DataW H × List MemPlace} (h : DataW.trod enc Tryz.prog w base spare held n 30 [c0, c1] = some y) :
    ∃ a : Int × Int, c0 = .int .i64 a.1 ∧ c1 = .int .i64 a.2 ∧ y = (dotE a, []) ∧ (Lit.int .i64 a.1).wf = true ∧ (Lit.int .i64 a.2).wf = true := by
  obtain ⟨y0, y1, m, rfl, _, h0, h1⟩ := trod_struct2 Tryz.underlying30 h
  simp only [cInt] at h0 h1
  obtain ⟨a, e0, rfl, w0⟩ := DataW.trod_int Tryz.underlying3 h0
  obtain ⟨b, e1, rfl, w1⟩ := DataW.trod_int Tryz.underlying3 h1
  simp at e0 e1
  subst e0 e1
  exact ⟨(a, b), rfl, rfl, rfl, w0, w1⟩
theorem trod_valE {n : Nat} {c0 c1 c2 : Value} {y : DataW H × List MemPlace} (h : DataW.trod enc Tryz.prog w base spare held n 32 [c0, c1, c2] = some y) :
    ∃ (a b : Int) (t : ByteArray), c0 = .int .i64 a ∧ c1 = .int .i64 b ∧ c2 = .string t ∧ y = (.agg [.lit (.int .i64 a), .lit (.int .i64 b), .lit (.string t.data.toList)], []) ∧ (Lit.int .i64 a).wf = true ∧ (Lit.int .i64 b).wf = true ∧ t.size ≤ maxLen := by
  obtain ⟨y0, y1, y2, m, rfl, _, h0, h1, h2⟩ := Deep.trod_struct3 Tryz.underlying32 h
  simp only [cInt, cStr] at h0 h1 h2
  obtain ⟨a, e0, rfl, w0⟩ := DataW.trod_int Tryz.underlying3 h0
  obtain ⟨b, e1, rfl, w1⟩ := DataW.trod_int Tryz.underlying3 h1
  obtain ⟨t, e2, rfl, w2⟩ := DataW.trod_string Tryz.underlying9 h2
  simp at e0 e1 e2
  subst e0 e1 e2
  exact ⟨a, b, t, rfl, rfl, rfl, rfl, w0, w1, w2⟩
instance : Inhabited En := ⟨.none⟩
theorem trod_entE {fuel : Nat} {l : List Value} {y : DataW H × List MemPlace} (hsz : l.length = 9) (hf : DataW.trod enc Tryz.prog w base spare held fuel 34 l = some y) :
    ∃ x : En, l = cellE x ∧ y = (dataE x, []) ∧ EnW x := by
  obtain ⟨c0, c1, c2, c3, c4, c5, c6, c7, c8, rfl⟩ : ∃ c0 c1 c2 c3 c4 c5 c6 c7 c8, l = [c0, c1, c2, c3, c4, c5, c6, c7, c8] := by
    match l, hsz with
    | [c0, c1, c2, c3, c4, c5, c6, c7, c8], _ => exact ⟨c0, c1, c2, c3, c4, c5, c6, c7, c8, rfl⟩
  obtain ⟨xs, n, _, hx, _, hxl, hfs⟩ := DataW.trod_struct Tryz.underlying34 hf
  obtain ⟨y0, y1, y2, y3, y4, rfl⟩ : ∃ y0 y1 y2 y3 y4, xs = [y0, y1, y2, y3, y4] := by
    match xs, hxl with
    | [y0, y1, y2, y3, y4], _ => exact ⟨y0, y1, y2, y3, y4, rfl⟩
  have h0 : DataW.trod enc Tryz.prog w base spare held n 30 (List.take (Tryz.prog.cellsOf 30) [c0, c1, c2, c3, c4, c5, c6, c7, c8]) = some y0 := hfs 0 _ rfl
  rw [cDot] at h0
  replace h0 : DataW.trod enc Tryz.prog w base spare held n 30 [c0, c1] = some y0 := h0
  have h1 : DataW.trod enc Tryz.prog w base spare held n 9 (List.take (Tryz.prog.cellsOf 9) [c2, c3, c4, c5, c6, c7, c8]) = some y1 := hfs 1 _ rfl
  rw [cStr] at h1
  replace h1 : DataW.trod enc Tryz.prog w base spare held n 9 [c2] = some y1 := h1
  have h2 : DataW.trod enc Tryz.prog w base spare held n 3 (List.take (Tryz.prog.cellsOf 3) [c3, c4, c5, c6, c7, c8]) = some y2 := hfs 2 _ rfl
  rw [cInt] at h2
  replace h2 : DataW.trod enc Tryz.prog w base spare held n 3 [c3] = some y2 := h2
  have h3 : DataW.trod enc Tryz.prog w base spare held n 32 (List.take (Tryz.prog.cellsOf 32) [c4, c5, c6, c7, c8]) = some y3 := hfs 3 _ rfl
  rw [cVal] at h3
  replace h3 : DataW.trod enc Tryz.prog w base spare held n 32 [c4, c5, c6] = some y3 := h3
  have h4 : DataW.trod enc Tryz.prog w base spare held n 30 (List.take (Tryz.prog.cellsOf 30) [c7, c8]) = some y4 := hfs 4 _ rfl
  rw [cDot] at h4
  replace h4 : DataW.trod enc Tryz.prog w base spare held n 30 [c7, c8] = some y4 := h4
  obtain ⟨dd, rfl, rfl, rfl, w0, w1⟩ := trod_dotE h0
  obtain ⟨pp, e2, rfl, w2⟩ := DataW.trod_string Tryz.underlying9 h1
  obtain ⟨kk, e3, rfl, w3⟩ := DataW.trod_int Tryz.underlying3 h2
  obtain ⟨vk, vn, vt, rfl, rfl, rfl, rfl, w4, w5, w6⟩ := trod_valE h3
  obtain ⟨ee, rfl, rfl, rfl, w7, w8⟩ := trod_dotE h4
  simp only [List.cons.injEq, and_true] at e2 e3
  subst e2 e3
  exact ⟨⟨dd, pp, kk, vk, vn, vt, ee⟩, rfl, by rw [hx]; rfl, w0, w1, w2, w3, w4, w5, w6, w7, w8⟩
theorem open_ents {fuel : Nat} {v : Value} {x : DataW H × List MemPlace} (h : DataW.trod enc Tryz.prog w base spare held fuel 22 [v] = some x) :
    ∃ A n c L rest, v = .slice A n c ∧ El w A n c L ∧ (∀ y ∈ L, EnW y) ∧ (x.1 = .slice (L.map dataE) rest ∨ L = []) := by
  rcases Deep.open_slice Tryz.underlying22 h with ⟨hcs, hx⟩ | ⟨a, len, cap, m, n, D, Pl, hcs, _, hl, hm, hmm, hx, hel⟩
  · simp at hcs
    subst hcs
    exact ⟨none, 0, 0, [], [], rfl, El.nil _, (fun y hy => by cases hy), .inr rfl⟩
  · simp at hcs
    subst hcs
    have hlm : len ≤ m := by rw [hmm]; split <;> omega
    rw [cEnt] at hel
    obtain ⟨f, hf⟩ := Deep.choose_lt (n := len) (p := fun i (x : En) => (∀ j u, (cellE x)[j]? = some u → w.cell? ((a.add (i * 9)).add j) = some u) ∧ D i = dataE x ∧ EnW x) (fun i hi => by
      obtain ⟨cs', h1, h2⟩ := hel i (by omega)
      obtain ⟨_, hlen, hcell⟩ := World.cells?_some h1
      obtain ⟨x, rfl, hy, hw⟩ := trod_entE hlen h2
      refine ⟨x, fun j u hu => ?_, congrArg Prod.fst hy, hw⟩
      have hj : j < 9 := (List.getElem?_eq_some_iff.1 hu).1
      rw [hcell j hj]; exact hu)
    refine ⟨some a, len, cap, (List.range len).map f, (List.range (m - len)).map fun j => D (len + j), rfl, ⟨by simp, hl, hm, (fun h => by cases h), ?_⟩, fun y hy => ?_, .inl ?_⟩
    · rcases Nat.eq_zero_or_pos len with h0 | h0
      · exact .inl h0
      · obtain ⟨b, off, spot⟩ := a
        have hspot : spot = none := by simpa [Addr.add] using World.cell?_spot ((hf 0 h0).1 0 _ rfl)
        subst hspot
        refine .inr ⟨b, off, rfl, fun j x hj => ?_⟩
        have hj2 := (List.getElem?_eq_some_iff.1 hj).1
        rw [List.length_map, List.length_range] at hj2
        rw [List.getElem?_map, List.getElem?_range hj2] at hj
        obtain rfl := Option.some.inj hj
        refine EntO.of_flat fun i u hu => ?_
        have := (hf j hj2).1 i u hu
        rw [Addr.add_lit, Addr.add_lit] at this
        exact this
    · obtain ⟨i, hi, rfl⟩ := List.mem_map.1 hy
      exact (hf i (List.mem_range.1 hi)).2.2
    · rw [hx]
      rw [List.map_map]
      exact congrArg (fun z => DataW.slice z _) (List.map_congr_left fun i hi => (hf i (List.mem_range.1 hi)).2.1)
theorem open_dotsV {fuel : Nat} {v : Value} {x : DataW H × List MemPlace} (h : DataW.trod enc Tryz.prog w base spare held fuel 24 [v] = some x) :
    ∃ A n c L, v = .slice A n c ∧ Dl w A n c L ∧ ∀ d ∈ L, Bd d.1 ∧ Bd d.2 := by
  rcases Deep.open_slice_pairs Tryz.underlying24 Tryz.underlying30 cDot rfl rfl (by kernel_rfl) (by kernel_rfl) h with ⟨hcs, _⟩ | ⟨a, len, cap, m, n, V0, V1, D0, D1, P0, P1, hcs, _, hl, hm, hmm, _, hel⟩
  · simp at hcs
    subst hcs
    exact ⟨none, 0, 0, [], rfl, Dl.nil _, fun d hd => by cases hd⟩
  · simp at hcs
    subst hcs
    have hlm : len ≤ m := by rw [hmm]; split <;> omega
    have ints : ∀ i, i < len → (V0 i = .int .i64 (intOf (V0 i)) ∧ Bd (intOf (V0 i))) ∧ V1 i = .int .i64 (intOf (V1 i)) ∧ Bd (intOf (V1 i)) := fun i hi => by
      obtain ⟨_, _, h0, h1⟩ := hel i (by omega)
      obtain ⟨k, e0, _, w0⟩ := DataW.trod_int Tryz.underlying3 h0
      obtain ⟨k', e1, _, w1⟩ := DataW.trod_int Tryz.underlying3 h1
      simp at e0 e1
      rw [e0, e1]
      exact ⟨⟨rfl, wf_bd w0⟩, rfl, wf_bd w1⟩
    refine ⟨some a, len, cap, (List.range len).map fun i => (intOf (V0 i), intOf (V1 i)), rfl, ⟨by simp, hl, hm, (fun h => by cases h), ?_⟩, fun d hd => ?_⟩
    · rcases Nat.eq_zero_or_pos len with h0 | h0
      · exact .inl h0
      · obtain ⟨b, off, spot⟩ := a
        have hspot : spot = none := by simpa [Addr.add] using World.cell?_spot (hel 0 (by omega)).1
        subst hspot
        refine .inr ⟨b, off, rfl, fun j x hj => ?_⟩
        have hj2 := (List.getElem?_eq_some_iff.1 hj).1
        rw [List.length_map, List.length_range] at hj2
        rw [List.getElem?_map, List.getElem?_range hj2] at hj
        obtain rfl := Option.some.inj hj
        obtain ⟨g0, g1, _, _⟩ := hel j (by omega)
        rw [(ints j hj2).1.1, Addr.add_lit] at g0
        rw [(ints j hj2).2.1, Addr.add_lit] at g1
        exact ⟨g0, g1⟩
    · obtain ⟨i, hi, rfl⟩ := List.mem_map.1 hd
      have := ints i (List.mem_range.1 hi)
      exact ⟨this.1.2, this.2.2⟩
set_option maxRecDepth 100000 in
theorem open_dotsT {r : Reach} {b0 : Nat} {v : Value} {d : DataW H} {p : List MemPlace} (hv : Value.okWide Tryz.prog w r b0 24 v) (h : DataW.Trod enc Tryz.prog w base spare held 24 v d p) :
    ∃ A n c L, v = .slice A n c ∧ Dl w A n c L ∧ ∀ d ∈ L, Bd d.1 ∧ Bd d.2 := by
  obtain ⟨a0, len, cap, rfl⟩ := okWide_slice Tryz.underlying24 hv
  obtain ⟨fuel, hf⟩ := h
  exact open_dotsV (x := (d, p)) (by simpa [Value.cells] using hf)
end
theorem Kept.same {W W' : World} (h : Kept W W') {p : MemPlace} (hp : p.block < W.heap.size) : W.sameAt W' p := by
  cases p with
  | cell b o => exact World.cell?_of_block (w := W) (h.blk hp)
  | map b => exact h.blk hp
theorem Kept.trod {H : Type} {enc : TypeId × Value → H} {t : TypeId} (hr : Tryz.prog.readableRec t = true) (hrow : t < Tryz.prog.types.size) {W W' : World} {v : Value} {d : DataW H} {ps : List MemPlace}
    (h : DataW.Trod enc Tryz.prog W 0 (fun _ => true) true t v d ps) (hb : Kept W W') (hlt : ∀ x ∈ ps, x.block < W.heap.size) :
    DataW.Trod enc Tryz.prog W' 0 (fun b => decide (b < W.heap.size)) true t v d ps :=
  WideElems.Trod_stays laidOut hr hrow h (fun x hx => hb.same (hlt x hx)) (fun x hx => by simpa using hlt x hx)
end Go.Proofs.YtkooihljddibfaaGreat

namespace Go.Proofs.YtkooihljddibfaaGreat
open Go.ChangeShapes Go.WideShapes Go.ChangeAt Go.RowKit Go.Joins

theorem cCtx : Tryz.prog.cellsOf 26 = 2 := by kernel_rfl
theorem cState : Tryz.prog.cellsOf 28 = 3 := by kernel_rfl
theorem cEnts : Tryz.prog.cellsOf 22 = 1 := by kernel_rfl
theorem cInts : Tryz.prog.cellsOf 23 = 1 := by kernel_rfl
theorem cDots : Tryz.prog.cellsOf 24 = 1 := by kernel_rfl
section
variable {H : Type} {enc : TypeId × Value → H} {w : World} {base : Nat} {spare : Nat → Bool} {held : Bool}
theorem open_intsV {fuel : Nat} {v : Value} {x : DataW H × List MemPlace} (h : DataW.trod enc Tryz.prog w base spare held fuel 23 [v] = some x) :
    ∃ A n c V, v = .slice A n c ∧ Il w A n c V ∧ ∀ d ∈ V, Bd d := by
  rcases open_ints Tryz.underlying23 Tryz.underlying3 (by kernel_rfl) h with ⟨hcs, _⟩ | ⟨a, len, cap, zs, hcs, _, hl, hm, hz, _, hel, hw⟩
  · simp at hcs
    subst hcs
    exact ⟨none, 0, 0, [], rfl, Il.nil _, fun d hd => by cases hd⟩
  · simp at hcs
    subst hcs
    have hlz : len ≤ zs.length := by rw [hz]; split <;> omega
    refine ⟨some a, len, cap, zs.take len, rfl, ⟨by rw [List.length_take]; omega, hl, hm, (fun h => by cases h), ?_⟩, fun d hd => wf_bd (hw d (List.mem_of_mem_take hd))⟩
    rcases Nat.eq_zero_or_pos len with h0 | h0
    · exact .inl h0
    · obtain ⟨b, off, spot⟩ := a
      have hspot : spot = none := by simpa [Addr.add] using World.cell?_spot (hel 0 (by omega))
      subst hspot
      refine .inr ⟨b, off, rfl, fun j x hj => ?_⟩
      have hj2 := (List.getElem?_eq_some_iff.1 hj).1
      rw [List.length_take] at hj2
      rw [List.getElem?_take, if_pos (by omega)] at hj
      have := hel j (by omega)
      rw [List.getD_eq_getElem?_getD, hj, Addr.add_lit] at this
      exact this
theorem trod_ctx {n : Nat} {c0 c1 : Value} {y : DataW H × List MemPlace} (h : DataW.trod enc Tryz.prog w base spare held n 26 [c0, c1] = some y) :
    ∃ A n c V B m k C, c0 = .slice A n c ∧ c1 = .slice B m k ∧ Il w A n c V ∧ Dl w B m k C ∧ (∀ d ∈ V, Bd d) ∧ ∀ d ∈ C, Bd d.1 ∧ Bd d.2 := by
  obtain ⟨y0, y1, m, rfl, _, h0, h1⟩ := trod_struct2 Tryz.underlying26 h
  simp only [cInts, cDots] at h0 h1
  obtain ⟨A, n, c, V, e0, hi, hb⟩ := open_intsV (v := c0) (h0.trans rfl)
  obtain ⟨B, m, k, C, e1, hd, hc⟩ := open_dotsV (v := c1) (h1.trans rfl)
  exact ⟨A, n, c, V, B, m, k, C, e0, e1, hi, hd, hb, hc⟩
set_option maxRecDepth 100000 in
theorem open_ctxT {r : Reach} {b0 : Nat} {v : Value} {d : DataW H} {p : List MemPlace} (hv : Value.okWide Tryz.prog w r b0 26 v) (h : DataW.Trod enc Tryz.prog w base spare held 26 v d p) :
    ∃ A n c V B m k C, v = .agg #[.slice A n c, .slice B m k] ∧ Il w A n c V ∧ Dl w B m k C ∧ (∀ d ∈ V, Bd d) ∧ ∀ d ∈ C, Bd d.1 ∧ Bd d.2 := by
  obtain ⟨cs, rfl, hsz⟩ := okWide_struct Tryz.underlying26 hv
  rw [cCtx] at hsz
  obtain ⟨l⟩ := cs
  obtain ⟨c0, c1, rfl⟩ : ∃ c0 c1, l = [c0, c1] := by
    match l, hsz with
    | [c0, c1], _ => exact ⟨c0, c1, rfl⟩
  obtain ⟨fuel, hf⟩ := h
  obtain ⟨A, n, c, V, B, m, k, C, rfl, rfl, hi, hd, hb, hc⟩ := trod_ctx (y := (d, p)) hf
  exact ⟨A, n, c, V, B, m, k, C, rfl, hi, hd, hb, hc⟩
set_option maxRecDepth 100000 in
theorem open_stateT {r : Reach} {b0 : Nat} {v : Value} {d : DataW H} {p : List MemPlace} (hv : Value.okWide Tryz.prog w r b0 28 v) (h : DataW.Trod enc Tryz.prog w base spare held 28 v d p) :
    ∃ A n c L B m k V D p q C, v = .agg #[.slice A n c, .slice B m k, .slice D p q] ∧ Stt w A n c B m k D p q L V C ∧ (∀ x ∈ L, EnW x) ∧ (∀ d ∈ V, Bd d) ∧ ∀ d ∈ C, Bd d.1 ∧ Bd d.2 := by
  obtain ⟨cs, rfl, hsz⟩ := okWide_struct Tryz.underlying28 hv
  rw [cState] at hsz
  obtain ⟨l⟩ := cs
  obtain ⟨c0, c1, c2, rfl⟩ : ∃ c0 c1 c2, l = [c0, c1, c2] := by
    match l, hsz with
    | [c0, c1, c2], _ => exact ⟨c0, c1, c2, rfl⟩
  obtain ⟨fuel, hf⟩ := h
  obtain ⟨xs, n, _, hx, _, hxl, hfs⟩ := DataW.trod_struct Tryz.underlying28 hf
  obtain ⟨y0, y1, rfl⟩ : ∃ y0 y1, xs = [y0, y1] := by
    match xs, hxl with
    | [y0, y1], _ => exact ⟨y0, y1, rfl⟩
  have h0 : DataW.trod enc Tryz.prog w base spare held n 22 (List.take (Tryz.prog.cellsOf 22) [c0, c1, c2]) = some y0 := hfs 0 _ rfl
  rw [cEnts] at h0
  replace h0 : DataW.trod enc Tryz.prog w base spare held n 22 [c0] = some y0 := h0
  have h1 : DataW.trod enc Tryz.prog w base spare held n 26 (List.take (Tryz.prog.cellsOf 26) [c1, c2]) = some y1 := hfs 1 _ rfl
  rw [cCtx] at h1
  replace h1 : DataW.trod enc Tryz.prog w base spare held n 26 [c1, c2] = some y1 := h1
  obtain ⟨A, n, c, L, rest, rfl, hel, hw, _⟩ := open_ents h0
  obtain ⟨B, m, k, V, D, p, q, C, rfl, rfl, hi, hd, hb, hc⟩ := trod_ctx h1
  exact ⟨A, n, c, L, B, m, k, V, D, p, q, C, rfl, ⟨hel, hi, hd⟩, hw, hb, hc⟩
end
end Go.Proofs.YtkooihljddibfaaGreat

namespace Go.Proofs.YtkooihljddibfaaGreat
open Go.RowKit
set_option linter.unusedVariables false

theorem riseE_unique : ∀ (X Y : List En), RiseE X → RiseE Y → (∀ x, x ∈ X ↔ x ∈ Y) → X = Y
  | [], [], _, _, _ => rfl
  | [], y :: ys, _, _, h => absurd ((h y).2 (List.mem_cons_self ..)) (by simp)
  | x :: xs, [], _, _, h => absurd ((h x).1 (List.mem_cons_self ..)) (by simp)
  | x :: xs, y :: ys, hX, hY, h => by
    obtain ⟨x1, x2⟩ := List.pairwise_cons.1 hX
    obtain ⟨y1, y2⟩ := List.pairwise_cons.1 hY
    have e : x = y := by
      rcases List.mem_cons.1 ((h x).1 (List.mem_cons_self ..)) with e | e
      · exact e
      · rcases List.mem_cons.1 ((h y).2 (List.mem_cons_self ..)) with e2 | e2
        · exact e2.symm
        · exact absurd (y1 _ e) (LtD.asymm (x1 _ e2))
    subst e
    refine congrArg _ (riseE_unique xs ys x2 y2 fun z => ⟨fun hz => ?_, fun hz => ?_⟩)
    · rcases List.mem_cons.1 ((h z).1 (List.mem_cons_of_mem _ hz)) with e | e
      · subst e; exact absurd (x1 _ hz) (LtD.irrefl _)
      · exact e
    · rcases List.mem_cons.1 ((h z).2 (List.mem_cons_of_mem _ hz)) with e | e
      · subst e; exact absurd (y1 _ hz) (LtD.irrefl _)
      · exact e

/-- A state. -/
structure Sta where
  L : List En
  V : List Int
  C : List (Int × Int)
def Sta.none : Sta := ⟨[], [], []⟩
def Sta.has (s : Sta) (d : Int × Int) : Prop := hasC s.V s.C d
instance (s : Sta) (d : Int × Int) : Decidable (s.has d) := inferInstanceAs (Decidable (hasC s.V s.C d))
/-- In order (chapter 8). -/
structure Ord (s : Sta) : Prop where
  rise : RiseE s.L
  ctx : RightC s.V s.C
  known : ∀ x ∈ s.L, s.has x.d
theorem StOk.ord {L : List En} {V : List Int} {C : List (Int × Int)} (h : StOk L V C) : Ord ⟨L, V, C⟩ := ⟨h.rise, h.ctx, h.known⟩
theorem Ord.ok {s : Sta} (h : Ord s) (hr : ∀ x ∈ s.L, rightE x = true) : StOk s.L s.V s.C := ⟨h.rise, hr, h.ctx, h.known⟩
theorem Ord.none : Ord .none := StOk.nil.ord
/-- What is there, or was never known. -/
def Sta.lives (s : Sta) (x : En) : Prop := x ∈ s.L ∨ ¬ s.has x.d
theorem Ord.mem {s : Sta} (h : Ord s) (x : En) : x ∈ s.L ↔ s.has x.d ∧ s.lives x :=
  ⟨fun hx => ⟨h.known x hx, .inl hx⟩, fun ⟨h1, h2⟩ => h2.resolve_right (fun n => n h1)⟩
theorem Sta.ext' {a b : Sta} (h1 : a.L = b.L) (h2 : a.V = b.V) (h3 : a.C = b.C) : a = b := by
  obtain ⟨_, _, _⟩ := a; obtain ⟨_, _, _⟩ := b; simp only at h1 h2 h3; subst h1 h2 h3; rfl
theorem Ord.same {a b : Sta} (ha : Ord a) (hb : Ord b) (h : ∀ d, a.has d ↔ b.has d) (hl : ∀ x, a.lives x ↔ b.lives x) : a = b := by
  obtain ⟨h2, h3⟩ := right_unique ha.ctx hb.ctx h
  refine Sta.ext' (riseE_unique _ _ ha.rise hb.rise fun x => ?_) h2 h3
  rw [ha.mem, hb.mem, h, hl]
/-- P9.1. -/
structure JoinOf (a b j : Sta) : Prop where
  rise : RiseE j.L
  mem : ∀ x, x ∈ j.L ↔ (x ∈ a.L ∧ (hasE b.L x.d = true ∨ ¬ b.has x.d)) ∨ (x ∈ b.L ∧ hasE a.L x.d = false ∧ ¬ a.has x.d)
  set : SetC (fun d => a.has d ∨ b.has d) j.V j.C
theorem JoinOf.has {a b j : Sta} (h : JoinOf a b j) (d : Int × Int) : j.has d ↔ a.has d ∨ b.has d := h.set.has d
theorem JoinOf.one {a b j j' : Sta} (h : JoinOf a b j) (k : JoinOf a b j') : j = j' := by
  obtain ⟨h2, h3⟩ := h.set.same k.set (fun d => Iff.rfl)
  exact Sta.ext' (riseE_unique _ _ h.rise k.rise fun x => (h.mem x).trans (k.mem x).symm) h2 h3
theorem JoinOf.from_ {a b j : Sta} (h : JoinOf a b j) {x : En} (hx : x ∈ j.L) : x ∈ a.L ∨ x ∈ b.L := by
  rcases (h.mem x).1 hx with h1 | h1
  · exact .inl h1.1
  · exact .inr h1.1
theorem JoinOf.ord {a b j : Sta} (h : JoinOf a b j) (ha : Ord a) (hb : Ord b) : Ord j :=
  ⟨h.rise, h.set.right, fun x hx => (h.has _).2 ((h.from_ hx).imp (ha.known x) (hb.known x))⟩
theorem hasE_known {s : Sta} (h : Ord s) {d : Int × Int} (hd : hasE s.L d = true) : s.has d := by
  obtain ⟨y, hy, rfl⟩ := hasE_iff.1 hd
  exact h.known y hy
/-- States that give unlike things to no dot. -/
def Agree (a b : Sta) : Prop := ∀ x ∈ a.L, ∀ y ∈ b.L, x.d = y.d → x = y
theorem Agree.symm {a b : Sta} (h : Agree a b) : Agree b a := fun x hx y hy e => (h y hy x hx e.symm).symm
theorem Agree.self {a : Sta} (h : Ord a) : Agree a a := fun _ hx _ hy e => rise_one h.rise hx hy e
theorem Agree.none (a : Sta) : Agree .none a := fun x hx => by cases hx
theorem JoinOf.agree {a b j c : Sta} (h : JoinOf a b j) (h1 : Agree a c) (h2 : Agree b c) : Agree j c := fun x hx y hy e =>
  (h.from_ hx).elim (fun k => h1 x k y hy e) (fun k => h2 x k y hy e)
theorem Agree.has {a b : Sta} (h : Agree a b) {x : En} (hx : x ∈ a.L) : hasE b.L x.d = true ↔ x ∈ b.L := by
  rw [hasE_iff]
  exact ⟨fun ⟨y, hy, e⟩ => by rw [h x hx y hy e.symm]; exact hy, fun hb => ⟨x, hb, rfl⟩⟩
theorem JoinOf.lives {a b j : Sta} (h : JoinOf a b j) (ha : Ord a) (hb : Ord b) (hab : Agree a b) (x : En) : j.lives x ↔ a.lives x ∧ b.lives x := by
  unfold Sta.lives
  rw [h.mem, h.has]
  constructor
  · rintro ((⟨h1, h2⟩ | ⟨h1, h2, h3⟩) | h1)
    · refine ⟨.inl h1, ?_⟩
      rcases h2 with h2 | h2
      · exact .inl ((hab.has h1).1 h2)
      · exact .inr h2
    · exact ⟨.inr h3, .inl h1⟩
    · exact ⟨.inr fun k => h1 (.inl k), .inr fun k => h1 (.inr k)⟩
  · rintro ⟨h1 | h1, h2 | h2⟩
    · exact .inl (.inl ⟨h1, .inl ((hab.has h1).2 h2)⟩)
    · exact .inl (.inl ⟨h1, .inr h2⟩)
    · refine .inl (.inr ⟨h2, ?_, h1⟩)
      rw [← Bool.not_eq_true]
      exact fun k => h1 (hasE_known ha k)
    · exact .inr fun k => k.elim h1 h2
/-- How a join is told. -/
theorem joinOf_iff {a b j : Sta} (ha : Ord a) (hb : Ord b) (hab : Agree a b) (hj : Ord j) : JoinOf a b j ↔ (∀ d, j.has d ↔ a.has d ∨ b.has d) ∧ ∀ x, j.lives x ↔ a.lives x ∧ b.lives x := by
  constructor
  · exact fun h => ⟨h.has, h.lives ha hb hab⟩
  · rintro ⟨h1, h2⟩
    refine ⟨hj.rise, fun x => ?_, ⟨hj.ctx, h1⟩⟩
    rw [hj.mem, h1, h2]
    constructor
    · rintro ⟨h3, h4, h5⟩
      rcases h4 with h4 | h4
      · exact .inl ⟨h4, h5.imp (fun k => (hab.has h4).2 k) id⟩
      · have h6 : b.has x.d := h3.resolve_left h4
        refine .inr ⟨h5.resolve_right (fun n => n h6), ?_, h4⟩
        rw [← Bool.not_eq_true]
        exact fun k => h4 (hasE_known ha k)
    · rintro (⟨h3, h4⟩ | ⟨h3, h4, h5⟩)
      · exact ⟨.inl (ha.known x h3), .inl h3, h4.imp (fun k => (hab.has h3).1 k) id⟩
      · exact ⟨.inr (hb.known x h3), .inr h5, .inl h3⟩
theorem JoinOf.comm {a b j : Sta} (h : JoinOf a b j) (ha : Ord a) (hb : Ord b) (hab : Agree a b) : JoinOf b a j := by
  obtain ⟨h1, h2⟩ := (joinOf_iff ha hb hab (h.ord ha hb)).1 h
  exact (joinOf_iff hb ha hab.symm (h.ord ha hb)).2 ⟨fun d => (h1 d).trans or_comm, fun x => (h2 x).trans and_comm⟩
theorem JoinOf.assoc {a b c ab bc j j' : Sta} (ha : Ord a) (hb : Ord b) (hc : Ord c) (hab : Agree a b) (hac : Agree a c) (hbc : Agree b c) (h1 : JoinOf a b ab) (h2 : JoinOf ab c j) (h3 : JoinOf b c bc) (h4 : JoinOf a bc j') : j = j' := by
  have o1 := h1.ord ha hb
  have o3 := h3.ord hb hc
  refine (h2.ord o1 hc).same (h4.ord ha o3) (fun d => ?_) fun x => ?_
  · rw [h2.has, h1.has, h4.has, h3.has, or_assoc]
  · rw [h2.lives o1 hc (h1.agree hac hbc), h1.lives ha hb hab, h4.lives ha o3 (h3.agree hab.symm hac.symm).symm, h3.lives hb hc hbc, and_assoc]
theorem JoinOf.self {a : Sta} (ha : Ord a) : JoinOf a a a :=
  (joinOf_iff ha ha (Agree.self ha) ha).2 ⟨fun _ => or_self_iff.symm, fun _ => and_self_iff.symm⟩
theorem JoinOf.nil {a : Sta} (ha : Ord a) : JoinOf .none a a := by
  refine (joinOf_iff Ord.none ha (Agree.none a) ha).2 ⟨fun d => ?_, fun x => ?_⟩
  · have : ¬ Sta.none.has d := by unfold Sta.has Sta.none hasC; simp [atV_nil]; omega
    exact ⟨.inr, fun h => h.resolve_left this⟩
  · have : Sta.none.lives x := .inr (by unfold Sta.has Sta.none hasC; simp [atV_nil]; omega)
    exact ⟨fun h => ⟨this, h⟩, fun h => h.2⟩
/-- P9.3. -/
theorem covers_iff {a b : Sta} (ha : Ord a) (hb : Ord b) (hab : Agree a b) : JoinOf a b a ↔ (∀ d, b.has d → a.has d) ∧ ∀ x ∈ a.L, b.lives x := by
  rw [joinOf_iff ha hb hab ha]
  constructor
  · rintro ⟨h1, h2⟩
    exact ⟨fun d hd => (h1 d).2 (.inr hd), fun x hx => ((h2 x).1 (.inl hx)).2⟩
  · rintro ⟨h1, h2⟩
    refine ⟨fun d => ⟨.inl, fun h => h.elim id (h1 d)⟩, fun x => ⟨fun h => ⟨h, ?_⟩, fun h => h.1⟩⟩
    rcases h with h | h
    · exact h2 x h
    · exact .inr fun k => h (h1 _ k)
theorem JoinOf.left {a b j : Sta} (h : JoinOf a b j) (ha : Ord a) (hb : Ord b) (hab : Agree a b) : JoinOf j a j := by
  have hj := h.ord ha hb
  refine (covers_iff hj ha (h.agree (Agree.self ha) hab.symm)).2 ⟨fun d hd => (h.has d).2 (.inl hd), fun x hx => ((h.lives ha hb hab x).1 (.inl hx)).1⟩
theorem JoinOf.right_ {a b j : Sta} (h : JoinOf a b j) (ha : Ord a) (hb : Ord b) (hab : Agree a b) : JoinOf j b j :=
  (h.comm ha hb hab).left hb ha hab.symm
/-- P9.7. -/
theorem covers_both {m a b j : Sta} (hm : Ord m) (ha : Ord a) (hb : Ord b) (hma : Agree m a) (hmb : Agree m b) (hab : Agree a b) (h : JoinOf a b j) : JoinOf m a m ∧ JoinOf m b m ↔ JoinOf m j m := by
  have hj := h.ord ha hb
  rw [covers_iff hm ha hma, covers_iff hm hb hmb, covers_iff hm hj (h.agree hma.symm hmb.symm).symm]
  constructor
  · rintro ⟨⟨h1, h2⟩, h3, h4⟩
    exact ⟨fun d hd => ((h.has d).1 hd).elim (h1 d) (h3 d), fun x hx => (h.lives ha hb hab x).2 ⟨h2 x hx, h4 x hx⟩⟩
  · rintro ⟨h1, h2⟩
    exact ⟨⟨fun d hd => h1 d ((h.has d).2 (.inl hd)), fun x hx => ((h.lives ha hb hab x).1 (h2 x hx)).1⟩, fun d hd => h1 d ((h.has d).2 (.inr hd)), fun x hx => ((h.lives ha hb hab x).1 (h2 x hx)).2⟩
theorem covers_each {a b : Sta} (ha : Ord a) (hb : Ord b) (hab : Agree a b) : JoinOf a b a ∧ JoinOf b a b ↔ a = b := by
  constructor
  · rintro ⟨h1, h2⟩
    exact h1.one (h2.comm hb ha hab.symm)
  · rintro rfl
    exact ⟨JoinOf.self ha, JoinOf.self ha⟩
/-- P9.4. -/
def beyondE (L : List En) (V : List Int) (C : List (Int × Int)) : List En := L.filter fun x => !decide (hasC V C x.d)
theorem beyondE_mem {L : List En} {V : List Int} {C : List (Int × Int)} {x : En} : x ∈ beyondE L V C ↔ x ∈ L ∧ ¬ hasC V C x.d := by
  unfold beyondE; rw [List.mem_filter]; simp
/-- P9.5. -/
def goneE (s t : Sta) : List (Int × Int) := (t.L.filter fun x => !hasE s.L x.d && decide (s.has x.d)).map (·.d)
theorem goneE_mem {s t : Sta} {d : Int × Int} : d ∈ goneE s t ↔ ∃ x ∈ t.L, x.d = d ∧ hasE s.L d = false ∧ s.has d := by
  unfold goneE
  rw [List.mem_map]
  constructor
  · rintro ⟨x, hx, rfl⟩
    obtain ⟨h1, h2⟩ := List.mem_filter.1 hx
    simp only [Bool.and_eq_true, Bool.not_eq_true', decide_eq_true_eq] at h2
    exact ⟨x, h1, rfl, h2.1, h2.2⟩
  · rintro ⟨x, h1, rfl, h2, h3⟩
    exact ⟨x, List.mem_filter.2 ⟨h1, by simp [h2, h3]⟩, rfl⟩
/-- One put in behind the other. -/
def withAll (L : List En) (X : List En) : List En := X.foldl withE L
theorem withAll_rise {X L : List En} (h : RiseE L) : RiseE (withAll L X) := by
  induction X generalizing L with
  | nil => exact h
  | cons x X ih => exact ih (withE_rise h x)
theorem withAll_mem {X L : List En} (hX : RiseE X) (hL : ∀ x ∈ X, ∀ y ∈ L, y.d ≠ x.d) {z : En} : z ∈ withAll L X ↔ z ∈ L ∨ z ∈ X := by
  induction X generalizing L with
  | nil => simp [withAll]
  | cons x X ih =>
    obtain ⟨h1, h2⟩ := List.pairwise_cons.1 hX
    have key : ∀ y ∈ X, ∀ u ∈ withE L x, u.d ≠ y.d := fun y hy u hu => by
      rcases withE_mem.1 hu with rfl | ⟨hu, _⟩
      · exact fun e => LtD.irrefl _ (e ▸ h1 y hy)
      · exact hL y (List.mem_cons_of_mem _ hy) u hu
    show z ∈ withAll (withE L x) X ↔ _
    rw [ih h2 key, withE_mem, List.mem_cons]
    constructor
    · rintro ((h | ⟨h, _⟩) | h)
      · exact .inr (.inl h)
      · exact .inl h
      · exact .inr (.inr h)
    · rintro (h | h | h)
      · exact .inl (.inr ⟨h, hL x (List.mem_cons_self ..) z h⟩)
      · exact .inl (.inl h)
      · exact .inr h
/-- P9.6: one state without what is gone, and what the other one has beyond it. -/
theorem join_parts {k i j : Sta} (hk : Ord k) (hi : Ord i) (h : JoinOf k i j) : j.L = withAll (outE k.L (goneE i k)) (beyondE i.L k.V k.C) := by
  have hb : RiseE (beyondE i.L k.V k.C) := List.Pairwise.filter _ hi.rise
  have apart : ∀ x ∈ beyondE i.L k.V k.C, ∀ y ∈ outE k.L (goneE i k), y.d ≠ x.d := fun x hx y hy e => (beyondE_mem.1 hx).2 (e ▸ hk.known y (outE_mem.1 hy).1)
  refine riseE_unique _ _ h.rise (withAll_rise (outE_rise hk.rise _)) fun x => ?_
  rw [h.mem, withAll_mem hb apart, outE_mem, beyondE_mem, goneE_mem]
  constructor
  · rintro (⟨h1, h2⟩ | ⟨h1, h2, h3⟩)
    · refine .inl ⟨h1, ?_⟩
      rintro ⟨y, _, e, h3, h4⟩
      rcases h2 with h2 | h2
      · rw [h3] at h2; cases h2
      · exact h2 h4
    · exact .inr ⟨h1, h3⟩
  · rintro (⟨h1, h2⟩ | ⟨h1, h2⟩)
    · refine .inl ⟨h1, ?_⟩
      by_cases h3 : hasE i.L x.d = true
      · exact .inl h3
      · refine .inr fun h4 => h2 ⟨x, h1, rfl, by simpa using h3, h4⟩
    · refine .inr ⟨h1, ?_, h2⟩
      rw [← Bool.not_eq_true]
      exact fun k2 => h2 (hasE_known hk k2)
end Go.Proofs.YtkooihljddibfaaGreat

