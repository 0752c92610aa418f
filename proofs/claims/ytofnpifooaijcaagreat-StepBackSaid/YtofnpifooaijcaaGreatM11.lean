/-
  What is proved: a step (a struct of texts, numbers, structs and a slice of structs) and a schema among the arguments, opened: what they hold; what is read of the arguments reads on, in a world with new blocks at most.
  the document's Split, called with any text of up to 2^40 bytes, returns its segments, in new memory (P4.2); the world has new blocks at most.
  path.Right and path.Pattern and the document's, called with any text of up to 2^40 bytes, return whether it is a path, and whether it is a pattern (P4.4, P4.5); the world has new blocks at most.
  path.Begins and path.Match and the document's, called with any two texts of up to 2^40 bytes, return what P4.6 and P4.7 say; the world has new blocks at most.
-/
import Derived.Test.YtofnpifooaijcaaGreatM10
import Derived.Test.YtofnpifooaijcaaGreatM8
import Derived.ProofKit
import Derived.LaidMore
import Derived.OpenShut
import Derived.ChangeMaps5
import Derived.Stop.Joined
import Derived.Lib.SmallJoins
import Derived.Lib.LaidTab
import Derived.SizedLaws
import Derived.MakeChecks
import Derived.Carry
import Derived.WideKeyArgs
import Derived.Deep.Strs
import Derived.Deep.Frames
import Derived.Deep.SlicePairs
import Derived.Test.YtofnpifooaijcaaGreatM9
import Derived.Test.YtofnpifooaijcaaGreatM5
import Derived.Deep.QuietTactic
import Derived.BigQuiet
namespace Go.Proofs.YtofnpifooaijcaaGreat
open Go.ChangeShapes Go.WideShapes Go.ChangeAt Go.RowKit Go.Joins
set_option linter.unusedVariables false
theorem cBoo : Tryz.prog.cellsOf 4 = 1 := by kernel_rfl
theorem cIntH : Tryz.prog.cellsOf 3 = 1 := by kernel_rfl
theorem cStrH : Tryz.prog.cellsOf 9 = 1 := by kernel_rfl
theorem cValH : Tryz.prog.cellsOf 26 = 3 := by kernel_rfl
theorem cPai : Tryz.prog.cellsOf 99 = 6 := by kernel_rfl
theorem cPais : Tryz.prog.cellsOf 29 = 1 := by kernel_rfl
theorem cTab : Tryz.prog.cellsOf 31 = 9 := by kernel_rfl
theorem cFld : Tryz.prog.cellsOf 28 = 6 := by kernel_rfl
theorem cFlds : Tryz.prog.cellsOf 22 = 1 := by kernel_rfl
theorem cSch : Tryz.prog.cellsOf 24 = 1 := by kernel_rfl
theorem cSte : Tryz.prog.cellsOf 33 = 23 := by kernel_rfl
theorem own : ownKnob Tryz.prog.godebug = none := by kernel_rfl
theorem wf_bdH {a : Int} (h : (Lit.int .i64 a).wf = true) : -9223372036854775808 ≤ a ∧ a ≤ 9223372036854775807 := by
  simp [Lit.wf] at h
  have h1 : IntKind.i64.min = -9223372036854775808 := by decide
  have h2 : IntKind.i64.max = 9223372036854775807 := by decide
  omega
structure VaW (x : Va) : Prop where
  n : -9223372036854775808 ≤ x.n ∧ x.n ≤ 9223372036854775807
  t : x.t.size ≤ maxLen
def dataV {H : Type} (x : Va) : DataW H := .agg [.lit (.int .i64 x.k), .lit (.int .i64 x.n), .lit (.string x.t.data.toList)]
def dataPa {H : Type} (p : Pa) : DataW H := .agg [dataV p.f, dataV p.t]
def dataT {H : Type} (D : DataW H) (T : Tb) : DataW H := .agg [D, .lit (.bool T.keep), dataV T.d, dataV T.b, .lit (.bool T.tu)]
def dataF {H : Type} (x : Fd) : DataW H := .agg [.lit (.string x.p.data.toList), .lit (.int .i64 x.k), .lit (.int .i64 x.t), dataV (defV x)]
def dataS {H : Type} (D : DataW H) (x : St) : DataW H := .agg [.lit (.int .i64 x.k), .lit (.string x.p.data.toList), .lit (.string x.nm.data.toList), dataF x.f, dataV x.d, .lit (.int .i64 x.a), .lit (.int .i64 x.b), dataT D x.T]
structure FdW (x : Fd) : Prop where
  p : x.p.size ≤ maxLen
  d : VaW (defV x)
structure StW (x : St) : Prop where
  f : FdW x.f
  d : VaW x.d
  alo : -9223372036854775808 ≤ x.a
  ahi : x.a ≤ 9223372036854775807
  blo : -9223372036854775808 ≤ x.b
  bhi : x.b ≤ 9223372036854775807
  L : ∀ y ∈ x.T.L, VaW y.f ∧ VaW y.t
  td : VaW x.T.d
  tb : VaW x.T.b
instance : Inhabited Va := ⟨.zero⟩
instance : Inhabited Pa := ⟨.none⟩
section
variable {H : Type} {enc : TypeId × Value → H} {w : World} {base : Nat} {spare : Nat → Bool} {held : Bool}
theorem trod_vaH {n : Nat} {c0 c1 c2 : Value} {y : DataW H × List MemPlace} (h : DataW.trod enc Tryz.prog w base spare held n 26 [c0, c1, c2] = some y) :
    ∃ x : Va, c0 = .int .i64 x.k ∧ c1 = .int .i64 x.n ∧ c2 = .string x.t ∧ y = (dataV x, []) ∧ VaW x := by
  obtain ⟨y0, y1, y2, m, rfl, _, h0, h1, h2⟩ := Deep.trod_struct3 Tryz.underlying26 h
  simp only [cIntH, cStrH] at h0 h1 h2
  obtain ⟨a, e0, rfl, w0⟩ := DataW.trod_int Tryz.underlying3 h0
  obtain ⟨b, e1, rfl, w1⟩ := DataW.trod_int Tryz.underlying3 h1
  obtain ⟨t, e2, rfl, w2⟩ := DataW.trod_string Tryz.underlying9 h2
  simp at e0 e1 e2
  subst e0 e1 e2
  exact ⟨⟨a, b, t⟩, rfl, rfl, rfl, rfl, wf_bdH w1, w2⟩
theorem trod_paH {fuel : Nat} {l : List Value} {y : DataW H × List MemPlace} (hsz : l.length = 6) (hf : DataW.trod enc Tryz.prog w base spare held fuel 99 l = some y) :
    ∃ x : Pa, l = cellPa x ∧ y.1 = dataPa x ∧ VaW x.f ∧ VaW x.t := by
  obtain ⟨c0, c1, c2, c3, c4, c5, rfl⟩ : ∃ c0 c1 c2 c3 c4 c5, l = [c0, c1, c2, c3, c4, c5] := by
    match l, hsz with
    | [c0, c1, c2, c3, c4, c5], _ => exact ⟨c0, c1, c2, c3, c4, c5, rfl⟩
  obtain ⟨xs, n, _, hx, _, hxl, hfs⟩ := DataW.trod_struct Tryz.underlying99 hf
  obtain ⟨y0, y1, rfl⟩ : ∃ y0 y1, xs = [y0, y1] := by
    match xs, hxl with
    | [y0, y1], _ => exact ⟨y0, y1, rfl⟩
  have h0 : DataW.trod enc Tryz.prog w base spare held n 26 (List.take (Tryz.prog.cellsOf 26) [c0, c1, c2, c3, c4, c5]) = some y0 := hfs 0 _ rfl
  rw [cValH] at h0
  replace h0 : DataW.trod enc Tryz.prog w base spare held n 26 [c0, c1, c2] = some y0 := h0
  have h1 : DataW.trod enc Tryz.prog w base spare held n 26 (List.take (Tryz.prog.cellsOf 26) [c3, c4, c5]) = some y1 := hfs 1 _ rfl
  rw [cValH] at h1
  replace h1 : DataW.trod enc Tryz.prog w base spare held n 26 [c3, c4, c5] = some y1 := h1
  obtain ⟨a, rfl, rfl, rfl, rfl, wa⟩ := trod_vaH h0
  obtain ⟨b, rfl, rfl, rfl, rfl, wb⟩ := trod_vaH h1
  exact ⟨⟨a, b⟩, rfl, by rw [hx]; rfl, wa, wb⟩
theorem open_pasH {fuel : Nat} {v : Value} {x : DataW H × List MemPlace} (h : DataW.trod enc Tryz.prog w base spare held fuel 29 [v] = some x) :
    ∃ A n c L rest, v = .slice A n c ∧ Pal w A n c L ∧ (∀ y ∈ L, VaW y.f ∧ VaW y.t) ∧ (x.1 = .slice (L.map dataPa) rest ∨ L = []) := by
  rcases Deep.open_slice Tryz.underlying29 h with ⟨hcs, hx⟩ | ⟨a, len, cap, m, n, D, Pl, hcs, _, hl, hm, hmm, hx, hel⟩
  · simp at hcs
    subst hcs
    exact ⟨none, 0, 0, [], [], rfl, Pal.nil _, (fun y hy => by cases hy), .inr rfl⟩
  · simp at hcs
    subst hcs
    have hlm : len ≤ m := by rw [hmm]; split <;> omega
    rw [cPai] at hel
    obtain ⟨f, hf⟩ := Deep.choose_lt (n := len) (p := fun i (x : Pa) => (∀ j u, (cellPa x)[j]? = some u → w.cell? ((a.add (i * 6)).add j) = some u) ∧ D i = dataPa x ∧ VaW x.f ∧ VaW x.t) (fun i hi => by
      obtain ⟨cs', h1, h2⟩ := hel i (by omega)
      obtain ⟨_, hlen, hcell⟩ := World.cells?_some h1
      obtain ⟨x, rfl, hy, hw⟩ := trod_paH hlen h2
      refine ⟨x, fun j u hu => ?_, hy, hw⟩
      have hj : j < 6 := (List.getElem?_eq_some_iff.1 hu).1
      rw [hcell j hj]; exact hu)
    refine ⟨some a, len, cap, (List.range len).map f, (List.range (m - len)).map fun j => D (len + j), rfl, ⟨by simp, hl, hm, (fun h => by cases h), ?_⟩, fun y hy => ?_, .inl ?_⟩
    · rcases Nat.eq_zero_or_pos len with h0 | h0
      · exact .inl h0
      · obtain ⟨b, off, spot⟩ := a
        have hspot : spot = none := by simpa [Addr.add] using World.cell?_spot ((hf 0 h0).1 0 _ rfl)
        subst hspot
        refine .inr ⟨b, off, rfl, fun j x hj => ?_⟩
        have hj2 := (List.getElem?_eq_some_iff.1 hj).1
        rw [List.length_map, List.length_range] at hj2
        rw [List.getElem?_map, List.getElem?_range hj2] at hj
        obtain rfl := Option.some.inj hj
        refine PaO.of_flat fun i u hu => ?_
        have := (hf j hj2).1 i u hu
        rw [Addr.add_lit, Addr.add_lit] at this
        exact this
    · obtain ⟨i, hi, rfl⟩ := List.mem_map.1 hy
      exact (hf i (List.mem_range.1 hi)).2.2
    · rw [hx]
      rw [List.map_map]
      exact congrArg (fun z => DataW.slice z _) (List.map_congr_left fun i hi => (hf i (List.mem_range.1 hi)).2.1)
set_option maxRecDepth 100000 in
theorem trod_tabH {fuel : Nat} {l : List Value} {y : DataW H × List MemPlace} (hsz : l.length = 9) (hf : DataW.trod enc Tryz.prog w base spare held fuel 31 l = some y) :
    ∃ (A : Option Addr) (n c : Nat) (T : Tb), l = [.slice A n c, .bool T.keep, .int .i64 T.d.k, .int .i64 T.d.n, .string T.d.t, .int .i64 T.b.k, .int .i64 T.b.n, .string T.b.t, .bool T.tu] ∧ Pal w A n c T.L ∧ (∀ y ∈ T.L, VaW y.f ∧ VaW y.t) ∧ VaW T.d ∧ VaW T.b ∧ ∃ D rest, y.1 = dataT D T ∧ (D = .slice (T.L.map dataPa) rest ∨ T.L = []) := by
  obtain ⟨c0, c1, c2, c3, c4, c5, c6, c7, c8, rfl⟩ : ∃ c0 c1 c2 c3 c4 c5 c6 c7 c8, l = [c0, c1, c2, c3, c4, c5, c6, c7, c8] := by
    match l, hsz with
    | [c0, c1, c2, c3, c4, c5, c6, c7, c8], _ => exact ⟨c0, c1, c2, c3, c4, c5, c6, c7, c8, rfl⟩
  obtain ⟨xs, n, _, hx, _, hxl, hfs⟩ := DataW.trod_struct Tryz.underlying31 hf
  obtain ⟨y0, y1, y2, y3, y4, rfl⟩ : ∃ y0 y1 y2 y3 y4, xs = [y0, y1, y2, y3, y4] := by
    match xs, hxl with
    | [y0, y1, y2, y3, y4], _ => exact ⟨y0, y1, y2, y3, y4, rfl⟩
  have h0 : DataW.trod enc Tryz.prog w base spare held n 29 (List.take (Tryz.prog.cellsOf 29) [c0, c1, c2, c3, c4, c5, c6, c7, c8]) = some y0 := hfs 0 _ rfl
  rw [cPais] at h0
  replace h0 : DataW.trod enc Tryz.prog w base spare held n 29 [c0] = some y0 := h0
  have h1 : DataW.trod enc Tryz.prog w base spare held n 4 (List.take (Tryz.prog.cellsOf 4) [c1, c2, c3, c4, c5, c6, c7, c8]) = some y1 := hfs 1 _ rfl
  rw [cBoo] at h1
  replace h1 : DataW.trod enc Tryz.prog w base spare held n 4 [c1] = some y1 := h1
  have h2 : DataW.trod enc Tryz.prog w base spare held n 26 (List.take (Tryz.prog.cellsOf 26) [c2, c3, c4, c5, c6, c7, c8]) = some y2 := hfs 2 _ rfl
  rw [cValH] at h2
  replace h2 : DataW.trod enc Tryz.prog w base spare held n 26 [c2, c3, c4] = some y2 := h2
  have h3 : DataW.trod enc Tryz.prog w base spare held n 26 (List.take (Tryz.prog.cellsOf 26) [c5, c6, c7, c8]) = some y3 := hfs 3 _ rfl
  rw [cValH] at h3
  replace h3 : DataW.trod enc Tryz.prog w base spare held n 26 [c5, c6, c7] = some y3 := h3
  have h4 : DataW.trod enc Tryz.prog w base spare held n 4 (List.take (Tryz.prog.cellsOf 4) [c8]) = some y4 := hfs 4 _ rfl
  rw [cBoo] at h4
  replace h4 : DataW.trod enc Tryz.prog w base spare held n 4 [c8] = some y4 := h4
  obtain ⟨A, n, c, L, rest, rfl, hp, hw, hD⟩ := open_pasH h0
  obtain ⟨kp, e1, rfl⟩ := DataW.trod_bool Tryz.underlying4 h1
  obtain ⟨d, rfl, rfl, rfl, rfl, wd⟩ := trod_vaH h2
  obtain ⟨b, rfl, rfl, rfl, rfl, wb⟩ := trod_vaH h3
  obtain ⟨tu, e4, rfl⟩ := DataW.trod_bool Tryz.underlying4 h4
  simp only [List.cons.injEq, and_true] at e1 e4
  subst e1 e4
  exact ⟨A, n, c, ⟨L, kp, d, b, tu⟩, rfl, hp, hw, wd, wb, y0.1, rest, by rw [hx]; rfl, hD⟩
theorem trod_fd {fuel : Nat} {l : List Value} {y : DataW H × List MemPlace} (hsz : l.length = 6) (hf : DataW.trod enc Tryz.prog w base spare held fuel 28 l = some y) :
    ∃ x : Fd, l = cellF x ∧ y.1 = dataF x ∧ FdW x := by
  obtain ⟨c0, c1, c2, c3, c4, c5, rfl⟩ : ∃ c0 c1 c2 c3 c4 c5, l = [c0, c1, c2, c3, c4, c5] := by
    match l, hsz with
    | [c0, c1, c2, c3, c4, c5], _ => exact ⟨c0, c1, c2, c3, c4, c5, rfl⟩
  obtain ⟨xs, n, _, hx, _, hxl, hfs⟩ := DataW.trod_struct Tryz.underlying28 hf
  obtain ⟨y0, y1, y2, y3, rfl⟩ : ∃ y0 y1 y2 y3, xs = [y0, y1, y2, y3] := by
    match xs, hxl with
    | [y0, y1, y2, y3], _ => exact ⟨y0, y1, y2, y3, rfl⟩
  have h0 : DataW.trod enc Tryz.prog w base spare held n 9 (List.take (Tryz.prog.cellsOf 9) [c0, c1, c2, c3, c4, c5]) = some y0 := hfs 0 _ rfl
  rw [cStrH] at h0
  replace h0 : DataW.trod enc Tryz.prog w base spare held n 9 [c0] = some y0 := h0
  have h1 : DataW.trod enc Tryz.prog w base spare held n 3 (List.take (Tryz.prog.cellsOf 3) [c1, c2, c3, c4, c5]) = some y1 := hfs 1 _ rfl
  rw [cIntH] at h1
  replace h1 : DataW.trod enc Tryz.prog w base spare held n 3 [c1] = some y1 := h1
  have h2 : DataW.trod enc Tryz.prog w base spare held n 3 (List.take (Tryz.prog.cellsOf 3) [c2, c3, c4, c5]) = some y2 := hfs 2 _ rfl
  rw [cIntH] at h2
  replace h2 : DataW.trod enc Tryz.prog w base spare held n 3 [c2] = some y2 := h2
  have h3 : DataW.trod enc Tryz.prog w base spare held n 26 (List.take (Tryz.prog.cellsOf 26) [c3, c4, c5]) = some y3 := hfs 3 _ rfl
  rw [cValH] at h3
  replace h3 : DataW.trod enc Tryz.prog w base spare held n 26 [c3, c4, c5] = some y3 := h3
  obtain ⟨pp, e0, rfl, w0⟩ := DataW.trod_string Tryz.underlying9 h0
  obtain ⟨kk, e1, rfl, w1⟩ := DataW.trod_int Tryz.underlying3 h1
  obtain ⟨tt, e2, rfl, w2⟩ := DataW.trod_int Tryz.underlying3 h2
  obtain ⟨vv, rfl, rfl, rfl, rfl, w5⟩ := trod_vaH h3
  simp only [List.cons.injEq, and_true] at e0 e1 e2
  subst e0 e1 e2
  exact ⟨⟨pp, kk, tt, vv.k, vv.n, vv.t⟩, rfl, by rw [hx]; rfl, w0, w5⟩
theorem open_fds {fuel : Nat} {v : Value} {x : DataW H × List MemPlace} (h : DataW.trod enc Tryz.prog w base spare held fuel 22 [v] = some x) :
    ∃ A n c L, v = .slice A n c ∧ Fl w A n c L ∧ (∀ y ∈ L, FdW y) := by
  rcases Deep.open_slice Tryz.underlying22 h with ⟨hcs, hx⟩ | ⟨a, len, cap, m, n, D, Pl, hcs, _, hl, hm, hmm, hx, hel⟩
  · simp at hcs
    subst hcs
    exact ⟨none, 0, 0, [], rfl, Fl.nil _, (fun y hy => by cases hy)⟩
  · simp at hcs
    subst hcs
    have hlm : len ≤ m := by rw [hmm]; split <;> omega
    rw [cFld] at hel
    obtain ⟨f, hf⟩ := Deep.choose_lt (n := len) (p := fun i (x : Fd) => (∀ j u, (cellF x)[j]? = some u → w.cell? ((a.add (i * 6)).add j) = some u) ∧ FdW x) (fun i hi => by
      obtain ⟨cs', h1, h2⟩ := hel i (by omega)
      obtain ⟨_, hlen, hcell⟩ := World.cells?_some h1
      obtain ⟨x, rfl, _, hw⟩ := trod_fd hlen h2
      refine ⟨x, fun j u hu => ?_, hw⟩
      have hj : j < 6 := (List.getElem?_eq_some_iff.1 hu).1
      rw [hcell j hj]; exact hu)
    refine ⟨some a, len, cap, (List.range len).map f, rfl, ⟨by simp, hl, hm, (fun h => by cases h), ?_⟩, fun y hy => ?_⟩
    · rcases Nat.eq_zero_or_pos len with h0 | h0
      · exact .inl h0
      · obtain ⟨b, off, spot⟩ := a
        have hspot : spot = none := by simpa [Addr.add] using World.cell?_spot ((hf 0 h0).1 0 _ rfl)
        subst hspot
        refine .inr ⟨b, off, rfl, fun j x hj => ?_⟩
        have hj2 := (List.getElem?_eq_some_iff.1 hj).1
        rw [List.length_map, List.length_range] at hj2
        rw [List.getElem?_map, List.getElem?_range hj2] at hj
        obtain rfl := Option.some.inj hj
        refine FdO.of_flat fun i u hu => ?_
        have := (hf j hj2).1 i u hu
        rw [Addr.add_lit, Addr.add_lit] at this
        exact this
    · obtain ⟨i, hi, rfl⟩ := List.mem_map.1 hy
      exact (hf i (List.mem_range.1 hi)).2
set_option maxRecDepth 100000 in
theorem open_schemaT {r : Reach} {b0 : Nat} {v : Value} {d : DataW H} {p : List MemPlace} (hv : Value.okWide Tryz.prog w r b0 24 v) (h : DataW.Trod enc Tryz.prog w base spare held 24 v d p) :
    ∃ A n c L, v = .agg #[.slice A n c] ∧ Fl w A n c L ∧ (∀ y ∈ L, FdW y) := by
  obtain ⟨cs, rfl, hsz⟩ := okWide_struct Tryz.underlying24 hv
  rw [cSch] at hsz
  obtain ⟨l⟩ := cs
  obtain ⟨c0, rfl⟩ : ∃ c0, l = [c0] := by
    match l, hsz with
    | [c0], _ => exact ⟨c0, rfl⟩
  obtain ⟨fuel, hf⟩ := h
  obtain ⟨xs, n, _, hx, _, hxl, hfs⟩ := DataW.trod_struct Tryz.underlying24 hf
  obtain ⟨y0, rfl⟩ : ∃ y0, xs = [y0] := by
    match xs, hxl with
    | [y0], _ => exact ⟨y0, rfl⟩
  have h0 : DataW.trod enc Tryz.prog w base spare held n 22 (List.take (Tryz.prog.cellsOf 22) [c0]) = some y0 := hfs 0 _ rfl
  rw [cFlds] at h0
  replace h0 : DataW.trod enc Tryz.prog w base spare held n 22 [c0] = some y0 := h0
  obtain ⟨A, n, c, L, rfl, hel, hw⟩ := open_fds h0
  exact ⟨A, n, c, L, rfl, hel, hw⟩
instance : Inhabited Fd := ⟨.none⟩
set_option maxRecDepth 100000 in
set_option maxHeartbeats 4000000 in
theorem trod_st {fuel : Nat} {l : List Value} {y : DataW H × List MemPlace} (hsz : l.length = 23) (hf : DataW.trod enc Tryz.prog w base spare held fuel 33 l = some y) :
    ∃ (A : Option Addr) (n c : Nat) (x : St), l = cellS A n c x ∧ Pal w A n c x.T.L ∧ StW x ∧ ∃ D rest, y.1 = dataS D x ∧ (D = .slice (x.T.L.map dataPa) rest ∨ x.T.L = []) := by
  obtain ⟨c0, c1, c2, c3, c4, c5, c6, c7, c8, c9, c10, c11, c12, c13, c14, c15, c16, c17, c18, c19, c20, c21, c22, rfl⟩ : ∃ c0 c1 c2 c3 c4 c5 c6 c7 c8 c9 c10 c11 c12 c13 c14 c15 c16 c17 c18 c19 c20 c21 c22, l = [c0, c1, c2, c3, c4, c5, c6, c7, c8, c9, c10, c11, c12, c13, c14, c15, c16, c17, c18, c19, c20, c21, c22] := by
    match l, hsz with
    | [c0, c1, c2, c3, c4, c5, c6, c7, c8, c9, c10, c11, c12, c13, c14, c15, c16, c17, c18, c19, c20, c21, c22], _ => exact ⟨c0, c1, c2, c3, c4, c5, c6, c7, c8, c9, c10, c11, c12, c13, c14, c15, c16, c17, c18, c19, c20, c21, c22, rfl⟩
  obtain ⟨xs, n, _, hx, _, hxl, hfs⟩ := DataW.trod_struct Tryz.underlying33 hf
  obtain ⟨y0, y1, y2, y3, y4, y5, y6, y7, rfl⟩ : ∃ y0 y1 y2 y3 y4 y5 y6 y7, xs = [y0, y1, y2, y3, y4, y5, y6, y7] := by
    match xs, hxl with
    | [y0, y1, y2, y3, y4, y5, y6, y7], _ => exact ⟨y0, y1, y2, y3, y4, y5, y6, y7, rfl⟩
  have h0 : DataW.trod enc Tryz.prog w base spare held n 3 (List.take (Tryz.prog.cellsOf 3) [c0, c1, c2, c3, c4, c5, c6, c7, c8, c9, c10, c11, c12, c13, c14, c15, c16, c17, c18, c19, c20, c21, c22]) = some y0 := hfs 0 _ rfl
  rw [cIntH] at h0
  replace h0 : DataW.trod enc Tryz.prog w base spare held n 3 [c0] = some y0 := h0
  have h1 : DataW.trod enc Tryz.prog w base spare held n 9 (List.take (Tryz.prog.cellsOf 9) [c1, c2, c3, c4, c5, c6, c7, c8, c9, c10, c11, c12, c13, c14, c15, c16, c17, c18, c19, c20, c21, c22]) = some y1 := hfs 1 _ rfl
  rw [cStrH] at h1
  replace h1 : DataW.trod enc Tryz.prog w base spare held n 9 [c1] = some y1 := h1
  have h2 : DataW.trod enc Tryz.prog w base spare held n 9 (List.take (Tryz.prog.cellsOf 9) [c2, c3, c4, c5, c6, c7, c8, c9, c10, c11, c12, c13, c14, c15, c16, c17, c18, c19, c20, c21, c22]) = some y2 := hfs 2 _ rfl
  rw [cStrH] at h2
  replace h2 : DataW.trod enc Tryz.prog w base spare held n 9 [c2] = some y2 := h2
  have h3 : DataW.trod enc Tryz.prog w base spare held n 28 (List.take (Tryz.prog.cellsOf 28) [c3, c4, c5, c6, c7, c8, c9, c10, c11, c12, c13, c14, c15, c16, c17, c18, c19, c20, c21, c22]) = some y3 := hfs 3 _ rfl
  rw [cFld] at h3
  replace h3 : DataW.trod enc Tryz.prog w base spare held n 28 [c3, c4, c5, c6, c7, c8] = some y3 := h3
  have h4 : DataW.trod enc Tryz.prog w base spare held n 26 (List.take (Tryz.prog.cellsOf 26) [c9, c10, c11, c12, c13, c14, c15, c16, c17, c18, c19, c20, c21, c22]) = some y4 := hfs 4 _ rfl
  rw [cValH] at h4
  replace h4 : DataW.trod enc Tryz.prog w base spare held n 26 [c9, c10, c11] = some y4 := h4
  have h5 : DataW.trod enc Tryz.prog w base spare held n 3 (List.take (Tryz.prog.cellsOf 3) [c12, c13, c14, c15, c16, c17, c18, c19, c20, c21, c22]) = some y5 := hfs 5 _ rfl
  rw [cIntH] at h5
  replace h5 : DataW.trod enc Tryz.prog w base spare held n 3 [c12] = some y5 := h5
  have h6 : DataW.trod enc Tryz.prog w base spare held n 3 (List.take (Tryz.prog.cellsOf 3) [c13, c14, c15, c16, c17, c18, c19, c20, c21, c22]) = some y6 := hfs 6 _ rfl
  rw [cIntH] at h6
  replace h6 : DataW.trod enc Tryz.prog w base spare held n 3 [c13] = some y6 := h6
  have h7 : DataW.trod enc Tryz.prog w base spare held n 31 (List.take (Tryz.prog.cellsOf 31) [c14, c15, c16, c17, c18, c19, c20, c21, c22]) = some y7 := hfs 7 _ rfl
  rw [cTab] at h7
  replace h7 : DataW.trod enc Tryz.prog w base spare held n 31 [c14, c15, c16, c17, c18, c19, c20, c21, c22] = some y7 := h7
  obtain ⟨kk, e0, rfl, w0⟩ := DataW.trod_int Tryz.underlying3 h0
  obtain ⟨pp, e1, rfl, w1⟩ := DataW.trod_string Tryz.underlying9 h1
  obtain ⟨nm, e2, rfl, w2⟩ := DataW.trod_string Tryz.underlying9 h2
  obtain ⟨ff, e3, d3, w3⟩ := trod_fd rfl h3
  obtain ⟨dd, rfl, rfl, rfl, rfl, w4⟩ := trod_vaH h4
  obtain ⟨aa, e5, rfl, w5⟩ := DataW.trod_int Tryz.underlying3 h5
  obtain ⟨bb, e6, rfl, w6⟩ := DataW.trod_int Tryz.underlying3 h6
  obtain ⟨A, m, c, T, e7, hp, hw, wd, wb, D, rest, d7, hD⟩ := trod_tabH rfl h7
  simp only [cellF, List.cons.injEq, and_true] at e0 e1 e2 e3 e5 e6 e7
  obtain ⟨rfl, rfl, rfl, rfl, rfl, rfl⟩ := e3
  obtain ⟨rfl, rfl, rfl, rfl, rfl, rfl, rfl, rfl, rfl⟩ := e7
  subst e0 e1 e2 e5 e6
  exact ⟨A, m, c, ⟨kk, pp, nm, ff, dd, aa, bb, T⟩, rfl, hp, ⟨w3, w4, (wf_bdH w5).1, (wf_bdH w5).2, (wf_bdH w6).1, (wf_bdH w6).2, hw, wd, wb⟩, D, rest, by rw [hx]; show DataW.agg [_, _, _, y3.1, _, _, _, y7.1] = _; rw [d3, d7]; rfl, hD⟩
set_option maxRecDepth 100000 in
theorem open_stT {r : Reach} {b0 : Nat} {v : Value} {d : DataW H} {p : List MemPlace} (hv : Value.okWide Tryz.prog w r b0 33 v) (h : DataW.Trod enc Tryz.prog w base spare held 33 v d p) :
    ∃ (A : Option Addr) (n c : Nat) (x : St) (D : DataW H) (rest : List (DataW H)), v = .agg (cellS A n c x).toArray ∧ Pal w A n c x.T.L ∧ StW x ∧ d = dataS D x ∧ (D = .slice (x.T.L.map dataPa) rest ∨ x.T.L = []) := by
  obtain ⟨cs, rfl, hsz⟩ := okWide_struct Tryz.underlying33 hv
  rw [cSte] at hsz
  obtain ⟨l⟩ := cs
  obtain ⟨fuel, hf⟩ := h
  obtain ⟨A, n, c, x, rfl, hp, hw, D, rest, hd, hD⟩ := trod_st (y := (d, p)) hsz hf
  exact ⟨A, n, c, x, D, rest, rfl, hp, hw, hd, hD⟩
theorem weightsAll_mem {e : TypeId} {n : Nat} : ∀ {l : List (DataW H)} {d : DataW H}, d ∈ l → n ∈ d.weights Tryz.prog e → n ∈ DataW.weightsAll Tryz.prog e l
  | x :: l, d, hd, hn => by
    simp only [DataW.weightsAll, List.mem_append]
    rcases List.mem_cons.1 hd with rfl | hd
    · exact .inl hn
    · exact .inr (weightsAll_mem hd hn)
theorem wV (x : Va) : x.t.data.toList.length ∈ (dataV (H := H) x).weights Tryz.prog 26 := by simp [DataW.weights, DataW.weightsEach, dataV, Tryz.underlying26]
theorem reach_of {n : Nat} (h : n ≤ reachBytes) : n ≤ 140737488355328 := by
  have e : reachBytes = 140737488351232 := by decide
  omega
theorem hold_tab {T : Tb} {D : DataW H} {rest : List (DataW H)} (key : ∀ n, n ∈ (dataT D T).weights Tryz.prog 31 → n ≤ 140737488355328) (hD : D = .slice (T.L.map dataPa) rest ∨ T.L = []) : HoldT T := by
  have split : ∀ n, n ∈ D.weights Tryz.prog 29 ∨ n ∈ (dataV (H := H) T.d).weights Tryz.prog 26 ∨ n ∈ (dataV (H := H) T.b).weights Tryz.prog 26 → n ∈ (dataT D T).weights Tryz.prog 31 := fun n hn => by
    unfold dataT
    simp only [DataW.weights, Tryz.underlying31, List.map_cons, List.map_nil, DataW.weightsEach, List.mem_append]
    rcases hn with hn | hn | hn
    · exact .inl hn
    · exact .inr (.inr (.inl hn))
    · exact .inr (.inr (.inr (.inl hn)))
  refine ⟨fun p hp => ?_, by have := key _ (split _ (.inr (.inl (wV T.d)))); simpa using this, by have := key _ (split _ (.inr (.inr (wV T.b)))); simpa using this⟩
  rcases hD with rfl | hD
  · have hw : ∀ n, n ∈ (dataPa (H := H) p).weights Tryz.prog 99 → n ∈ (DataW.slice (T.L.map dataPa) rest).weights Tryz.prog 29 := fun n hn => by
      simp only [DataW.weights, Tryz.underlying29, List.mem_cons, List.mem_append]
      exact .inr (.inl (weightsAll_mem (List.mem_map.2 ⟨p, hp, rfl⟩) hn))
    have hf : p.f.t.data.toList.length ∈ (dataPa (H := H) p).weights Tryz.prog 99 := by
      unfold dataPa
      simp only [DataW.weights, Tryz.underlying99, List.map_cons, List.map_nil, DataW.weightsEach, List.mem_append]
      exact .inl (wV p.f)
    have hg : p.t.t.data.toList.length ∈ (dataPa (H := H) p).weights Tryz.prog 99 := by
      unfold dataPa
      simp only [DataW.weights, Tryz.underlying99, List.map_cons, List.map_nil, DataW.weightsEach, List.mem_append]
      exact .inr (.inl (wV p.t))
    exact ⟨by have := key _ (split _ (.inl (hw _ hf))); simpa using this, by have := key _ (split _ (.inl (hw _ hg))); simpa using this⟩
  · rw [hD] at hp; cases hp
theorem sized_st {ts : List TypeId} {ds : List (DataW H)} (h : (DataW.weightsEach Tryz.prog ts ds).all (· ≤ reachBytes) = true) {j : Nat} {x : St} {D : DataW H} {rest : List (DataW H)} (ht : ts[j]? = some 33) (hd : ds[j]? = some (dataS D x)) (hD : D = .slice (x.T.L.map dataPa) rest ∨ x.T.L = []) : HoldS x := by
  have key : ∀ n, n ∈ (dataS D x).weights Tryz.prog 33 → n ≤ 140737488355328 := fun n hn => by
    have := List.all_eq_true.1 h _ (DataW.weights_mem_each ht hd _ hn)
    exact reach_of (by simpa using this)
  have split : ∀ n, n = x.p.data.toList.length ∨ n = x.nm.data.toList.length ∨ n ∈ (dataF (H := H) x.f).weights Tryz.prog 28 ∨ n ∈ (dataV (H := H) x.d).weights Tryz.prog 26 ∨ n ∈ (dataT D x.T).weights Tryz.prog 31 → n ∈ (dataS D x).weights Tryz.prog 33 := fun n hn => by
    unfold dataS
    rw [DataW.weights, Tryz.underlying33]
    simp only [List.map_cons, List.map_nil, DataW.weightsEach, List.mem_append]
    rcases hn with rfl | rfl | hn | hn | hn
    · exact .inr (.inl (by simp [DataW.weights]))
    · exact .inr (.inr (.inl (by simp [DataW.weights])))
    · exact .inr (.inr (.inr (.inl hn)))
    · exact .inr (.inr (.inr (.inr (.inl hn))))
    · exact .inr (.inr (.inr (.inr (.inr (.inr (.inr (.inl hn)))))))
  have fsp : ∀ n, n = x.f.p.data.toList.length ∨ n ∈ (dataV (H := H) (defV x.f)).weights Tryz.prog 26 → n ∈ (dataF (H := H) x.f).weights Tryz.prog 28 := fun n hn => by
    unfold dataF
    rw [DataW.weights, Tryz.underlying28]
    simp only [List.map_cons, List.map_nil, DataW.weightsEach, List.mem_append]
    rcases hn with rfl | hn
    · exact .inl (by simp [DataW.weights])
    · exact .inr (.inr (.inr (.inl hn)))
  exact ⟨by have := key _ (split _ (.inl rfl)); simpa using this, by have := key _ (split _ (.inr (.inl rfl))); simpa using this,
    by have := key _ (split _ (.inr (.inr (.inl (fsp _ (.inl rfl)))))); simpa using this,
    by have := key _ (split _ (.inr (.inr (.inl (fsp _ (.inr (wV (defV x.f)))))))); simpa [defV] using this,
    by have := key _ (split _ (.inr (.inr (.inr (.inl (wV x.d)))))); simpa using this,
    hold_tab (fun n hn => key n (split n (.inr (.inr (.inr (.inr hn)))))) hD⟩
end
end Go.Proofs.YtofnpifooaijcaaGreat
namespace Go.Proofs.YtofnpifooaijcaaGreat.L4
open Go.RowKit
theorem sl_at {w : World} {b c : Nat} {p : ByteArray} (h : Sl w ⟨b, 0, none⟩ (splS p).length c (splS p)) {k : Nat} (hk : k < (splS p).length) : w.cell? ⟨b, k, none⟩ = some (.string (sg p k)) := by
  have := h.get hk
  rwa [Nat.zero_add] at this
theorem star_yes {s : ByteArray} (h : s.data.toList = [42]) : s = ⟨#[42]⟩ := ba_ext h
theorem star_not {s : ByteArray} (h : ¬ s.data.toList = [42]) : (s.toList == [42]) = false ∧ (s.toList != [42]) = true := by
  rw [Lib.toList_data]; exact ⟨beq_eq_false_iff_ne.2 h, bne_iff_ne.2 h⟩
set_option maxRecDepth 100000 in
set_option maxHeartbeats 2000000 in
theorem pat_any (p : ByteArray) (w : World) (hp : p.size ≤ 1099511627776) :
    Calls Tryz.prog 126 #[.string p] w fun e w' => e = .returned (.bool (patS p)) ∧ Ke w w' := by
  have hn1 := splS_le p
  have hn0 := splS_pos p
  go_enter Tryz.func126, Tryz.ntmps126
  go_wp2_with (go_at_call 51; ((with_reducible refine (split_any p _ hp).mono ?_); rintro e w1 ⟨b, c, rfl, hs, hbb, hk⟩))
  have hcm := hs.2.1
  have hcx := hs.2.2.1
  simp only [maxLen] at hcx
  have HS := Lib.hid hs
  have HK := Lib.hid hk
  clear hs hk
  go_loopw [10] (fun i wr => ∃ k : Nat, k ≤ (splS p).length ∧ i = .int .i64 k ∧ Ke w1 wr ∧ ∀ j, j < k → patK p j = true) (fun i _ => (splS p).length - (intOf i).toNat)
  case atStart => exact ⟨0, Nat.zero_le _, rfl, Ke.refl _, fun j hj => absurd hj (by omega)⟩
  case round =>
    obtain ⟨k, hkl, rfl, hkr, hall⟩ := hrel
    have HA := Lib.hid hall
    have HR := Lib.hid hkr
    clear hall hkr
    by_cases hlt : k < (splS p).length
    · have g := sl_at (HS.out.ke HR.out) hlt
      have hsz := sg_size p k
      cases hsg : segS (sg p k) with
      | true =>
          have HG := Lib.hid hsg
          have HP := Lib.hid (patK_seg p k hsg)
          clear hsg
          go_wp2_with (go_at_call 130; ((with_reducible refine (seg_c _ true HG.out (by omega) _).mono ?_); rintro e w2 ⟨rfl, hk2⟩))
          go_roundw
          case rel =>
            refine ⟨k + 1, hlt, by go_num, HR.out.trans hk2, fun j hj => ?_⟩
            rcases Nat.lt_or_ge j k with h3 | h3
            · exact HA.out j h3
            · obtain rfl : j = k := by omega
              exact HP.out
          case measure => simp [intOf]; omega
      | false =>
        by_cases hk0 : k = 0
        · have HG := Lib.hid hsg
          have HP := Lib.hid (show patK p k = false by subst hk0; exact patK_zero p hsg)
          have k0 : ((k : Int) == 0) = true := beq_iff_eq.2 (by omega)
          clear hsg hk0
          go_wp2_with (go_at_call 130; ((with_reducible refine (seg_c _ false HG.out (by omega) _).mono ?_); rintro e w2 ⟨rfl, hk2⟩))
          go_ret
          exact ⟨ret_bool (pat_no p k hlt HP.out).symm, HK.out.trans (HR.out.trans hk2)⟩
        · have k0 : ((k : Int) == 0) = false := beq_eq_false_iff_ne.2 (by omega)
          by_cases hst : (sg p k).data.toList = [42]
          · have HG := Lib.hid hsg
            have HP := Lib.hid (patK_star p k hk0 hst)
            rw [star_yes hst] at g
            rw [star_yes hst] at HG
            clear hsg hst hk0
            go_wp2_with (go_at_call 130; ((with_reducible refine (seg_c _ false HG.out (by decide) _).mono ?_); rintro e w2 ⟨rfl, hk2⟩))
            go_roundw
            case rel =>
              refine ⟨k + 1, hlt, by go_num, HR.out.trans hk2, fun j hj => ?_⟩
              rcases Nat.lt_or_ge j k with h3 | h3
              · exact HA.out j h3
              · obtain rfl : j = k := by omega
                exact HP.out
            case measure => simp [intOf]; omega
          · have HG := Lib.hid hsg
            have HP := Lib.hid (patK_not p k hsg hst)
            obtain ⟨s1, s2⟩ := star_not hst
            clear hsg hst hk0
            go_wp2_with (go_at_call 130; ((with_reducible refine (seg_c _ false HG.out (by omega) _).mono ?_); rintro e w2 ⟨rfl, hk2⟩))
            go_ret
            exact ⟨ret_bool (pat_no p k hlt HP.out).symm, HK.out.trans (HR.out.trans hk2)⟩
    · have HY := Lib.hid (pat_yes p (fun i hi => HA.out i (by omega)))
      go_wp2
      go_ret
      exact ⟨ret_bool (by rw [HY.out, decide_eq_decide]; omega), HK.out.trans HR.out⟩
theorem str_not {x y : ByteArray} (h : ¬ x.data.toList = y.data.toList) : (x.toList == y.toList) = false ∧ (x.toList != y.toList) = true ∧ (y.toList == x.toList) = false ∧ (y.toList != x.toList) = true := by
  rw [Lib.toList_data, Lib.toList_data]
  exact ⟨beq_eq_false_iff_ne.2 h, bne_iff_ne.2 h, beq_eq_false_iff_ne.2 (fun e => h e.symm), bne_iff_ne.2 (fun e => h e.symm)⟩
theorem star_not2 {s : ByteArray} (h : ¬ s.data.toList = [42]) : ([42] == s.toList) = false ∧ ([42] != s.toList) = true := by
  rw [Lib.toList_data]; exact ⟨beq_eq_false_iff_ne.2 (fun e => h e.symm), bne_iff_ne.2 (fun e => h e.symm)⟩
set_option maxRecDepth 100000 in
set_option maxHeartbeats 4000000 in
theorem beg_any (p q : ByteArray) (w : World) (hp : p.size ≤ 1099511627776) (hq : q.size ≤ 1099511627776) :
    Calls Tryz.prog 129 #[.string p, .string q] w fun e w' => e = .returned (.bool (begS p q)) ∧ Ke w w' := by
  have hn1 := splS_le p
  have hn2 := splS_le q
  go_enter Tryz.func129, Tryz.ntmps129
  go_wp2_with fail
  go_at_call 51
  refine (split_any p _ hp).mono ?_
  rintro e w1 ⟨b1, c1, rfl, hs1, hbb1, hk1⟩
  have hcm1 := hs1.2.1
  have hcx1 := hs1.2.2.1
  simp only [maxLen] at hcx1
  have HS1 := Lib.hid hs1
  have HK1 := Lib.hid hk1
  clear hs1 hk1 hbb1
  go_wp2_with fail
  go_at_call 51
  refine (split_any q _ hq).mono ?_
  rintro e w2 ⟨b2, c2, rfl, hs2, hbb2, hk2⟩
  have hcm2 := hs2.2.1
  have hcx2 := hs2.2.2.1
  simp only [maxLen] at hcx2
  have HS2 := Lib.hid hs2
  have HS3 := Lib.hid (HS1.out.ke hk2)
  have HK := Lib.hid (HK1.out.trans hk2)
  clear hs2 hk2 hbb2 HS1 HK1
  by_cases hsh : (splS p).length < (splS q).length
  · have d1 : decide ((splS p).length < (splS q).length) = true := decide_eq_true hsh
    go_wp2
    go_ret
    exact ⟨ret_bool (beg_short p q hsh).symm, HK.out⟩
  have d1 : decide ((splS p).length < (splS q).length) = false := decide_eq_false hsh
  go_wp2
  go_loop [20] (fun i => ∃ k : Nat, k ≤ (splS q).length ∧ i = .int .i64 k ∧ ∀ j, j < k → (sg q j).data.toList = [42] ∨ (sg q j).data.toList = (sg p j).data.toList) (fun i => (splS q).length - (intOf i).toNat)
  case atStart => exact ⟨0, Nat.zero_le _, rfl, fun j hj => absurd hj (by omega)⟩
  case round =>
    obtain ⟨k, hkl, rfl, hall⟩ := hrel
    have HA := Lib.hid hall
    clear hall
    by_cases hlt : k < (splS q).length
    · have g1 := sl_at HS3.out (k := k) (by omega)
      have g2 := sl_at HS2.out hlt
      have kp : k < (splS p).length := by omega
      have kp2 : (k : Int) < (splS p).length := by omega
      have kq2 : (k : Int) < (splS q).length := by omega
      have k0 : (0 : Int) ≤ k := by omega
      have HN := Lib.hid (fun (h : (sg q k).data.toList = [42] ∨ (sg q k).data.toList = (sg p k).data.toList) (j : Nat) (hj : j < k + 1) => show (sg q j).data.toList = [42] ∨ (sg q j).data.toList = (sg p j).data.toList by
        rcases Nat.lt_or_ge j k with h3 | h3
        · exact HA.out j h3
        · obtain rfl : j = k := by omega
          exact h)
      by_cases hst : (sg q k).data.toList = [42]
      · have HM := Lib.hid (HN.out (.inl hst))
        by_cases hxs : (sg p k).data.toList = [42]
        · rw [star_yes hst] at g2
          rw [star_yes hxs] at g1
          clear hst hxs
          go_wp2
          go_round
          case rel => exact ⟨k + 1, hlt, by go_num, HM.out⟩
          case measure => simp [intOf]; omega
        · rw [star_yes hst] at g2
          obtain ⟨s1, s2⟩ := star_not hxs
          obtain ⟨s3, s4⟩ := star_not2 hxs
          clear hst hxs
          go_wp2
          go_round
          case rel => exact ⟨k + 1, hlt, by go_num, HM.out⟩
          case measure => simp [intOf]; omega
      · obtain ⟨s1, s2⟩ := star_not hst
        by_cases hxy : (sg q k).data.toList = (sg p k).data.toList
        · have HM := Lib.hid (HN.out (.inr hxy))
          rw [← ba_ext hxy] at g1
          clear hst hxy
          go_wp2
          go_round
          case rel => exact ⟨k + 1, hlt, by go_num, HM.out⟩
          case measure => simp [intOf]; omega
        · have HM := Lib.hid (beg_no p q k kp hlt hst hxy)
          obtain ⟨t1, t2, t3, t4⟩ := str_not hxy
          clear hst hxy
          go_wp2
          go_ret
          exact ⟨ret_bool HM.out.symm, HK.out⟩
    · have HY := Lib.hid (beg_yes p q (by omega) (fun j hj => HA.out j (by omega)))
      go_wp2
      go_ret
      exact ⟨ret_bool HY.out.symm, HK.out⟩
set_option maxRecDepth 100000 in
set_option maxHeartbeats 2000000 in
theorem mat_any (p q : ByteArray) (w : World) (hp : p.size ≤ 1099511627776) (hq : q.size ≤ 1099511627776) :
    Calls Tryz.prog 82 #[.string p, .string q] w fun e w' => e = .returned (.bool (matS p q)) ∧ Ke w w' := by
  have HM := Lib.hid (mat_def p q)
  generalize hn : p.data.toList.count 47 = n at HM
  generalize hm : q.data.toList.count 47 = m at HM
  have HN := Lib.hid hn
  have HQ := Lib.hid hm
  clear hn hm
  by_cases he : n = m
  · have d1 : ((n : Int) == (m : Int)) = true := beq_iff_eq.2 (by omega)
    have d2 : (n == m) = true := beq_iff_eq.2 he
    have HR := Lib.hid (show matS p q = begS p q by rw [HM.out, d2, Bool.true_and])
    have HE := Lib.hid he
    clear he
    go_enter Tryz.func82, Tryz.ntmps82
    go_wp2_with fail
    go_at_call 113
    refine (strokes_any p _).mono ?_
    rintro e w1 ⟨rfl, rfl⟩
    rw [HN.out]
    go_wp2_with fail
    go_at_call 113
    refine (strokes_any q _).mono ?_
    rintro e w1 ⟨rfl, rfl⟩
    rw [HQ.out]
    go_wp2_with (go_at_call 129; ((with_reducible refine (beg_any p q _ hp hq).mono ?_); rintro e w1 ⟨rfl, hk⟩))
    go_ret
    exact ⟨ret_bool HR.out.symm, by assumption⟩
  · have d1 : ((n : Int) == (m : Int)) = false := beq_eq_false_iff_ne.2 (by omega)
    have d2 : (n == m) = false := beq_eq_false_iff_ne.2 he
    have HR := Lib.hid (show matS p q = false by rw [HM.out, d2, Bool.false_and])
    go_enter Tryz.func82, Tryz.ntmps82
    go_wp2_with fail
    go_at_call 113
    refine (strokes_any p _).mono ?_
    rintro e w1 ⟨rfl, rfl⟩
    rw [HN.out]
    go_wp2_with fail
    go_at_call 113
    refine (strokes_any q _).mono ?_
    rintro e w1 ⟨rfl, rfl⟩
    rw [HQ.out]
    go_wp2_with fail
    go_ret
    exact ⟨ret_bool HR.out.symm, Ke.refl _⟩
end Go.Proofs.YtofnpifooaijcaaGreat.L4
