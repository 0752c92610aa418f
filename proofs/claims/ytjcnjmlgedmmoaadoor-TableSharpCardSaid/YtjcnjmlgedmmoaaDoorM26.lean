/-
  What is proved: a table, a case and a value among the arguments, opened: what they hold; what is read of the arguments reads on, in a world with new blocks at most.
  words for memory that layer 13's last law uses: a slice of values that lies in memory ('Vll'), append of such onto a row of the call's own.
  plain facts on the values that TableSharp of layer 13 goes through, and words for them in memory.
-/
import Derived.Test.YtjcnjmlgedmmoaaDoorM12
import Derived.Test.YtjcnjmlgedmmoaaDoorM24
import Derived.Test.YtjcnjmlgedmmoaaDoorHSays
import Derived.ProofKit
import Derived.LaidMore
import Derived.OpenShut
import Derived.ChangeMaps5
import Derived.Stop.Joined
import Derived.Lib.SmallJoins
import Derived.Lib.LaidTab
import Derived.SizedLaws
import Derived.MakeChecks
import Derived.Carry
import Derived.WideKeyArgs
import Derived.Deep.Strs
import Derived.Deep.Frames
import Derived.Deep.SlicePairs
import Derived.Test.YtjcnjmlgedmmoaaDoorM5
import Derived.Test.YtjcnjmlgedmmoaaDoorM9
import Derived.Test.YtjcnjmlgedmmoaaDoorM6
import Derived.Test.YtjcnjmlgedmmoaaDoorM2
namespace Go.Proofs.YtjcnjmlgedmmoaaDoor
open Go.ChangeShapes Go.WideShapes Go.ChangeAt Go.RowKit Go.Joins
set_option linter.unusedVariables false

theorem cBoo : Tryd.prog.cellsOf 4 = 1 := by kernel_rfl
theorem cIntH : Tryd.prog.cellsOf 3 = 1 := by kernel_rfl
theorem cStrH : Tryd.prog.cellsOf 9 = 1 := by kernel_rfl
theorem cValH : Tryd.prog.cellsOf 24 = 3 := by kernel_rfl
theorem cPai : Tryd.prog.cellsOf 44 = 6 := by kernel_rfl
theorem cPais : Tryd.prog.cellsOf 22 = 1 := by kernel_rfl
theorem cTab : Tryd.prog.cellsOf 26 = 9 := by kernel_rfl
theorem cCas : Tryd.prog.cellsOf 28 = 5 := by kernel_rfl
theorem laidOutH : laidOutB Tryd.prog = true := by kernel_rfl
theorem own : ownKnob Tryd.prog.godebug = none := by kernel_rfl
theorem wf_bdH {a : Int} (h : (Lit.int .i64 a).wf = true) : -9223372036854775808 ≤ a ∧ a ≤ 9223372036854775807 := by
  simp [Lit.wf] at h
  have h1 : IntKind.i64.min = -9223372036854775808 := by decide
  have h2 : IntKind.i64.max = 9223372036854775807 := by decide
  omega
/-- The numbers of a value fit, its text can be held. -/
structure VaW (x : Va) : Prop where
  n : InV x
  t : x.t.size ≤ maxLen
def dataV {H : Type} (x : Va) : DataW H := .agg [.lit (.int .i64 x.k), .lit (.int .i64 x.n), .lit (.string x.t.data.toList)]
def dataPa {H : Type} (p : Pa) : DataW H := .agg [dataV p.f, dataV p.t]
def dataT {H : Type} (D : DataW H) (T : Tb) : DataW H := .agg [D, .lit (.bool T.keep), dataV T.d, dataV T.b, .lit (.bool T.tu)]
def dataC {H : Type} (v : Va) (a b : Int) : DataW H := .agg [dataV v, .lit (.int .i64 a), .lit (.int .i64 b)]
instance : Inhabited Va := ⟨.zero⟩
instance : Inhabited Pa := ⟨.none⟩
section
variable {H : Type} {enc : TypeId × Value → H} {w : World} {base : Nat} {spare : Nat → Bool} {held : Bool}
theorem trod_vaH {n : Nat} {c0 c1 c2 : Value} {y : DataW H × List MemPlace} (h : DataW.trod enc Tryd.prog w base spare held n 24 [c0, c1, c2] = some y) :
    ∃ x : Va, c0 = .int .i64 x.k ∧ c1 = .int .i64 x.n ∧ c2 = .string x.t ∧ y = (dataV x, []) ∧ VaW x := by
  obtain ⟨y0, y1, y2, m, rfl, _, h0, h1, h2⟩ := Deep.trod_struct3 Tryd.underlying24 h
  simp only [cIntH, cStrH] at h0 h1 h2
  obtain ⟨a, e0, rfl, w0⟩ := DataW.trod_int Tryd.underlying3 h0
  obtain ⟨b, e1, rfl, w1⟩ := DataW.trod_int Tryd.underlying3 h1
  obtain ⟨t, e2, rfl, w2⟩ := DataW.trod_string Tryd.underlying9 h2
  simp at e0 e1 e2
  subst e0 e1 e2
  exact ⟨⟨a, b, t⟩, rfl, rfl, rfl, rfl, wf_bdH w1, w2⟩
theorem trod_paH {fuel : Nat} {l : List Value} {y : DataW H × List MemPlace} (hsz : l.length = 6) (hf : DataW.trod enc Tryd.prog w base spare held fuel 44 l = some y) :
    ∃ x : Pa, l = cellPa x ∧ y.1 = dataPa x ∧ VaW x.f ∧ VaW x.t := by
  obtain ⟨c0, c1, c2, c3, c4, c5, rfl⟩ : ∃ c0 c1 c2 c3 c4 c5, l = [c0, c1, c2, c3, c4, c5] := by
    match l, hsz with
    | [c0, c1, c2, c3, c4, c5], _ => exact ⟨c0, c1, c2, c3, c4, c5, rfl⟩
  obtain ⟨xs, n, _, hx, _, hxl, hfs⟩ := DataW.trod_struct Tryd.underlying44 hf
  obtain ⟨y0, y1, rfl⟩ : ∃ y0 y1, xs = [y0, y1] := by
    match xs, hxl with
    | [y0, y1], _ => exact ⟨y0, y1, rfl⟩
  have h0 : DataW.trod enc Tryd.prog w base spare held n 24 (List.take (Tryd.prog.cellsOf 24) [c0, c1, c2, c3, c4, c5]) = some y0 := hfs 0 _ rfl
  rw [cValH] at h0
  replace h0 : DataW.trod enc Tryd.prog w base spare held n 24 [c0, c1, c2] = some y0 := h0
  have h1 : DataW.trod enc Tryd.prog w base spare held n 24 (List.take (Tryd.prog.cellsOf 24) [c3, c4, c5]) = some y1 := hfs 1 _ rfl
  rw [cValH] at h1
  replace h1 : DataW.trod enc Tryd.prog w base spare held n 24 [c3, c4, c5] = some y1 := h1
  obtain ⟨a, rfl, rfl, rfl, rfl, wa⟩ := trod_vaH h0
  obtain ⟨b, rfl, rfl, rfl, rfl, wb⟩ := trod_vaH h1
  exact ⟨⟨a, b⟩, rfl, by rw [hx]; rfl, wa, wb⟩
theorem open_pasH {fuel : Nat} {v : Value} {x : DataW H × List MemPlace} (h : DataW.trod enc Tryd.prog w base spare held fuel 22 [v] = some x) :
    ∃ A n c L rest, v = .slice A n c ∧ Pal w A n c L ∧ (∀ y ∈ L, VaW y.f ∧ VaW y.t) ∧ (x.1 = .slice (L.map dataPa) rest ∨ L = []) := by
  rcases Deep.open_slice Tryd.underlying22 h with ⟨hcs, hx⟩ | ⟨a, len, cap, m, n, D, Pl, hcs, _, hl, hm, hmm, hx, hel⟩
  · simp at hcs
    subst hcs
    exact ⟨none, 0, 0, [], [], rfl, Pal.nil _, (fun y hy => by cases hy), .inr rfl⟩
  · simp at hcs
    subst hcs
    have hlm : len ≤ m := by rw [hmm]; split <;> omega
    rw [cPai] at hel
    obtain ⟨f, hf⟩ := Deep.choose_lt (n := len) (p := fun i (x : Pa) => (∀ j u, (cellPa x)[j]? = some u → w.cell? ((a.add (i * 6)).add j) = some u) ∧ D i = dataPa x ∧ VaW x.f ∧ VaW x.t) (fun i hi => by
      obtain ⟨cs', h1, h2⟩ := hel i (by omega)
      obtain ⟨_, hlen, hcell⟩ := World.cells?_some h1
      obtain ⟨x, rfl, hy, hw⟩ := trod_paH hlen h2
      refine ⟨x, fun j u hu => ?_, hy, hw⟩
      have hj : j < 6 := (List.getElem?_eq_some_iff.1 hu).1
      rw [hcell j hj]; exact hu)
    refine ⟨some a, len, cap, (List.range len).map f, (List.range (m - len)).map fun j => D (len + j), rfl, ⟨by simp, hl, hm, (fun h => by cases h), ?_⟩, fun y hy => ?_, .inl ?_⟩
    · rcases Nat.eq_zero_or_pos len with h0 | h0
      · exact .inl h0
      · obtain ⟨b, off, spot⟩ := a
        have hspot : spot = none := by simpa [Addr.add] using World.cell?_spot ((hf 0 h0).1 0 _ rfl)
        subst hspot
        refine .inr ⟨b, off, rfl, fun j x hj => ?_⟩
        have hj2 := (List.getElem?_eq_some_iff.1 hj).1
        rw [List.length_map, List.length_range] at hj2
        rw [List.getElem?_map, List.getElem?_range hj2] at hj
        obtain rfl := Option.some.inj hj
        refine PaO.of_flat fun i u hu => ?_
        have := (hf j hj2).1 i u hu
        rw [Addr.add_lit, Addr.add_lit] at this
        exact this
    · obtain ⟨i, hi, rfl⟩ := List.mem_map.1 hy
      exact (hf i (List.mem_range.1 hi)).2.2
    · rw [hx]
      rw [List.map_map]
      exact congrArg (fun z => DataW.slice z _) (List.map_congr_left fun i hi => (hf i (List.mem_range.1 hi)).2.1)
set_option maxRecDepth 100000 in
theorem trod_tabH {fuel : Nat} {l : List Value} {y : DataW H × List MemPlace} (hsz : l.length = 9) (hf : DataW.trod enc Tryd.prog w base spare held fuel 26 l = some y) :
    ∃ (A : Option Addr) (n c : Nat) (T : Tb), l = [.slice A n c, .bool T.keep, .int .i64 T.d.k, .int .i64 T.d.n, .string T.d.t, .int .i64 T.b.k, .int .i64 T.b.n, .string T.b.t, .bool T.tu] ∧ Pal w A n c T.L ∧ (∀ y ∈ T.L, VaW y.f ∧ VaW y.t) ∧ VaW T.d ∧ VaW T.b ∧ ∃ D rest, y.1 = dataT D T ∧ (D = .slice (T.L.map dataPa) rest ∨ T.L = []) := by
  obtain ⟨c0, c1, c2, c3, c4, c5, c6, c7, c8, rfl⟩ : ∃ c0 c1 c2 c3 c4 c5 c6 c7 c8, l = [c0, c1, c2, c3, c4, c5, c6, c7, c8] := by
    match l, hsz with
    | [c0, c1, c2, c3, c4, c5, c6, c7, c8], _ => exact ⟨c0, c1, c2, c3, c4, c5, c6, c7, c8, rfl⟩
  obtain ⟨xs, n, _, hx, _, hxl, hfs⟩ := DataW.trod_struct Tryd.underlying26 hf
  obtain ⟨y0, y1, y2, y3, y4, rfl⟩ : ∃ y0 y1 y2 y3 y4, xs = [y0, y1, y2, y3, y4] := by
    match xs, hxl with
    | [y0, y1, y2, y3, y4], _ => exact ⟨y0, y1, y2, y3, y4, rfl⟩
  have h0 : DataW.trod enc Tryd.prog w base spare held n 22 (List.take (Tryd.prog.cellsOf 22) [c0, c1, c2, c3, c4, c5, c6, c7, c8]) = some y0 := hfs 0 _ rfl
  rw [cPais] at h0
  replace h0 : DataW.trod enc Tryd.prog w base spare held n 22 [c0] = some y0 := h0
  have h1 : DataW.trod enc Tryd.prog w base spare held n 4 (List.take (Tryd.prog.cellsOf 4) [c1, c2, c3, c4, c5, c6, c7, c8]) = some y1 := hfs 1 _ rfl
  rw [cBoo] at h1
  replace h1 : DataW.trod enc Tryd.prog w base spare held n 4 [c1] = some y1 := h1
  have h2 : DataW.trod enc Tryd.prog w base spare held n 24 (List.take (Tryd.prog.cellsOf 24) [c2, c3, c4, c5, c6, c7, c8]) = some y2 := hfs 2 _ rfl
  rw [cValH] at h2
  replace h2 : DataW.trod enc Tryd.prog w base spare held n 24 [c2, c3, c4] = some y2 := h2
  have h3 : DataW.trod enc Tryd.prog w base spare held n 24 (List.take (Tryd.prog.cellsOf 24) [c5, c6, c7, c8]) = some y3 := hfs 3 _ rfl
  rw [cValH] at h3
  replace h3 : DataW.trod enc Tryd.prog w base spare held n 24 [c5, c6, c7] = some y3 := h3
  have h4 : DataW.trod enc Tryd.prog w base spare held n 4 (List.take (Tryd.prog.cellsOf 4) [c8]) = some y4 := hfs 4 _ rfl
  rw [cBoo] at h4
  replace h4 : DataW.trod enc Tryd.prog w base spare held n 4 [c8] = some y4 := h4
  obtain ⟨A, n, c, L, rest, rfl, hp, hw, hD⟩ := open_pasH h0
  obtain ⟨kp, e1, rfl⟩ := DataW.trod_bool Tryd.underlying4 h1
  obtain ⟨d, rfl, rfl, rfl, rfl, wd⟩ := trod_vaH h2
  obtain ⟨b, rfl, rfl, rfl, rfl, wb⟩ := trod_vaH h3
  obtain ⟨tu, e4, rfl⟩ := DataW.trod_bool Tryd.underlying4 h4
  simp only [List.cons.injEq, and_true] at e1 e4
  subst e1 e4
  exact ⟨A, n, c, ⟨L, kp, d, b, tu⟩, rfl, hp, hw, wd, wb, y0.1, rest, by rw [hx]; rfl, hD⟩
theorem trod_casH {fuel : Nat} {l : List Value} {y : DataW H × List MemPlace} (hsz : l.length = 5) (hf : DataW.trod enc Tryd.prog w base spare held fuel 28 l = some y) :
    ∃ (v : Va) (a b : Int), l = [.int .i64 v.k, .int .i64 v.n, .string v.t, .int .i64 a, .int .i64 b] ∧ y.1 = dataC v a b ∧ VaW v := by
  obtain ⟨c0, c1, c2, c3, c4, rfl⟩ : ∃ c0 c1 c2 c3 c4, l = [c0, c1, c2, c3, c4] := by
    match l, hsz with
    | [c0, c1, c2, c3, c4], _ => exact ⟨c0, c1, c2, c3, c4, rfl⟩
  obtain ⟨xs, n, _, hx, _, hxl, hfs⟩ := DataW.trod_struct Tryd.underlying28 hf
  obtain ⟨y0, y1, y2, rfl⟩ : ∃ y0 y1 y2, xs = [y0, y1, y2] := by
    match xs, hxl with
    | [y0, y1, y2], _ => exact ⟨y0, y1, y2, rfl⟩
  have h0 : DataW.trod enc Tryd.prog w base spare held n 24 (List.take (Tryd.prog.cellsOf 24) [c0, c1, c2, c3, c4]) = some y0 := hfs 0 _ rfl
  rw [cValH] at h0
  replace h0 : DataW.trod enc Tryd.prog w base spare held n 24 [c0, c1, c2] = some y0 := h0
  have h1 : DataW.trod enc Tryd.prog w base spare held n 3 (List.take (Tryd.prog.cellsOf 3) [c3, c4]) = some y1 := hfs 1 _ rfl
  rw [cIntH] at h1
  replace h1 : DataW.trod enc Tryd.prog w base spare held n 3 [c3] = some y1 := h1
  have h2 : DataW.trod enc Tryd.prog w base spare held n 3 (List.take (Tryd.prog.cellsOf 3) [c4]) = some y2 := hfs 2 _ rfl
  rw [cIntH] at h2
  replace h2 : DataW.trod enc Tryd.prog w base spare held n 3 [c4] = some y2 := h2
  obtain ⟨v, rfl, rfl, rfl, rfl, wv⟩ := trod_vaH h0
  obtain ⟨a, e1, rfl, w1⟩ := DataW.trod_int Tryd.underlying3 h1
  obtain ⟨b, e2, rfl, w2⟩ := DataW.trod_int Tryd.underlying3 h2
  simp only [List.cons.injEq, and_true] at e1 e2
  subst e1 e2
  exact ⟨v, a, b, rfl, by rw [hx]; rfl, wv⟩
set_option maxRecDepth 100000 in
theorem open_tabT {r : Reach} {b0 : Nat} {v : Value} {d : DataW H} {p : List MemPlace} (hv : Value.okWide Tryd.prog w r b0 26 v) (h : DataW.Trod enc Tryd.prog w base spare held 26 v d p) :
    ∃ (A : Option Addr) (n c : Nat) (T : Tb) (D : DataW H) (rest : List (DataW H)), v = .agg #[.slice A n c, .bool T.keep, .int .i64 T.d.k, .int .i64 T.d.n, .string T.d.t, .int .i64 T.b.k, .int .i64 T.b.n, .string T.b.t, .bool T.tu] ∧ Pal w A n c T.L ∧ RngT T ∧ d = dataT D T ∧ (D = .slice (T.L.map dataPa) rest ∨ T.L = []) := by
  obtain ⟨cs, rfl, hsz⟩ := okWide_struct Tryd.underlying26 hv
  rw [cTab] at hsz
  obtain ⟨l⟩ := cs
  obtain ⟨fuel, hf⟩ := h
  obtain ⟨A, n, c, T, rfl, hp, hw, wd, wb, D, rest, hd, hD⟩ := trod_tabH (y := (d, p)) hsz hf
  exact ⟨A, n, c, T, D, rest, rfl, hp, ⟨fun q hq => ⟨(hw q hq).1.n, (hw q hq).2.n⟩, wd.n, wb.n⟩, hd, hD⟩
set_option maxRecDepth 100000 in
theorem open_casT {r : Reach} {b0 : Nat} {v : Value} {d : DataW H} {p : List MemPlace} (hv : Value.okWide Tryd.prog w r b0 28 v) (h : DataW.Trod enc Tryd.prog w base spare held 28 v d p) :
    ∃ (x : Va) (a b : Int), v = .agg #[.int .i64 x.k, .int .i64 x.n, .string x.t, .int .i64 a, .int .i64 b] ∧ d = dataC x a b := by
  obtain ⟨cs, rfl, hsz⟩ := okWide_struct Tryd.underlying28 hv
  rw [cCas] at hsz
  obtain ⟨l⟩ := cs
  obtain ⟨fuel, hf⟩ := h
  obtain ⟨x, a, b, rfl, hd, hw⟩ := trod_casH (y := (d, p)) hsz hf
  exact ⟨x, a, b, rfl, hd⟩
set_option maxRecDepth 100000 in
theorem open_vaT {r : Reach} {b0 : Nat} {v : Value} {d : DataW H} {p : List MemPlace} (hv : Value.okWide Tryd.prog w r b0 24 v) (h : DataW.Trod enc Tryd.prog w base spare held 24 v d p) :
    ∃ x : Va, v = .agg #[.int .i64 x.k, .int .i64 x.n, .string x.t] ∧ d = dataV x := by
  obtain ⟨cs, rfl, hsz⟩ := okWide_struct Tryd.underlying24 hv
  rw [cValH] at hsz
  obtain ⟨l⟩ := cs
  obtain ⟨fuel, hf⟩ := h
  obtain ⟨c0, c1, c2, rfl⟩ : ∃ c0 c1 c2, l = [c0, c1, c2] := by
    match l, hsz with
    | [c0, c1, c2], _ => exact ⟨c0, c1, c2, rfl⟩
  obtain ⟨x, rfl, rfl, rfl, hy, hw⟩ := trod_vaH (y := (d, p)) hf
  exact ⟨x, rfl, congrArg Prod.fst hy⟩
theorem weightsAll_mem {e : TypeId} {n : Nat} : ∀ {l : List (DataW H)} {d : DataW H}, d ∈ l → n ∈ d.weights Tryd.prog e → n ∈ DataW.weightsAll Tryd.prog e l
  | x :: l, d, hd, hn => by
    simp only [DataW.weightsAll, List.mem_append]
    rcases List.mem_cons.1 hd with rfl | hd
    · exact .inl hn
    · exact .inr (weightsAll_mem hd hn)
theorem wV (x : Va) : x.t.data.toList.length ∈ (dataV (H := H) x).weights Tryd.prog 24 := by simp [DataW.weights, DataW.weightsEach, dataV, Tryd.underlying24]
theorem reach_of {n : Nat} (h : n ≤ reachBytes) : n ≤ 140737488355328 := by
  have e : reachBytes = 140737488351232 := by decide
  omega
theorem sized_va {ts : List TypeId} {ds : List (DataW H)} (h : (DataW.weightsEach Tryd.prog ts ds).all (· ≤ reachBytes) = true) {j : Nat} {x : Va} (ht : ts[j]? = some 24) (hd : ds[j]? = some (dataV x)) : x.t.size ≤ 140737488355328 := by
  have := List.all_eq_true.1 h _ (DataW.weights_mem_each ht hd _ (wV x))
  exact reach_of (by simpa using this)
theorem sized_cas {ts : List TypeId} {ds : List (DataW H)} (h : (DataW.weightsEach Tryd.prog ts ds).all (· ≤ reachBytes) = true) {j : Nat} {x : Va} {a b : Int} (ht : ts[j]? = some 28) (hd : ds[j]? = some (dataC x a b)) : x.t.size ≤ 140737488355328 := by
  have hw : x.t.data.toList.length ∈ (dataC (H := H) x a b).weights Tryd.prog 28 := by
    have := wV (H := H) x
    unfold dataC
    simp only [DataW.weights, Tryd.underlying28, List.map_cons, List.map_nil, DataW.weightsEach, List.mem_append]
    exact .inl this
  have := List.all_eq_true.1 h _ (DataW.weights_mem_each ht hd _ hw)
  exact reach_of (by simpa using this)
theorem sized_tab {ts : List TypeId} {ds : List (DataW H)} (h : (DataW.weightsEach Tryd.prog ts ds).all (· ≤ reachBytes) = true) {j : Nat} {T : Tb} {D : DataW H} {rest : List (DataW H)} (ht : ts[j]? = some 26) (hd : ds[j]? = some (dataT D T)) (hD : D = .slice (T.L.map dataPa) rest ∨ T.L = []) : HoldT T := by
  have key : ∀ n, n ∈ (dataT D T).weights Tryd.prog 26 → n ≤ 140737488355328 := fun n hn => by
    have := List.all_eq_true.1 h _ (DataW.weights_mem_each ht hd _ hn)
    exact reach_of (by simpa using this)
  have split : ∀ n, n ∈ D.weights Tryd.prog 22 ∨ n ∈ (dataV (H := H) T.d).weights Tryd.prog 24 ∨ n ∈ (dataV (H := H) T.b).weights Tryd.prog 24 → n ∈ (dataT D T).weights Tryd.prog 26 := fun n hn => by
    unfold dataT
    simp only [DataW.weights, Tryd.underlying26, List.map_cons, List.map_nil, DataW.weightsEach, List.mem_append]
    rcases hn with hn | hn | hn
    · exact .inl hn
    · exact .inr (.inr (.inl hn))
    · exact .inr (.inr (.inr (.inl hn)))
  refine ⟨fun p hp => ?_, by have := key _ (split _ (.inr (.inl (wV T.d)))); simpa using this, by have := key _ (split _ (.inr (.inr (wV T.b)))); simpa using this⟩
  rcases hD with rfl | hD
  · have hw : ∀ n, n ∈ (dataPa (H := H) p).weights Tryd.prog 44 → n ∈ (DataW.slice (T.L.map dataPa) rest).weights Tryd.prog 22 := fun n hn => by
      simp only [DataW.weights, Tryd.underlying22, List.mem_cons, List.mem_append]
      exact .inr (.inl (weightsAll_mem (List.mem_map.2 ⟨p, hp, rfl⟩) hn))
    have hf : p.f.t.data.toList.length ∈ (dataPa (H := H) p).weights Tryd.prog 44 := by
      unfold dataPa
      simp only [DataW.weights, Tryd.underlying44, List.map_cons, List.map_nil, DataW.weightsEach, List.mem_append]
      exact .inl (wV p.f)
    have hg : p.t.t.data.toList.length ∈ (dataPa (H := H) p).weights Tryd.prog 44 := by
      unfold dataPa
      simp only [DataW.weights, Tryd.underlying44, List.map_cons, List.map_nil, DataW.weightsEach, List.mem_append]
      exact .inr (.inl (wV p.t))
    exact ⟨by have := key _ (split _ (.inl (hw _ hf))); simpa using this, by have := key _ (split _ (.inl (hw _ hg))); simpa using this⟩
  · rw [hD] at hp; cases hp
end
theorem Kept.same {W W' : World} (h : Kept W W') {p : MemPlace} (hp : p.block < W.heap.size) : W.sameAt W' p := by
  cases p with
  | cell b o => exact World.cell?_of_block (w := W) (h.blk hp)
  | map b => exact h.blk hp
theorem Kept.trod {H : Type} {enc : TypeId × Value → H} {t : TypeId} (hr : Tryd.prog.readableRec t = true) (hrow : t < Tryd.prog.types.size) {W W' : World} {v : Value} {d : DataW H} {ps : List MemPlace}
    (h : DataW.Trod enc Tryd.prog W 0 (fun _ => true) true t v d ps) (hb : Kept W W') (hlt : ∀ x ∈ ps, x.block < W.heap.size) :
    DataW.Trod enc Tryd.prog W' 0 (fun b => decide (b < W.heap.size)) true t v d ps :=
  WideElems.Trod_stays laidOutH hr hrow h (fun x hx => hb.same (hlt x hx)) (fun x hx => by simpa using hlt x hx)
end Go.Proofs.YtjcnjmlgedmmoaaDoor

namespace Go.Proofs.YtjcnjmlgedmmoaaDoor
open Go.RowKit
set_option linter.unusedVariables false

structure VlO (w : World) (b o : Nat) (x : Va) : Prop where
  c0 : w.cell? ⟨b, o, none⟩ = some (.int .i64 x.k)
  c1 : w.cell? ⟨b, o + 1, none⟩ = some (.int .i64 x.n)
  c2 : w.cell? ⟨b, o + 2, none⟩ = some (.string x.t)
theorem VlO.kept {w w' : World} {b o : Nat} {x : Va} (h : VlO w b o x) (hg : Kept w w') : VlO w' b o x :=
  ⟨hg.cell h.c0, hg.cell h.c1, hg.cell h.c2⟩
/-- In a block of its own. -/
structure VlB (w : World) (b : Nat) (x : Va) : Prop where
  c0 : w.cell? ⟨b, 0, none⟩ = some (.int .i64 x.k)
  c1 : w.cell? ⟨b, 1, none⟩ = some (.int .i64 x.n)
  c2 : w.cell? ⟨b, 2, none⟩ = some (.string x.t)
  f : ∀ j, w.frozen? ⟨b, j, none⟩ = false
  lt : b < w.heap.size
theorem VlB.kept {w w' : World} {b : Nat} {x : Va} (h : VlB w b x) (hg : Kept w w') : VlB w' b x :=
  ⟨hg.cell h.c0, hg.cell h.c1, hg.cell h.c2, fun j => (hg.2.1 ⟨b, j, none⟩ h.lt).trans (h.f j), Nat.lt_of_lt_of_le h.lt hg.2.2⟩
theorem VlB.new (w : World) (x : Va) (t : TypeId) : VlB (w.alloc (.cells #[.int .i64 x.k, .int .i64 x.n, .string x.t] t)) w.heap.size x :=
  ⟨(Kept.refl _).box 0 _ rfl, (Kept.refl _).box 1 _ rfl, (Kept.refl _).box 2 _ rfl, fun j => by rw [frozen?_alloc_cells]; simp [World.frozen?], by simp⟩
def Vll (w : World) (A : Option Addr) (n c : Nat) (L : List Va) : Prop :=
  n = L.length ∧ n ≤ c ∧ c ≤ maxLen ∧ (A = none → c = 0) ∧ (n = 0 ∨ ∃ b o, A = some ⟨b, o, none⟩ ∧ ∀ j x, L[j]? = some x → VlO w b (o + j * 3) x)
theorem Vll.kept {w w' : World} {A : Option Addr} {n c : Nat} {L : List Va} (h : Vll w A n c L) (hk : Kept w w') : Vll w' A n c L :=
  ⟨h.1, h.2.1, h.2.2.1, h.2.2.2.1, h.2.2.2.2.imp id fun ⟨b, o, hA, hc⟩ => ⟨b, o, hA, fun j x hj => (hc j x hj).kept hk⟩⟩
theorem Vll.nil (w : World) : Vll w none 0 0 [] := ⟨rfl, Nat.le_refl _, Nat.zero_le _, fun _ => rfl, .inl rfl⟩
theorem Vll.len {w : World} {A : Option Addr} {n c : Nat} {L : List Va} (h : Vll w A n c L) : L.length = n := h.1.symm
theorem Vll.cap {w : World} {A : Option Addr} {n c : Nat} {L : List Va} (h : Vll w A n c L) : n ≤ c ∧ c ≤ 9223372036854775807 := ⟨h.2.1, h.2.2.1⟩
theorem Vll.get {w : World} {A : Option Addr} {n c : Nat} {L : List Va} (h : Vll w A n c L) {k : Nat} (hk : k < n) :
    ∃ b o x, A = some ⟨b, o, none⟩ ∧ L[k]? = some x ∧ VlO w b (o + k * 3) x := by
  have hl : k < L.length := by rw [← h.1]; exact hk
  rcases h.2.2.2.2 with h0 | ⟨b, o, hA, hc⟩
  · omega
  · exact ⟨b, o, L[k], hA, List.getElem?_eq_getElem hl, hc k L[k] (List.getElem?_eq_getElem hl)⟩

/-- The cells. -/
def cellVl (x : Va) : List Value := [.int .i64 x.k, .int .i64 x.n, .string x.t]
def flatVl (L : List Va) : List Value := L.flatMap cellVl
theorem flatVl_nil : flatVl [] = [] := rfl
theorem flatVl_cons (x : Va) (L : List Va) : flatVl (x :: L) = cellVl x ++ flatVl L := rfl
theorem flatVl_app (L M : List Va) : flatVl (L ++ M) = flatVl L ++ flatVl M := List.flatMap_append
theorem flatVl_len (L : List Va) : (flatVl L).length = L.length * 3 := by
  induction L with
  | nil => rfl
  | cons x L ih => rw [flatVl_cons, List.length_append, List.length_cons, ih]; show 3 + _ = _; omega
theorem flatVl_one (L : List Va) : ∀ u ∈ flatVl L, u.oneCell' = true := by
  intro u hu
  obtain ⟨x, _, hx⟩ := List.mem_flatMap.1 hu
  simp only [cellVl, List.mem_cons, List.not_mem_nil, or_false] at hx
  rcases hx with rfl | rfl | rfl <;> rfl
theorem flatVl_get : ∀ (L : List Va) (j : Nat) (x : Va), L[j]? = some x → ∀ i, i < 3 → (flatVl L)[j * 3 + i]? = (cellVl x)[i]?
  | [], j, x, h, _, _ => by simp at h
  | y :: L, 0, x, h, i, hi => by
    obtain rfl : y = x := by simpa using h
    rw [flatVl_cons, List.getElem?_append_left (by show 0 * 3 + i < 3; omega), Nat.zero_mul, Nat.zero_add]
  | y :: L, j + 1, x, h, i, hi => by
    have ih := flatVl_get L j x (by simpa using h) i hi
    rw [flatVl_cons, List.getElem?_append_right (by show 3 ≤ _; omega), ← ih]
    congr 1
    show (j + 1) * 3 + i - 3 = _
    omega
theorem flatVl_at : ∀ (L : List Va) (i : Nat) (u : Value), (flatVl L)[i]? = some u → ∃ j x r, L[j]? = some x ∧ i = j * 3 + r ∧ r < 3 ∧ (cellVl x)[r]? = some u
  | [], i, u, h => by simp [flatVl_nil] at h
  | y :: L, i, u, h => by
    rw [flatVl_cons] at h
    by_cases hi : i < 3
    · rw [List.getElem?_append_left (by exact hi)] at h
      exact ⟨0, y, i, rfl, by omega, hi, h⟩
    · rw [List.getElem?_append_right (by show 3 ≤ i; omega)] at h
      obtain ⟨j, x, r, h1, h2, h3, h4⟩ := flatVl_at L (i - 3) u h
      exact ⟨j + 1, x, r, by simpa using h1, by omega, h3, h4⟩
theorem VlO.of_flat {w : World} {b o : Nat} {x : Va} (h : ∀ i u, (cellVl x)[i]? = some u → w.cell? ⟨b, o + i, none⟩ = some u) : VlO w b o x :=
  ⟨h 0 _ rfl, h 1 _ rfl, h 2 _ rfl⟩
theorem VlO.flat {w : World} {b o : Nat} {x : Va} (h : VlO w b o x) : ∀ i u, (cellVl x)[i]? = some u → w.cell? ⟨b, o + i, none⟩ = some u := by
  intro i u hu
  match i, hu with
  | 0, hu => obtain rfl := Option.some.inj hu; exact h.c0
  | 1, hu => obtain rfl := Option.some.inj hu; exact h.c1
  | 2, hu => obtain rfl := Option.some.inj hu; exact h.c2
  | i + 3, hu => simp [cellVl] at hu
theorem VlB.o {w : World} {b : Nat} {x : Va} (h : VlB w b x) : VlO w b 0 x := ⟨h.c0, h.c1, h.c2⟩
theorem Vll.of_own' {w : World} {base n : Nat} {e : TypeId} {v : Value} {L : List Va} (h : w.ownsRow base e 3 v n (flatVl L)) : ∃ A c, v = .slice A n c ∧ Vll w A n c L ∧ ∀ ad, A = some ad → base ≤ ad.block := by
  have hl : n = L.length := by have := h.1; rw [flatVl_len] at this; omega
  have hc := fun g (hg : v.ownBlock = some g) => h.cells (g := g) hg
  have hlt := fun g (hg : v.ownBlock = some g) => h.lt g hg
  rcases h.2 with ⟨rfl, h0⟩ | ⟨g, cap, cur, rfl, hb, hg, h1, h2, _⟩
  · subst h0
    exact ⟨none, 0, rfl, ⟨hl, Nat.le_refl _, Nat.zero_le _, fun _ => rfl, .inl rfl⟩, fun ad he => by cases he⟩
  · refine ⟨some ⟨g, 0, none⟩, cap, rfl, ⟨hl, h1, h2, fun h => by simp at h, .inr ⟨g, 0, rfl, fun j x hj => ?_⟩⟩, fun ad he => by cases he; exact hb⟩
    refine VlO.of_flat fun i u hu => ?_
    have hi : i < 3 := (List.getElem?_eq_some_iff.1 hu).1
    have := hc g rfl _ u ((flatVl_get L j x hj i hi).trans hu)
    rw [Addr.add_lit, Nat.zero_add] at this
    rw [Nat.zero_add]
    exact this
theorem Vll.of_own {w : World} {base n : Nat} {e : TypeId} {v : Value} {L : List Va} (h : w.ownsRow base e 3 v n (flatVl L)) : ∃ A c, v = .slice A n c ∧ Vll w A n c L := by
  obtain ⟨A, c, h1, h2, _⟩ := Vll.of_own' h
  exact ⟨A, c, h1, h2⟩
theorem info_vl : (Tryd.prog.info? 24).map (fun i => (i.zero, i.size, i.bytes)) = some (some (.agg #[.int .i64 0, .int .i64 0, .string ⟨#[]⟩]), 3, 32) := by kernel_rfl
theorem app_vls (w : World) (base : Nat) (v : Value) (n : Nat) (xs : List Value) (h : w.ownsRow base 24 3 v n xs) (A : Option Addr) (m c : Nat) (L : List Va) (hs : Vll w A m c L) (hb : n + m ≤ 1000000000) (hbase : base ≤ w.heap.size) :
    ∃ v' w', (Builtin.append_ #[42, 42] 42 #[v, .slice A m c]).run Tryd.prog w = .ok v' w' ∧ w'.ownsRow base 24 3 v' (n + m) (xs ++ flatVl L) ∧ w.grownBy w' v.ownBlock ∧ (v'.ownBlock = v.ownBlock ∨ v'.ownBlock = some w.heap.size) := by
  obtain ⟨i0, hi0, hz0, hz1, hz2⟩ := info_parts info_vl
  cases A with
  | none =>
    obtain rfl := hs.2.2.2.1 rfl
    obtain rfl : m = 0 := by have := hs.2.1; omega
    have hL : L = [] := List.eq_nil_of_length_eq_zero hs.1.symm
    subst hL
    exact ⟨v, w, run_append_owned_none w base _ _ _ i0 3 Tryd.underlying42 hi0 v n xs h, by simpa [flatVl_nil] using h, World.grownBy.refl w _, .inl rfl⟩
  | some ad =>
    obtain ⟨v', w', hr, ho, hg, _, hat⟩ := run_append_own_at (P := Tryd.prog) w base 42 42 24 i0 (.agg #[.int .i64 0, .int .i64 0, .string ⟨#[]⟩]) 3 32 Tryd.underlying42 hi0 hz0 hz1 hz2 rfl (by decide) v n xs h ad m c (flatVl L)
      (by rw [flatVl_len, hs.1]) (fun j u hj => by
        obtain ⟨k, x, r, hk, rfl, hr9, hu⟩ := flatVl_at L j u hj
        have hkl := (List.getElem?_eq_some_iff.1 hk).1
        obtain ⟨b, o, y, hA, hy, hc⟩ := hs.get (k := k) (by rw [hs.1]; exact hkl)
        obtain rfl : y = x := Option.some.inj (hy.symm.trans hk)
        obtain rfl := Option.some.inj hA
        rw [Addr.add_lit, ← Nat.add_assoc]
        exact hc.flat r u hu) (flatVl_one _) (by simp only [maxLen]; omega) (by omega) hbase
    exact ⟨v', w', hr, ho, hg, hat⟩
/-- A row of entries that a call makes; U: what is left alone. -/
structure OutVl (U wr : World) (v : Value) (L : List Va) : Prop where
  own : wr.ownsRow U.heap.size 24 3 v L.length (flatVl L)
  ke : Kept U wr
theorem OutVl.start (U : World) : OutVl U U (.slice none 0 0) [] := ⟨World.ownsRow_nil _ _ _ _, Kept.refl _⟩
theorem OutVl.kept {U wr w' : World} {v : Value} {L : List Va} (h : OutVl U wr v L) (hk : Kept wr w') : OutVl U w' v L := ⟨own_kept h.own hk, h.ke.trans hk⟩
theorem OutVl.form {U wr : World} {v : Value} {L : List Va} (h : OutVl U wr v L) : ∃ A c, v = .slice A L.length c ∧ Vll wr A L.length c L ∧ (∀ ad, A = some ad → U.heap.size ≤ ad.block) ∧ L.length ≤ c ∧ c ≤ 9223372036854775807 := by
  obtain ⟨A, c, h1, h2, h3⟩ := Vll.of_own' h.own
  exact ⟨A, c, h1, h2, h3, h2.cap.1, h2.cap.2⟩
theorem OutVl.app {U wr : World} {v : Value} {L : List Va} (h : OutVl U wr v L) (A : Option Addr) (m c : Nat) (M : List Va) (hs : Vll wr A m c M) (hb : L.length + m ≤ 1000000000) :
    ∃ v' w', (Builtin.append_ #[42, 42] 42 #[v, .slice A m c]).run Tryd.prog wr = .ok v' w' ∧ OutVl U w' v' (L ++ M) := by
  obtain ⟨v', w', hr, ho, hg, _⟩ := app_vls wr U.heap.size v L.length (flatVl L) h.own A m c M hs hb h.ke.2.2
  refine ⟨v', w', hr, ?_, kept_grown h.ke hg fun k hk => (h.own.lt k hk).1⟩
  rw [List.length_append, flatVl_app, ← hs.1]
  exact ho
theorem vl_one {w : World} {x : Va} {b : Nat} (h : VlB w b x) : Vll w (some ⟨b, 0, none⟩) 1 1 [x] := by
  refine ⟨rfl, Nat.le_refl _, by simp [maxLen], (fun h => by cases h), .inr ⟨b, 0, rfl, fun j y hj => ?_⟩⟩
  match j, hj with
  | 0, hj =>
    obtain rfl : x = y := by simpa using hj
    exact h.o
  | j + 1, hj => simp at hj

theorem size_vl (W : World) : (Go.sizeOf (Tryd.prog.elem 42)).run Tryd.prog W = .ok 3 W := by kernel_rfl
theorem vl_head {w : World} {A : Option Addr} {n c k : Nat} {L : List Va} (h : Vll w A n c L) (hk : k ≤ n) {c' : Nat} (hc : k ≤ c') (hc2 : c' ≤ c) : Vll w A k c' (L.take k) := by
  obtain ⟨h1, h2, h3, h4, h5⟩ := h
  refine ⟨by rw [List.length_take]; omega, hc, by omega, fun e => by have := h4 e; omega, ?_⟩
  rcases h5 with h0 | ⟨b, o, hA, hc⟩
  · exact .inl (by omega)
  · refine .inr ⟨b, o, hA, fun j x hj => hc j x ?_⟩
    rw [List.getElem?_take] at hj
    split at hj
    · exact hj
    · cases hj
theorem vl_tail {w : World} {A : Option Addr} {n c k : Nat} {L : List Va} (h : Vll w A n c L) (hk : k ≤ n) : ∃ A2, Vll w A2 (n - k) (c - k) (L.drop k) ∧
    (∀ W : World, (Instr.slice 42 (.slice A n c) (some (.int .i64 (k : Int))) none none).run Tryd.prog W = .ok (.slice A2 (n - k) (c - k)) W) ∧
    (∀ W : World, (Instr.sliceAt 42 (.slice A n c) (some (.int .i64 (k : Int))) none none).run Tryd.prog W = .ok (.slice A2 (n - k) (c - k)) W) := by
  obtain ⟨h1, h2, h3, h4, h5⟩ := h
  have hr : ∀ W : World, (Instr.slice 42 (.slice A n c) (some (.int .i64 (k : Int))) none none).run Tryd.prog W = .ok (.slice (if c = k then A else A.map (·.add (k * 3))) (n - k) (c - k)) W := fun W => by
    rw [run_slice_l W 42 _ n c (by kernel_rfl) .i64 (k : Int) (by omega) (by omega), size_vl]
    simp only [Result.andThen, sliced, Int.toNat_natCast]
  refine ⟨_, ?_, hr, fun W => by rw [run_sliceAt_slice W _ _ _ _ _ (by kernel_rfl)]; exact hr W⟩
  refine ⟨by rw [List.length_drop]; omega, by omega, by omega, fun he => ?_, ?_⟩
  · by_cases hc : c = k
    · omega
    · rw [if_neg hc, Option.map_eq_none_iff] at he
      have := h4 he
      omega
  · rcases h5 with h0 | ⟨b, o, hA, hc⟩
    · exact .inl (by omega)
    · by_cases hkn : k = n
      · exact .inl (by omega)
      · refine .inr ⟨b, o + k * 3, ?_, fun j x hj => ?_⟩
        · rw [if_neg (by omega), hA, Option.map_some, Addr.add_lit]
        · rw [List.getElem?_drop] at hj
          have := hc _ x hj
          rw [show o + k * 3 + j * 3 = o + (k + j) * 3 by omega]
          exact this
end Go.Proofs.YtjcnjmlgedmmoaaDoor

namespace Go.Proofs.YtjcnjmlgedmmoaaDoor
open Go.RowKit
set_option linter.unusedVariables false

def valsP (L : List Pa) : List Va := L.flatMap fun p => [p.f, p.t]
theorem valsP_snoc {L : List Pa} {t : Nat} {x : Pa} (h : L[t]? = some x) : valsP (L.take (t + 1)) = valsP (L.take t) ++ [x.f, x.t] := by
  unfold valsP
  rw [List.take_add_one, h, Option.toList_some, List.flatMap_append]
  simp
theorem valsP_len (L : List Pa) : (valsP L).length = 2 * L.length := by
  unfold valsP
  induction L with
  | nil => rfl
  | cons x L ih => rw [List.flatMap_cons, List.length_append, ih, List.length_cons]; simp only [List.length_cons, List.length_nil]; omega
def tens (t : Nat) : List Va := (List.range t).flatMap fun (i : Nat) => [⟨1, (i : Int), ⟨#[]⟩⟩, ⟨2, 0, ⟨#[UInt8.ofNat (48 + i)]⟩⟩]
theorem tens_succ (t : Nat) : tens (t + 1) = tens t ++ [⟨1, (t : Int), ⟨#[]⟩⟩, ⟨2, 0, ⟨#[UInt8.ofNat (48 + t)]⟩⟩] := by
  unfold tens
  rw [List.range_succ, List.flatMap_append]
  simp
theorem tens_app {M : List Va} {t zz : Nat} (h : 48 + t = zz) : M ++ tens t ++ [⟨1, (t : Int), ⟨#[]⟩⟩, ⟨2, 0, byteS (zz : Int)⟩] = M ++ tens (t + 1) := by
  subst h
  rw [tens_succ, ← List.append_assoc]
  rfl
theorem tens_len (t : Nat) : (tens t).length = 2 * t := by
  induction t with
  | zero => rfl
  | succ t ih => rw [tens_succ, List.length_append, ih]; simp only [List.length_cons, List.length_nil]; omega
def allV (T : Tb) : List Va := valsP T.L ++ [noV, yesV] ++ tens 10
theorem among_all {T : Tb} {v : Va} (h : AmongT T v) : v ∈ allV T := by
  unfold allV
  rcases h with ⟨p, hp, h⟩ | rfl | rfl | h | h
  · refine List.mem_append_left _ (List.mem_append_left _ (List.mem_flatMap.2 ⟨p, hp, ?_⟩))
    rcases h with rfl | rfl <;> simp
  · simp
  · simp
  · obtain ⟨i, hi, rfl⟩ := List.mem_map.1 h
    exact List.mem_append_right _ (List.mem_flatMap.2 ⟨i, hi, by simp⟩)
  · obtain ⟨i, hi, rfl⟩ := List.mem_map.1 h
    exact List.mem_append_right _ (List.mem_flatMap.2 ⟨i, hi, by simp⟩)
theorem RightT.ok {T : Tb} {a b : Int} (h : RightT T a b) : ∀ p ∈ T.L, rightVa p.f = true ∧ rightVa p.t = true := by
  unfold RightT at h
  intro p hp
  split at h
  · exact ⟨(h.ok p hp).1, (h.ok p hp).2.1⟩
  · exact ⟨(h.ok p hp).1, (h.ok p hp).2.1⟩
theorem all_right {T : Tb} {a b : Int} (h : RightT T a b) : ∀ v ∈ allV T, rightVa v = true := by
  intro v hv
  unfold allV at hv
  rcases List.mem_append.1 hv with hv | hv
  · rcases List.mem_append.1 hv with hv | hv
    · obtain ⟨p, hp, hv⟩ := List.mem_flatMap.1 hv
      simp only [List.mem_cons, List.not_mem_nil, or_false] at hv
      rcases hv with rfl | rfl
      · exact (h.ok p hp).1
      · exact (h.ok p hp).2
    · simp only [List.mem_cons, List.not_mem_nil, or_false] at hv
      rcases hv with rfl | rfl <;> decide
  · obtain ⟨i, hi, hv⟩ := List.mem_flatMap.1 hv
    simp only [List.mem_cons, List.not_mem_nil, or_false] at hv
    rcases hv with rfl | rfl
    · unfold rightVa rightB; rw [decide_eq_true_iff]; exact .inl ⟨rfl, rfl⟩
    · unfold rightVa rightB; rw [decide_eq_true_iff]; exact .inr (.inl ⟨rfl, (by show 1 ≤ 200; omega), rfl⟩)
theorem one_text_at (z : Int) (b : Nat) (w : World) (h : w.cell? ⟨b, 0, none⟩ = some (.int .u8 z)) :
    (convert 46 9 (.slice (some ⟨b, 0, none⟩) 1 1)).run Tryd.prog w = .ok (.string (byteS z)) w := by
  have hs : strOfNums [z] = byteS z := rfl
  rw [← hs]
  refine run_convert_bytes_arg _ 46 5 Tryd.underlying46 Tryd.underlying5 b 0 1 1 [z] rfl ?_ 9 Tryd.underlying9
  intro i hi
  obtain rfl : i = 0 := by omega
  exact h
theorem vl_two (w : World) (x y : Va) (t : TypeId) : Vll (w.alloc (.cells #[.int .i64 x.k, .int .i64 x.n, .string x.t, .int .i64 y.k, .int .i64 y.n, .string y.t] t)) (some ⟨w.heap.size, 0, none⟩) 2 2 [x, y] := by
  refine ⟨rfl, Nat.le_refl _, by simp [maxLen], (fun h => by cases h), .inr ⟨w.heap.size, 0, rfl, fun j z hj => ?_⟩⟩
  match j, hj with
  | 0, hj =>
    obtain rfl := Option.some.inj hj
    exact ⟨(Kept.refl _).box 0 _ rfl, (Kept.refl _).box 1 _ rfl, (Kept.refl _).box 2 _ rfl⟩
  | 1, hj =>
    obtain rfl := Option.some.inj hj
    exact ⟨(Kept.refl _).box 3 _ rfl, (Kept.refl _).box 4 _ rfl, (Kept.refl _).box 5 _ rfl⟩
  | j + 2, hj => simp at hj
/-- What holds of a value that comes back. -/
def BackP (T : Tb) (a b : Int) (v : Va) : Prop := (v.k = a → wayT T (applyT T v) = v) ∧ (v.k = b → applyT T (wayT T v) = v)
end Go.Proofs.YtjcnjmlgedmmoaaDoor

