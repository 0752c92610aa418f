/-
  What is proved: what the rows' condition on the listed variables gives the walks; an entry (a struct with structs in it), by value, opened and shut.
-/
import Derived.Test.YtoanccojpppfoaaDoorRows
import Derived.Test.YtoanccojpppfoaaDoorEAwake
import Derived.ProofKit
import Derived.LaidMore
import Derived.OpenShut
import Derived.ChangeMaps5
import Derived.Stop.Joined
import Derived.Lib.SmallJoins
import Derived.Lib.LaidTab
import Derived.SizedLaws
import Derived.MakeChecks
import Derived.Deep.Strs
namespace Go.Proofs.YtoanccojpppfoaaDoor
open Go.ChangeShapes Go.WideShapes Go.ChangeAt Go.RowKit Go.Joins

theorem own : ownKnob Tryd.prog.godebug = none := by kernel_rfl
theorem gPow : Tryd.prog.globalNamed "internal/strconv.uint64pow10" = some 3 := by kernel_rfl
theorem gTru : Tryd.prog.globalNamed "lorgnette/val.truths" = some 1 := by kernel_rfl
theorem tPow : (Tryd.prog.globals[3]?).map (·.type) = some 93 := by kernel_rfl
theorem tTru : (Tryd.prog.globals[1]?).map (·.type) = some 77 := by kernel_rfl
theorem cPow : Tryd.prog.cellsOf 93 = 20 := by kernel_rfl
theorem cU64 : Tryd.prog.cellsOf 45 = 1 := by kernel_rfl
theorem cTru : Tryd.prog.cellsOf 77 = 2 := by kernel_rfl
theorem cStr : Tryd.prog.cellsOf 9 = 1 := by kernel_rfl
theorem cVal : Tryd.prog.cellsOf 25 = 3 := by kernel_rfl

theorem dPow : (Rows.laid_internal_strconv_uint64pow10 : DataW Unit) = Lib.tabData .u64 Lib.pow10Tab := by
  unfold Rows.laid_internal_strconv_uint64pow10 Lib.tabData Lib.pow10Tab
  rfl

theorem gMar : Tryd.prog.globalNamed "lorgnette/entry.marks" = some 0 := by kernel_rfl
theorem tMar : (Tryd.prog.globals[0]?).map (·.type) = some 64 := by kernel_rfl
theorem cMar : Tryd.prog.cellsOf 64 = 4 := by kernel_rfl
theorem cDot : Tryd.prog.cellsOf 23 = 2 := by kernel_rfl
theorem cInt : Tryd.prog.cellsOf 3 = 1 := by kernel_rfl
theorem cEnt : Tryd.prog.cellsOf 27 = 9 := by kernel_rfl

set_option maxRecDepth 100000 in
theorem laid_e {W : World} (h : laidMetH Tryd.prog Rows.entrySaysRow.laid W) : LaidE W := by
  rw [MakeChecks.laidMetH_plain _ _ _ (by kernel_rfl)] at h
  obtain ⟨ps, ⟨_, _, _, _, _, _, _, _, _, _, ⟨_, _, _, _, _, _, _, _, _, _, ⟨g2, t2, cs2, f2, p2, q2, hg2, ht2, hv2, hd2, ⟨g3, t3, cs3, f3, p3, q3, hg3, ht3, hv3, hd3, ⟨g4, t4, cs4, f4, p4, q4, hg4, ht4, hv4, hd4, _, _⟩, _⟩, _⟩, _⟩, _⟩, _, _⟩ := h
  obtain rfl := Option.some.inj (gPow.symm.trans hg2)
  obtain rfl := Option.some.inj (tPow.symm.trans ht2)
  obtain rfl := Option.some.inj (gTru.symm.trans hg3)
  obtain rfl := Option.some.inj (tTru.symm.trans ht3)
  obtain rfl := Option.some.inj (gMar.symm.trans hg4)
  obtain rfl := Option.some.inj (tMar.symm.trans ht4)
  rw [dPow] at hd2
  have tab : Lib.TabIs Tryd.prog W "internal/strconv.uint64pow10" .u64 Lib.pow10Tab := by
    unfold Lib.TabIs
    rw [hv2, ← Lib.cells_of_tab Tryd.underlying93 Tryd.underlying45 cU64 cPow hd2]
  have tru : W.cell? ⟨1, 0, none⟩ = some (.string noS) ∧ W.cell? ⟨1, 1, none⟩ = some (.string yesS) := by
    obtain ⟨xs, m, rfl, hx, hlen, hn, hel⟩ := DataW.trod_array Tryd.underlying77 hd3
    have e0 := hel 0 (by decide)
    have e1 := hel 1 (by decide)
    obtain ⟨y0, y1, rfl⟩ : ∃ y0 y1, xs = [y0, y1] := by
      match xs, hn with
      | [y0, y1], _ => exact ⟨y0, y1, rfl⟩
    rw [cStr] at e0 e1
    obtain ⟨s0, a0, b0, _⟩ := DataW.trod_string Tryd.underlying9 (e0.trans rfl)
    obtain ⟨s1, a1, b1, _⟩ := DataW.trod_string Tryd.underlying9 (e1.trans rfl)
    have hx1 := congrArg Prod.fst hx
    rw [b0, b1] at hx1
    simp only [Rows.laid_lorgnette_val_truths, List.map_cons, List.map_nil, DataW.agg.injEq, List.cons.injEq, DataW.lit.injEq, Lit.string.injEq, and_true] at hx1
    rw [cTru] at hlen
    obtain ⟨l⟩ := cs3
    obtain ⟨c0, c1, rfl⟩ : ∃ c0 c1, l = [c0, c1] := by
      match l, hlen with
      | [c0, c1], _ => exact ⟨c0, c1, rfl⟩
    simp at a0 a1
    subst a0 a1
    have z0 : s0 = noS := ba_ext hx1.1.symm
    have z1 : s1 = yesS := ba_ext hx1.2.symm
    subst z0 z1
    exact ⟨World.var?_cell gTru hv3 0, World.var?_cell gTru hv3 1⟩
  obtain ⟨xs, m, rfl, hx, hlen, hn, hel⟩ := DataW.trod_array Tryd.underlying64 hd4
  have e0 := hel 0 (by decide)
  have e1 := hel 1 (by decide)
  have e2 := hel 2 (by decide)
  have e3 := hel 3 (by decide)
  obtain ⟨y0, y1, y2, y3, rfl⟩ : ∃ y0 y1 y2 y3, xs = [y0, y1, y2, y3] := by
    match xs, hn with
    | [y0, y1, y2, y3], _ => exact ⟨y0, y1, y2, y3, rfl⟩
  rw [cStr] at e0 e1 e2 e3
  obtain ⟨s0, a0, b0, _⟩ := DataW.trod_string Tryd.underlying9 (e0.trans rfl)
  obtain ⟨s1, a1, b1, _⟩ := DataW.trod_string Tryd.underlying9 (e1.trans rfl)
  obtain ⟨s2, a2, b2, _⟩ := DataW.trod_string Tryd.underlying9 (e2.trans rfl)
  obtain ⟨s3, a3, b3, _⟩ := DataW.trod_string Tryd.underlying9 (e3.trans rfl)
  have hx1 := congrArg Prod.fst hx
  rw [b0, b1, b2, b3] at hx1
  simp only [Rows.laid_lorgnette_entry_marks, List.map_cons, List.map_nil, DataW.agg.injEq, List.cons.injEq, DataW.lit.injEq, Lit.string.injEq, and_true] at hx1
  rw [cMar] at hlen
  obtain ⟨l⟩ := cs4
  obtain ⟨c0, c1, c2, c3, rfl⟩ : ∃ c0 c1 c2 c3, l = [c0, c1, c2, c3] := by
    match l, hlen with
    | [c0, c1, c2, c3], _ => exact ⟨c0, c1, c2, c3, rfl⟩
  simp at a0 a1 a2 a3
  subst a0 a1 a2 a3
  have z0 : s0 = ⟨#[63]⟩ := ba_ext hx1.1.symm
  have z1 : s1 = ⟨#[61]⟩ := ba_ext hx1.2.1.symm
  have z2 : s2 = ⟨#[43]⟩ := ba_ext hx1.2.2.1.symm
  have z3 : s3 = ⟨#[35]⟩ := ba_ext hx1.2.2.2.symm
  subst z0 z1 z2 z3
  exact ⟨⟨tab, tru.1, tru.2⟩, World.var?_cell gMar hv4 0, World.var?_cell gMar hv4 1, World.var?_cell gMar hv4 2, World.var?_cell gMar hv4 3⟩

theorem wf_bd {a : Int} (h : (Lit.int .i64 a).wf = true) : -9223372036854775808 ≤ a ∧ a ≤ 9223372036854775807 := by
  simp [Lit.wf] at h
  have h1 : IntKind.i64.min = -9223372036854775808 := by decide
  have h2 : IntKind.i64.max = 9223372036854775807 := by decide
  omega

/-- The numbers of an entry are ints of the kind's width, its texts are texts. -/
structure EnW (x : En) : Prop where
  d1 : (Lit.int .i64 x.d.1).wf = true
  d2 : (Lit.int .i64 x.d.2).wf = true
  p : x.p.size ≤ maxLen
  k : (Lit.int .i64 x.k).wf = true
  vk : (Lit.int .i64 x.vk).wf = true
  vn : (Lit.int .i64 x.vn).wf = true
  vt : x.vt.size ≤ maxLen
  e1 : (Lit.int .i64 x.e.1).wf = true
  e2 : (Lit.int .i64 x.e.2).wf = true
theorem EnW.b {x : En} (h : EnW x) : EnB x :=
  ⟨(wf_bd h.d1).1, (wf_bd h.d1).2, (wf_bd h.d2).1, (wf_bd h.d2).2, (wf_bd h.vn).1, (wf_bd h.vn).2, (wf_bd h.e1).1, (wf_bd h.e1).2, (wf_bd h.e2).1, (wf_bd h.e2).2⟩
def dotE {H : Type} (x : Int × Int) : DataW H := .agg [.lit (.int .i64 x.1), .lit (.int .i64 x.2)]
def dataE {H : Type} (x : En) : DataW H := .agg [dotE x.d, .lit (.string x.p.data.toList), .lit (.int .i64 x.k), .agg [.lit (.int .i64 x.vk), .lit (.int .i64 x.vn), .lit (.string x.vt.data.toList)], dotE x.e]

section
variable {H : Type} {enc : TypeId × Value → H} {w : World} {base : Nat} {spare : Nat → Bool} {held : Bool}
theorem trod_dotE {n : Nat} {c0 c1 : Value} {y : DataW H × List MemPlace} (h : DataW.trod enc Tryd.prog w base spare held n 23 [c0, c1] = some y) :
    ∃ a : Int × Int, c0 = .int .i64 a.1 ∧ c1 = .int .i64 a.2 ∧ y = (dotE a, []) ∧ (Lit.int .i64 a.1).wf = true ∧ (Lit.int .i64 a.2).wf = true := by
  obtain ⟨y0, y1, m, rfl, _, h0, h1⟩ := trod_struct2 Tryd.underlying23 h
  simp only [cInt] at h0 h1
  obtain ⟨a, e0, rfl, w0⟩ := DataW.trod_int Tryd.underlying3 h0
  obtain ⟨b, e1, rfl, w1⟩ := DataW.trod_int Tryd.underlying3 h1
  simp at e0 e1
  subst e0 e1
  exact ⟨(a, b), rfl, rfl, rfl, w0, w1⟩
theorem trod_valE {n : Nat} {c0 c1 c2 : Value} {y : DataW H × List MemPlace} (h : DataW.trod enc Tryd.prog w base spare held n 25 [c0, c1, c2] = some y) :
    ∃ (a b : Int) (t : ByteArray), c0 = .int .i64 a ∧ c1 = .int .i64 b ∧ c2 = .string t ∧ y = (.agg [.lit (.int .i64 a), .lit (.int .i64 b), .lit (.string t.data.toList)], []) ∧ (Lit.int .i64 a).wf = true ∧ (Lit.int .i64 b).wf = true ∧ t.size ≤ maxLen := by
  obtain ⟨y0, y1, y2, m, rfl, _, h0, h1, h2⟩ := Deep.trod_struct3 Tryd.underlying25 h
  simp only [cInt, cStr] at h0 h1 h2
  obtain ⟨a, e0, rfl, w0⟩ := DataW.trod_int Tryd.underlying3 h0
  obtain ⟨b, e1, rfl, w1⟩ := DataW.trod_int Tryd.underlying3 h1
  obtain ⟨t, e2, rfl, w2⟩ := DataW.trod_string Tryd.underlying9 h2
  simp at e0 e1 e2
  subst e0 e1 e2
  exact ⟨a, b, t, rfl, rfl, rfl, rfl, w0, w1, w2⟩
set_option maxRecDepth 100000 in
theorem open_entry {r : Reach} {b0 : Nat} {v : Value} {d : DataW H} {p : List MemPlace} (hv : Value.okWide Tryd.prog w r b0 27 v) (h : DataW.Trod enc Tryd.prog w base spare held 27 v d p) :
    ∃ x : En, v = .agg #[.int .i64 x.d.1, .int .i64 x.d.2, .string x.p, .int .i64 x.k, .int .i64 x.vk, .int .i64 x.vn, .string x.vt, .int .i64 x.e.1, .int .i64 x.e.2] ∧ d = dataE x ∧ p = [] ∧ EnW x := by
  obtain ⟨cs, rfl, hsz⟩ := okWide_struct Tryd.underlying27 hv
  rw [cEnt] at hsz
  obtain ⟨l⟩ := cs
  obtain ⟨c0, c1, c2, c3, c4, c5, c6, c7, c8, rfl⟩ : ∃ c0 c1 c2 c3 c4 c5 c6 c7 c8, l = [c0, c1, c2, c3, c4, c5, c6, c7, c8] := by
    match l, hsz with
    | [c0, c1, c2, c3, c4, c5, c6, c7, c8], _ => exact ⟨c0, c1, c2, c3, c4, c5, c6, c7, c8, rfl⟩
  obtain ⟨fuel, hf⟩ := h
  obtain ⟨xs, n, _, hx, _, hxl, hfs⟩ := DataW.trod_struct Tryd.underlying27 hf
  obtain ⟨y0, y1, y2, y3, y4, rfl⟩ : ∃ y0 y1 y2 y3 y4, xs = [y0, y1, y2, y3, y4] := by
    match xs, hxl with
    | [y0, y1, y2, y3, y4], _ => exact ⟨y0, y1, y2, y3, y4, rfl⟩
  have h0 : DataW.trod enc Tryd.prog w base spare held n 23 (List.take (Tryd.prog.cellsOf 23) [c0, c1, c2, c3, c4, c5, c6, c7, c8]) = some y0 := hfs 0 _ rfl
  rw [cDot] at h0
  replace h0 : DataW.trod enc Tryd.prog w base spare held n 23 [c0, c1] = some y0 := h0
  have h1 : DataW.trod enc Tryd.prog w base spare held n 9 (List.take (Tryd.prog.cellsOf 9) [c2, c3, c4, c5, c6, c7, c8]) = some y1 := hfs 1 _ rfl
  rw [cStr] at h1
  replace h1 : DataW.trod enc Tryd.prog w base spare held n 9 [c2] = some y1 := h1
  have h2 : DataW.trod enc Tryd.prog w base spare held n 3 (List.take (Tryd.prog.cellsOf 3) [c3, c4, c5, c6, c7, c8]) = some y2 := hfs 2 _ rfl
  rw [cInt] at h2
  replace h2 : DataW.trod enc Tryd.prog w base spare held n 3 [c3] = some y2 := h2
  have h3 : DataW.trod enc Tryd.prog w base spare held n 25 (List.take (Tryd.prog.cellsOf 25) [c4, c5, c6, c7, c8]) = some y3 := hfs 3 _ rfl
  rw [cVal] at h3
  replace h3 : DataW.trod enc Tryd.prog w base spare held n 25 [c4, c5, c6] = some y3 := h3
  have h4 : DataW.trod enc Tryd.prog w base spare held n 23 (List.take (Tryd.prog.cellsOf 23) [c7, c8]) = some y4 := hfs 4 _ rfl
  rw [cDot] at h4
  replace h4 : DataW.trod enc Tryd.prog w base spare held n 23 [c7, c8] = some y4 := h4
  obtain ⟨dd, rfl, rfl, rfl, w0, w1⟩ := trod_dotE h0
  obtain ⟨pp, e2, rfl, w2⟩ := DataW.trod_string Tryd.underlying9 h1
  obtain ⟨kk, e3, rfl, w3⟩ := DataW.trod_int Tryd.underlying3 h2
  obtain ⟨vk, vn, vt, rfl, rfl, rfl, rfl, w4, w5, w6⟩ := trod_valE h3
  obtain ⟨ee, rfl, rfl, rfl, w7, w8⟩ := trod_dotE h4
  simp only [List.cons.injEq, and_true] at e2 e3
  subst e2 e3
  simp at hx
  exact ⟨⟨dd, pp, kk, vk, vn, vt, ee⟩, rfl, hx.1, hx.2, w0, w1, w2, w3, w4, w5, w6, w7, w8⟩
theorem mk_dotE {a : Int × Int} (w0 : (Lit.int .i64 a.1).wf = true) (w1 : (Lit.int .i64 a.2).wf = true) : DataW.trod enc Tryd.prog w base spare held 2 23 [.int .i64 a.1, .int .i64 a.2] = some (dotE a, []) :=
  trod_struct2_mk (y0 := (.lit (.int .i64 a.1), [])) (y1 := (.lit (.int .i64 a.2), [])) Tryd.underlying23 cDot.symm (by simp only [cInt]; exact trod_int_mk 0 Tryd.underlying3 w0) (by simp only [cInt]; exact trod_int_mk 0 Tryd.underlying3 w1)
theorem mk_strE {t : ByteArray} (m : Nat) (h : t.size ≤ maxLen) : DataW.trod enc Tryd.prog w base spare held (m + 1) 9 [.string t] = some (.lit (.string t.data.toList), []) := by
  simp [DataW.trod, Tryd.underlying9, h]
theorem mk_valE {k n : Int} {t : ByteArray} (w0 : (Lit.int .i64 k).wf = true) (w1 : (Lit.int .i64 n).wf = true) (w2 : t.size ≤ maxLen) :
    DataW.trod enc Tryd.prog w base spare held 2 25 [.int .i64 k, .int .i64 n, .string t] = some (.agg [.lit (.int .i64 k), .lit (.int .i64 n), .lit (.string t.data.toList)], []) :=
  Deep.trod_struct3_mk (y0 := (.lit (.int .i64 k), [])) (y1 := (.lit (.int .i64 n), [])) (y2 := (.lit (.string t.data.toList), [])) Tryd.underlying25 cVal.symm (by simp only [cInt]; exact trod_int_mk 0 Tryd.underlying3 w0) (by simp only [cInt]; exact trod_int_mk 0 Tryd.underlying3 w1) (by simp only [cStr]; exact mk_strE 0 w2)
theorem shut_entry {x : En} (h : EnW x) : DataW.Trod enc Tryd.prog w base spare held 27 (.agg #[.int .i64 x.d.1, .int .i64 x.d.2, .string x.p, .int .i64 x.k, .int .i64 x.vk, .int .i64 x.vn, .string x.vt, .int .i64 x.e.1, .int .i64 x.e.2]) (dataE x) [] := by
  have t0 : DataW.trod enc Tryd.prog w base spare held 2 23 [.int .i64 x.d.1, .int .i64 x.d.2] = some (dotE x.d, []) := mk_dotE h.d1 h.d2
  have t1 : DataW.trod enc Tryd.prog w base spare held 2 9 [.string x.p] = some (.lit (.string x.p.data.toList), []) := mk_strE 1 h.p
  have t2 : DataW.trod enc Tryd.prog w base spare held 2 3 [.int .i64 x.k] = some (.lit (.int .i64 x.k), []) := trod_int_mk 1 Tryd.underlying3 h.k
  have t3 : DataW.trod enc Tryd.prog w base spare held 2 25 [.int .i64 x.vk, .int .i64 x.vn, .string x.vt] = some (.agg [.lit (.int .i64 x.vk), .lit (.int .i64 x.vn), .lit (.string x.vt.data.toList)], []) := mk_valE h.vk h.vn h.vt
  have t4 : DataW.trod enc Tryd.prog w base spare held 2 23 [.int .i64 x.e.1, .int .i64 x.e.2] = some (dotE x.e, []) := mk_dotE h.e1 h.e2
  have ts := trod_struct_mk (enc := enc) (w := w) (base := base) (spare := spare) (held := held) (n := 2) (cs := [.int .i64 x.d.1, .int .i64 x.d.2, .string x.p, .int .i64 x.k, .int .i64 x.vk, .int .i64 x.vn, .string x.vt, .int .i64 x.e.1, .int .i64 x.e.2])
    (xs := [(dotE x.d, []), (.lit (.string x.p.data.toList), []), (.lit (.int .i64 x.k), []), (.agg [.lit (.int .i64 x.vk), .lit (.int .i64 x.vn), .lit (.string x.vt.data.toList)], []), (dotE x.e, [])]) Tryd.underlying27 cEnt.symm (by
      simp only [List.mapM_cons, List.mapM_nil, cDot, cStr, cInt, cVal, List.drop_zero, List.drop_succ_cons, List.take_succ_cons, List.take_zero, t0, t1, t2, t3, t4]
      rfl)
  exact ⟨_, ts⟩
theorem sized_p {ts : List TypeId} {ds : List (DataW H)} (h : (DataW.weightsEach Tryd.prog ts ds).all (· ≤ reachBytes) = true) {j : Nat} {x : En} (ht : ts[j]? = some 27) (hd : ds[j]? = some (dataE x)) :
    x.p.size ≤ 140737488351232 ∧ x.vt.size ≤ 140737488351232 := by
  have h1 := List.all_eq_true.1 h _ (DataW.weights_mem_each ht hd x.p.data.toList.length (by simp [DataW.weights, DataW.weightsEach, dataE, dotE, Tryd.underlying27]))
  have h2 := List.all_eq_true.1 h _ (DataW.weights_mem_each ht hd x.vt.data.toList.length (by simp [DataW.weights, DataW.weightsEach, dataE, dotE, Tryd.underlying27, Tryd.underlying25]))
  have e : reachBytes = 140737488351232 := by decide
  rw [e] at h1 h2
  exact ⟨by simpa using h1, by simpa using h2⟩
end
end Go.Proofs.YtoanccojpppfoaaDoor
