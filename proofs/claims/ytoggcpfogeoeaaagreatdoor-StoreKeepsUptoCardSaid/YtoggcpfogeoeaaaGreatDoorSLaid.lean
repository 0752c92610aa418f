/-
  What is proved: what the rows' condition on the listed variables gives the walks; slices of entries and of dots among the arguments, opened: what they hold, and that their texts are no longer than the condition's bulk; what is read of the arguments reads on.
-/
import Derived.Test.YtoggcpfogeoeaaaGreatDoorRows
import Derived.Test.YtoggcpfogeoeaaaGreatDoorM36
import Derived.ProofKit
import Derived.LaidMore
import Derived.OpenShut
import Derived.ChangeMaps5
import Derived.Stop.Joined
import Derived.Lib.SmallJoins
import Derived.Lib.LaidTab
import Derived.SizedLaws
import Derived.MakeChecks
import Derived.Carry
import Derived.WideKeyArgs
import Derived.Deep.Strs
import Derived.Deep.Frames
import Derived.Deep.SlicePairs
namespace Go.Proofs.YtoggcpfogeoeaaaGreatDoor
open Go.ChangeShapes Go.WideShapes Go.ChangeAt Go.RowKit Go.Joins

theorem laidOut : laidOutB Tryz.prog = true := by kernel_rfl
theorem own : ownKnob Tryz.prog.godebug = none := by kernel_rfl
theorem gPow : Tryz.prog.globalNamed "internal/strconv.uint64pow10" = some 3 := by kernel_rfl
theorem gTru : Tryz.prog.globalNamed "lorgnette/val.truths" = some 1 := by kernel_rfl
theorem tPow : (Tryz.prog.globals[3]?).map (·.type) = some 178 := by kernel_rfl
theorem tTru : (Tryz.prog.globals[1]?).map (·.type) = some 146 := by kernel_rfl
theorem cPow : Tryz.prog.cellsOf 178 = 20 := by kernel_rfl
theorem cU64 : Tryz.prog.cellsOf 82 = 1 := by kernel_rfl
theorem cTru : Tryz.prog.cellsOf 146 = 2 := by kernel_rfl
theorem cStr : Tryz.prog.cellsOf 9 = 1 := by kernel_rfl
theorem cVal : Tryz.prog.cellsOf 33 = 3 := by kernel_rfl

theorem dPow : (Rows.laid_internal_strconv_uint64pow10 : DataW Unit) = Lib.tabData .u64 Lib.pow10Tab := by
  unfold Rows.laid_internal_strconv_uint64pow10 Lib.tabData Lib.pow10Tab
  rfl

theorem gMar : Tryz.prog.globalNamed "lorgnette/entry.marks" = some 0 := by kernel_rfl
theorem tMar : (Tryz.prog.globals[0]?).map (·.type) = some 118 := by kernel_rfl
theorem cMar : Tryz.prog.cellsOf 118 = 4 := by kernel_rfl
theorem cDot : Tryz.prog.cellsOf 31 = 2 := by kernel_rfl
theorem cInt : Tryz.prog.cellsOf 3 = 1 := by kernel_rfl
theorem cEnt : Tryz.prog.cellsOf 35 = 9 := by kernel_rfl

set_option maxRecDepth 100000 in
theorem laid_e {W : World} (h : laidMetH Tryz.prog Rows.storeKeepsUptoRow.laid W) : LaidE W := by
  rw [MakeChecks.laidMetH_plain _ _ _ (by kernel_rfl)] at h
  obtain ⟨ps, ⟨_, _, _, _, _, _, _, _, _, _, ⟨_, _, _, _, _, _, _, _, _, _, ⟨g2, t2, cs2, f2, p2, q2, hg2, ht2, hv2, hd2, ⟨g3, t3, cs3, f3, p3, q3, hg3, ht3, hv3, hd3, ⟨g4, t4, cs4, f4, p4, q4, hg4, ht4, hv4, hd4, _, _⟩, _⟩, _⟩, _⟩, _⟩, _, _⟩ := h
  obtain rfl := Option.some.inj (gPow.symm.trans hg2)
  obtain rfl := Option.some.inj (tPow.symm.trans ht2)
  obtain rfl := Option.some.inj (gTru.symm.trans hg3)
  obtain rfl := Option.some.inj (tTru.symm.trans ht3)
  obtain rfl := Option.some.inj (gMar.symm.trans hg4)
  obtain rfl := Option.some.inj (tMar.symm.trans ht4)
  rw [dPow] at hd2
  have tab : Lib.TabIs Tryz.prog W "internal/strconv.uint64pow10" .u64 Lib.pow10Tab := by
    unfold Lib.TabIs
    rw [hv2, ← Lib.cells_of_tab Tryz.underlying178 Tryz.underlying82 cU64 cPow hd2]
  have tru : W.cell? ⟨1, 0, none⟩ = some (.string noS) ∧ W.cell? ⟨1, 1, none⟩ = some (.string yesS) := by
    obtain ⟨xs, m, rfl, hx, hlen, hn, hel⟩ := DataW.trod_array Tryz.underlying146 hd3
    have e0 := hel 0 (by decide)
    have e1 := hel 1 (by decide)
    obtain ⟨y0, y1, rfl⟩ : ∃ y0 y1, xs = [y0, y1] := by
      match xs, hn with
      | [y0, y1], _ => exact ⟨y0, y1, rfl⟩
    rw [cStr] at e0 e1
    obtain ⟨s0, a0, b0, _⟩ := DataW.trod_string Tryz.underlying9 (e0.trans rfl)
    obtain ⟨s1, a1, b1, _⟩ := DataW.trod_string Tryz.underlying9 (e1.trans rfl)
    have hx1 := congrArg Prod.fst hx
    rw [b0, b1] at hx1
    simp only [Rows.laid_lorgnette_val_truths, List.map_cons, List.map_nil, DataW.agg.injEq, List.cons.injEq, DataW.lit.injEq, Lit.string.injEq, and_true] at hx1
    rw [cTru] at hlen
    obtain ⟨l⟩ := cs3
    obtain ⟨c0, c1, rfl⟩ : ∃ c0 c1, l = [c0, c1] := by
      match l, hlen with
      | [c0, c1], _ => exact ⟨c0, c1, rfl⟩
    simp at a0 a1
    subst a0 a1
    have z0 : s0 = noS := ba_ext hx1.1.symm
    have z1 : s1 = yesS := ba_ext hx1.2.symm
    subst z0 z1
    exact ⟨World.var?_cell gTru hv3 0, World.var?_cell gTru hv3 1⟩
  obtain ⟨xs, m, rfl, hx, hlen, hn, hel⟩ := DataW.trod_array Tryz.underlying118 hd4
  have e0 := hel 0 (by decide)
  have e1 := hel 1 (by decide)
  have e2 := hel 2 (by decide)
  have e3 := hel 3 (by decide)
  obtain ⟨y0, y1, y2, y3, rfl⟩ : ∃ y0 y1 y2 y3, xs = [y0, y1, y2, y3] := by
    match xs, hn with
    | [y0, y1, y2, y3], _ => exact ⟨y0, y1, y2, y3, rfl⟩
  rw [cStr] at e0 e1 e2 e3
  obtain ⟨s0, a0, b0, _⟩ := DataW.trod_string Tryz.underlying9 (e0.trans rfl)
  obtain ⟨s1, a1, b1, _⟩ := DataW.trod_string Tryz.underlying9 (e1.trans rfl)
  obtain ⟨s2, a2, b2, _⟩ := DataW.trod_string Tryz.underlying9 (e2.trans rfl)
  obtain ⟨s3, a3, b3, _⟩ := DataW.trod_string Tryz.underlying9 (e3.trans rfl)
  have hx1 := congrArg Prod.fst hx
  rw [b0, b1, b2, b3] at hx1
  simp only [Rows.laid_lorgnette_entry_marks, List.map_cons, List.map_nil, DataW.agg.injEq, List.cons.injEq, DataW.lit.injEq, Lit.string.injEq, and_true] at hx1
  rw [cMar] at hlen
  obtain ⟨l⟩ := cs4
  obtain ⟨c0, c1, c2, c3, rfl⟩ : ∃ c0 c1 c2 c3, l = [c0, c1, c2, c3] := by
    match l, hlen with
    | [c0, c1, c2, c3], _ => exact ⟨c0, c1, c2, c3, rfl⟩
  simp at a0 a1 a2 a3
  subst a0 a1 a2 a3
  have z0 : s0 = ⟨#[63]⟩ := ba_ext hx1.1.symm
  have z1 : s1 = ⟨#[61]⟩ := ba_ext hx1.2.1.symm
  have z2 : s2 = ⟨#[43]⟩ := ba_ext hx1.2.2.1.symm
  have z3 : s3 = ⟨#[35]⟩ := ba_ext hx1.2.2.2.symm
  subst z0 z1 z2 z3
  exact ⟨⟨tab, tru.1, tru.2⟩, World.var?_cell gMar hv4 0, World.var?_cell gMar hv4 1, World.var?_cell gMar hv4 2, World.var?_cell gMar hv4 3⟩

theorem wf_bd {a : Int} (h : (Lit.int .i64 a).wf = true) : -9223372036854775808 ≤ a ∧ a ≤ 9223372036854775807 := by
  simp [Lit.wf] at h
  have h1 : IntKind.i64.min = -9223372036854775808 := by decide
  have h2 : IntKind.i64.max = 9223372036854775807 := by decide
  omega

def Bd (a : Int) : Prop := -9223372036854775808 ≤ a ∧ a ≤ 9223372036854775807
/-- The numbers of an entry are ints of the kind's width, its texts are texts. -/
structure EnW (x : En) : Prop where
  d1 : (Lit.int .i64 x.d.1).wf = true
  d2 : (Lit.int .i64 x.d.2).wf = true
  p : x.p.size ≤ maxLen
  k : (Lit.int .i64 x.k).wf = true
  vk : (Lit.int .i64 x.vk).wf = true
  vn : (Lit.int .i64 x.vn).wf = true
  vt : x.vt.size ≤ maxLen
  e1 : (Lit.int .i64 x.e.1).wf = true
  e2 : (Lit.int .i64 x.e.2).wf = true
theorem EnW.b {x : En} (h : EnW x) : EnB x :=
  ⟨(wf_bd h.d1).1, (wf_bd h.d1).2, (wf_bd h.d2).1, (wf_bd h.d2).2, (wf_bd h.vn).1, (wf_bd h.vn).2, (wf_bd h.e1).1, (wf_bd h.e1).2, (wf_bd h.e2).1, (wf_bd h.e2).2⟩
def dotE {H : Type} (x : Int × Int) : DataW H := .agg [.lit (.int .i64 x.1), .lit (.int .i64 x.2)]
def dataE {H : Type} (x : En) : DataW H := .agg [dotE x.d, .lit (.string x.p.data.toList), .lit (.int .i64 x.k), .agg [.lit (.int .i64 x.vk), .lit (.int .i64 x.vn), .lit (.string x.vt.data.toList)], dotE x.e]

section
variable {H : Type} {enc : TypeId × Value → H} {w : World} {base : Nat} {spare : Nat → Bool} {held : Bool}
theorem trod_dotE {n : Nat} {c0 c1 : Value} {y : DataW H × List MemPlace} (h : DataW.trod enc Tryz.prog w base spare held n 31 [c0, c1] = some y) :
    ∃ a : Int × Int, c0 = .int .i64 a.1 ∧ c1 = .int .i64 a.2 ∧ y = (dotE a, []) ∧ (Lit.int .i64 a.1).wf = true ∧ (Lit.int .i64 a.2).wf = true := by
  obtain ⟨y0, y1, m, rfl, _, h0, h1⟩ := trod_struct2 Tryz.underlying31 h
  simp only [cInt] at h0 h1
  obtain ⟨a, e0, rfl, w0⟩ := DataW.trod_int Tryz.underlying3 h0
  obtain ⟨b, e1, rfl, w1⟩ := DataW.trod_int Tryz.underlying3 h1
  simp at e0 e1
  subst e0 e1
  exact ⟨(a, b), rfl, rfl, rfl, w0, w1⟩
theorem trod_valE {n : Nat} {c0 c1 c2 : Value} {y : DataW H × List MemPlace} (h : DataW.trod enc Tryz.prog w base spare held n 33 [c0, c1, c2] = some y) :
    ∃ (a b : Int) (t : ByteArray), c0 = .int .i64 a ∧ c1 = .int .i64 b ∧ c2 = .string t ∧ y = (.agg [.lit (.int .i64 a), .lit (.int .i64 b), .lit (.string t.data.toList)], []) ∧ (Lit.int .i64 a).wf = true ∧ (Lit.int .i64 b).wf = true ∧ t.size ≤ maxLen := by
  obtain ⟨y0, y1, y2, m, rfl, _, h0, h1, h2⟩ := Deep.trod_struct3 Tryz.underlying33 h
  simp only [cInt, cStr] at h0 h1 h2
  obtain ⟨a, e0, rfl, w0⟩ := DataW.trod_int Tryz.underlying3 h0
  obtain ⟨b, e1, rfl, w1⟩ := DataW.trod_int Tryz.underlying3 h1
  obtain ⟨t, e2, rfl, w2⟩ := DataW.trod_string Tryz.underlying9 h2
  simp at e0 e1 e2
  subst e0 e1 e2
  exact ⟨a, b, t, rfl, rfl, rfl, rfl, w0, w1, w2⟩
instance : Inhabited En := ⟨.none⟩
theorem trod_entE {fuel : Nat} {l : List Value} {y : DataW H × List MemPlace} (hsz : l.length = 9) (hf : DataW.trod enc Tryz.prog w base spare held fuel 35 l = some y) :
    ∃ x : En, l = cellE x ∧ y = (dataE x, []) ∧ EnW x := by
  obtain ⟨c0, c1, c2, c3, c4, c5, c6, c7, c8, rfl⟩ : ∃ c0 c1 c2 c3 c4 c5 c6 c7 c8, l = [c0, c1, c2, c3, c4, c5, c6, c7, c8] := by
    match l, hsz with
    | [c0, c1, c2, c3, c4, c5, c6, c7, c8], _ => exact ⟨c0, c1, c2, c3, c4, c5, c6, c7, c8, rfl⟩
  obtain ⟨xs, n, _, hx, _, hxl, hfs⟩ := DataW.trod_struct Tryz.underlying35 hf
  obtain ⟨y0, y1, y2, y3, y4, rfl⟩ : ∃ y0 y1 y2 y3 y4, xs = [y0, y1, y2, y3, y4] := by
    match xs, hxl with
    | [y0, y1, y2, y3, y4], _ => exact ⟨y0, y1, y2, y3, y4, rfl⟩
  have h0 : DataW.trod enc Tryz.prog w base spare held n 31 (List.take (Tryz.prog.cellsOf 31) [c0, c1, c2, c3, c4, c5, c6, c7, c8]) = some y0 := hfs 0 _ rfl
  rw [cDot] at h0
  replace h0 : DataW.trod enc Tryz.prog w base spare held n 31 [c0, c1] = some y0 := h0
  have h1 : DataW.trod enc Tryz.prog w base spare held n 9 (List.take (Tryz.prog.cellsOf 9) [c2, c3, c4, c5, c6, c7, c8]) = some y1 := hfs 1 _ rfl
  rw [cStr] at h1
  replace h1 : DataW.trod enc Tryz.prog w base spare held n 9 [c2] = some y1 := h1
  have h2 : DataW.trod enc Tryz.prog w base spare held n 3 (List.take (Tryz.prog.cellsOf 3) [c3, c4, c5, c6, c7, c8]) = some y2 := hfs 2 _ rfl
  rw [cInt] at h2
  replace h2 : DataW.trod enc Tryz.prog w base spare held n 3 [c3] = some y2 := h2
  have h3 : DataW.trod enc Tryz.prog w base spare held n 33 (List.take (Tryz.prog.cellsOf 33) [c4, c5, c6, c7, c8]) = some y3 := hfs 3 _ rfl
  rw [cVal] at h3
  replace h3 : DataW.trod enc Tryz.prog w base spare held n 33 [c4, c5, c6] = some y3 := h3
  have h4 : DataW.trod enc Tryz.prog w base spare held n 31 (List.take (Tryz.prog.cellsOf 31) [c7, c8]) = some y4 := hfs 4 _ rfl
  rw [cDot] at h4
  replace h4 : DataW.trod enc Tryz.prog w base spare held n 31 [c7, c8] = some y4 := h4
  obtain ⟨dd, rfl, rfl, rfl, w0, w1⟩ := trod_dotE h0
  obtain ⟨pp, e2, rfl, w2⟩ := DataW.trod_string Tryz.underlying9 h1
  obtain ⟨kk, e3, rfl, w3⟩ := DataW.trod_int Tryz.underlying3 h2
  obtain ⟨vk, vn, vt, rfl, rfl, rfl, rfl, w4, w5, w6⟩ := trod_valE h3
  obtain ⟨ee, rfl, rfl, rfl, w7, w8⟩ := trod_dotE h4
  simp only [List.cons.injEq, and_true] at e2 e3
  subst e2 e3
  exact ⟨⟨dd, pp, kk, vk, vn, vt, ee⟩, rfl, by rw [hx]; rfl, w0, w1, w2, w3, w4, w5, w6, w7, w8⟩
theorem open_ents {fuel : Nat} {v : Value} {x : DataW H × List MemPlace} (h : DataW.trod enc Tryz.prog w base spare held fuel 22 [v] = some x) :
    ∃ A n c L rest, v = .slice A n c ∧ El w A n c L ∧ (∀ y ∈ L, EnW y) ∧ (x.1 = .slice (L.map dataE) rest ∨ L = []) := by
  rcases Deep.open_slice Tryz.underlying22 h with ⟨hcs, hx⟩ | ⟨a, len, cap, m, n, D, Pl, hcs, _, hl, hm, hmm, hx, hel⟩
  · simp at hcs
    subst hcs
    exact ⟨none, 0, 0, [], [], rfl, El.nil _, (fun y hy => by cases hy), .inr rfl⟩
  · simp at hcs
    subst hcs
    have hlm : len ≤ m := by rw [hmm]; split <;> omega
    rw [cEnt] at hel
    obtain ⟨f, hf⟩ := Deep.choose_lt (n := len) (p := fun i (x : En) => (∀ j u, (cellE x)[j]? = some u → w.cell? ((a.add (i * 9)).add j) = some u) ∧ D i = dataE x ∧ EnW x) (fun i hi => by
      obtain ⟨cs', h1, h2⟩ := hel i (by omega)
      obtain ⟨_, hlen, hcell⟩ := World.cells?_some h1
      obtain ⟨x, rfl, hy, hw⟩ := trod_entE hlen h2
      refine ⟨x, fun j u hu => ?_, congrArg Prod.fst hy, hw⟩
      have hj : j < 9 := (List.getElem?_eq_some_iff.1 hu).1
      rw [hcell j hj]; exact hu)
    refine ⟨some a, len, cap, (List.range len).map f, (List.range (m - len)).map fun j => D (len + j), rfl, ⟨by simp, hl, hm, (fun h => by cases h), ?_⟩, fun y hy => ?_, .inl ?_⟩
    · rcases Nat.eq_zero_or_pos len with h0 | h0
      · exact .inl h0
      · obtain ⟨b, off, spot⟩ := a
        have hspot : spot = none := by simpa [Addr.add] using World.cell?_spot ((hf 0 h0).1 0 _ rfl)
        subst hspot
        refine .inr ⟨b, off, rfl, fun j x hj => ?_⟩
        have hj2 := (List.getElem?_eq_some_iff.1 hj).1
        rw [List.length_map, List.length_range] at hj2
        rw [List.getElem?_map, List.getElem?_range hj2] at hj
        obtain rfl := Option.some.inj hj
        refine EntO.of_flat fun i u hu => ?_
        have := (hf j hj2).1 i u hu
        rw [Addr.add_lit, Addr.add_lit] at this
        exact this
    · obtain ⟨i, hi, rfl⟩ := List.mem_map.1 hy
      exact (hf i (List.mem_range.1 hi)).2.2
    · rw [hx]
      rw [List.map_map]
      exact congrArg (fun z => DataW.slice z _) (List.map_congr_left fun i hi => (hf i (List.mem_range.1 hi)).2.1)
/-- What the condition's bulk gives: a text among the entries is no longer. -/
theorem bulk_part {d : DataW H} {l : List (DataW H)} (h : d ∈ l) : Rows.uptoBulk d ≤ Rows.uptoBulkAll l := by
  induction l with
  | nil => cases h
  | cons x r ih =>
    simp only [Rows.uptoBulkAll]
    cases List.mem_cons.1 h with
    | inl e => subst e; omega
    | inr e => have := ih e; omega
theorem bulk_ent (x : En) : x.p.size ≤ Rows.uptoBulk (H := H) (dataE x) ∧ x.vt.size ≤ Rows.uptoBulk (H := H) (dataE x) := by
  simp only [dataE, dotE, Rows.uptoBulk, Rows.uptoBulkAll]
  rw [show x.p.data.toList.length = x.p.size by simp, show x.vt.data.toList.length = x.vt.size by simp]
  omega
set_option maxRecDepth 100000 in
theorem open_entsT {r : Reach} {b0 : Nat} {v : Value} {d : DataW H} {p : List MemPlace} (hv : Value.okWide Tryz.prog w r b0 22 v) (h : DataW.Trod enc Tryz.prog w base spare held 22 v d p) :
    ∃ A n c L, v = .slice A n c ∧ El w A n c L ∧ (∀ x ∈ L, EnW x) ∧ ∀ x ∈ L, x.p.size ≤ Rows.uptoBulk d ∧ x.vt.size ≤ Rows.uptoBulk d := by
  obtain ⟨a0, len, cap, rfl⟩ := okWide_slice Tryz.underlying22 hv
  obtain ⟨fuel, hf⟩ := h
  obtain ⟨A, n, c, L, rest, hvv, hel, hw, hx⟩ := open_ents (x := (d, p)) (by simpa [Value.cells] using hf)
  refine ⟨A, n, c, L, hvv, hel, hw, fun x hx2 => ?_⟩
  rcases hx with hx | hx
  · simp only at hx
    have h1 := bulk_ent (H := H) x
    have h2 := bulk_part (H := H) (l := L.map dataE) (List.mem_map.2 ⟨x, hx2, rfl⟩)
    rw [hx]
    simp only [Rows.uptoBulk]
    omega
  · rw [hx] at hx2; cases hx2
theorem open_dotsV {fuel : Nat} {v : Value} {x : DataW H × List MemPlace} (h : DataW.trod enc Tryz.prog w base spare held fuel 23 [v] = some x) :
    ∃ A n c L, v = .slice A n c ∧ Dl w A n c L ∧ ∀ d ∈ L, Bd d.1 ∧ Bd d.2 := by
  rcases Deep.open_slice_pairs Tryz.underlying23 Tryz.underlying31 cDot rfl rfl (by kernel_rfl) (by kernel_rfl) h with ⟨hcs, _⟩ | ⟨a, len, cap, m, n, V0, V1, D0, D1, P0, P1, hcs, _, hl, hm, hmm, _, hel⟩
  · simp at hcs
    subst hcs
    exact ⟨none, 0, 0, [], rfl, Dl.nil _, fun d hd => by cases hd⟩
  · simp at hcs
    subst hcs
    have hlm : len ≤ m := by rw [hmm]; split <;> omega
    have ints : ∀ i, i < len → (V0 i = .int .i64 (intOf (V0 i)) ∧ Bd (intOf (V0 i))) ∧ V1 i = .int .i64 (intOf (V1 i)) ∧ Bd (intOf (V1 i)) := fun i hi => by
      obtain ⟨_, _, h0, h1⟩ := hel i (by omega)
      obtain ⟨k, e0, _, w0⟩ := DataW.trod_int Tryz.underlying3 h0
      obtain ⟨k', e1, _, w1⟩ := DataW.trod_int Tryz.underlying3 h1
      simp at e0 e1
      rw [e0, e1]
      exact ⟨⟨rfl, wf_bd w0⟩, rfl, wf_bd w1⟩
    refine ⟨some a, len, cap, (List.range len).map fun i => (intOf (V0 i), intOf (V1 i)), rfl, ⟨by simp, hl, hm, (fun h => by cases h), ?_⟩, fun d hd => ?_⟩
    · rcases Nat.eq_zero_or_pos len with h0 | h0
      · exact .inl h0
      · obtain ⟨b, off, spot⟩ := a
        have hspot : spot = none := by simpa [Addr.add] using World.cell?_spot (hel 0 (by omega)).1
        subst hspot
        refine .inr ⟨b, off, rfl, fun j x hj => ?_⟩
        have hj2 := (List.getElem?_eq_some_iff.1 hj).1
        rw [List.length_map, List.length_range] at hj2
        rw [List.getElem?_map, List.getElem?_range hj2] at hj
        obtain rfl := Option.some.inj hj
        obtain ⟨g0, g1, _, _⟩ := hel j (by omega)
        rw [(ints j hj2).1.1, Addr.add_lit] at g0
        rw [(ints j hj2).2.1, Addr.add_lit] at g1
        exact ⟨g0, g1⟩
    · obtain ⟨i, hi, rfl⟩ := List.mem_map.1 hd
      have := ints i (List.mem_range.1 hi)
      exact ⟨this.1.2, this.2.2⟩
set_option maxRecDepth 100000 in
theorem open_dotsT {r : Reach} {b0 : Nat} {v : Value} {d : DataW H} {p : List MemPlace} (hv : Value.okWide Tryz.prog w r b0 23 v) (h : DataW.Trod enc Tryz.prog w base spare held 23 v d p) :
    ∃ A n c L, v = .slice A n c ∧ Dl w A n c L ∧ ∀ d ∈ L, Bd d.1 ∧ Bd d.2 := by
  obtain ⟨a0, len, cap, rfl⟩ := okWide_slice Tryz.underlying23 hv
  obtain ⟨fuel, hf⟩ := h
  exact open_dotsV (x := (d, p)) (by simpa [Value.cells] using hf)
end
theorem Kept.same {W W' : World} (h : Kept W W') {p : MemPlace} (hp : p.block < W.heap.size) : W.sameAt W' p := by
  cases p with
  | cell b o => exact World.cell?_of_block (w := W) (h.blk hp)
  | map b => exact h.blk hp
theorem Kept.trod {H : Type} {enc : TypeId × Value → H} {t : TypeId} (hr : Tryz.prog.readableRec t = true) (hrow : t < Tryz.prog.types.size) {W W' : World} {v : Value} {d : DataW H} {ps : List MemPlace}
    (h : DataW.Trod enc Tryz.prog W 0 (fun _ => true) true t v d ps) (hb : Kept W W') (hlt : ∀ x ∈ ps, x.block < W.heap.size) :
    DataW.Trod enc Tryz.prog W' 0 (fun b => decide (b < W.heap.size)) true t v d ps :=
  WideElems.Trod_stays laidOut hr hrow h (fun x hx => hb.same (hlt x hx)) (fun x hx => by simpa using hlt x hx)
end Go.Proofs.YtoggcpfogeoeaaaGreatDoor
