/-
  What is proved: what the rows' condition on the listed variables gives the walks; a dot (a struct of two ints), by value, opened and shut; a slice of dots among the arguments, opened; what is read of the arguments reads on.
-/
import Derived.Test.YtnfchfldpdnjoaaDoorRows
import Derived.Test.YtnfchfldpdnjoaaDoorDAwake
import Derived.ProofKit
import Derived.LaidMore
import Derived.OpenShut
import Derived.ChangeMaps5
import Derived.Stop.Joined
import Derived.Lib.SmallJoins
import Derived.Lib.LaidTab
import Derived.SizedLaws
import Derived.MakeChecks
import Derived.Carry
import Derived.WideKeyArgs
import Derived.Deep.Frames
import Derived.Deep.SlicePairs
namespace Go.Proofs.YtnfchfldpdnjoaaDoor
open Go.ChangeShapes Go.WideShapes Go.ChangeAt Go.RowKit Go.Joins

theorem own : ownKnob Tryd.prog.godebug = none := by kernel_rfl
theorem gPow : Tryd.prog.globalNamed "internal/strconv.uint64pow10" = some 1 := by kernel_rfl
theorem gTru : Tryd.prog.globalNamed "lorgnette/val.truths" = some 0 := by kernel_rfl
theorem tPow : (Tryd.prog.globals[1]?).map (·.type) = some 93 := by kernel_rfl
theorem tTru : (Tryd.prog.globals[0]?).map (·.type) = some 65 := by kernel_rfl
theorem cPow : Tryd.prog.cellsOf 93 = 20 := by kernel_rfl
theorem cU64 : Tryd.prog.cellsOf 52 = 1 := by kernel_rfl
theorem cTru : Tryd.prog.cellsOf 65 = 2 := by kernel_rfl
theorem cStr : Tryd.prog.cellsOf 9 = 1 := by kernel_rfl
theorem cDot : Tryd.prog.cellsOf 24 = 2 := by kernel_rfl

theorem dPow : (Rows.laid_internal_strconv_uint64pow10 : DataW Unit) = Lib.tabData .u64 Lib.pow10Tab := by
  unfold Rows.laid_internal_strconv_uint64pow10 Lib.tabData Lib.pow10Tab
  rfl

theorem laid_w {W : World} (h : laidMetH Tryd.prog Rows.dotSaysRow.laid W) : LaidW W := by
  rw [MakeChecks.laidMetH_plain _ _ _ (by kernel_rfl)] at h
  obtain ⟨ps, ⟨_, _, _, _, _, _, _, _, _, _, ⟨_, _, _, _, _, _, _, _, _, _, ⟨g2, t2, cs2, f2, p2, q2, hg2, ht2, hv2, hd2, ⟨g3, t3, cs3, f3, p3, q3, hg3, ht3, hv3, hd3, _, _⟩, _⟩, _⟩, _⟩, _, _⟩ := h
  obtain rfl := Option.some.inj (gPow.symm.trans hg2)
  obtain rfl := Option.some.inj (tPow.symm.trans ht2)
  obtain rfl := Option.some.inj (gTru.symm.trans hg3)
  obtain rfl := Option.some.inj (tTru.symm.trans ht3)
  rw [dPow] at hd2
  have tab : Lib.TabIs Tryd.prog W "internal/strconv.uint64pow10" .u64 Lib.pow10Tab := by
    unfold Lib.TabIs
    rw [hv2, ← Lib.cells_of_tab Tryd.underlying93 Tryd.underlying52 cU64 cPow hd2]
  obtain ⟨xs, m, rfl, hx, hlen, hn, hel⟩ := DataW.trod_array Tryd.underlying65 hd3
  have e0 := hel 0 (by decide)
  have e1 := hel 1 (by decide)
  obtain ⟨y0, y1, rfl⟩ : ∃ y0 y1, xs = [y0, y1] := by
    match xs, hn with
    | [y0, y1], _ => exact ⟨y0, y1, rfl⟩
  rw [cStr] at e0 e1
  obtain ⟨s0, a0, b0, _⟩ := DataW.trod_string Tryd.underlying9 (e0.trans rfl)
  obtain ⟨s1, a1, b1, _⟩ := DataW.trod_string Tryd.underlying9 (e1.trans rfl)
  have hx1 := congrArg Prod.fst hx
  rw [b0, b1] at hx1
  simp only [Rows.laid_lorgnette_val_truths, List.map_cons, List.map_nil, DataW.agg.injEq, List.cons.injEq, DataW.lit.injEq, Lit.string.injEq, and_true] at hx1
  rw [cTru] at hlen
  obtain ⟨l⟩ := cs3
  obtain ⟨c0, c1, rfl⟩ : ∃ c0 c1, l = [c0, c1] := by
    match l, hlen with
    | [c0, c1], _ => exact ⟨c0, c1, rfl⟩
  simp at a0 a1
  subst a0 a1
  have z0 : s0 = noS := ba_ext hx1.1.symm
  have z1 : s1 = yesS := ba_ext hx1.2.symm
  subst z0 z1
  exact ⟨tab, World.var?_cell gTru hv3 0, World.var?_cell gTru hv3 1⟩

theorem wf_bd {a : Int} (h : (Lit.int .i64 a).wf = true) : -9223372036854775808 ≤ a ∧ a ≤ 9223372036854775807 := by
  simp [Lit.wf] at h
  have h1 : IntKind.i64.min = -9223372036854775808 := by decide
  have h2 : IntKind.i64.max = 9223372036854775807 := by decide
  omega

section
variable {H : Type} {enc : TypeId × Value → H} {w : World} {base : Nat} {spare : Nat → Bool} {held : Bool}
theorem open_dot {r : Reach} {b0 : Nat} {v : Value} {d : DataW H} {p : List MemPlace} (hv : Value.okWide Tryd.prog w r b0 24 v) (h : DataW.Trod enc Tryd.prog w base spare held 24 v d p) :
    ∃ (k n : Int), v = .agg #[.int .i64 k, .int .i64 n] ∧ d = .agg [.lit (.int .i64 k), .lit (.int .i64 n)] ∧ p = [] ∧ (Lit.int .i64 k).wf = true ∧ (Lit.int .i64 n).wf = true := by
  obtain ⟨v0, v1, y0, y1, m, rfl, rfl, rfl, h0, h1⟩ := open_agg2 Tryd.underlying24 (by kernel_rfl) cDot hv h
  obtain ⟨k, e0, rfl, w0⟩ := DataW.trod_int Tryd.underlying3 h0
  obtain ⟨n, e1, rfl, w1⟩ := DataW.trod_int Tryd.underlying3 h1
  simp at e0 e1
  subst e0 e1
  exact ⟨k, n, rfl, rfl, rfl, w0, w1⟩
theorem shut_dot {k n : Int} (w0 : (Lit.int .i64 k).wf = true) (w1 : (Lit.int .i64 n).wf = true) :
    DataW.Trod enc Tryd.prog w base spare held 24 (.agg #[.int .i64 k, .int .i64 n]) (.agg [.lit (.int .i64 k), .lit (.int .i64 n)]) [] :=
  shut_agg2 (y0 := (.lit (.int .i64 k), [])) (y1 := (.lit (.int .i64 n), [])) Tryd.underlying24 (by kernel_rfl) cDot (shut_int Tryd.underlying3 w0) (shut_int Tryd.underlying3 w1)
theorem open_dots {fuel : Nat} {cs : List Value} {x : DataW H × List MemPlace} (h : DataW.trod enc Tryd.prog w base spare held fuel 22 cs = some x) {A : Option Addr} {len cap : Nat} (hc : cs = [.slice A len cap]) :
    ∃ L, Dl w A len cap L := by
  rcases Deep.open_slice_pairs Tryd.underlying22 Tryd.underlying24 cDot rfl rfl (by kernel_rfl) (by kernel_rfl) h with ⟨hcs, _⟩ | ⟨a, len', cap', m, n, V0, V1, D0, D1, P0, P1, hcs, _, hl, hm, hmm, _, hel⟩
  · rw [hc] at hcs
    simp at hcs
    obtain ⟨rfl, rfl, rfl⟩ := hcs
    exact ⟨[], Dl.nil _⟩
  · rw [hc] at hcs
    simp at hcs
    obtain ⟨rfl, rfl, rfl⟩ := hcs
    have hlm : len ≤ m := by rw [hmm]; split <;> omega
    have ints : ∀ i, i < len → V0 i = .int .i64 (intOf (V0 i)) ∧ V1 i = .int .i64 (intOf (V1 i)) := fun i hi => by
      obtain ⟨_, _, h0, h1⟩ := hel i (by omega)
      obtain ⟨k, e0, _, _⟩ := DataW.trod_int Tryd.underlying3 h0
      obtain ⟨k', e1, _, _⟩ := DataW.trod_int Tryd.underlying3 h1
      simp at e0 e1
      rw [e0, e1]
      exact ⟨rfl, rfl⟩
    refine ⟨(List.range len).map fun i => (intOf (V0 i), intOf (V1 i)), by simp, hl, hm, (fun h => by cases h), ?_⟩
    rcases Nat.eq_zero_or_pos len with h0 | h0
    · exact .inl h0
    · obtain ⟨b, off, spot⟩ := a
      have hspot : spot = none := by simpa [Addr.add] using World.cell?_spot (hel 0 (by omega)).1
      subst hspot
      refine .inr ⟨b, off, rfl, fun j x hj => ?_⟩
      have hj2 := (List.getElem?_eq_some_iff.1 hj).1
      rw [List.length_map, List.length_range] at hj2
      rw [List.getElem?_map, List.getElem?_range hj2] at hj
      obtain rfl := Option.some.inj hj
      obtain ⟨g0, g1, _, _⟩ := hel j (by omega)
      rw [(ints j hj2).1, Addr.add_lit] at g0
      rw [(ints j hj2).2, Addr.add_lit] at g1
      exact ⟨g0, g1⟩
end
theorem laidOut : laidOutB Tryd.prog = true := by kernel_rfl
theorem Kept.block {W W' : World} (h : Kept W W') {i : Nat} (hi : i < W.heap.size) : W'.heap[i]? = W.heap[i]? := by
  have hk := h.1.2.2 i hi
  cases h1 : W.heap[i]? with
  | none => rw [h1] at hk; exact hk
  | some o =>
    rw [h1] at hk
    cases h2 : W'.heap[i]? with
    | none => rw [h2] at hk; cases o <;> simp at hk
    | some o' =>
      rw [h2] at hk
      cases o <;> cases o' <;> simp only [false_or, Option.some.injEq, reduceCtorEq] at hk ⊢
      case cells.cells c t fr c' t' fr' =>
        obtain ⟨rfl, rfl, _, he⟩ := hk
        have : c' = c := Array.ext_getElem? fun j => he j (fun f => f)
        subst this; rfl
      all_goals first | exact hk | (obtain ⟨rfl, rfl⟩ := hk; rfl)
theorem Kept.same {W W' : World} (h : Kept W W') {p : MemPlace} (hp : p.block < W.heap.size) : W.sameAt W' p := by
  cases p with
  | cell b o => exact World.cell?_of_block (w := W) (h.block hp)
  | map b => exact h.block hp
theorem Kept.trod {H : Type} {enc : TypeId × Value → H} {t : TypeId} (hr : Tryd.prog.readableRec t = true) (hrow : t < Tryd.prog.types.size) {W W' : World} {v : Value} {d : DataW H} {ps : List MemPlace}
    (h : DataW.Trod enc Tryd.prog W 0 (fun _ => true) true t v d ps) (hb : Kept W W') (hlt : ∀ x ∈ ps, x.block < W.heap.size) :
    DataW.Trod enc Tryd.prog W' 0 (fun b => decide (b < W.heap.size)) true t v d ps :=
  WideElems.Trod_stays laidOut hr hrow h (fun x hx => hb.same (hlt x hx)) (fun x hx => by simpa using hlt x hx)
end Go.Proofs.YtnfchfldpdnjoaaDoor
