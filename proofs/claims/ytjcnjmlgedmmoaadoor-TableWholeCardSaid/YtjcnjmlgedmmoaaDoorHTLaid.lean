/-
  What is proved: what the rows' condition on the listed variable gives the walks of layer 13: it holds both truths.
-/
import Derived.Test.YtjcnjmlgedmmoaaDoorRows
import Derived.Test.YtjcnjmlgedmmoaaDoorM26
import Derived.Test.YtjcnjmlgedmmoaaDoorM23
import Derived.MakeChecks
import Derived.LaidMore
import Derived.Lib.LaidTab
namespace Go.Proofs.YtjcnjmlgedmmoaaDoor
open Go.ChangeShapes Go.WideShapes Go.ChangeAt Go.RowKit Go.Joins
set_option linter.unusedVariables false

theorem gTruH : Tryd.prog.globalNamed "lorgnette/table.truths" = some 0 := by kernel_rfl
theorem tTruH : (Tryd.prog.globals[0]?).map (·.type) = some 80 := by kernel_rfl
theorem cTruH : Tryd.prog.cellsOf 80 = 6 := by kernel_rfl
set_option maxRecDepth 100000 in
theorem laid_t {W : World} (h : laidMetH Tryd.prog [("lorgnette/table.truths", Rows.laid_lorgnette_table_truths)] W) : TruW W := by
  rw [MakeChecks.laidMetH_plain _ _ _ (by kernel_rfl)] at h
  obtain ⟨ps, ⟨g3, t3, cs3, f3, p3, q3, hg3, ht3, hv3, hd3, _, _⟩, _, _⟩ := h
  obtain rfl := Option.some.inj (gTruH.symm.trans hg3)
  obtain rfl := Option.some.inj (tTruH.symm.trans ht3)
  obtain ⟨xs, m, rfl, hx, hlen, hn, hel⟩ := DataW.trod_array Tryd.underlying80 hd3
  have e0 := hel 0 (by decide)
  have e1 := hel 1 (by decide)
  obtain ⟨y0, y1, rfl⟩ : ∃ y0 y1, xs = [y0, y1] := by
    match xs, hn with
    | [y0, y1], _ => exact ⟨y0, y1, rfl⟩
  rw [cValH] at e0 e1
  rw [cTruH] at hlen
  obtain ⟨l⟩ := cs3
  obtain ⟨c0, c1, c2, c3, c4, c5, rfl⟩ : ∃ c0 c1 c2 c3 c4 c5, l = [c0, c1, c2, c3, c4, c5] := by
    match l, hlen with
    | [c0, c1, c2, c3, c4, c5], _ => exact ⟨c0, c1, c2, c3, c4, c5, rfl⟩
  obtain ⟨v0, rfl, rfl, rfl, b0, _⟩ := trod_vaH (c0 := c0) (c1 := c1) (c2 := c2) (y := y0) (e0.trans rfl)
  obtain ⟨v1, rfl, rfl, rfl, b1, _⟩ := trod_vaH (c0 := c3) (c1 := c4) (c2 := c5) (y := y1) (e1.trans rfl)
  have hx1 := congrArg Prod.fst hx
  rw [b0, b1] at hx1
  simp only [Rows.laid_lorgnette_table_truths, dataV, List.map_cons, List.map_nil, DataW.agg.injEq, List.cons.injEq, DataW.lit.injEq, Lit.string.injEq, Lit.int.injEq, true_and, and_true] at hx1
  obtain ⟨⟨k0, n0, s0⟩, k1, n1, s1⟩ := hx1
  have z0 : v0 = noV := by
    obtain ⟨a, b, t⟩ := v0
    simp only at k0 n0 s0
    unfold noV
    rw [← k0, ← n0, show t = ⟨#[]⟩ from ba_ext s0.symm]
  have z1 : v1 = yesV := by
    obtain ⟨a, b, t⟩ := v1
    simp only at k1 n1 s1
    unfold yesV
    rw [← k1, ← n1, show t = ⟨#[]⟩ from ba_ext s1.symm]
  subst z0 z1
  exact ⟨World.var?_cell gTruH hv3 0, World.var?_cell gTruH hv3 1, World.var?_cell gTruH hv3 2, World.var?_cell gTruH hv3 3, World.var?_cell gTruH hv3 4, World.var?_cell gTruH hv3 5⟩
end Go.Proofs.YtjcnjmlgedmmoaaDoor
