/-
  What is proved: slices of ints and of dots, and sets of dots (a struct of the two, by value), among the arguments, opened; what is read of the arguments reads on.
-/
import Derived.Test.YtgofecnpmohmgaaRows
import Derived.Test.YtgofecnpmohmgaaCAwake
import Derived.ProofKit
import Derived.OpenShut
import Derived.ChangeMaps5
import Derived.Lib.SmallJoins
import Derived.Carry
import Derived.WideKeyArgs
import Derived.Deep.Frames
import Derived.Deep.SlicePairs
import Derived.SliceStrings
import Derived.WalkKit
namespace Go.Proofs.Ytgofecnpmohmgaa
open Go.ChangeShapes Go.WideShapes Go.ChangeAt Go.RowKit Go.Joins

theorem own : ownKnob Try.prog.godebug = none := by kernel_rfl
theorem laidOut : laidOutB Try.prog = true := by kernel_rfl
theorem cDot : Try.prog.cellsOf 36 = 2 := by kernel_rfl
theorem wf_bd {a : Int} (h : (Lit.int .i64 a).wf = true) : -9223372036854775808 ≤ a ∧ a ≤ 9223372036854775807 := by
  simp [Lit.wf] at h
  have h1 : IntKind.i64.min = -9223372036854775808 := by decide
  have h2 : IntKind.i64.max = 9223372036854775807 := by decide
  omega
theorem wf_u8 {a : Int} (h : (Lit.int .u8 a).wf = true) : 0 ≤ a ∧ a ≤ 255 := by
  simp [Lit.wf] at h
  have h1 : IntKind.u8.min = 0 := by decide
  have h2 : IntKind.u8.max = 255 := by decide
  omega
def Bd (a : Int) : Prop := -9223372036854775808 ≤ a ∧ a ≤ 9223372036854775807
section
variable {H : Type} {enc : TypeId × Value → H} {w : World} {base : Nat} {spare : Nat → Bool} {held : Bool}
theorem open_dotsV {fuel : Nat} {v : Value} {x : DataW H × List MemPlace} (h : DataW.trod enc Try.prog w base spare held fuel 23 [v] = some x) :
    ∃ A n c L, v = .slice A n c ∧ Dl w A n c L ∧ ∀ d ∈ L, Bd d.1 ∧ Bd d.2 := by
  rcases Deep.open_slice_pairs Try.underlying23 Try.underlying36 cDot rfl rfl (by kernel_rfl) (by kernel_rfl) h with ⟨hcs, _⟩ | ⟨a, len, cap, m, n, V0, V1, D0, D1, P0, P1, hcs, _, hl, hm, hmm, _, hel⟩
  · simp at hcs
    subst hcs
    exact ⟨none, 0, 0, [], rfl, Dl.nil _, fun d hd => by cases hd⟩
  · simp at hcs
    subst hcs
    have hlm : len ≤ m := by rw [hmm]; split <;> omega
    have ints : ∀ i, i < len → (V0 i = .int .i64 (intOf (V0 i)) ∧ Bd (intOf (V0 i))) ∧ V1 i = .int .i64 (intOf (V1 i)) ∧ Bd (intOf (V1 i)) := fun i hi => by
      obtain ⟨_, _, h0, h1⟩ := hel i (by omega)
      obtain ⟨k, e0, _, w0⟩ := DataW.trod_int Try.underlying3 h0
      obtain ⟨k', e1, _, w1⟩ := DataW.trod_int Try.underlying3 h1
      simp at e0 e1
      rw [e0, e1]
      exact ⟨⟨rfl, wf_bd w0⟩, rfl, wf_bd w1⟩
    refine ⟨some a, len, cap, (List.range len).map fun i => (intOf (V0 i), intOf (V1 i)), rfl, ⟨by simp, hl, hm, (fun h => by cases h), ?_⟩, fun d hd => ?_⟩
    · rcases Nat.eq_zero_or_pos len with h0 | h0
      · exact .inl h0
      · obtain ⟨b, off, spot⟩ := a
        have hspot : spot = none := by simpa [Addr.add] using World.cell?_spot (hel 0 (by omega)).1
        subst hspot
        refine .inr ⟨b, off, rfl, fun j x hj => ?_⟩
        have hj2 := (List.getElem?_eq_some_iff.1 hj).1
        rw [List.length_map, List.length_range] at hj2
        rw [List.getElem?_map, List.getElem?_range hj2] at hj
        obtain rfl := Option.some.inj hj
        obtain ⟨g0, g1, _, _⟩ := hel j (by omega)
        rw [(ints j hj2).1.1, Addr.add_lit] at g0
        rw [(ints j hj2).2.1, Addr.add_lit] at g1
        exact ⟨g0, g1⟩
    · obtain ⟨i, hi, rfl⟩ := List.mem_map.1 hd
      have := ints i (List.mem_range.1 hi)
      exact ⟨this.1.2, this.2.2⟩
theorem open_intsV {fuel : Nat} {v : Value} {x : DataW H × List MemPlace} (h : DataW.trod enc Try.prog w base spare held fuel 22 [v] = some x) :
    ∃ A n c V, v = .slice A n c ∧ Il w A n c V ∧ ∀ d ∈ V, Bd d := by
  rcases open_ints Try.underlying22 Try.underlying3 (by kernel_rfl) h with ⟨hcs, _⟩ | ⟨a, len, cap, zs, hcs, _, hl, hm, hz, _, hel, hw⟩
  · simp at hcs
    subst hcs
    exact ⟨none, 0, 0, [], rfl, Il.nil _, fun d hd => by cases hd⟩
  · simp at hcs
    subst hcs
    have hlz : len ≤ zs.length := by rw [hz]; split <;> omega
    refine ⟨some a, len, cap, zs.take len, rfl, ⟨by rw [List.length_take]; omega, hl, hm, (fun h => by cases h), ?_⟩, fun d hd => wf_bd (hw d (List.mem_of_mem_take hd))⟩
    rcases Nat.eq_zero_or_pos len with h0 | h0
    · exact .inl h0
    · obtain ⟨b, off, spot⟩ := a
      have hspot : spot = none := by simpa [Addr.add] using World.cell?_spot (hel 0 (by omega))
      subst hspot
      refine .inr ⟨b, off, rfl, fun j x hj => ?_⟩
      have hj2 := (List.getElem?_eq_some_iff.1 hj).1
      rw [List.length_take] at hj2
      rw [List.getElem?_take, if_pos (by omega)] at hj
      have := hel j (by omega)
      rw [List.getD_eq_getElem?_getD, hj, Addr.add_lit] at this
      exact this
set_option maxRecDepth 100000 in
theorem open_dotsT {r : Reach} {b0 : Nat} {v : Value} {d : DataW H} {p : List MemPlace} (hv : Value.okWide Try.prog w r b0 23 v) (h : DataW.Trod enc Try.prog w base spare held 23 v d p) :
    ∃ A n c L, v = .slice A n c ∧ Dl w A n c L ∧ ∀ d ∈ L, Bd d.1 ∧ Bd d.2 := by
  obtain ⟨a0, len, cap, rfl⟩ := okWide_slice Try.underlying23 hv
  obtain ⟨fuel, hf⟩ := h
  exact open_dotsV (x := (d, p)) (by simpa [Value.cells] using hf)
set_option maxRecDepth 100000 in
theorem cCtx : Try.prog.cellsOf 25 = 2 := by kernel_rfl
set_option maxRecDepth 100000 in
theorem open_ctx {r : Reach} {b0 : Nat} {v : Value} {d : DataW H} {p : List MemPlace} (hv : Value.okWide Try.prog w r b0 25 v) (h : DataW.Trod enc Try.prog w base spare held 25 v d p) :
    ∃ A n c V B m k C, v = .agg #[.slice A n c, .slice B m k] ∧ Il w A n c V ∧ Dl w B m k C ∧ (∀ d ∈ V, Bd d) ∧ ∀ d ∈ C, Bd d.1 ∧ Bd d.2 := by
  obtain ⟨v0, v1, y0, y1, m, rfl, _, _, h0, h1⟩ := open_agg2 Try.underlying25 (by kernel_rfl) cCtx hv h
  obtain ⟨A, n, c, V, rfl, hi, hb⟩ := open_intsV h0
  obtain ⟨B, m, k, C, rfl, hd, hc⟩ := open_dotsV h1
  exact ⟨A, n, c, V, B, m, k, C, rfl, hi, hd, hb, hc⟩
set_option maxRecDepth 100000 in
theorem cCase : Try.prog.cellsOf 27 = 3 := by kernel_rfl
set_option maxRecDepth 100000 in
theorem open_case {r : Reach} {b0 : Nat} {v : Value} {d : DataW H} {p : List MemPlace} (hv : Value.okWide Try.prog w r b0 27 v) (h : DataW.Trod enc Try.prog w base spare held 27 v d p) :
    ∃ A n c L s N, v = .agg #[.slice A n c, .string s, .int .i64 N] ∧ Dl w A n c L ∧ (∀ d ∈ L, Bd d.1 ∧ Bd d.2) ∧ s.size ≤ 9223372036854775807 ∧ Bd N := by
  obtain ⟨v0, v1, v2, y0, y1, y2, m, rfl, _, _, h0, h1, h2⟩ := open_agg3 Try.underlying27 (by kernel_rfl) cCase hv h
  obtain ⟨A, n, c, L, rfl, hd, hb⟩ := open_dotsV h0
  obtain ⟨s, e1, _, w1⟩ := DataW.trod_string Try.underlying9 h1
  obtain ⟨N, e2, _, w2⟩ := DataW.trod_int Try.underlying3 h2
  simp at e1 e2
  subst e1 e2
  exact ⟨A, n, c, L, s, N, rfl, hd, hb, by have := w1; simp [maxLen] at this; omega, wf_bd w2⟩
end
theorem Kept.same {W W' : World} (h : Kept W W') {p : MemPlace} (hp : p.block < W.heap.size) : W.sameAt W' p := by
  cases p with
  | cell b o => exact World.cell?_of_block (w := W) (h.blk hp)
  | map b => exact h.blk hp
theorem Kept.trod {H : Type} {enc : TypeId × Value → H} {t : TypeId} (hr : Try.prog.readableRec t = true) (hrow : t < Try.prog.types.size) {W W' : World} {v : Value} {d : DataW H} {ps : List MemPlace}
    (h : DataW.Trod enc Try.prog W 0 (fun _ => true) true t v d ps) (hb : Kept W W') (hlt : ∀ x ∈ ps, x.block < W.heap.size) :
    DataW.Trod enc Try.prog W' 0 (fun b => decide (b < W.heap.size)) true t v d ps :=
  WideElems.Trod_stays laidOut hr hrow h (fun x hx => hb.same (hlt x hx)) (fun x hx => by simpa using hlt x hx)
end Go.Proofs.Ytgofecnpmohmgaa
