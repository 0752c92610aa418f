/-
  What is proved: the law PathSwaps of layer 4, as the given row states it: for every input it returns true, and its arguments read as they did.
-/
import Derived.Test.YtepjhijnihjedaaRows
import Derived.Test.YtepjhijnihjedaaPSwapsWalk
import Derived.Test.YtepjhijnihjedaaPRow
import Derived.SliceStrings
import Derived.Carry
import Derived.WalkKit
namespace Go.Proofs.Ytepjhijnihjedaa.pathSwaps
open Go.ChangeShapes Go.WideShapes Go.ChangeAt Go.RowKit
set_option linter.unusedVariables false

theorem own : ownKnob Try.prog.godebug = none := by kernel_rfl
theorem laidOut : laidOutB Try.prog = true := by kernel_rfl
theorem cellsStr : Try.prog.cellsOf 9 = 1 := by kernel_rfl

set_option maxRecDepth 100000 in
theorem lifted (os : Os) (started : os.Started) (H : Type) (enc : TypeId × Value → H) :
    ReturnsInHanded {} Try.checked os 5 .any (Rows.pathSwapsSpec.pre6 enc Try.prog Try.f5 Rows.pathSwapsRow.domain false) (Rows.pathSwapsSpec.post enc Try.prog Try.f5 false true false false) := by
  refine returnsInHanded_of_change (C := Try.checked) own started (by kernel_rfl) Try.func5
    (ChangeSpec.witness6 (enc := enc) (C := Try.checked) false ⟨#[], #[.string ⟨#[]⟩, .int .i64 0, .slice none 0 0], []⟩ 8 (by kernel_rfl) (by kernel_rfl) (by kernel_rfl) (by kernel_rfl)) ?_
  intro W base args ds gs before hval0 hW hcnd _
  have hval : ∀ (j : Nat) t v, Try.f5.params[j]? = some t → args[j]? = some v → Value.okWide Try.prog W .any base t v := hval0
  have hW' := hW
  obtain ⟨p, q, hA0, hV, rfl, hfz, hnd⟩ := hW
  have hA : DataW.TrodAll enc Try.prog W 0 (fun _ => true) true Try.f5.params.toList args.toList ds p := hA0
  rw [Try.params5] at hA hval
  obtain ⟨v0, vs0, d0, ds0, p0, q0, hargs, rfl, rfl, h0, r0⟩ := trodAll_cons hA
  obtain ⟨v1, vs1, d1, ds1, p1, q1, rfl, rfl, rfl, h1, r1⟩ := trodAll_cons r0
  obtain ⟨v2, vs2, d2, ds2, p2, q2, rfl, rfl, rfl, h2, r2⟩ := trodAll_cons r1
  obtain ⟨rfl, rfl, rfl⟩ := trodAll_nil r2
  obtain rfl : args = #[v0, v1, v2] := by cases args; simp_all
  obtain ⟨rfl, rfl⟩ := trodVars_none hV
  obtain ⟨s0, rfl, rfl, rfl, w0⟩ := ChangeMaps.open_string Try.underlying9 (hval 0 9 v0 rfl rfl) h0
  obtain ⟨s1, rfl, rfl, rfl, w1⟩ := open_int Try.underlying3 (hval 1 3 v1 rfl rfl) h1
  obtain ⟨a0, len, cap, rfl⟩ := okWide_slice Try.underlying24 (hval 2 24 v2 rfl rfl)
  have h2k := h2
  obtain ⟨fuel, hf⟩ := h2
  clear hA0 hval0
  have b1 := wf_i64_bd w1
  have z0 : s0.size ≤ 9223372036854775807 := by have := w0; unfold maxLen at this; omega
  simp only [List.append_nil, List.nil_append] at hW'
  have hlt : ∀ x ∈ p2, x.block < W.heap.size := fun x hx => by simpa using hW'.lt x hx
  have fin : ∀ W' : World, Ke W W' → Rows.pathSwapsSpec.post enc Try.checked.prog Try.f5 false true false false W #[.string s0, .int .i64 s1, .slice a0 len cap] (.bool true) W' := by
    intro W' hk
    refine ⟨_, _, _, [], p2, [], hW', ?_, ?_, rfl, Below.frame hk _, fun h => by cases h⟩
    · exact trodAll_cons_mk (shut_bool Try.underlying4 _) trodAll_mk0
    · have := trodAll_cons_mk (ChangeMaps.shut_string Try.underlying9 w0) (trodAll_cons_mk (shut_int Try.underlying3 w1) (trodAll_cons_mk (Below.trod laidOut (by kernel_rfl) (of_decide_eq_true (by kernel_rfl)) h2k hk hlt) trodAll_mk0))
      simp only [List.append_nil, List.nil_append] at this
      exact this
  have out : 200 < s0.size ∨ len = 0 ∨ 8 < len → Calls Try.checked.prog 5 #[.string s0, .int .i64 s1, .slice a0 len cap] W fun e W' => ∃ v, e = Ending.returned v ∧ Rows.pathSwapsSpec.post enc Try.checked.prog Try.f5 false true false false W #[.string s0, .int .i64 s1, .slice a0 len cap] v W' := by
    intro ho
    refine (swaps_out s0 s1 a0 len cap W z0 ho).mono fun e W' ⟨he, hk⟩ => ?_
    subst he
    exact ⟨_, rfl, fin W' hk⟩
  by_cases ho : 200 < s0.size ∨ len = 0 ∨ 8 < len
  · exact out ho
  rcases open_strings Try.underlying24 Try.underlying9 cellsStr hf with ⟨hcs, hx⟩ | ⟨a, len', cap', ss, hcs, _, hl, hm, hz, hx, hcell, hws⟩
  · simp [Value.cells] at hcs
    obtain ⟨rfl, rfl, rfl⟩ := hcs
    exact out (.inr (.inl rfl))
  · simp [Value.cells] at hcs
    obtain ⟨rfl, rfl, rfl⟩ := hcs
    simp only [if_true] at hz
    obtain ⟨b, off, spot⟩ := a
    have hspot : spot = none := by simpa [Addr.add] using World.cell?_spot (hcell 0 (by omega))
    subst hspot
    have hc0 := hcell 0 (by omega)
    have hsl : Sl W ⟨b, off, none⟩ len cap (ss.take len) := by
      refine ⟨by rw [List.length_take]; omega, hl, hm, World.block_lt_of_cell? W _ (by simpa [Addr.add] using hc0), fun j x hj => ?_⟩
      have hj2 := (List.getElem?_eq_some_iff.1 hj).1
      rw [List.length_take] at hj2
      have e1 := hcell j (by omega)
      rw [List.getElem?_take, if_pos (by omega)] at hj
      rw [e1, List.getD_eq_getElem?_getD, hj]
      rfl
    refine (swaps_in s0 s1 b off len cap (ss.take len) W b1.1 b1.2 (by omega) (by omega) (by omega) hsl (fun x hx => by
      have := hws x (List.mem_of_mem_take hx)
      unfold maxLen at this; omega)).mono fun e W' ⟨he, hk⟩ => ?_
    subst he
    exact ⟨_, rfl, fin W' hk⟩

theorem over : Rows.pathSwapsRow.holds Try.pinned (OpenSpec.ofChange Rows.pathSwapsSpec) :=
  OpenClaim.holds_of_wide 5 Try.f5 rfl rfl rfl rfl rfl rfl rfl ⟨rfl, rfl, rfl, rfl, rfl⟩ rfl rfl rfl rfl rfl (by kernel_rfl) Try.func5 (by kernel_rfl)
    (of_decide_eq_true (by kernel_rfl)) (by unfold Func.isWrapper; first | (rw [if_pos (by decide +kernel)]; kernel_rfl) | (rw [if_neg (by decide +kernel)]; exact ⟨rfl, rfl⟩))
    (fun os started H enc _ => lifted os started H enc)

theorem proved : Rows.PathSwapsSaid :=
  over
#print axioms proved
end Go.Proofs.Ytepjhijnihjedaa.pathSwaps
