/-
  What is proved: the law CtxSets of layer 6, as the given row states it: for every three slices of dots it returns true, and its arguments read as they did.
-/
import Derived.Test.YtgofecnpmohmgaaRows
import Derived.Test.YtgofecnpmohmgaaCLaid
import Derived.Test.YtgofecnpmohmgaaCSetsWalk
namespace Go.Proofs.Ytgofecnpmohmgaa.ctxSets
open Go.ChangeShapes Go.WideShapes Go.ChangeAt Go.RowKit
set_option linter.unusedVariables false

theorem csets_any (Aa : Option Addr) (na ca : Nat) (La : List (Int × Int)) (Ab : Option Addr) (nb cb : Nat) (Lb : List (Int × Int)) (Ac : Option Addr) (nc cc : Nat) (Lc : List (Int × Int)) (w : World) (ha : Dl w Aa na ca La) (hb : Dl w Ab nb cb Lb) (hc : Dl w Ac nc cc Lc) :
    Calls Try.prog 4 #[.slice Aa na ca, .slice Ab nb cb, .slice Ac nc cc] w fun e w' => e = .returned (.bool true) ∧ Kept w w' := by
  by_cases hn : 40 < na ∨ 40 < nb ∨ 40 < nc
  · exact csets_big cawake_any Aa na ca Ab nb cb Ac nc cc w (Nat.le_trans ha.cap.1 ha.cap.2) (Nat.le_trans hb.cap.1 hb.cap.2) (Nat.le_trans hc.cap.1 hc.cap.2) hn
  · exact csets_small ctxC cawake_any Aa na ca La Ab nb cb Lb Ac nc cc Lc w ha hb hc (by omega) (by omega) (by omega)

set_option maxRecDepth 100000 in
theorem lifted (os : Os) (started : os.Started) (H : Type) (enc : TypeId × Value → H) :
    ReturnsInHanded {} Try.checked os 4 .any (Rows.ctxSetsSpec.pre6 enc Try.prog Try.f4 Rows.ctxSetsRow.domain false) (Rows.ctxSetsSpec.post enc Try.prog Try.f4 false true false false) := by
  refine returnsInHanded_of_change (C := Try.checked) own started (by kernel_rfl) Try.func4
    (ChangeSpec.witness6 (enc := enc) (C := Try.checked) false ⟨#[], #[.slice none 0 0, .slice none 0 0, .slice none 0 0], []⟩ 8 (by kernel_rfl) (by kernel_rfl) (by kernel_rfl) (by kernel_rfl)) ?_
  intro W base args ds gs before hval0 hW hcnd _
  have hval : ∀ (j : Nat) t v, Try.f4.params[j]? = some t → args[j]? = some v → Value.okWide Try.prog W .any base t v := hval0
  have hW' := hW
  obtain ⟨p, q, hA0, hV, rfl, hfz, hnd⟩ := hW
  have hA : DataW.TrodAll enc Try.prog W 0 (fun _ => true) true Try.f4.params.toList args.toList ds p := hA0
  rw [Try.params4] at hA hval
  obtain ⟨v0, vs0, d0, ds0, p0, q0, hargs, rfl, rfl, h0, r0⟩ := trodAll_cons hA
  obtain ⟨v1, vs1, d1, ds1, p1, q1, rfl, rfl, rfl, h1, r1⟩ := trodAll_cons r0
  obtain ⟨v2, vs2, d2, ds2, p2, q2, rfl, rfl, rfl, h2, r2⟩ := trodAll_cons r1
  obtain ⟨rfl, rfl, rfl⟩ := trodAll_nil r2
  obtain rfl : args = #[v0, v1, v2] := by cases args; simp_all
  obtain ⟨rfl, rfl⟩ := trodVars_none hV
  obtain ⟨A0, n0, c0, L0, rfl, hd0, hb0⟩ := open_dotsT (hval 0 23 v0 rfl rfl) h0
  obtain ⟨A1, n1, c1, L1, rfl, hd1, hb1⟩ := open_dotsT (hval 1 23 v1 rfl rfl) h1
  obtain ⟨A2, n2, c2, L2, rfl, hd2, hb2⟩ := open_dotsT (hval 2 23 v2 rfl rfl) h2
  clear hA0 hval0
  simp only [List.append_nil] at hW'
  have hlt0 : ∀ x ∈ p0, x.block < W.heap.size := fun x hx => by simpa using hW'.lt x (by simp [hx])
  have hlt1 : ∀ x ∈ p1, x.block < W.heap.size := fun x hx => by simpa using hW'.lt x (by simp [hx])
  have hlt2 : ∀ x ∈ p2, x.block < W.heap.size := fun x hx => by simpa using hW'.lt x (by simp [hx])
  refine (csets_any A0 n0 c0 L0 A1 n1 c1 L1 A2 n2 c2 L2 W hd0 hd1 hd2).mono fun e W' ⟨he, hg⟩ => ?_
  subst he
  refine ⟨_, rfl, _, _, _, [], p0 ++ (p1 ++ p2), [], hW', ?_, ?_, rfl, hg.frame _, fun h => by cases h⟩
  · exact trodAll_cons_mk (shut_bool Try.underlying4 _) trodAll_mk0
  · have := trodAll_cons_mk (Kept.trod (by kernel_rfl) (of_decide_eq_true (by kernel_rfl)) h0 hg hlt0) (trodAll_cons_mk (Kept.trod (by kernel_rfl) (of_decide_eq_true (by kernel_rfl)) h1 hg hlt1) (trodAll_cons_mk (Kept.trod (by kernel_rfl) (of_decide_eq_true (by kernel_rfl)) h2 hg hlt2) trodAll_mk0))
    simp only [List.append_nil] at this
    exact this

theorem over : Rows.ctxSetsRow.holds Try.pinned (OpenSpec.ofChange Rows.ctxSetsSpec) :=
  OpenClaim.holds_of_wide 4 Try.f4 rfl rfl rfl rfl rfl rfl rfl ⟨rfl, rfl, rfl, rfl, rfl⟩ rfl rfl rfl rfl rfl (by kernel_rfl) Try.func4 (by kernel_rfl)
    (of_decide_eq_true (by kernel_rfl)) (by unfold Func.isWrapper; first | (rw [if_pos (by decide +kernel)]; kernel_rfl) | (rw [if_neg (by decide +kernel)]; exact ⟨rfl, rfl⟩))
    (fun os started H enc _ => lifted os started H enc)

theorem proved : Rows.CtxSetsSaid :=
  over
#print axioms proved
end Go.Proofs.Ytgofecnpmohmgaa.ctxSets
