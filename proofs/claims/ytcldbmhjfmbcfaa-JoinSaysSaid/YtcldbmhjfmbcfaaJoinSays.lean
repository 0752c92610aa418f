/-
  What is proved: the law JoinSays of layer 9, as the given row states it: for every two states and every set of dots it returns true, and its arguments read as they did.
-/
import Derived.Test.YtcldbmhjfmbcfaaRows
import Derived.Test.YtcldbmhjfmbcfaaM19
import Derived.Test.YtcldbmhjfmbcfaaJoinSaysWalk
namespace Go.Proofs.Ytcldbmhjfmbcfaa.joinSays
open Go.ChangeShapes Go.WideShapes Go.ChangeAt Go.RowKit
set_option linter.unusedVariables false

set_option maxRecDepth 100000 in
theorem lifted (os : Os) (started : os.Started) (H : Type) (enc : TypeId × Value → H) :
    ReturnsInHanded {} Try.checked os 3 .any (Rows.joinSaysSpec.pre6 enc Try.prog Try.f3 Rows.joinSaysRow.domain false) (Rows.joinSaysSpec.post enc Try.prog Try.f3 false true false false) := by
  refine returnsInHanded_of_change (C := Try.checked) own started (by kernel_rfl) Try.func3
    (ChangeSpec.witness6 (enc := enc) (C := Try.checked) false ⟨#[], #[.agg #[.slice none 0 0, .slice none 0 0, .slice none 0 0], .agg #[.slice none 0 0, .slice none 0 0, .slice none 0 0], .agg #[.slice none 0 0, .slice none 0 0]], []⟩ 8 (by kernel_rfl) (by kernel_rfl) (by kernel_rfl) (by kernel_rfl)) ?_
  intro W base args ds gs before hval0 hW hcnd _
  have hval : ∀ (j : Nat) t v, Try.f3.params[j]? = some t → args[j]? = some v → Value.okWide Try.prog W .any base t v := hval0
  have hW' := hW
  obtain ⟨p, q, hA0, hV, rfl, hfz, hnd⟩ := hW
  have hA : DataW.TrodAll enc Try.prog W 0 (fun _ => true) true Try.f3.params.toList args.toList ds p := hA0
  rw [Try.params3] at hA hval
  obtain ⟨v0, vs0, d0, ds0, p0, q0, hargs, rfl, rfl, h0, r0⟩ := trodAll_cons hA
  obtain ⟨v1, vs1, d1, ds1, p1, q1, rfl, rfl, rfl, h1, r1⟩ := trodAll_cons r0
  obtain ⟨v2, vs2, d2, ds2, p2, q2, rfl, rfl, rfl, h2, r2⟩ := trodAll_cons r1
  obtain ⟨rfl, rfl, rfl⟩ := trodAll_nil r2
  obtain rfl : args = #[v0, v1, v2] := by cases args; simp_all
  obtain ⟨rfl, rfl⟩ := trodVars_none hV
  obtain ⟨Aa, na, ca, La, Ba, ma, ka, Va, Da, pa, qa, Ca, rfl, hsa, hwa, _, _⟩ := open_stateT (hval 0 28 v0 rfl rfl) h0
  obtain ⟨Ab, nb, cb, Lb, Bb, mb, kb, Vb, Db, pb, qb, Cb, rfl, hsb, hwb, _, _⟩ := open_stateT (hval 1 28 v1 rfl rfl) h1
  obtain ⟨Bc, mc, kc, Vc, Dc, pc, qc, Cc, rfl, hic, hdc, _, _⟩ := open_ctxT (hval 2 26 v2 rfl rfl) h2
  clear hA0 hval0
  simp only [List.append_nil] at hW'
  have hlt0 : ∀ x ∈ p0, x.block < W.heap.size := fun x hx => by simpa using hW'.lt x (by simp [hx])
  have hlt1 : ∀ x ∈ p1, x.block < W.heap.size := fun x hx => by simpa using hW'.lt x (by simp [hx])
  have hlt2 : ∀ x ∈ p2, x.block < W.heap.size := fun x hx => by simpa using hW'.lt x (by simp [hx])
  refine (joinSays_any Aa na ca Ba ma ka Da pa qa ⟨La, Va, Ca⟩ Ab nb cb Bb mb kb Db pb qb ⟨Lb, Vb, Cb⟩ Bc mc kc Vc Dc pc qc Cc W hsa hsb hic hdc (fun x hx => ⟨Nat.le_trans (hwa x hx).p (by decide), Nat.le_trans (hwa x hx).vt (by decide)⟩) (fun x hx => ⟨Nat.le_trans (hwb x hx).p (by decide), Nat.le_trans (hwb x hx).vt (by decide)⟩)).mono fun e W' ⟨he, hg⟩ => ?_
  subst he
  refine ⟨_, rfl, _, _, _, [], p0 ++ (p1 ++ p2), [], hW', ?_, ?_, rfl, hg.frame _, fun h => by cases h⟩
  · exact trodAll_cons_mk (shut_bool Try.underlying4 _) trodAll_mk0
  · have := trodAll_cons_mk (Kept.trod (by kernel_rfl) (of_decide_eq_true (by kernel_rfl)) h0 hg hlt0) (trodAll_cons_mk (Kept.trod (by kernel_rfl) (of_decide_eq_true (by kernel_rfl)) h1 hg hlt1) (trodAll_cons_mk (Kept.trod (by kernel_rfl) (of_decide_eq_true (by kernel_rfl)) h2 hg hlt2) trodAll_mk0))
    simp only [List.append_nil] at this
    exact this

theorem over : Rows.joinSaysRow.holds Try.pinned (OpenSpec.ofChange Rows.joinSaysSpec) :=
  OpenClaim.holds_of_wide 3 Try.f3 rfl rfl rfl rfl rfl rfl rfl ⟨rfl, rfl, rfl, rfl, rfl⟩ rfl rfl rfl rfl rfl (by kernel_rfl) Try.func3 (by kernel_rfl)
    (of_decide_eq_true (by kernel_rfl)) (by unfold Func.isWrapper; first | (rw [if_pos (by decide +kernel)]; kernel_rfl) | (rw [if_neg (by decide +kernel)]; exact ⟨rfl, rfl⟩))
    (fun os started H enc _ => lifted os started H enc)

theorem proved : Rows.JoinSaysSaid :=
  over
#print axioms proved
end Go.Proofs.Ytcldbmhjfmbcfaa.joinSays
