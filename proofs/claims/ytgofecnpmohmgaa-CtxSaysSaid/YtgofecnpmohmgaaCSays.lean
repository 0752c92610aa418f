/-
  What is proved: the law CtxSays of layer 6, as the given row states it: for every two sets, every slice of dots, text and number it returns true, and its arguments read as they did.
-/
import Derived.Test.YtgofecnpmohmgaaRows
import Derived.Test.YtgofecnpmohmgaaCLaid
import Derived.Test.YtgofecnpmohmgaaCSaysWalk
namespace Go.Proofs.Ytgofecnpmohmgaa.ctxSays
open Go.ChangeShapes Go.WideShapes Go.ChangeAt Go.RowKit
set_option linter.unusedVariables false

theorem csays_any (A : Option Addr) (n c : Nat) (V : List Int) (B : Option Addr) (m k : Nat) (C : List (Int × Int)) (A' : Option Addr) (n' c' : Nat) (V' : List Int) (B' : Option Addr) (m' k' : Nat) (C' : List (Int × Int)) (X : Option Addr) (nx cx : Nat) (L : List (Int × Int)) (s : ByteArray) (N : Int) (w : World)
    (hia : Il w A n c V) (hda : Dl w B m k C) (hib : Il w A' n' c' V') (hdb : Dl w B' m' k' C') (hdx : Dl w X nx cx L) (hs : s.size ≤ 9223372036854775807) :
    Calls Try.prog 3 #[.agg #[.slice A n c, .slice B m k], .agg #[.slice A' n' c', .slice B' m' k'], .agg #[.slice X nx cx, .string s, .int .i64 N]] w fun e w' => e = .returned (.bool true) ∧ Kept w w' := by
  by_cases hb : 60 < nx ∨ 600 < s.size ∨ 100 < n ∨ 100 < m
  · exact csays_big cawake_any A n c B m k A' n' c' B' m' k' X nx cx s N w (Nat.le_trans hia.cap.1 hia.cap.2) (Nat.le_trans hda.cap.1 hda.cap.2) (Nat.le_trans hdx.cap.1 hdx.cap.2) hs hb
  · exact csays_mid ctxC cawake_any A n c V B m k C A' n' c' V' B' m' k' C' X nx cx L s N w hia hda hib hdb hdx (by omega) (by omega) (by omega) (by omega)

set_option maxRecDepth 100000 in
theorem lifted (os : Os) (started : os.Started) (H : Type) (enc : TypeId × Value → H) :
    ReturnsInHanded {} Try.checked os 3 .any (Rows.ctxSaysSpec.pre6 enc Try.prog Try.f3 Rows.ctxSaysRow.domain false) (Rows.ctxSaysSpec.post enc Try.prog Try.f3 false true false false) := by
  refine returnsInHanded_of_change (C := Try.checked) own started (by kernel_rfl) Try.func3
    (ChangeSpec.witness6 (enc := enc) (C := Try.checked) false ⟨#[], #[.agg #[.slice none 0 0, .slice none 0 0], .agg #[.slice none 0 0, .slice none 0 0], .agg #[.slice none 0 0, .string ⟨#[]⟩, .int .i64 0]], []⟩ 8 (by kernel_rfl) (by kernel_rfl) (by kernel_rfl) (by kernel_rfl)) ?_
  intro W base args ds gs before hval0 hW hcnd _
  have hval : ∀ (j : Nat) t v, Try.f3.params[j]? = some t → args[j]? = some v → Value.okWide Try.prog W .any base t v := hval0
  have hW' := hW
  obtain ⟨p, q, hA0, hV, rfl, hfz, hnd⟩ := hW
  have hA : DataW.TrodAll enc Try.prog W 0 (fun _ => true) true Try.f3.params.toList args.toList ds p := hA0
  rw [Try.params3] at hA hval
  obtain ⟨v0, vs0, d0, ds0, p0, q0, hargs, rfl, rfl, h0, r0⟩ := trodAll_cons hA
  obtain ⟨v1, vs1, d1, ds1, p1, q1, rfl, rfl, rfl, h1, r1⟩ := trodAll_cons r0
  obtain ⟨v2, vs2, d2, ds2, p2, q2, rfl, rfl, rfl, h2, r2⟩ := trodAll_cons r1
  obtain ⟨rfl, rfl, rfl⟩ := trodAll_nil r2
  obtain rfl : args = #[v0, v1, v2] := by cases args; simp_all
  obtain ⟨rfl, rfl⟩ := trodVars_none hV
  obtain ⟨A0, n0, c0, V0, B0, m0, k0, C0, rfl, hi0, hd0, hbv0, hbc0⟩ := open_ctx (hval 0 25 v0 rfl rfl) h0
  obtain ⟨A1, n1, c1, V1, B1, m1, k1, C1, rfl, hi1, hd1, hbv1, hbc1⟩ := open_ctx (hval 1 25 v1 rfl rfl) h1
  obtain ⟨A2, n2, c2, L2, s2, N2, rfl, hd2, hb2, hz2, hn2⟩ := open_case (hval 2 27 v2 rfl rfl) h2
  clear hA0 hval0
  simp only [List.append_nil] at hW'
  have hlt0 : ∀ x ∈ p0, x.block < W.heap.size := fun x hx => by simpa using hW'.lt x (by simp [hx])
  have hlt1 : ∀ x ∈ p1, x.block < W.heap.size := fun x hx => by simpa using hW'.lt x (by simp [hx])
  have hlt2 : ∀ x ∈ p2, x.block < W.heap.size := fun x hx => by simpa using hW'.lt x (by simp [hx])
  refine (csays_any A0 n0 c0 V0 B0 m0 k0 C0 A1 n1 c1 V1 B1 m1 k1 C1 A2 n2 c2 L2 s2 N2 W hi0 hd0 hi1 hd1 hd2 hz2).mono fun e W' ⟨he, hg⟩ => ?_
  subst he
  refine ⟨_, rfl, _, _, _, [], p0 ++ (p1 ++ p2), [], hW', ?_, ?_, rfl, hg.frame _, fun h => by cases h⟩
  · exact trodAll_cons_mk (shut_bool Try.underlying4 _) trodAll_mk0
  · have := trodAll_cons_mk (Kept.trod (by kernel_rfl) (of_decide_eq_true (by kernel_rfl)) h0 hg hlt0) (trodAll_cons_mk (Kept.trod (by kernel_rfl) (of_decide_eq_true (by kernel_rfl)) h1 hg hlt1) (trodAll_cons_mk (Kept.trod (by kernel_rfl) (of_decide_eq_true (by kernel_rfl)) h2 hg hlt2) trodAll_mk0))
    simp only [List.append_nil] at this
    exact this

theorem over : Rows.ctxSaysRow.holds Try.pinned (OpenSpec.ofChange Rows.ctxSaysSpec) :=
  OpenClaim.holds_of_wide 3 Try.f3 rfl rfl rfl rfl rfl rfl rfl ⟨rfl, rfl, rfl, rfl, rfl⟩ rfl rfl rfl rfl rfl (by kernel_rfl) Try.func3 (by kernel_rfl)
    (of_decide_eq_true (by kernel_rfl)) (by unfold Func.isWrapper; first | (rw [if_pos (by decide +kernel)]; kernel_rfl) | (rw [if_neg (by decide +kernel)]; exact ⟨rfl, rfl⟩))
    (fun os started H enc _ => lifted os started H enc)

theorem proved : Rows.CtxSaysSaid :=
  over
#print axioms proved
end Go.Proofs.Ytgofecnpmohmgaa.ctxSays
