/-
  What is proved: the law ValSays of layer 3, as the given card states it: for every two values and every text it returns true, and its arguments read as they did; the listed variables are tied to the program's text.
-/
import Derived.Test.YtooaiicbnfmnpaaDoorRows
import Derived.Test.YtooaiicbnfmnpaaDoorCards
import Derived.Test.YtooaiicbnfmnpaaDoorTie
import Derived.Test.YtooaiicbnfmnpaaDoorVSaysWalk
import Derived.Test.YtooaiicbnfmnpaaDoorVLaid
import Derived.SevenTiedAt
namespace Go.Proofs.YtooaiicbnfmnpaaDoor.valSays
open Go.ChangeShapes Go.WideShapes Go.ChangeAt Go.RowKit
set_option linter.unusedVariables false

theorem walk (k1 n1 : Int) (t1 : ByteArray) (k2 n2 : Int) (t2 : ByteArray) (s : ByteArray) (w : World) (y1 : (Lit.int .i64 n1).wf = true) (s1 : t1.size ≤ 140737488351232) (s2 : t2.size ≤ 140737488351232) (s3 : s.size ≤ 140737488351232) (hl : LaidW w) :
    Calls Tryd.prog 3 #[.agg #[.int .i64 k1, .int .i64 n1, .string t1], .agg #[.int .i64 k2, .int .i64 n2, .string t2], .string s] w fun e w' => e = .returned (.bool true) ∧ Kept w w' := by
  have h1 := wf_bd y1
  by_cases hs : 600 < s.size
  · exact vsays_long k1 n1 t1 k2 n2 t2 s w s3 hl hs
  by_cases hb : 900 < t1.size + t2.size
  · exact vsays_big k1 n1 t1 k2 n2 t2 s w s1 s2 hl (by omega) hb
  · exact vsays_small k1 n1 t1 k2 n2 t2 s w h1.1 h1.2 (by omega) (by omega) hl (by omega) (by omega)

/-- The door's own heap meets the condition. -/
theorem door_met (os : Os) (args : Array Value) : laidMetH Tryd.prog Rows.valSaysRow.laid ((World.doorLaid Tryd.prog 400 os).forCall (fun _ _ => 0) ⟨#[], args, []⟩).memory :=
  laidMetH_of_parts3 (fuel := 8) (laidMet_of_run' 8 (by kernel_rfl) (by kernel_rfl)) (by kernel_rfl) (by kernel_rfl)

set_option maxRecDepth 100000 in
theorem lifted (os : Os) (started : os.Started) (H : Type) (enc : TypeId × Value → H) :
    ReturnsInHanded {} Tryd.checked os 3 .any (fun w args => (Rows.valSaysSpec.pre enc Tryd.prog Tryd.f3 [] false w args ∧ laidMetH Tryd.prog Rows.valSaysRow.laid w) ∧ sizedMet enc Tryd.prog Tryd.f3 (OpenSpec.ofChange Rows.valSaysSpec) false w args)
      (Rows.valSaysSpec.post enc Tryd.prog Tryd.f3 false true false false) := by
  refine returnsInHanded_of_change_and (C := Tryd.checked) (X := fun w _ => laidMetH Tryd.prog Rows.valSaysRow.laid w) (fun _ _ _ hh h => h.of_heap hh) own started (by kernel_rfl) Tryd.func3
    (ChangeSpec.witness_shaped (enc := enc) (C := Tryd.checked) (os := os) (X := fun w _ => laidMetH Tryd.prog Rows.valSaysRow.laid w) false (World.doorLaid Tryd.prog 400 os) #[.agg #[.int .i64 0, .int .i64 0, .string ⟨#[]⟩], .agg #[.int .i64 0, .int .i64 0, .string ⟨#[]⟩], .string ⟨#[]⟩] 8 rfl (World.shaped_of_RefB (by kernel_rfl) (by kernel_rfl)) (by kernel_rfl) (by kernel_rfl) (by kernel_rfl) (door_met os _)) ?_
  intro W base args ds gs before hval0 hW _ hsz hL _
  have hval : ∀ (j : Nat) t v, Tryd.f3.params[j]? = some t → args[j]? = some v → Value.okWide Tryd.prog W .any base t v := hval0
  have hW' := hW
  obtain ⟨p, q, hA0, hV, rfl, hfz, hnd⟩ := hW
  have hA : DataW.TrodAll enc Tryd.prog W 0 (fun _ => true) true Tryd.f3.params.toList args.toList ds p := hA0
  rw [Tryd.params3] at hA hval
  obtain ⟨v0, vs0, d0, ds0, p0, q0, hargs, rfl, rfl, h0, r0⟩ := trodAll_cons hA
  obtain ⟨v1, vs1, d1, ds1, p1, q1, rfl, rfl, rfl, h1, r1⟩ := trodAll_cons r0
  obtain ⟨v2, vs2, d2, ds2, p2, q2, rfl, rfl, rfl, h2, r2⟩ := trodAll_cons r1
  obtain ⟨rfl, rfl, rfl⟩ := trodAll_nil r2
  obtain rfl : args = #[v0, v1, v2] := by cases args; simp_all
  obtain ⟨rfl, rfl⟩ := trodVars_none hV
  obtain ⟨k1, n1, t1, rfl, rfl, rfl, x1, y1, z1⟩ := open_val (hval 0 23 v0 rfl rfl) h0
  obtain ⟨k2, n2, t2, rfl, rfl, rfl, x2, y2, z2⟩ := open_val (hval 1 23 v1 rfl rfl) h1
  obtain ⟨s, rfl, rfl, rfl, z3⟩ := ChangeMaps.open_string Tryd.underlying9 (hval 2 9 v2 rfl rfl) h2
  have g1 : t1.size ≤ 140737488351232 := sized_val (j := 0) hsz rfl rfl
  have g2 : t2.size ≤ 140737488351232 := sized_val (j := 1) hsz rfl rfl
  have g3 : s.size ≤ 140737488351232 := sized_string (j := 2) hsz rfl rfl
  clear hA0 hval0
  simp only [List.append_nil] at hW'
  refine (walk k1 n1 t1 k2 n2 t2 s W y1 g1 g2 g3 (laid_w hL)).mono fun e W' ⟨he, hg⟩ => ?_
  subst he
  exact ⟨_, rfl, post_kept hW' (fun _ _ _ => (trodAll_cons_mk (shut_bool Tryd.underlying4 _) trodAll_mk0))
    (fun sp => (trodAll_cons_mk (shut_val x1 y1 z1) (trodAll_cons_mk (shut_val x2 y2 z2) (trodAll_cons_mk (ChangeMaps.shut_string Tryd.underlying9 z3) trodAll_mk0)))) (fun _ => rfl) hg (ok_one (by kernel_rfl) rfl (okWide_bool_mk Tryd.underlying4 _))⟩

theorem over : Rows.valSaysRow.holds Tryd.pinned (OpenSpec.ofChange Rows.valSaysSpec) :=
  OpenClaim.holds_of_wide 3 Tryd.f3 rfl rfl rfl rfl rfl rfl rfl ⟨rfl, rfl, rfl, rfl, rfl⟩ rfl rfl rfl rfl rfl (by kernel_rfl) Tryd.func3 (by kernel_rfl)
    (of_decide_eq_true (by kernel_rfl)) (by unfold Func.isWrapper; first | (rw [if_pos (by decide +kernel)]; kernel_rfl) | (rw [if_neg (by decide +kernel)]; exact ⟨rfl, rfl⟩))
    (fun os started H enc _ => lifted os started H enc)

theorem proved : Rows.ValSaysCardSaid :=
  Claim7.holds_tied_plain_at .later [] [.data, .data, .data, .data] true _ false
    over (fun _ h => by cases h) (by kernel_rfl) (fun _ h => by cases h) valSays_row_tie rfl ⟨rfl, rfl⟩ (by kernel_rfl) rfl
    (fun f fn hf hfn => by
      obtain rfl : f = 3 := Option.some.inj ((show Tryd.prog.funcNamed Rows.valSaysRow.func = some 3 by kernel_rfl).symm.trans hf) |>.symm
      obtain rfl : fn = Tryd.f3 := (Option.some.inj (Tryd.func3.symm.trans hfn)).symm
      exact ⟨by kernel_rfl, fun j t ht => by
        rw [Tryd.params3] at ht
        have hm : t ∈ [23, 23, 9] := by simpa using Array.mem_of_getElem? ht
        have hall : ([23, 23, 9].all fun u => !Tryd.prog.wantsStandIn u) = true := by kernel_rfl
        exact (show Tryd.prog.wantsStandIn t = false by simpa using List.all_eq_true.1 hall t hm)⟩)
    (by kernel_rfl)
#print axioms proved
end Go.Proofs.YtooaiicbnfmnpaaDoor.valSays
