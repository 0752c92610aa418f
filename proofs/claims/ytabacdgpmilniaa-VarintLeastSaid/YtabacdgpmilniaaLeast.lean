/-
  What is proved: the law VarintLeast of layer 1, as the given row states it: for every input it returns true, and its arguments read as they did.
-/
import Derived.Test.YtabacdgpmilniaaRows
import Derived.Test.YtabacdgpmilniaaAwake
import Derived.WalkKit
import Derived.ProofKit
import Derived.OpenShut
namespace Go.Proofs.Ytabacdgpmilniaa.varintLeast
open Go.ChangeShapes Go.WideShapes Go.ChangeAt Go.RowKit
set_option linter.unusedVariables false

theorem own : ownKnob Try.prog.godebug = none := by kernel_rfl

theorem wf_u64_bd {a : Int} (h : (Lit.int .u64 a).wf = true) : 0 ≤ a ∧ a < 18446744073709551616 := by
  simp [Lit.wf] at h
  have h1 : IntKind.u64.min = 0 := by decide
  have h2 : IntKind.u64.max = 18446744073709551615 := by decide
  omega
theorem wf_u8_bd {a : Int} (h : (Lit.int .u8 a).wf = true) : 0 ≤ a ∧ a < 256 := by
  simp [Lit.wf] at h
  have h1 : IntKind.u8.min = 0 := by decide
  have h2 : IntKind.u8.max = 255 := by decide
  omega

theorem least_fact (n q : Nat) (hq : q ≤ 9) : decide (((putS n).size : Int) ≤ 1 + (q : Int)) = (1 + (q : Int) == 10 || (n : Int) / 2 ^ (7 * (1 + q)) == 0) := by
  have hl : (putS n).size = (putL n).length := by simp [putS, ByteArray.size]
  have h := put_len 9 n (1 + q) (by omega)
  have e7 : (2 : Nat) ^ (7 * (1 + q)) = 128 ^ (1 + q) := by rw [Nat.pow_mul]
  have hp : 0 < 128 ^ (1 + q) := Nat.pow_pos (by omega)
  have hd : (n : Int) / 2 ^ (7 * (1 + q)) = ((n / 128 ^ (1 + q) : Nat) : Int) := by rw [← e7]; simp
  rw [hd, hl, Bool.eq_iff_iff]
  simp only [decide_eq_true_eq, Bool.or_eq_true, beq_iff_eq]
  have hz : (((n / 128 ^ (1 + q) : Nat) : Int) = 0) ↔ n < 128 ^ (1 + q) := by
    rw [Int.natCast_eq_zero, Nat.div_eq_zero_iff]; omega
  rw [hz]
  unfold putL
  constructor
  · intro hh
    rcases h.1 (by omega) with h1 | h1
    · left; omega
    · right; exact h1
  · intro hh
    have := h.2 (by rcases hh with h1 | h1; · left; omega
                    · right; exact h1)
    omega

set_option maxRecDepth 100000 in
set_option maxHeartbeats 1000000 in
theorem walk (a0 : Int) (a1 : Int) (w0 : (Lit.int .u64 a0).wf = true) (w1 : (Lit.int .u8 a1).wf = true) (w : World) :
    Calls Try.prog 5 #[.int .u64 a0, .int .u8 a1] w fun e w' => e = .returned (.bool true) ∧ Grown w w' := by
  have h0 := wf_u64_bd w0
  have h1 := wf_u8_bd w1
  clear w0 w1
  obtain ⟨n, rfl⟩ : ∃ n : Nat, a0 = (n : Int) := ⟨a0.toNat, by omega⟩
  obtain ⟨q, hq⟩ : ∃ q : Nat, a1 % 10 = (q : Int) := ⟨(a1 % 10).toNat, by omega⟩
  have hq9 : q ≤ 9 := by omega
  have hn : n < 18446744073709551616 := by omega
  have hps := putS_size n
  obtain ⟨h10, h11⟩ := h1
  have HF := Lib.hid (least_fact n q hq9)
  clear h0
  go_enter Try.func5, Try.ntmps5
  go_wp2_with (first | (go_at_call 13; ((with_reducible refine (put_any _ _ _ hn (by decide)).mono ?_); rintro e w1 ⟨rfl, hg⟩)) | (go_at_call 6; ((with_reducible refine (awake_any _).mono ?_); rintro e w2 ⟨rfl, hg2⟩)))
  · go_ret
    exact ⟨rfl, grown_trans hg hg2⟩
  · go_ret
    exact ⟨rfl, grown_trans hg hg2⟩


/-! ### THE ROW's STEP: WRITTEN OUT: LEAVE IT -/
set_option maxRecDepth 100000 in
theorem lifted (os : Os) (started : os.Started) (H : Type) (enc : TypeId × Value → H) :
    ReturnsInHanded {} Try.checked os 5 .any (Rows.varintLeastSpec.pre6 enc Try.prog Try.f5 Rows.varintLeastRow.domain false) (Rows.varintLeastSpec.post enc Try.prog Try.f5 false true false false) := by
  refine returnsInHanded_of_change (C := Try.checked) own started (by kernel_rfl) Try.func5
    (ChangeSpec.witness6 (enc := enc) (C := Try.checked) false ⟨#[], #[.int .u64 0, .int .u8 0], []⟩ 8 (by kernel_rfl) (by kernel_rfl) (by kernel_rfl) (by kernel_rfl)) ?_
  intro W base args ds gs before hval0 hW hcnd _
  have hval : ∀ (j : Nat) t v, Try.f5.params[j]? = some t → args[j]? = some v → Value.okWide Try.prog W .any base t v := hval0
  have hW' := hW
  obtain ⟨p, q, hA0, hV, rfl, hfz, hnd⟩ := hW
  have hA : DataW.TrodAll enc Try.prog W 0 (fun _ => true) true Try.f5.params.toList args.toList ds p := hA0
  rw [Try.params5] at hA hval
  obtain ⟨v0, vs0, d0, ds0, p0, q0, hargs, rfl, rfl, h0, r0⟩ := trodAll_cons hA
  obtain ⟨v1, vs1, d1, ds1, p1, q1, rfl, rfl, rfl, h1, r1⟩ := trodAll_cons r0
  obtain ⟨rfl, rfl, rfl⟩ := trodAll_nil r1
  obtain rfl : args = #[v0, v1] := by cases args; simp_all
  obtain ⟨rfl, rfl⟩ := trodVars_none hV
  obtain ⟨a0, rfl, rfl, rfl, w0⟩ := open_int Try.underlying22 (hval 0 22 v0 rfl rfl) h0
  obtain ⟨a1, rfl, rfl, rfl, w1⟩ := open_int Try.underlying5 (hval 1 5 v1 rfl rfl) h1
  clear hA0 hval0
  simp only [List.append_nil] at hW'
  refine (walk a0 a1 w0 w1 W).mono fun e W' ⟨he, hg⟩ => ?_
  subst he
  exact ⟨_, rfl, post_of_same (pa := []) (pv := []) hW' (fun _ _ _ => (trodAll_cons_mk (shut_bool Try.underlying4 _) trodAll_mk0)) (fun sp _ => (trodAll_cons_mk (shut_int Try.underlying22 w0) (trodAll_cons_mk (shut_int Try.underlying5 w1) trodAll_mk0))) (fun _ _ => rfl) rfl
    (hg.frame _) hg.2.1 (ok_one (by kernel_rfl) rfl (okWide_bool_mk Try.underlying4 _))⟩

theorem over : Rows.varintLeastRow.holds Try.pinned (OpenSpec.ofChange Rows.varintLeastSpec) :=
  OpenClaim.holds_of_wide 5 Try.f5 rfl rfl rfl rfl rfl rfl rfl ⟨rfl, rfl, rfl, rfl, rfl⟩ rfl rfl rfl rfl rfl (by kernel_rfl) Try.func5 (by kernel_rfl)
    (of_decide_eq_true (by kernel_rfl)) (by unfold Func.isWrapper; first | (rw [if_pos (by decide +kernel)]; kernel_rfl) | (rw [if_neg (by decide +kernel)]; exact ⟨rfl, rfl⟩))
    (fun os started H enc _ => lifted os started H enc)

/-- ████ THE STATEMENT ████ -/
theorem proved : Rows.VarintLeastSaid :=
  over
#print axioms proved
end Go.Proofs.Ytabacdgpmilniaa.varintLeast
