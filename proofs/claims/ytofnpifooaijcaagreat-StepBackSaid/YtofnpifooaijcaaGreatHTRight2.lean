/-
  What is proved: package table's restGoes and Right of layer 13 (P13.4), called with any table of bounded texts and two kinds, tell what the chapter says; the world has new blocks at most.
-/
import Derived.Test.YtofnpifooaijcaaGreatHTRight
namespace Go.Proofs.YtofnpifooaijcaaGreat
open Go.RowKit
set_option linter.unusedVariables false
set_option maxRecDepth 100000 in
set_option maxHeartbeats 8000000 in
theorem tgoes_any (A : Option Addr) (n c : Nat) (T : Tb) (a b : Int) (w : World) (h : Pal w A n c T.L) (hd : T.d.t.size ≤ 1099511627776) (hb : T.b.t.size ≤ 1099511627776) (r : Bool) (hr : r = true ↔ rightVa T.d = true ∧ T.d.k = b ∧ rightVa T.b = true ∧ T.b.k = a ∧ forthT T (backT T T.d) = T.d ∧ backT T (forthT T T.b) = T.b) :
    Calls Tryz.prog 164 #[.agg #[.slice A n c, .bool T.keep, .int .i64 T.d.k, .int .i64 T.d.n, .string T.d.t, .int .i64 T.b.k, .int .i64 T.b.n, .string T.b.t, .bool T.tu], .int .i64 a, .int .i64 b] w fun e w' => e = .returned (.bool r) ∧ Kept w w' := by
  have hk := (Kept.refl w).alloc #[.slice A n c, .bool T.keep, .int .i64 T.d.k, .int .i64 T.d.n, .string T.d.t, .int .i64 T.b.k, .int .i64 T.b.n, .string T.b.t, .bool T.tu] 31
  have hcap := h.cap.1; have hcap2 := h.cap.2
  have HNL := Lib.hid h.1; have HR := Lib.hid hr
  have HT := Lib.hid (TabB.new w A n c T 31)
  have HH := Lib.hid (h.kept hk)
  obtain ⟨U, hU⟩ : ∃ U, w.alloc (.cells #[.slice A n c, .bool T.keep, .int .i64 T.d.k, .int .i64 T.d.n, .string T.d.t, .int .i64 T.b.k, .int .i64 T.b.n, .string T.b.t, .bool T.tu] 31) = U := ⟨_, rfl⟩
  rw [hU] at hk HT HH
  have HK := Lib.hid hk; have HUU := Lib.hid hU
  obtain ⟨q1, hq1⟩ := bool_of (rightVa T.d = true ∧ T.d.k = b)
  obtain ⟨q2, hq2⟩ := bool_of (rightVa T.b = true ∧ T.b.k = a)
  obtain ⟨v1, hv1⟩ : ∃ v, backT T T.d = v := ⟨_, rfl⟩
  obtain ⟨v2, hv2⟩ : ∃ v, forthT T v1 = v := ⟨_, rfl⟩
  obtain ⟨v3, hv3⟩ : ∃ v, forthT T T.b = v := ⟨_, rfl⟩
  obtain ⟨v4, hv4⟩ : ∃ v, backT T v3 = v := ⟨_, rfl⟩
  have A1 := Lib.hid (fun w => tof_any T.d b hd q1 hq1 w)
  have A2 := Lib.hid (fun w => tof_any T.b a hb q2 hq2 w)
  have A5 := Lib.hid (fun w h => tback_any A n c T T.d v1 hv1 w h)
  have A6 := Lib.hid (fun w h => tforth_any A n c T v1 v2 hv2 w h)
  have A7 := Lib.hid (fun w h => tforth_any A n c T T.b v3 hv3 w h)
  have A8 := Lib.hid (fun w h => tback_any A n c T v3 v4 hv4 w h)
  have HFB := Lib.hid (show forthT T (backT T T.d) = v2 by rw [hv1, hv2]); have HBF := Lib.hid (show backT T (forthT T T.b) = v4 by rw [hv3, hv4])
  have HQ1 := Lib.hid hq1; have HQ2 := Lib.hid hq2
  clear h hr hk hU hd hb hq1 hq2 hv1 hv2 hv3 hv4
  go_enter Tryz.func164, Tryz.ntmps164
  go_wp2_with fail
  rw [HUU.out]
  have T0 := KExt.cell HT.out.c0; have T1 := KExt.cell HT.out.c1; have T2 := KExt.cell HT.out.c2; have T3 := KExt.cell HT.out.c3; have T4 := KExt.cell HT.out.c4; have T5 := KExt.cell HT.out.c5; have T6 := KExt.cell HT.out.c6; have T7 := KExt.cell HT.out.c7; have T8 := KExt.cell HT.out.c8
  cases q1 with
  | false =>
    have HF := Lib.hid (show false = r by rw [eq_comm, ← Bool.not_eq_true, HR.out]; exact fun k => by have := HQ1.out.2 ⟨k.1, k.2.1⟩; cases this)
    refine region_kept _ (by kernel_rfl) (by kernel_rfl) (Kept.refl _) ?_
    repeat (go_big_quiet_step ((first
        | (go_at_call 171; (with_reducible first | exact KExt.callsK (A1.out _) | exact KExt.callsK (A2.out _)))
        | (go_at_call 165; (with_reducible first | exact KExt.callsK (A5.out _ (HH.out.kept (KExt.g _))) | exact KExt.callsK (A8.out _ (HH.out.kept (KExt.g _)))))
        | (go_at_call 166; (with_reducible first | exact KExt.callsK (A6.out _ (HH.out.kept (KExt.g _))) | exact KExt.callsK (A7.out _ (HH.out.kept (KExt.g _)))))
        | fail)))
    refine wpQuiet_nil ?_
    intro G
    clear T0 T1 T2 T3 T4 T5 T6 T7 T8
    go_wp2_with fail
    go_ret
    exact ⟨ret_bool HF.out, HK.out.trans G.g⟩
  | true =>
    cases q2 with
    | false =>
      have HF := Lib.hid (show false = r by rw [eq_comm, ← Bool.not_eq_true, HR.out]; exact fun k => by have := HQ2.out.2 ⟨k.2.2.1, k.2.2.2.1⟩; cases this)
      refine region_kept _ (by kernel_rfl) (by kernel_rfl) (Kept.refl _) ?_
      repeat (go_big_quiet_step ((first
          | (go_at_call 171; (with_reducible first | exact KExt.callsK (A1.out _) | exact KExt.callsK (A2.out _)))
          | (go_at_call 165; (with_reducible first | exact KExt.callsK (A5.out _ (HH.out.kept (KExt.g _))) | exact KExt.callsK (A8.out _ (HH.out.kept (KExt.g _)))))
          | (go_at_call 166; (with_reducible first | exact KExt.callsK (A6.out _ (HH.out.kept (KExt.g _))) | exact KExt.callsK (A7.out _ (HH.out.kept (KExt.g _)))))
          | fail)))
      refine wpQuiet_nil ?_
      intro G
      clear T0 T1 T2 T3 T4 T5 T6 T7 T8
      go_wp2_with fail
      go_ret
      exact ⟨ret_bool HF.out, HK.out.trans G.g⟩
    | true =>
      by_cases q5 : v2 = T.d
      · have HEq5 := Lib.hid q5
        obtain ⟨q50, q51, q52⟩ := va_eq q5
        clear q5
        by_cases q6 : v4 = T.b
        · have HEq6 := Lib.hid q6
          obtain ⟨q60, q61, q62⟩ := va_eq q6
          clear q6
          have HF := Lib.hid (show true = r from (HR.out.2 ⟨(HQ1.out.1 (by first | rfl | trivial)).1, (HQ1.out.1 (by first | rfl | trivial)).2, (HQ2.out.1 (by first | rfl | trivial)).1, (HQ2.out.1 (by first | rfl | trivial)).2, by rw [HFB.out, HEq5.out], by rw [HBF.out, HEq6.out]⟩).symm)
          refine region_kept _ (by kernel_rfl) (by kernel_rfl) (Kept.refl _) ?_
          repeat (go_big_quiet_step ((first
              | (go_at_call 171; (with_reducible first | exact KExt.callsK (A1.out _) | exact KExt.callsK (A2.out _)))
              | (go_at_call 165; (with_reducible first | exact KExt.callsK (A5.out _ (HH.out.kept (KExt.g _))) | exact KExt.callsK (A8.out _ (HH.out.kept (KExt.g _)))))
              | (go_at_call 166; (with_reducible first | exact KExt.callsK (A6.out _ (HH.out.kept (KExt.g _))) | exact KExt.callsK (A7.out _ (HH.out.kept (KExt.g _)))))
              | fail)))
          refine wpQuiet_nil ?_
          intro G
          clear T0 T1 T2 T3 T4 T5 T6 T7 T8
          go_wp2_with fail
          go_ret
          exact ⟨ret_bool HF.out, HK.out.trans G.g⟩
        · have HF := Lib.hid (show false = r by rw [eq_comm, ← Bool.not_eq_true, HR.out]; exact fun k => q6 (by rw [← HBF.out]; exact k.2.2.2.2.2))
          rcases va_ne q6 with q60 | ⟨q60, q61⟩ | ⟨q60, q61, q62⟩ <;> clear q6
          · refine region_kept _ (by kernel_rfl) (by kernel_rfl) (Kept.refl _) ?_
            repeat (go_big_quiet_step ((first
                | (go_at_call 171; (with_reducible first | exact KExt.callsK (A1.out _) | exact KExt.callsK (A2.out _)))
                | (go_at_call 165; (with_reducible first | exact KExt.callsK (A5.out _ (HH.out.kept (KExt.g _))) | exact KExt.callsK (A8.out _ (HH.out.kept (KExt.g _)))))
                | (go_at_call 166; (with_reducible first | exact KExt.callsK (A6.out _ (HH.out.kept (KExt.g _))) | exact KExt.callsK (A7.out _ (HH.out.kept (KExt.g _)))))
                | fail)))
            refine wpQuiet_nil ?_
            intro G
            clear T0 T1 T2 T3 T4 T5 T6 T7 T8
            go_wp2_with fail
            go_ret
            exact ⟨ret_bool HF.out, HK.out.trans G.g⟩
          · refine region_kept _ (by kernel_rfl) (by kernel_rfl) (Kept.refl _) ?_
            repeat (go_big_quiet_step ((first
                | (go_at_call 171; (with_reducible first | exact KExt.callsK (A1.out _) | exact KExt.callsK (A2.out _)))
                | (go_at_call 165; (with_reducible first | exact KExt.callsK (A5.out _ (HH.out.kept (KExt.g _))) | exact KExt.callsK (A8.out _ (HH.out.kept (KExt.g _)))))
                | (go_at_call 166; (with_reducible first | exact KExt.callsK (A6.out _ (HH.out.kept (KExt.g _))) | exact KExt.callsK (A7.out _ (HH.out.kept (KExt.g _)))))
                | fail)))
            refine wpQuiet_nil ?_
            intro G
            clear T0 T1 T2 T3 T4 T5 T6 T7 T8
            go_wp2_with fail
            go_ret
            exact ⟨ret_bool HF.out, HK.out.trans G.g⟩
          · refine region_kept _ (by kernel_rfl) (by kernel_rfl) (Kept.refl _) ?_
            repeat (go_big_quiet_step ((first
                | (go_at_call 171; (with_reducible first | exact KExt.callsK (A1.out _) | exact KExt.callsK (A2.out _)))
                | (go_at_call 165; (with_reducible first | exact KExt.callsK (A5.out _ (HH.out.kept (KExt.g _))) | exact KExt.callsK (A8.out _ (HH.out.kept (KExt.g _)))))
                | (go_at_call 166; (with_reducible first | exact KExt.callsK (A6.out _ (HH.out.kept (KExt.g _))) | exact KExt.callsK (A7.out _ (HH.out.kept (KExt.g _)))))
                | fail)))
            refine wpQuiet_nil ?_
            intro G
            clear T0 T1 T2 T3 T4 T5 T6 T7 T8
            go_wp2_with fail
            go_ret
            exact ⟨ret_bool HF.out, HK.out.trans G.g⟩
      · have HF := Lib.hid (show false = r by rw [eq_comm, ← Bool.not_eq_true, HR.out]; exact fun k => q5 (by rw [← HFB.out]; exact k.2.2.2.2.1))
        rcases va_ne q5 with q50 | ⟨q50, q51⟩ | ⟨q50, q51, q52⟩ <;> clear q5
        · refine region_kept _ (by kernel_rfl) (by kernel_rfl) (Kept.refl _) ?_
          repeat (go_big_quiet_step ((first
              | (go_at_call 171; (with_reducible first | exact KExt.callsK (A1.out _) | exact KExt.callsK (A2.out _)))
              | (go_at_call 165; (with_reducible first | exact KExt.callsK (A5.out _ (HH.out.kept (KExt.g _))) | exact KExt.callsK (A8.out _ (HH.out.kept (KExt.g _)))))
              | (go_at_call 166; (with_reducible first | exact KExt.callsK (A6.out _ (HH.out.kept (KExt.g _))) | exact KExt.callsK (A7.out _ (HH.out.kept (KExt.g _)))))
              | fail)))
          refine wpQuiet_nil ?_
          intro G
          clear T0 T1 T2 T3 T4 T5 T6 T7 T8
          go_wp2_with fail
          go_ret
          exact ⟨ret_bool HF.out, HK.out.trans G.g⟩
        · refine region_kept _ (by kernel_rfl) (by kernel_rfl) (Kept.refl _) ?_
          repeat (go_big_quiet_step ((first
              | (go_at_call 171; (with_reducible first | exact KExt.callsK (A1.out _) | exact KExt.callsK (A2.out _)))
              | (go_at_call 165; (with_reducible first | exact KExt.callsK (A5.out _ (HH.out.kept (KExt.g _))) | exact KExt.callsK (A8.out _ (HH.out.kept (KExt.g _)))))
              | (go_at_call 166; (with_reducible first | exact KExt.callsK (A6.out _ (HH.out.kept (KExt.g _))) | exact KExt.callsK (A7.out _ (HH.out.kept (KExt.g _)))))
              | fail)))
          refine wpQuiet_nil ?_
          intro G
          clear T0 T1 T2 T3 T4 T5 T6 T7 T8
          go_wp2_with fail
          go_ret
          exact ⟨ret_bool HF.out, HK.out.trans G.g⟩
        · refine region_kept _ (by kernel_rfl) (by kernel_rfl) (Kept.refl _) ?_
          repeat (go_big_quiet_step ((first
              | (go_at_call 171; (with_reducible first | exact KExt.callsK (A1.out _) | exact KExt.callsK (A2.out _)))
              | (go_at_call 165; (with_reducible first | exact KExt.callsK (A5.out _ (HH.out.kept (KExt.g _))) | exact KExt.callsK (A8.out _ (HH.out.kept (KExt.g _)))))
              | (go_at_call 166; (with_reducible first | exact KExt.callsK (A6.out _ (HH.out.kept (KExt.g _))) | exact KExt.callsK (A7.out _ (HH.out.kept (KExt.g _)))))
              | fail)))
          refine wpQuiet_nil ?_
          intro G
          clear T0 T1 T2 T3 T4 T5 T6 T7 T8
          go_wp2_with fail
          go_ret
          exact ⟨ret_bool HF.out, HK.out.trans G.g⟩
set_option maxRecDepth 100000 in
set_option maxHeartbeats 8000000 in
theorem htright_any (A : Option Addr) (n c : Nat) (T : Tb) (a b : Int) (w : World) (h : Pal w A n c T.L) (hz : SzT T) (r : Bool) (hr : r = true ↔ RightT T a b) :
    Calls Tryz.prog 151 #[.agg #[.slice A n c, .bool T.keep, .int .i64 T.d.k, .int .i64 T.d.n, .string T.d.t, .int .i64 T.b.k, .int .i64 T.b.n, .string T.b.t, .bool T.tu], .int .i64 a, .int .i64 b] w fun e w' => e = .returned (.bool r) ∧ Kept w w' := by
  have hk := (Kept.refl w).alloc #[.slice A n c, .bool T.keep, .int .i64 T.d.k, .int .i64 T.d.n, .string T.d.t, .int .i64 T.b.k, .int .i64 T.b.n, .string T.b.t, .bool T.tu] 31
  have hcap := h.cap.1; have hcap2 := h.cap.2
  have HNL := Lib.hid h.1; have HR := Lib.hid hr
  have HT := Lib.hid (TabB.new w A n c T 31)
  have HH := Lib.hid (h.kept hk)
  obtain ⟨U, hU⟩ : ∃ U, w.alloc (.cells #[.slice A n c, .bool T.keep, .int .i64 T.d.k, .int .i64 T.d.n, .string T.d.t, .int .i64 T.b.k, .int .i64 T.b.n, .string T.b.t, .bool T.tu] 31) = U := ⟨_, rfl⟩
  rw [hU] at hk HT HH
  have HK := Lib.hid hk; have HUU := Lib.hid hU
  have HSZ := Lib.hid hz
  have t8 := HT.out.c8
  clear h hz hr hk hU
  rcases Bool.eq_false_or_eq_true T.tu with htu | htu
  · replace HR := Lib.hid (show r = true ↔ RightU T b a by have := HR.out; unfold RightT at this; rw [htu] at this; simpa using this)
    rw [htu] at t8 HUU ⊢
    have HTU := Lib.hid htu
    obtain ⟨q1, hq1⟩ := bool_of (1 ≤ b ∧ b ≤ 3)
    obtain ⟨q2, hq2⟩ := bool_of (1 ≤ a ∧ a ≤ 3)
    obtain ⟨q3, hq3⟩ := bool_of (KindsP T.L b a)
    have A1 := Lib.hid (fun w => tkind_any b q1 hq1 w)
    have A2 := Lib.hid (fun w => tkind_any a q2 hq2 w)
    have A3 := Lib.hid (fun w h => tpairs_any A n c T b a w h HSZ.out.L q3 hq3)
    have HQ1 := Lib.hid hq1; have HQ2 := Lib.hid hq2; have HQ3 := Lib.hid hq3
    rw [htu] at A3
    clear hq1 hq2 hq3 htu
    go_enter Tryz.func151, Tryz.ntmps151
    go_wp2_with fail
    rw [HUU.out]
    go_wp2_with fail
    go_at_call 161
    refine (A1.out _).mono ?_
    rintro e w1 ⟨rfl, hk1⟩
    replace HK := Lib.hid (HK.out.trans hk1); replace HT := Lib.hid (HT.out.kept hk1); replace HH := Lib.hid (HH.out.kept hk1)
    clear hk1
    cases q1 with
    | false =>
      have HF := Lib.hid (show false = r by rw [eq_comm, ← Bool.not_eq_true, HR.out]; exact fun k => by have := HQ1.out.2 k.ka; cases this)
      go_wp2_with fail
      go_ret
      exact ⟨ret_bool HF.out, HK.out⟩
    | true =>
      go_wp2_with fail
      go_at_call 161
      refine (A2.out _).mono ?_
      rintro e w2 ⟨rfl, hk1⟩
      replace HK := Lib.hid (HK.out.trans hk1); replace HT := Lib.hid (HT.out.kept hk1); replace HH := Lib.hid (HH.out.kept hk1)
      clear hk1 t8
      have t0 := HT.out.c0; have t1 := HT.out.c1; have t2 := HT.out.c2; have t3 := HT.out.c3; have t4 := HT.out.c4; have t5 := HT.out.c5; have t6 := HT.out.c6; have t7 := HT.out.c7; have t8 := HT.out.c8
      rw [HTU.out] at t8
      cases q2 with
      | false =>
        have HF := Lib.hid (show false = r by rw [eq_comm, ← Bool.not_eq_true, HR.out]; exact fun k => by have := HQ2.out.2 k.kb; cases this)
        go_wp2_with fail
        go_ret
        exact ⟨ret_bool HF.out, HK.out⟩
      | true =>
        go_wp2_with fail
        go_at_call 162
        refine (A3.out _ HH.out).mono ?_
        rintro e w3 ⟨rfl, hk1⟩
        replace HK := Lib.hid (HK.out.trans hk1); replace HT := Lib.hid (HT.out.kept hk1); replace HH := Lib.hid (HH.out.kept hk1)
        clear hk1 t0 t1 t2 t3 t4 t5 t6 t7 t8
        have t0 := HT.out.c0; have t1 := HT.out.c1; have t2 := HT.out.c2; have t3 := HT.out.c3; have t4 := HT.out.c4; have t5 := HT.out.c5; have t6 := HT.out.c6; have t7 := HT.out.c7; have t8 := HT.out.c8
        rw [HTU.out] at t8
        cases q3 with
        | false =>
          have HF := Lib.hid (show false = r by rw [eq_comm, ← Bool.not_eq_true, HR.out]; exact fun k => by have := HQ3.out.2 k.kinds; cases this)
          go_wp2_with fail
          go_ret
          exact ⟨ret_bool HF.out, HK.out⟩
        | true =>
          rcases Bool.eq_false_or_eq_true T.keep with hkp | hkp
          · rw [hkp] at t1
            have HKP := Lib.hid hkp
            have HK3 := Lib.hid (HQ3.out.1 (by first | rfl | trivial))
            clear hkp
            by_cases q : b = a
            · have HEq := Lib.hid q
              have q1 : (b == a) = true := by rw [q]; simp
              have q2 : (b != a) = false := by rw [q]; simp
              have q3 : decide (b = a) = true := decide_eq_true q
              obtain ⟨z, hz⟩ := bool_of (T.d = .zero ∧ T.b = .zero ∧ ∀ p ∈ T.L, fstT T.L p.f = none → backT T p.t = p.f)
              have AS := Lib.hid (fun w h => tstays_any A n c T w h HK3.out.1.once z hz)
              have HZ := Lib.hid (show z = r by rw [Bool.eq_iff_iff, HR.out, hz]; exact ⟨fun k => ⟨HQ1.out.1 (by first | rfl | trivial), HQ2.out.1 (by first | rfl | trivial), HK3.out.2, HK3.out.1.ok, HK3.out.1.once, fun e => (by rw [HKP.out] at e; cases e), fun _ => ⟨HEq.out, k⟩⟩, fun k => (k.kp HKP.out).2⟩)
              rw [HKP.out, HTU.out] at AS
              clear q hz
              go_wp2_with fail
              go_at_call 163
              refine (AS.out _ HH.out).mono ?_
              rintro e w4 ⟨rfl, hk1⟩
              replace HK := Lib.hid (HK.out.trans hk1); replace HT := Lib.hid (HT.out.kept hk1); replace HH := Lib.hid (HH.out.kept hk1)
              clear hk1 t0 t1 t2 t3 t4 t5 t6 t7 t8
              go_wp2_with fail
              go_ret
              exact ⟨ret_bool HZ.out, HK.out⟩
            · have HF := Lib.hid (show false = r by rw [eq_comm, ← Bool.not_eq_true, HR.out]; exact fun k => q (k.kp HKP.out).1)
              have q1 : (b == a) = false := by simpa using q
              have q2 : (b != a) = true := by simpa using q
              have q3 : decide (b = a) = false := decide_eq_false q
              clear q
              go_wp2_with fail
              go_ret
              exact ⟨ret_bool HF.out, HK.out⟩
          · rw [hkp] at t1
            have HKP := Lib.hid hkp
            have HK3 := Lib.hid (HQ3.out.1 (by first | rfl | trivial))
            obtain ⟨z, hz⟩ := bool_of (rightVa T.d = true ∧ T.d.k = a ∧ rightVa T.b = true ∧ T.b.k = b ∧ forthT T (backT T T.d) = T.d ∧ backT T (forthT T T.b) = T.b)
            have AS := Lib.hid (fun w h => tgoes_any A n c T b a w h HSZ.out.d HSZ.out.b z hz)
            have HZ := Lib.hid (show z = r by rw [Bool.eq_iff_iff, HR.out, hz]; exact ⟨fun k => ⟨HQ1.out.1 (by first | rfl | trivial), HQ2.out.1 (by first | rfl | trivial), HK3.out.2, HK3.out.1.ok, HK3.out.1.once, fun _ => k, fun e => (by rw [HKP.out] at e; cases e)⟩, fun k => k.nk HKP.out⟩)
            rw [hkp, HTU.out] at AS
            clear hz hkp
            go_wp2_with fail
            go_at_call 164
            refine (AS.out _ HH.out).mono ?_
            rintro e w4 ⟨rfl, hk1⟩
            replace HK := Lib.hid (HK.out.trans hk1); replace HT := Lib.hid (HT.out.kept hk1); replace HH := Lib.hid (HH.out.kept hk1)
            clear hk1 t0 t1 t2 t3 t4 t5 t6 t7 t8
            go_wp2_with fail
            go_ret
            exact ⟨ret_bool HZ.out, HK.out⟩
  · replace HR := Lib.hid (show r = true ↔ RightU T a b by have := HR.out; unfold RightT at this; rw [htu] at this; simpa using this)
    rw [htu] at t8 HUU ⊢
    have HTU := Lib.hid htu
    obtain ⟨q1, hq1⟩ := bool_of (1 ≤ a ∧ a ≤ 3)
    obtain ⟨q2, hq2⟩ := bool_of (1 ≤ b ∧ b ≤ 3)
    obtain ⟨q3, hq3⟩ := bool_of (KindsP T.L a b)
    have A1 := Lib.hid (fun w => tkind_any a q1 hq1 w)
    have A2 := Lib.hid (fun w => tkind_any b q2 hq2 w)
    have A3 := Lib.hid (fun w h => tpairs_any A n c T a b w h HSZ.out.L q3 hq3)
    have HQ1 := Lib.hid hq1; have HQ2 := Lib.hid hq2; have HQ3 := Lib.hid hq3
    rw [htu] at A3
    clear hq1 hq2 hq3 htu
    go_enter Tryz.func151, Tryz.ntmps151
    go_wp2_with fail
    rw [HUU.out]
    go_wp2_with fail
    go_at_call 161
    refine (A1.out _).mono ?_
    rintro e w1 ⟨rfl, hk1⟩
    replace HK := Lib.hid (HK.out.trans hk1); replace HT := Lib.hid (HT.out.kept hk1); replace HH := Lib.hid (HH.out.kept hk1)
    clear hk1
    cases q1 with
    | false =>
      have HF := Lib.hid (show false = r by rw [eq_comm, ← Bool.not_eq_true, HR.out]; exact fun k => by have := HQ1.out.2 k.ka; cases this)
      go_wp2_with fail
      go_ret
      exact ⟨ret_bool HF.out, HK.out⟩
    | true =>
      go_wp2_with fail
      go_at_call 161
      refine (A2.out _).mono ?_
      rintro e w2 ⟨rfl, hk1⟩
      replace HK := Lib.hid (HK.out.trans hk1); replace HT := Lib.hid (HT.out.kept hk1); replace HH := Lib.hid (HH.out.kept hk1)
      clear hk1 t8
      have t0 := HT.out.c0; have t1 := HT.out.c1; have t2 := HT.out.c2; have t3 := HT.out.c3; have t4 := HT.out.c4; have t5 := HT.out.c5; have t6 := HT.out.c6; have t7 := HT.out.c7; have t8 := HT.out.c8
      rw [HTU.out] at t8
      cases q2 with
      | false =>
        have HF := Lib.hid (show false = r by rw [eq_comm, ← Bool.not_eq_true, HR.out]; exact fun k => by have := HQ2.out.2 k.kb; cases this)
        go_wp2_with fail
        go_ret
        exact ⟨ret_bool HF.out, HK.out⟩
      | true =>
        go_wp2_with fail
        go_at_call 162
        refine (A3.out _ HH.out).mono ?_
        rintro e w3 ⟨rfl, hk1⟩
        replace HK := Lib.hid (HK.out.trans hk1); replace HT := Lib.hid (HT.out.kept hk1); replace HH := Lib.hid (HH.out.kept hk1)
        clear hk1 t0 t1 t2 t3 t4 t5 t6 t7 t8
        have t0 := HT.out.c0; have t1 := HT.out.c1; have t2 := HT.out.c2; have t3 := HT.out.c3; have t4 := HT.out.c4; have t5 := HT.out.c5; have t6 := HT.out.c6; have t7 := HT.out.c7; have t8 := HT.out.c8
        rw [HTU.out] at t8
        cases q3 with
        | false =>
          have HF := Lib.hid (show false = r by rw [eq_comm, ← Bool.not_eq_true, HR.out]; exact fun k => by have := HQ3.out.2 k.kinds; cases this)
          go_wp2_with fail
          go_ret
          exact ⟨ret_bool HF.out, HK.out⟩
        | true =>
          rcases Bool.eq_false_or_eq_true T.keep with hkp | hkp
          · rw [hkp] at t1
            have HKP := Lib.hid hkp
            have HK3 := Lib.hid (HQ3.out.1 (by first | rfl | trivial))
            clear hkp
            by_cases q : a = b
            · have HEq := Lib.hid q
              have q1 : (a == b) = true := by rw [q]; simp
              have q2 : (a != b) = false := by rw [q]; simp
              have q3 : decide (a = b) = true := decide_eq_true q
              obtain ⟨z, hz⟩ := bool_of (T.d = .zero ∧ T.b = .zero ∧ ∀ p ∈ T.L, fstT T.L p.f = none → backT T p.t = p.f)
              have AS := Lib.hid (fun w h => tstays_any A n c T w h HK3.out.1.once z hz)
              have HZ := Lib.hid (show z = r by rw [Bool.eq_iff_iff, HR.out, hz]; exact ⟨fun k => ⟨HQ1.out.1 (by first | rfl | trivial), HQ2.out.1 (by first | rfl | trivial), HK3.out.2, HK3.out.1.ok, HK3.out.1.once, fun e => (by rw [HKP.out] at e; cases e), fun _ => ⟨HEq.out, k⟩⟩, fun k => (k.kp HKP.out).2⟩)
              rw [HKP.out, HTU.out] at AS
              clear q hz
              go_wp2_with fail
              go_at_call 163
              refine (AS.out _ HH.out).mono ?_
              rintro e w4 ⟨rfl, hk1⟩
              replace HK := Lib.hid (HK.out.trans hk1); replace HT := Lib.hid (HT.out.kept hk1); replace HH := Lib.hid (HH.out.kept hk1)
              clear hk1 t0 t1 t2 t3 t4 t5 t6 t7 t8
              go_wp2_with fail
              go_ret
              exact ⟨ret_bool HZ.out, HK.out⟩
            · have HF := Lib.hid (show false = r by rw [eq_comm, ← Bool.not_eq_true, HR.out]; exact fun k => q (k.kp HKP.out).1)
              have q1 : (a == b) = false := by simpa using q
              have q2 : (a != b) = true := by simpa using q
              have q3 : decide (a = b) = false := decide_eq_false q
              clear q
              go_wp2_with fail
              go_ret
              exact ⟨ret_bool HF.out, HK.out⟩
          · rw [hkp] at t1
            have HKP := Lib.hid hkp
            have HK3 := Lib.hid (HQ3.out.1 (by first | rfl | trivial))
            obtain ⟨z, hz⟩ := bool_of (rightVa T.d = true ∧ T.d.k = b ∧ rightVa T.b = true ∧ T.b.k = a ∧ forthT T (backT T T.d) = T.d ∧ backT T (forthT T T.b) = T.b)
            have AS := Lib.hid (fun w h => tgoes_any A n c T a b w h HSZ.out.d HSZ.out.b z hz)
            have HZ := Lib.hid (show z = r by rw [Bool.eq_iff_iff, HR.out, hz]; exact ⟨fun k => ⟨HQ1.out.1 (by first | rfl | trivial), HQ2.out.1 (by first | rfl | trivial), HK3.out.2, HK3.out.1.ok, HK3.out.1.once, fun _ => k, fun e => (by rw [HKP.out] at e; cases e)⟩, fun k => k.nk HKP.out⟩)
            rw [hkp, HTU.out] at AS
            clear hz hkp
            go_wp2_with fail
            go_at_call 164
            refine (AS.out _ HH.out).mono ?_
            rintro e w4 ⟨rfl, hk1⟩
            replace HK := Lib.hid (HK.out.trans hk1); replace HT := Lib.hid (HT.out.kept hk1); replace HH := Lib.hid (HH.out.kept hk1)
            clear hk1 t0 t1 t2 t3 t4 t5 t6 t7 t8
            go_wp2_with fail
            go_ret
            exact ⟨ret_bool HZ.out, HK.out⟩
end Go.Proofs.YtofnpifooaijcaaGreat
