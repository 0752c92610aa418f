/-
  What is proved: the law TableWhole of layer 13, called with any table, case and value that a machine can hold, returns true; the world has new blocks at most.
-/
import Derived.Test.YtjcnjmlgedmmoaaDoorM24
import Derived.Test.YtjcnjmlgedmmoaaDoorM6
namespace Go.Proofs.YtjcnjmlgedmmoaaDoor
open Go.RowKit
set_option linter.unusedVariables false

set_option maxRecDepth 100000 in
set_option maxHeartbeats 8000000 in
theorem hwhole_any (A : Option Addr) (n c : Nat) (T : Tb) (v : Va) (a b : Int) (u : Va) (w : World) (h : Pal w A n c T.L) (hh : HoldT T) (hv : v.t.size ≤ 140737488355328) (hu : u.t.size ≤ 140737488355328) (htr : TruW w) :
    Calls Tryd.prog 5 #[.agg #[.slice A n c, .bool T.keep, .int .i64 T.d.k, .int .i64 T.d.n, .string T.d.t, .int .i64 T.b.k, .int .i64 T.b.n, .string T.b.t, .bool T.tu], .agg #[.int .i64 v.k, .int .i64 v.n, .string v.t, .int .i64 a, .int .i64 b], .agg #[.int .i64 u.k, .int .i64 u.n, .string u.t]] w fun e w' => e = .returned (.bool true) ∧ Kept w w' := by
  have hk := (((Kept.refl w).alloc #[.slice A n c, .bool T.keep, .int .i64 T.d.k, .int .i64 T.d.n, .string T.d.t, .int .i64 T.b.k, .int .i64 T.b.n, .string T.b.t, .bool T.tu] 26).alloc #[.int .i64 v.k, .int .i64 v.n, .string v.t, .int .i64 a, .int .i64 b] 28).alloc #[.int .i64 u.k, .int .i64 u.n, .string u.t] 24
  have k1 := ((Kept.refl (w.alloc (.cells #[.slice A n c, .bool T.keep, .int .i64 T.d.k, .int .i64 T.d.n, .string T.d.t, .int .i64 T.b.k, .int .i64 T.b.n, .string T.b.t, .bool T.tu] 26))).alloc #[.int .i64 v.k, .int .i64 v.n, .string v.t, .int .i64 a, .int .i64 b] 28).alloc #[.int .i64 u.k, .int .i64 u.n, .string u.t] 24
  have k2 := (Kept.refl ((w.alloc (.cells #[.slice A n c, .bool T.keep, .int .i64 T.d.k, .int .i64 T.d.n, .string T.d.t, .int .i64 T.b.k, .int .i64 T.b.n, .string T.b.t, .bool T.tu] 26)).alloc (.cells #[.int .i64 v.k, .int .i64 v.n, .string v.t, .int .i64 a, .int .i64 b] 28))).alloc #[.int .i64 u.k, .int .i64 u.n, .string u.t] 24
  have ht := (TabB.new w A n c T 26).kept k1
  have hc := (CasB.new (w.alloc (.cells #[.slice A n c, .bool T.keep, .int .i64 T.d.k, .int .i64 T.d.n, .string T.d.t, .int .i64 T.b.k, .int .i64 T.b.n, .string T.b.t, .bool T.tu] 26)) v a b 28).kept k2
  have hx := VaO.new ((w.alloc (.cells #[.slice A n c, .bool T.keep, .int .i64 T.d.k, .int .i64 T.d.n, .string T.d.t, .int .i64 T.b.k, .int .i64 T.b.n, .string T.b.t, .bool T.tu] 26)).alloc (.cells #[.int .i64 v.k, .int .i64 v.n, .string v.t, .int .i64 a, .int .i64 b] 28)) u 24
  rw [show (w.alloc (.cells #[.slice A n c, .bool T.keep, .int .i64 T.d.k, .int .i64 T.d.n, .string T.d.t, .int .i64 T.b.k, .int .i64 T.b.n, .string T.b.t, .bool T.tu] 26)).heap.size = w.heap.size + 1 by simp] at hc
  rw [show ((w.alloc (.cells #[.slice A n c, .bool T.keep, .int .i64 T.d.k, .int .i64 T.d.n, .string T.d.t, .int .i64 T.b.k, .int .i64 T.b.n, .string T.b.t, .bool T.tu] 26)).alloc (.cells #[.int .i64 v.k, .int .i64 v.n, .string v.t, .int .i64 a, .int .i64 b] 28)).heap.size = w.heap.size + 1 + 1 by simp] at hx
  have hp := h.kept hk
  have HLN := Lib.hid h.1; have hcap := h.cap.1; have hcap2 := h.cap.2
  obtain ⟨U, hU⟩ : ∃ U, ((w.alloc (.cells #[.slice A n c, .bool T.keep, .int .i64 T.d.k, .int .i64 T.d.n, .string T.d.t, .int .i64 T.b.k, .int .i64 T.b.n, .string T.b.t, .bool T.tu] 26)).alloc (.cells #[.int .i64 v.k, .int .i64 v.n, .string v.t, .int .i64 a, .int .i64 b] 28)).alloc (.cells #[.int .i64 u.k, .int .i64 u.n, .string u.t] 24) = U := ⟨_, rfl⟩
  rw [hU] at hk ht hc hx hp
  have HK := Lib.hid hk; have HUU := Lib.hid hU; have HT := Lib.hid ht; have HC := Lib.hid hc; have HU := Lib.hid hx; have HH := Lib.hid hp
  obtain ⟨l, hl⟩ := bool_of (¬ ShortT T)
  have AL := Lib.hid (fun w h => hlong_any A n c T w h hh l hl)
  have HL := Lib.hid hl
  obtain ⟨m, hm⟩ : ∃ m, v.t.size + u.t.size = m := ⟨_, rfl⟩
  have hwr : IntKind.i64.wrap ((v.t.size : Int) + (u.t.size : Int)) = (m : Int) := by rw [IntWalk.i64_in _ (by omega)]; omega
  have HM := Lib.hid hm
  have HTW := Lib.hid htr
  clear htr
  clear h hh hk k1 k2 ht hc hx hp hU hl hm hv hu
  have t0 := HT.out.c0; have t1 := HT.out.c1; have t2 := HT.out.c2; have t3 := HT.out.c3; have t4 := HT.out.c4; have t5 := HT.out.c5; have t6 := HT.out.c6; have t7 := HT.out.c7; have t8 := HT.out.c8
  have c0 := HC.out.c0; have c1 := HC.out.c1; have c2 := HC.out.c2; have c3 := HC.out.c3; have c4 := HC.out.c4
  have u0 := HU.out.c0; have u1 := HU.out.c1; have u2 := HU.out.c2
  go_enter Tryd.func5, Tryd.ntmps5
  go_wp2_with fail
  rw [HUU.out]
  go_wp2_with fail
  go_at_call 7
  refine (AL.out _ HH.out).mono ?_
  rintro e w1 ⟨rfl, hk1⟩
  replace HK := Lib.hid (HK.out.trans hk1); replace HT := Lib.hid (HT.out.kept hk1); replace HC := Lib.hid (HC.out.kept hk1); replace HU := Lib.hid (HU.out.kept hk1); replace HH := Lib.hid (HH.out.kept hk1)
  clear t0 t1 t2 t3 t4 t5 t6 t7 t8 c0 c1 c2 c3 c4 u0 u1 u2
  clear hk1
  have t0 := HT.out.c0; have t1 := HT.out.c1; have t2 := HT.out.c2; have t3 := HT.out.c3; have t4 := HT.out.c4; have t5 := HT.out.c5; have t6 := HT.out.c6; have t7 := HT.out.c7; have t8 := HT.out.c8
  have c0 := HC.out.c0; have c1 := HC.out.c1; have c2 := HC.out.c2; have c3 := HC.out.c3; have c4 := HC.out.c4
  have u0 := HU.out.c0; have u1 := HU.out.c1; have u2 := HU.out.c2
  cases l with
  | true =>
    go_wp2_with fail
    go_at_call 8
    refine (hawake_any _).mono ?_
    rintro e w9 ⟨rfl, hk9⟩
    have HF := Lib.hid (HK.out.trans hk9)
    clear hk9
    go_wp2_with fail
    go_ret
    exact ⟨rfl, HF.out⟩
  | false =>
    have HS := Lib.hid (show ShortT T from Classical.not_not.1 fun k => by have := HL.out.2 k; cases this)
    by_cases h1 : 600 < m
    · have f1 : decide ((600 : Int) < (m : Int)) = true := decide_eq_true (by omega)
      have f2 : decide (600 < m) = true := decide_eq_true h1
      clear h1
      go_wp2_with fail
      go_at_call 8
      refine (hawake_any _).mono ?_
      rintro e w9 ⟨rfl, hk9⟩
      have HF := Lib.hid (HK.out.trans hk9)
      clear hk9
      go_wp2_with fail
      go_ret
      exact ⟨rfl, HF.out⟩
    · have f1 : decide ((600 : Int) < (m : Int)) = false := decide_eq_false (by omega)
      have f2 : decide (600 < m) = false := decide_eq_false h1
      have HZV := Lib.hid (show v.t.size ≤ 600 by have := HM.out; omega); have HZU := Lib.hid (show u.t.size ≤ 600 by have := HM.out; omega)
      clear h1
      obtain ⟨z, hz⟩ := bool_of (LossT T a b)
      have AZ := Lib.hid (fun w h k => htloss_any A n c T a b w h HS.out.szT z hz (fun _ _ _ => k))
      have HZ := Lib.hid hz
      clear hz
      go_wp2_with fail
      go_at_call 20
      refine (AZ.out _ HH.out (HTW.out.kept HK.out)).mono ?_
      rintro e w2 ⟨rfl, hk2⟩
      replace HK := Lib.hid (HK.out.trans hk2); replace HT := Lib.hid (HT.out.kept hk2); replace HC := Lib.hid (HC.out.kept hk2); replace HU := Lib.hid (HU.out.kept hk2); replace HH := Lib.hid (HH.out.kept hk2)
      clear t0 t1 t2 t3 t4 t5 t6 t7 t8 c0 c1 c2 c3 c4 u0 u1 u2
      clear hk2 f1 f2 hwr
      have t0 := HT.out.c0; have t1 := HT.out.c1; have t2 := HT.out.c2; have t3 := HT.out.c3; have t4 := HT.out.c4; have t5 := HT.out.c5; have t6 := HT.out.c6; have t7 := HT.out.c7; have t8 := HT.out.c8
      have c0 := HC.out.c0; have c1 := HC.out.c1; have c2 := HC.out.c2; have c3 := HC.out.c3; have c4 := HC.out.c4
      have u0 := HU.out.c0; have u1 := HU.out.c1; have u2 := HU.out.c2
      cases z with
      | false =>
        go_wp2_with fail
        go_at_call 8
        refine (hawake_any _).mono ?_
        rintro e w9 ⟨rfl, hk9⟩
        have HF := Lib.hid (HK.out.trans hk9)
        clear hk9
        go_wp2_with fail
        go_ret
        exact ⟨rfl, HF.out⟩
      | true =>
        have HSP := Lib.hid (show LossT T a b by simpa using HZ.out)
        obtain ⟨q1, hq1⟩ : ∃ q, rightVa v = q := ⟨_, rfl⟩
        obtain ⟨q2, hq2⟩ : ∃ q, rightVa u = q := ⟨_, rfl⟩
        have A1 := Lib.hid (fun w => vrightK v q1 hq1 (by have := HZV.out; omega) w)
        have A2 := Lib.hid (fun w => vrightK u q2 hq2 (by have := HZU.out; omega) w)
        have HQ1 := Lib.hid hq1; have HQ2 := Lib.hid hq2
        clear hq1 hq2
        go_wp2_with fail
        go_at_call 25
        refine (A1.out _).mono ?_
        rintro e w3 ⟨rfl, hk3⟩
        replace HK := Lib.hid (HK.out.trans hk3); replace HT := Lib.hid (HT.out.kept hk3); replace HC := Lib.hid (HC.out.kept hk3); replace HU := Lib.hid (HU.out.kept hk3); replace HH := Lib.hid (HH.out.kept hk3)
        clear t0 t1 t2 t3 t4 t5 t6 t7 t8 c0 c1 c2 c3 c4 u0 u1 u2
        clear hk3
        have t0 := HT.out.c0; have t1 := HT.out.c1; have t2 := HT.out.c2; have t3 := HT.out.c3; have t4 := HT.out.c4; have t5 := HT.out.c5; have t6 := HT.out.c6; have t7 := HT.out.c7; have t8 := HT.out.c8
        have c0 := HC.out.c0; have c1 := HC.out.c1; have c2 := HC.out.c2; have c3 := HC.out.c3; have c4 := HC.out.c4
        have u0 := HU.out.c0; have u1 := HU.out.c1; have u2 := HU.out.c2
        cases q1 with
        | false =>
          go_wp2_with fail
          go_at_call 8
          refine (hawake_any _).mono ?_
          rintro e w9 ⟨rfl, hk9⟩
          have HF := Lib.hid (HK.out.trans hk9)
          clear hk9
          go_wp2_with fail
          go_ret
          exact ⟨rfl, HF.out⟩
        | true =>
          go_wp2_with fail
          go_at_call 25
          refine (A2.out _).mono ?_
          rintro e w4 ⟨rfl, hk4⟩
          replace HK := Lib.hid (HK.out.trans hk4); replace HT := Lib.hid (HT.out.kept hk4); replace HC := Lib.hid (HC.out.kept hk4); replace HU := Lib.hid (HU.out.kept hk4); replace HH := Lib.hid (HH.out.kept hk4)
          clear t0 t1 t2 t3 t4 t5 t6 t7 t8 c0 c1 c2 c3 c4 u0 u1 u2
          clear hk4
          have t0 := HT.out.c0; have t1 := HT.out.c1; have t2 := HT.out.c2; have t3 := HT.out.c3; have t4 := HT.out.c4; have t5 := HT.out.c5; have t6 := HT.out.c6; have t7 := HT.out.c7; have t8 := HT.out.c8
          have c0 := HC.out.c0; have c1 := HC.out.c1; have c2 := HC.out.c2; have c3 := HC.out.c3; have c4 := HC.out.c4
          have u0 := HU.out.c0; have u1 := HU.out.c1; have u2 := HU.out.c2
          cases q2 with
          | false =>
            go_wp2_with fail
            go_at_call 8
            refine (hawake_any _).mono ?_
            rintro e w9 ⟨rfl, hk9⟩
            have HF := Lib.hid (HK.out.trans hk9)
            clear hk9
            go_wp2_with fail
            go_ret
            exact ⟨rfl, HF.out⟩
          | true =>
            by_cases q3 : v.k = a
            · by_cases q4 : u.k = b
              · have HVA := Lib.hid q3; have HUB := Lib.hid q4
                have q31 : (v.k == a) = true := by rw [q3]; simp
                have q32 : (v.k != a) = false := by rw [q3]; simp
                have q33 : decide (v.k = a) = true := decide_eq_true q3
                have q41 : (u.k == b) = true := by rw [q4]; simp
                have q42 : (u.k != b) = false := by rw [q4]; simp
                have q43 : decide (u.k = b) = true := decide_eq_true q4
                clear q3 q4
                have HRV := Lib.hid HQ1.out; have HRU := Lib.hid HQ2.out
                obtain ⟨x1, hx1⟩ : ∃ x, applyT T v = x := ⟨_, rfl⟩
                obtain ⟨y1, hy1⟩ : ∃ y, wayT T u = y := ⟨_, rfl⟩
                have hw1 : wayT T x1 = v := by rw [← hx1]; exact HSP.out.whole.1 v HQ1.out HVA.out
                have hw2 : applyT T y1 = u := by rw [← hy1]; exact HSP.out.whole.2 u HQ2.out HUB.out
                have hs1 : x1.t.size ≤ 1099511627776 := by have := right_size (HSP.out.1.apply HQ1.out HVA.out).1; rw [hx1] at this; omega
                have hs2 : y1.t.size ≤ 1099511627776 := by have := right_size (HSP.out.1.way HQ2.out HUB.out).1; rw [hy1] at this; omega
                have B1 := Lib.hid (fun w h => htapply_any A n c T v x1 hx1 (by have := HZV.out; omega) w h HS.out.szT)
                have B2 := Lib.hid (fun w h => htway_any A n c T x1 v hw1 hs1 w h HS.out.szT)
                have B3 := Lib.hid (fun w h => htway_any A n c T u y1 hy1 (by have := HZU.out; omega) w h HS.out.szT)
                have B4 := Lib.hid (fun w h => htapply_any A n c T y1 u hw2 hs2 w h HS.out.szT)
                have B5 := Lib.hid (fun w h => htturn_any A n c T w h HS.out.szT)
                have B6 := Lib.hid (fun A c w h k => htloss_any A n c (turnT T) b a w h HS.out.szT.turn true (by simp [HSP.out.turn]) (fun _ _ _ => k))
                clear hx1 hy1 hw1 hw2 hs1 hs2
                go_wp2_with fail
                clear q31 q32 q33 q41 q42 q43
                clear t0 t1 t2 t3 t4 t5 t6 t7 t8 c0 c1 c2 c3 c4 u0 u1 u2
                obtain ⟨V, hV⟩ : ∃ V, w4 = V := ⟨_, rfl⟩
                rw [hV] at HK HT HC HU HH ⊢
                clear hV
                have t0 := KExt.cell HT.out.c0; have t1 := KExt.cell HT.out.c1; have t2 := KExt.cell HT.out.c2; have t3 := KExt.cell HT.out.c3; have t4 := KExt.cell HT.out.c4; have t5 := KExt.cell HT.out.c5; have t6 := KExt.cell HT.out.c6; have t7 := KExt.cell HT.out.c7; have t8 := KExt.cell HT.out.c8
                have c0 := KExt.cell HC.out.c0; have c1 := KExt.cell HC.out.c1; have c2 := KExt.cell HC.out.c2; have c3 := KExt.cell HC.out.c3; have c4 := KExt.cell HC.out.c4
                have u0 := KExt.cell HU.out.c0; have u1 := KExt.cell HU.out.c1; have u2 := KExt.cell HU.out.c2
                refine region_plan V 31 (.read [0, 1, 2, 3, 6, 7] (.one 4 (.one 5 (.read [8, 9, 10, 11, 12, 15] (.one 13 (.one 14 (.read [16, 17, 18, 19, 21, 22, 23, 24] (.one 20 (.one 25 (.read [26, 27] (.one 28 (.read [29, 30] .stop)))))))))))) (by kernel_rfl) (by kernel_rfl) (by kernel_rfl) (by kernel_rfl) (by kernel_rfl) (fun _ d _ _ _ h => by cases d <;> exact h) (Kept.refl _) ?_
                intro wd hwd
                have HV := Lib.hid hwd
                clear hwd
                rw [wpPlan_read]
                simp only [pickOps_cons, pickOps_nil, consO_some, List.getElem?_cons_zero, List.getElem?_cons_succ]
                repeat (go_big_quiet_step (fail))
                refine wpQuiet_nil ?_
                rw [wpPlan_one]
                simp only [pickOps_cons, pickOps_nil, consO_some, List.getElem?_cons_zero, List.getElem?_cons_succ]
                go_wp2_with (go_at_call 12; refine (B1.out _ (HH.out.kept HV.out)).mono ?_; rintro e v1 ⟨rfl, hkz⟩)
                replace HV := Lib.hid (HV.out.trans hkz)
                clear hkz
                refine soloP HV.out ?_
                rw [wpPlan_one]
                simp only [pickOps_cons, pickOps_nil, consO_some, List.getElem?_cons_zero, List.getElem?_cons_succ]
                go_wp2_with (go_at_call 14; refine (B2.out _ (HH.out.kept HV.out)).mono ?_; rintro e v2 ⟨rfl, hkz⟩)
                replace HV := Lib.hid (HV.out.trans hkz)
                clear hkz
                refine soloP HV.out ?_
                rw [wpPlan_read]
                simp only [pickOps_cons, pickOps_nil, consO_some, List.getElem?_cons_zero, List.getElem?_cons_succ]
                repeat (go_big_quiet_step (fail))
                refine wpQuiet_nil ?_
                rw [wpPlan_one]
                simp only [pickOps_cons, pickOps_nil, consO_some, List.getElem?_cons_zero, List.getElem?_cons_succ]
                go_wp2_with (go_at_call 14; refine (B3.out _ (HH.out.kept HV.out)).mono ?_; rintro e v3 ⟨rfl, hkz⟩)
                replace HV := Lib.hid (HV.out.trans hkz)
                clear hkz
                refine soloP HV.out ?_
                rw [wpPlan_one]
                simp only [pickOps_cons, pickOps_nil, consO_some, List.getElem?_cons_zero, List.getElem?_cons_succ]
                go_wp2_with (go_at_call 12; refine (B4.out _ (HH.out.kept HV.out)).mono ?_; rintro e v4 ⟨rfl, hkz⟩)
                replace HV := Lib.hid (HV.out.trans hkz)
                clear hkz
                refine soloP HV.out ?_
                rw [wpPlan_read]
                simp only [pickOps_cons, pickOps_nil, consO_some, List.getElem?_cons_zero, List.getElem?_cons_succ]
                repeat (go_big_quiet_step (fail))
                refine wpQuiet_nil ?_
                rw [wpPlan_one]
                simp only [pickOps_cons, pickOps_nil, consO_some, List.getElem?_cons_zero, List.getElem?_cons_succ]
                go_wp2_with (go_at_call 16; refine (B5.out _ (HH.out.kept HV.out)).mono ?_; rintro e v5 ⟨AQ, cq, rfl, hpq, hkz⟩)
                have HPQ := Lib.hid hpq
                clear hpq
                replace HV := Lib.hid (HV.out.trans hkz)
                clear hkz
                refine soloP HV.out ?_
                rw [wpPlan_one]
                simp only [pickOps_cons, pickOps_nil, consO_some, List.getElem?_cons_zero, List.getElem?_cons_succ]
                go_wp2_with (go_at_call 20; refine (B6.out AQ cq _ HPQ.out (HTW.out.kept (HK.out.trans HV.out))).mono ?_; rintro e v6 ⟨rfl, hkz⟩)
                clear HPQ
                replace HV := Lib.hid (HV.out.trans hkz)
                clear hkz
                refine soloP HV.out ?_
                rw [wpPlan_read]
                simp only [pickOps_cons, pickOps_nil, consO_some, List.getElem?_cons_zero, List.getElem?_cons_succ]
                repeat (go_big_quiet_step (fail))
                refine wpQuiet_nil ?_
                rw [wpPlan_one]
                simp only [pickOps_cons, pickOps_nil, consO_some, List.getElem?_cons_zero, List.getElem?_cons_succ]
                go_wp2_with (go_at_call 8; refine (hawake_any _).mono ?_; rintro e v7 ⟨rfl, hkz⟩)
                replace HV := Lib.hid (HV.out.trans hkz)
                clear hkz
                refine soloP HV.out ?_
                rw [wpPlan_read]
                simp only [pickOps_cons, pickOps_nil, consO_some, List.getElem?_cons_zero, List.getElem?_cons_succ]
                repeat (go_big_quiet_step (fail))
                refine wpQuiet_nil ?_
                refine wpPlan_stop ?_
                clear t0 t1 t2 t3 t4 t5 t6 t7 t8 c0 c1 c2 c3 c4 u0 u1 u2
                go_wp2_with fail
                go_ret
                exact ⟨rfl, HK.out.trans HV.out⟩
              · have q31 : (v.k == a) = true := by rw [q3]; simp
                have q32 : (v.k != a) = false := by rw [q3]; simp
                have q33 : decide (v.k = a) = true := decide_eq_true q3
                have q41 : (u.k == b) = false := by simpa using q4
                have q42 : (u.k != b) = true := by simpa using q4
                have q43 : decide (u.k = b) = false := decide_eq_false q4
                clear q3 q4
                go_wp2_with fail
                go_at_call 8
                refine (hawake_any _).mono ?_
                rintro e w9 ⟨rfl, hk9⟩
                have HF := Lib.hid (HK.out.trans hk9)
                clear hk9
                go_wp2_with fail
                go_ret
                exact ⟨rfl, HF.out⟩
            · have q31 : (v.k == a) = false := by simpa using q3
              have q32 : (v.k != a) = true := by simpa using q3
              have q33 : decide (v.k = a) = false := decide_eq_false q3
              clear q3
              go_wp2_with fail
              go_at_call 8
              refine (hawake_any _).mono ?_
              rintro e w9 ⟨rfl, hk9⟩
              have HF := Lib.hid (HK.out.trans hk9)
              clear hk9
              go_wp2_with fail
              go_ret
              exact ⟨rfl, HF.out⟩
end Go.Proofs.YtjcnjmlgedmmoaaDoor
