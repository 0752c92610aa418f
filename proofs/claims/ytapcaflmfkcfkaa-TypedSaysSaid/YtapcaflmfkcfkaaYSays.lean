/-
  What is proved: TypedSays of layer 12's laws, called with any schema, entries and path, returns true; the world has new blocks at most.
-/
import Derived.Test.YtapcaflmfkcfkaaYAwake
import Derived.Test.YtapcaflmfkcfkaaPlan
namespace Go.Proofs.Ytapcaflmfkcfkaa
open Go.RowKit
set_option linter.unusedVariables false

set_option maxRecDepth 100000 in
set_option maxHeartbeats 32000000 in
theorem tsays_any (A : Option Addr) (n c : Nat) (L : List Fd) (A2 : Option Addr) (m k : Nat) (M : List En) (p : ByteArray) (w : World) (h : Fl w A n c L) (hw : ∀ x ∈ L, x.p.size ≤ 9223372036854775807 ∧ x.vt.size ≤ 9223372036854775807) (h2 : El w A2 m k M) (hs : ∀ x ∈ M, x.p.size ≤ 9223372036854775807 ∧ x.vt.size ≤ 9223372036854775807) (hp : p.size ≤ 9223372036854775807) :
    Calls Try.prog 3 #[.agg #[.slice A n c], .slice A2 m k, .string p] w fun e w' => e = .returned (.bool true) ∧ Kept w w' := by
  have hk := (Kept.refl w).alloc #[.slice A n c] 24
  have hcap := h.cap.1; have hcap2 := h.cap.2; have hcap3 := h2.cap.1; have hcap4 := h2.cap.2
  have HNL := Lib.hid h.1; have HSZ := Lib.hid hw; have HML := Lib.hid h2.1; have HES := Lib.hid hs
  have hB := Box1.new w (.slice A n c) 24
  have hh := h.kept hk; have hm := h2.kept hk
  obtain ⟨U, hU⟩ : ∃ U, w.alloc (.cells #[.slice A n c] 24) = U := ⟨_, rfl⟩
  rw [hU] at hk hB hh hm
  have HK := Lib.hid hk; have HUU := Lib.hid hU; have HB := Lib.hid hB; have HH := Lib.hid hh; have HM := Lib.hid hm
  have d0 := HB.out.c0
  clear h hw h2 hs hk hU hB hh hm
  go_enter Try.func3, Try.ntmps3
  go_wp2_with fail
  rw [HUU.out]
  go_wp2_with fail
  by_cases hS : ShortF L n
  · have AL := Lib.hid (fun w h => flong_any A n c L w h HSZ.out false ⟨(fun h => by cases h), fun h => absurd hS h⟩)
    by_cases h1 : 40 < m
    · have f1 : decide ((40 : Int) < (m : Int)) = true := decide_eq_true (by omega)
      have f2 : decide (40 < m) = true := decide_eq_true (by omega)
      clear hS h1
      go_at_call 5
      refine (AL.out _ HH.out).mono ?_
      rintro e w1 ⟨rfl, hk1⟩
      have HK1 := Lib.hid hk1
      clear d0
      have d0 := (HB.out.kept hk1).c0
      clear hk1
      go_wp2_with fail
      go_at_call 6
      refine (tawake_any _).mono ?_
      rintro e w2 ⟨rfl, hk2⟩
      have HK2 := Lib.hid hk2
      clear hk2
      go_wp2_with fail
      go_ret
      exact ⟨rfl, HK.out.trans (HK1.out.trans HK2.out)⟩
    · have f1 : decide ((40 : Int) < (m : Int)) = false := decide_eq_false (by omega)
      have f2 : decide (40 < m) = false := decide_eq_false (by omega)
      by_cases h3 : 200 < p.size
      · have g1 : decide ((200 : Int) < (p.size : Int)) = true := decide_eq_true (by omega)
        have g2 : decide (200 < p.size) = true := decide_eq_true (by omega)
        clear hS h1 h3
        go_at_call 5
        refine (AL.out _ HH.out).mono ?_
        rintro e w1 ⟨rfl, hk1⟩
        have HK1 := Lib.hid hk1
        clear d0
        have d0 := (HB.out.kept hk1).c0
        clear hk1
        go_wp2_with fail
        go_at_call 6
        refine (tawake_any _).mono ?_
        rintro e w2 ⟨rfl, hk2⟩
        have HK2 := Lib.hid hk2
        clear hk2
        go_wp2_with fail
        go_ret
        exact ⟨rfl, HK.out.trans (HK1.out.trans HK2.out)⟩
      · have g1 : decide ((200 : Int) < (p.size : Int)) = false := decide_eq_false (by omega)
        have g2 : decide (200 < p.size) = false := decide_eq_false (by omega)
        go_at_call 5
        refine (AL.out _ HH.out).mono ?_
        rintro e w1 ⟨rfl, hk1⟩
        have HK1 := Lib.hid hk1
        clear d0
        have d0 := (HB.out.kept hk1).c0
        clear hk1
        have HS := Lib.hid (show ∀ y ∈ L, y.p.size ≤ 1099511627776 from fun y hy => Nat.le_trans (hS.1 y hy).1 (by decide))
        have HM40 := Lib.hid (Nat.le_of_not_lt h1); have HP2 := Lib.hid (show p.size ≤ 1099511627776 by omega)
        clear hS
        go_wp2_with fail
        clear d0 f1 f2 g1 g2 h1 h3 hp
        go_loopw [31] (fun i wr => ∃ t : Nat, t ≤ m ∧ i = .int .i64 t ∧ Kept U wr ∧ ∀ x ∈ M.take t, x.p.size ≤ 200 ∧ x.vt.size ≤ 300) (fun i _ => m - (intOf i).toNat)
        case atStart => exact ⟨0, Nat.zero_le _, rfl, HK1.out, fun x hx => by simp at hx⟩
        case round =>
          obtain ⟨t, ht, rfl, hkr, hall⟩ := hrel
          have HKR := Lib.hid hkr; have HA := Lib.hid hall
          clear hkr hall
          by_cases hlt : t < m
          · obtain ⟨g, o, x, rfl, hx, EX⟩ := (HM.out.kept HKR.out).get hlt
            have x0 := EX.c0; have x1 := EX.c1; have x2 := EX.c2; have x3 := EX.c3; have x4 := EX.c4; have x5 := EX.c5; have x6 := EX.c6; have x7 := EX.c7; have x8 := EX.c8
            have HXX := Lib.hid hx
            have hka := (Kept.refl wr).alloc #[.int .i64 x.d.1, .int .i64 x.d.2, .string x.p, .int .i64 x.k, .int .i64 x.vk, .int .i64 x.vn, .string x.vt, .int .i64 x.e.1, .int .i64 x.e.2] 33
            have HE := Lib.hid (Ent.new wr x 33)
            have e2 := HE.out.c2; have e6 := HE.out.c6
            have HKA := Lib.hid (HKR.out.trans hka)
            have hsz := HES.out x (List.mem_of_getElem? hx)
            have hsp := hsz.1; have hst := hsz.2
            clear EX hx hka hsz
            by_cases h3 : 200 < x.p.size
            · have p1 : decide ((200 : Int) < (x.p.size : Int)) = true := decide_eq_true (by omega)
              have p2 : decide (200 < x.p.size) = true := decide_eq_true (by omega)
              clear h3
              go_wp2_with fail
              go_at_call 6
              refine (tawake_any _).mono ?_
              rintro e w2 ⟨rfl, hk2⟩
              have HK2 := Lib.hid hk2
              clear hk2 x0 x1 x2 x3 x4 x5 x6 x7 x8 e2 e6
              go_wp2_with fail
              go_ret
              exact ⟨rfl, HK.out.trans (HKA.out.trans HK2.out)⟩
            · have p1 : decide ((200 : Int) < (x.p.size : Int)) = false := decide_eq_false (by omega)
              have p2 : decide (200 < x.p.size) = false := decide_eq_false (by omega)
              by_cases h4 : 300 < x.vt.size
              · have p3 : decide ((300 : Int) < (x.vt.size : Int)) = true := decide_eq_true (by omega)
                have p4 : decide (300 < x.vt.size) = true := decide_eq_true (by omega)
                clear h3 h4
                go_wp2_with fail
                go_at_call 6
                refine (tawake_any _).mono ?_
                rintro e w2 ⟨rfl, hk2⟩
                have HK2 := Lib.hid hk2
                clear hk2 x0 x1 x2 x3 x4 x5 x6 x7 x8 e2 e6
                go_wp2_with fail
                go_ret
                exact ⟨rfl, HK.out.trans (HKA.out.trans HK2.out)⟩
              · have p3 : decide ((300 : Int) < (x.vt.size : Int)) = false := decide_eq_false (by omega)
                have p4 : decide (300 < x.vt.size) = false := decide_eq_false (by omega)
                have HN := Lib.hid (show ∀ y ∈ M.take (t + 1), y.p.size ≤ 200 ∧ y.vt.size ≤ 300 from fun y hy => by
                  rcases (mem_take_succ HXX.out y).1 hy with h | rfl
                  · exact HA.out y h
                  · exact ⟨by omega, by omega⟩)
                obtain ⟨bb, hbb⟩ : ∃ bb, fitsE L x = bb := ⟨_, rfl⟩
                have sp : x.p.size ≤ 1099511627776 := by omega
                have st : x.vt.size ≤ 1099511627776 := by omega
                have AT := Lib.hid (fun w h => tfits_any A n c L x w h HS.out sp st bb hbb)
                have AR := Lib.hid (fun w h => rfits_any A n c L x w h HS.out sp st bb hbb)
                clear hbb sp st h3 h4
                obtain ⟨W5, hW5⟩ : ∃ W5, wr.alloc (.cells #[.int .i64 x.d.1, .int .i64 x.d.2, .string x.p, .int .i64 x.k, .int .i64 x.vk, .int .i64 x.vn, .string x.vt, .int .i64 x.e.1, .int .i64 x.e.2] 33) = W5 := ⟨_, rfl⟩
                rw [hW5] at HKA HE e2 e6
                have HW5 := Lib.hid hW5
                clear hW5
                go_wp2_with fail
                all_goals first | rw [HW5.out] | skip
                clear x0 x1 x2 x3 x4 x5 x6 x7 x8 e2 e6
                have HB5 := Lib.hid (HB.out.kept HKA.out); have HH5 := Lib.hid (HH.out.kept HKA.out)
                have d0 := KExt.cell HB5.out.c0
                have z0 := KExt.cell HE.out.c0; have z1 := KExt.cell HE.out.c1; have z2 := KExt.cell HE.out.c2; have z3 := KExt.cell HE.out.c3; have z4 := KExt.cell HE.out.c4; have z5 := KExt.cell HE.out.c5; have z6 := KExt.cell HE.out.c6; have z7 := KExt.cell HE.out.c7; have z8 := KExt.cell HE.out.c8
                try dsimp only [List.append]
                refine region_plan W5 7 (.read [0, 1, 3, 4] (.one 2 (.one 5 (.read [6] .stop)))) (by kernel_rfl) (by kernel_rfl) (by kernel_rfl) (by kernel_rfl) (by kernel_rfl) (fun _ d _ _ _ h => by cases d <;> exact h) (Kept.refl _) ?_
                intro wd hwd
                have HV := Lib.hid hwd
                clear hwd
                rw [wpPlan_read]
                simp only [pickOps_cons, pickOps_nil, consO_some, List.getElem?_cons_zero, List.getElem?_cons_succ]
                repeat (go_big_quiet_step (fail))
                refine wpQuiet_nil ?_
                rw [wpPlan_one]
                simp only [pickOps_cons, pickOps_nil, consO_some, List.getElem?_cons_zero, List.getElem?_cons_succ]
                go_wp2_with (go_at_call 7; refine (AT.out _ (HH5.out.kept HV.out)).mono ?_; rintro e u1 ⟨rfl, hk⟩)
                replace HV := Lib.hid (HV.out.trans hk)
                clear hk
                refine soloP HV.out ?_
                rw [wpPlan_one]
                simp only [pickOps_cons, pickOps_nil, consO_some, List.getElem?_cons_zero, List.getElem?_cons_succ]
                go_wp2_with (go_at_call 8; refine (AR.out _ (HH5.out.kept HV.out)).mono ?_; rintro e u2 ⟨rfl, hk⟩)
                replace HV := Lib.hid (HV.out.trans hk)
                clear hk
                refine soloP HV.out ?_
                rw [wpPlan_read]
                simp only [pickOps_cons, pickOps_nil, consO_some, List.getElem?_cons_zero, List.getElem?_cons_succ]
                repeat (go_big_quiet_step (fail))
                refine wpQuiet_nil ?_
                refine wpPlan_stop ?_
                clear d0 z0 z1 z2 z3 z4 z5 z6 z7 z8
                cases bb <;>
                · go_wp2_with fail
                  go_roundw
                  case rel => exact ⟨t + 1, hlt, by go_num, HKA.out.trans HV.out, HN.out⟩
                  case measure => simp [intOf]; omega
          · obtain rfl : t = m := by omega
            have hnt : decide ((t : Int) < (t : Int)) = false := decide_eq_false (by omega)
            have hnt2 : decide (t < t) = false := decide_eq_false (by omega)
            have HQ := Lib.hid (HK.out.trans HKR.out)
            replace HB := Lib.hid (HB.out.kept HKR.out); replace HH := Lib.hid (HH.out.kept HKR.out); replace HM := Lib.hid (HM.out.kept HKR.out)
            have HX := Lib.hid (show ∀ x ∈ M, x.p.size ≤ 1099511627776 ∧ x.vt.size ≤ 1099511627776 from fun x hx => by
              have := HA.out x (by rw [List.take_of_length_le (by rw [← HML.out]; exact Nat.le_refl _)]; exact hx)
              omega)
            go_wp2_with fail
            clear hnt hnt2
            go_at_call 9
            refine (tpaths_any _ _ _ M _ HM.out (fun x hx => (HX.out x hx).1) (by have := HM40.out; omega)).mono ?_
            rintro e v1 ⟨A1, c1, M1, rfl, hps1, hm1, hle1, hk⟩
            replace HQ := Lib.hid (HQ.out.trans hk); replace HB := Lib.hid (HB.out.kept hk); replace HH := Lib.hid (HH.out.kept hk); replace HM := Lib.hid (HM.out.kept hk)
            have HM1 := Lib.hid hm1; have HPS1 := Lib.hid hps1
            clear hps1 hm1 hk
            go_wp2_with fail
            go_at_call 10
            refine (rpaths_any _ _ _ M _ HM.out (by have := HM40.out; omega)).mono ?_
            rintro e v2 ⟨A3, c3, M2, rfl, hps2, hm2, hle2, hk⟩
            obtain rfl := HPS1.out.one hps2
            replace HQ := Lib.hid (HQ.out.trans hk); replace HB := Lib.hid (HB.out.kept hk); replace HH := Lib.hid (HH.out.kept hk); replace HM := Lib.hid (HM.out.kept hk); replace HM1 := Lib.hid (HM1.out.kept hk)
            have HM2 := Lib.hid hm2
            have hc1 := HM1.out.cap.1; have hc2 := HM1.out.cap.2; have hc3 := HM2.out.cap.1; have hc4 := HM2.out.cap.2
            obtain ⟨q, hq⟩ : ∃ q, M1.length = q := ⟨_, rfl⟩
            rw [hq] at HM1 HM2 hc1 hc3 hle1 ⊢
            have HQL := Lib.hid hq
            clear hps2 hm2 hk hle2 hq
            go_wp2_with fail
            go_loopw [66] (fun i wr => ∃ t : Nat, t ≤ q ∧ i = .int .i64 t ∧ Kept v2 wr) (fun i _ => q - (intOf i).toNat)
            case atStart => exact ⟨0, Nat.zero_le _, rfl, Kept.refl _⟩
            case round =>
              obtain ⟨s, hs, rfl, hks⟩ := hrel
              have HKS := Lib.hid hks
              clear hks
              by_cases hsq : s < q
              · obtain ⟨g1, o1, y1, rfl, hy1, EY1⟩ := (HM1.out.kept HKS.out).get hsq
                obtain ⟨g2, o2, y2, rfl, hy2, EY2⟩ := (HM2.out.kept HKS.out).get hsq
                obtain rfl := Option.some.inj (hy1.symm.trans hy2)
                have HE1 := Lib.hid (by have := EY1.c0; rwa [Nat.mul_one] at this); have HE2 := Lib.hid (by have := EY2.c0; rwa [Nat.mul_one] at this)
                have z1 := KExt.cell HE1.out; have z2 := KExt.cell HE2.out
                clear hy1 hy2 EY1 EY2
                go_wp2_with fail
                refine region_kept _ (by kernel_rfl) (by kernel_rfl) (Kept.refl _) ?_
                repeat (go_big_quiet_step (fail))
                refine wpQuiet_nil ?_
                intro G
                clear z1 z2
                go_wp2_with fail
                go_roundw
                case rel => exact ⟨s + 1, hsq, by go_num, HKS.out.trans G.g⟩
                case measure => simp [intOf]; omega
              · obtain rfl : s = q := by omega
                have hnt : decide ((s : Int) < (s : Int)) = false := decide_eq_false (by omega)
                have hnt2 : decide (s < s) = false := decide_eq_false (by omega)
                replace HQ := Lib.hid (HQ.out.trans HKS.out); replace HB := Lib.hid (HB.out.kept HKS.out); replace HH := Lib.hid (HH.out.kept HKS.out); replace HM := Lib.hid (HM.out.kept HKS.out)
                obtain ⟨v, hv⟩ : ∃ v, defR L p = v := ⟨_, rfl⟩
                obtain ⟨⟨v1k, v1n, v1t⟩, ve⟩ := v
                have AT := Lib.hid (fun w h => tdef_any A n c L p w h HS.out HP2.out _ hv)
                have AR := Lib.hid (fun w h => rdef_any A n c L p w h HS.out HP2.out _ hv)
                have d0 := HB.out.c0
                clear hv
                go_wp2_with fail
                clear hnt hnt2
                go_at_call 11
                refine (AT.out _ HH.out).mono ?_
                rintro e u1 ⟨rfl, hk⟩
                have hka := (Kept.refl u1).alloc #[.int .i64 v1k, .int .i64 v1n, .string v1t] 31
                have HD1 := Lib.hid (VaB.new u1 v1k v1n v1t 31)
                replace HQ := Lib.hid (HQ.out.trans (hk.trans hka)); replace HB := Lib.hid (HB.out.kept (hk.trans hka)); replace HH := Lib.hid (HH.out.kept (hk.trans hka)); replace HM := Lib.hid (HM.out.kept (hk.trans hka))
                clear hk hka d0
                have d0 := HB.out.c0
                dsimp only [DefV]
                go_wp2_with fail
                go_at_call 12
                refine (AR.out _ HH.out).mono ?_
                rintro e u2 ⟨rfl, hk⟩
                have hka := (Kept.refl u2).alloc #[.int .i64 v1k, .int .i64 v1n, .string v1t] 31
                have HD2 := Lib.hid (VaB.new u2 v1k v1n v1t 31)
                replace HD1 := Lib.hid (HD1.out.kept (hk.trans hka))
                replace HQ := Lib.hid (HQ.out.trans (hk.trans hka)); replace HB := Lib.hid (HB.out.kept (hk.trans hka)); replace HH := Lib.hid (HH.out.kept (hk.trans hka)); replace HM := Lib.hid (HM.out.kept (hk.trans hka))
                clear hk hka d0
                obtain ⟨W, hW⟩ : ∃ W, u2.alloc (.cells #[.int .i64 v1k, .int .i64 v1n, .string v1t] 31) = W := ⟨_, rfl⟩
                rw [hW] at HQ HB HH HM HD1 HD2
                have HWW := Lib.hid hW
                clear hW
                dsimp only [DefV]
                go_wp2_with fail
                rw [HWW.out]
                obtain ⟨ab, hab⟩ : ∃ ab, allE L M = ab := ⟨_, rfl⟩
                have HAB := Lib.hid hab
                clear hab
                have d0 := KExt.cell HB.out.c0
                have m0 := KExt.cell HD1.out.c0; have m1 := KExt.cell HD1.out.c1; have m2 := KExt.cell HD1.out.c2
                have n0 := KExt.cell HD2.out.c0; have n1 := KExt.cell HD2.out.c1; have n2 := KExt.cell HD2.out.c2
                try dsimp only [List.append]
                refine region_plan W 21 (.read [0, 1, 3, 4] (.one 2 (.one 5 (.read [6, 7, 8, 9, 10, 11, 12, 13, 14, 15, 16, 17] (.one 18 (.read [19, 20] .stop)))))) (by kernel_rfl) (by kernel_rfl) (by kernel_rfl) (by kernel_rfl) (by kernel_rfl) (fun _ d _ _ _ h => by cases d <;> exact h) (Kept.refl _) ?_
                intro wd hwd
                have HV := Lib.hid hwd
                clear hwd
                rw [wpPlan_read]
                simp only [pickOps_cons, pickOps_nil, consO_some, List.getElem?_cons_zero, List.getElem?_cons_succ]
                repeat (go_big_quiet_step (fail))
                refine wpQuiet_nil ?_
                rw [wpPlan_one]
                simp only [pickOps_cons, pickOps_nil, consO_some, List.getElem?_cons_zero, List.getElem?_cons_succ]
                go_wp2_with (go_at_call 13; refine (tall_any _ _ _ L _ _ _ M _ (HH.out.kept HV.out) HS.out (HM.out.kept HV.out) HX.out ab HAB.out).mono ?_; rintro e u3 ⟨rfl, hk⟩)
                replace HV := Lib.hid (HV.out.trans hk)
                clear hk
                refine soloP HV.out ?_
                rw [wpPlan_one]
                simp only [pickOps_cons, pickOps_nil, consO_some, List.getElem?_cons_zero, List.getElem?_cons_succ]
                go_wp2_with (go_at_call 14; refine (rall_any _ _ _ L _ _ _ M _ (HH.out.kept HV.out) HS.out (HM.out.kept HV.out) HX.out ab HAB.out).mono ?_; rintro e u4 ⟨rfl, hk⟩)
                replace HV := Lib.hid (HV.out.trans hk)
                clear hk
                refine soloP HV.out ?_
                rw [wpPlan_read]
                simp only [pickOps_cons, pickOps_nil, consO_some, List.getElem?_cons_zero, List.getElem?_cons_succ]
                repeat (go_big_quiet_step (fail))
                refine wpQuiet_nil ?_
                rw [wpPlan_one]
                simp only [pickOps_cons, pickOps_nil, consO_some, List.getElem?_cons_zero, List.getElem?_cons_succ]
                go_wp2_with (go_at_call 6; refine (tawake_any _).mono ?_; rintro e u5 ⟨rfl, hk⟩)
                replace HV := Lib.hid (HV.out.trans hk)
                clear hk
                refine soloP HV.out ?_
                rw [wpPlan_read]
                simp only [pickOps_cons, pickOps_nil, consO_some, List.getElem?_cons_zero, List.getElem?_cons_succ]
                repeat (go_big_quiet_step (fail))
                refine wpQuiet_nil ?_
                refine wpPlan_stop ?_
                clear d0 m0 m1 m2 n0 n1 n2
                go_wp2_with fail
                go_ret
                exact ⟨rfl, HQ.out.trans HV.out⟩
  · have AL := Lib.hid (fun w h => flong_any A n c L w h HSZ.out true ⟨fun _ => hS, fun _ => rfl⟩)
    clear hS
    go_at_call 5
    refine (AL.out _ HH.out).mono ?_
    rintro e w1 ⟨rfl, hk1⟩
    have HK1 := Lib.hid hk1
    clear d0
    have d0 := (HB.out.kept hk1).c0
    clear hk1
    go_wp2_with fail
    go_at_call 6
    refine (tawake_any _).mono ?_
    rintro e w2 ⟨rfl, hk2⟩
    have HK2 := Lib.hid hk2
    clear hk2
    go_wp2_with fail
    go_ret
    exact ⟨rfl, HK.out.trans (HK1.out.trans HK2.out)⟩
end Go.Proofs.Ytapcaflmfkcfkaa
