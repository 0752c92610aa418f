/-
  What is proved: the Go function JoinParts of layer 9's laws, called with any events whose paths are of bounded length, returns true; the world has new blocks at most.
-/
import Derived.Test.YtcldbmhjfmbcfaaGreatM31
import Derived.Test.YtcldbmhjfmbcfaaGreatJPlayW
import Derived.Test.YtcldbmhjfmbcfaaGreatM35
import Derived.Deep.DeepCutAuto
namespace Go.Proofs.YtcldbmhjfmbcfaaGreat
open Go.RowKit
set_option linter.unusedVariables false

set_option maxRecDepth 100000 in
set_option maxHeartbeats 32000000 in
theorem joinParts_any (A : Option Addr) (n c : Nat) (L : List Ev) (w : World) (h : Evl w A n c L) (hs : ∀ x ∈ L, x.path.size ≤ 1048576) :
    Calls Tryz.prog 4 #[.slice A n c] w fun e w' => e = .returned (.bool true) ∧ Kept w w' := by
  obtain ⟨r, hr⟩ := bool_iff ((∀ x ∈ L, L4.rightS x.path = true) ∧ n ≤ 40)
  have hcap := h.cap.1; have hcap2 := h.cap.2
  have AF := Lib.hid (fair_any A n c L w h (fun x hx => Nat.le_trans (hs x hx) (by decide)) r hr)
  have HL := Lib.hid h; have HR := Lib.hid hr
  clear h hs hr
  cases r with
  | false =>
    go_enter Tryz.func4, Tryz.ntmps4
    go_wp2_with fail
    go_at_call 6
    refine AF.out.mono ?_
    rintro e w1 ⟨rfl, hk1⟩
    have HK1 := Lib.hid hk1
    clear hk1
    go_wp2_with fail
    go_at_call 7
    refine (jawake_any w1).mono ?_
    rintro e w2 ⟨rfl, hk2⟩
    have HK2 := Lib.hid (HK1.out.trans hk2)
    clear hk2
    go_wp2_with fail
    go_ret
    exact ⟨rfl, HK2.out⟩
  | true =>
    obtain ⟨hp, h40⟩ := HR.out.1 rfl
    have HP := Lib.hid hp
    clear hp HR
    go_enter Tryz.func4, Tryz.ntmps4
    go_wp2_with fail
    go_at_call 6
    refine AF.out.mono ?_
    rintro e w1 ⟨rfl, hk1⟩
    have HK1 := Lib.hid hk1
    clear hk1
    go_wp2_with fail
    go_at_call 8
    refine (play_any A n c L w1 (HL.out.kept HK1.out) h40 HP.out).mono ?_
    rintro e w2 ⟨p, A0, n0, c0, B0, m0, k0, D0, p0, q0, A1, n1, c1, B1, m1, k1, D1, p1, q1, A2, n2, c2, B2, m2, k2, D2, p2, q2, rfl, hs0, hs1, hs2, hinv, hk2⟩
    have har := arr_three 32 hs0 hs1 hs2
    have hka := (HK1.out.trans hk2).alloc #[.slice A0 n0 c0, .slice B0 m0 k0, .slice D0 p0 q0, .slice A1 n1 c1, .slice B1 m1 k1, .slice D1 p1 q1, .slice A2 n2 c2, .slice B2 m2 k2, .slice D2 p2 q2] 32
    have HINV := Lib.hid hinv
    obtain ⟨b3, hb3⟩ : ∃ b3, w2.heap.size = b3 := ⟨_, rfl⟩
    obtain ⟨W3, hW3⟩ : ∃ W3, w2.alloc (.cells #[.slice A0 n0 c0, .slice B0 m0 k0, .slice D0 p0 q0, .slice A1 n1 c1, .slice B1 m1 k1, .slice D1 p1 q1, .slice A2 n2 c2, .slice B2 m2 k2, .slice D2 p2 q2] 32) = W3 := ⟨_, rfl⟩
    rw [hb3, hW3] at har
    rw [hW3] at hka
    have HAR := Lib.hid har; have HK3 := Lib.hid hka; have HB3 := Lib.hid hb3; have HW3 := Lib.hid hW3
    clear hs0 hs1 hs2 hinv hk2 hka har hb3 hW3 AF HL HP HK1 hcap hcap2
    go_wp2_with fail
    rw [HW3.out, HB3.out]
    go_loopw [15] (fun vi wr => ∃ t1 : Nat, t1 ≤ 3 ∧ vi = .int .i64 t1 ∧ Kept W3 wr) (fun vi _ => 3 - (intOf vi).toNat)
    case atStart => exact ⟨0, Nat.zero_le _, rfl, Kept.refl _⟩
    case round =>
      obtain ⟨t1, ht1, rfl, hkw⟩ := hrel
      have HKW := Lib.hid hkw
      clear hkw
      by_cases hti : t1 < 3
      · have dti : decide ((t1 : Int) < 3) = true := decide_eq_true (by omega)
        go_wp2_with fail
        go_loopw [18] (fun vi wr => ∃ t2 : Nat, t2 ≤ 3 ∧ vi = .int .i64 t2 ∧ Kept W3 wr) (fun vi _ => 3 - (intOf vi).toNat)
        case atStart => exact ⟨0, Nat.zero_le _, rfl, HKW.out⟩
        case round =>
          clear HKW
          obtain ⟨t2, ht2, rfl, hkw⟩ := hrel
          have HKW := Lib.hid hkw
          clear hkw
          have HARW := Lib.hid (HAR.out.kept HKW.out)
          by_cases htk : t2 < 3
          · have dtk : decide ((t2 : Int) < 3) = true := decide_eq_true (by omega)
            obtain ⟨Ai, ni, ci, Bi, mi, ki, Di, pi, qi, si0, si1, si2, hsi⟩ := HARW.out.st t1 hti
            have HTi := Lib.hid hsi
            have hfi := HINV.out.size h40 hti
            have hni : ni ≤ 120 := by have := hsi.el.1; omega
            have hpi : pi ≤ 120 := by have := hsi.dl.1; omega
            have HOi := Lib.hid (HINV.out.ord t1 hti)
            have HFi := Lib.hid hfi
            have HYi0 := Lib.hid si0; have HYi1 := Lib.hid si1; have HYi2 := Lib.hid si2
            clear hsi hfi si0 si1 si2
            obtain ⟨Ak, nk, ck, Bk, mk, kk, Dk, pk, qk, sk0, sk1, sk2, hsk⟩ := HARW.out.st t2 htk
            have HTk := Lib.hid hsk
            have hfk := HINV.out.size h40 htk
            have hnk : nk ≤ 120 := by have := hsk.el.1; omega
            have hpk : pk ≤ 120 := by have := hsk.dl.1; omega
            have HOk := Lib.hid (HINV.out.ord t2 htk)
            have HFk := Lib.hid hfk
            have HYk0 := Lib.hid sk0; have HYk1 := Lib.hid sk1; have HYk2 := Lib.hid sk2
            clear hsk hfk sk0 sk1 sk2
            have Xi0 := KExt.cell HYi0.out; have Xi1 := KExt.cell HYi1.out; have Xi2 := KExt.cell HYi2.out
            have Xk0 := KExt.cell HYk0.out; have Xk1 := KExt.cell HYk1.out; have Xk2 := KExt.cell HYk2.out
            obtain ⟨ng, hng⟩ : ∃ ng, (goneE (p t1) (p t2)).length = ng := ⟨_, rfl⟩
            have hgl : ng ≤ 120 := by have := goneE_len (p t1) (p t2); have := HFk.out; omega
            have HNG := Lib.hid hng
            clear hng
            go_wp2_with fail
            go_cut [6] (fun s6 wx => HasS wr (fun s => Part (p t2) (p t1) 0 s ∧ s.C.length ≤ 240) s6 wx)
            case first =>
              refine region_plan wr 13 (.read [0, 1, 2, 3, 4, 5, 6, 7, 8] (.two 9 (.two 10 (.one 11 (.one 12 .stop)) 11 (.one 10 (.one 12 .stop))) 11 (.one 9 (.one 10 (.one 12 .stop))))) (by kernel_rfl) (by kernel_rfl) (by kernel_rfl) (by kernel_rfl) (by kernel_rfl) (fun _ d _ _ _ h => by cases d <;> exact h) (Kept.refl _) ?_
              intro wd hwd
              have HV := Lib.hid hwd
              clear hwd
              rw [wpPlan_read]
              simp only [pickOps_cons, pickOps_nil, consO_some, List.getElem?_cons_zero, List.getElem?_cons_succ]
              repeat (go_big_quiet_step (fail))
              refine wpQuiet_nil ?_
              clear Xi0 Xi1 Xi2 Xk0 Xk1 Xk2
              rw [wpPlan_two]
              simp only [pickOps_cons, pickOps_nil, consO_some, List.getElem?_cons_zero, List.getElem?_cons_succ]
              constructor
              · go_wp2_with (go_at_call 16; refine (gone_any Ai ni ci Bi mi ki Di pi qi (p t1) Ak nk ck (.slice Bk mk kk) (.slice Dk pk qk) (p t2) _ (HTi.out.kept HV.out) (HTk.out.el.kept HV.out) HOi.out HOk.out.wfL (by omega) (by omega) (by omega)).mono ?_; rintro e u1 ⟨Ag, cg, rfl, hdg, hk⟩)
                rw [HNG.out] at hdg ⊢
                have HDG := Lib.hid hdg
                replace HV := Lib.hid (HV.out.trans hk)
                clear hdg hk
                refine soloP HV.out ?_
                rw [wpPlan_two]
                simp only [pickOps_cons, pickOps_nil, consO_some, List.getElem?_cons_zero, List.getElem?_cons_succ]
                constructor
                · go_wp2_with (go_at_call 15; refine (without_any Ak nk ck (p t2).L Bk mk kk (p t2).V Dk pk qk (p t2).C Ag ng cg (goneE (p t1) (p t2)) _ (HTk.out.el.kept HV.out) (HTk.out.il.kept HV.out) (HTk.out.dl.kept HV.out) HDG.out HOk.out.ctx (by omega) (by omega) (by omega)).mono ?_; intro e u2 hst; obtain ⟨A6, n6, c6, B6, m6, k6, D6, p6, q6, s6, rfl, hs6, hpt, hk⟩ := part_start hst)
                  have HS6 := Lib.hid hs6
                  have HPT := Lib.hid (show Part (p t2) (p t1) 0 s6 ∧ s6.C.length ≤ 240 from ⟨hpt.1, by have := hpt.2; omega⟩)
                  replace HV := Lib.hid (HV.out.trans hk)
                  clear hst hs6 hpt hk
                  refine soloP HV.out ?_
                  rw [wpPlan_one]
                  simp only [pickOps_cons, pickOps_nil, consO_some, List.getElem?_cons_zero, List.getElem?_cons_succ]
                  go_wp2_with fail
                  have HF := Lib.hid (show HasS wr (fun s => Part (p t2) (p t1) 0 s ∧ s.C.length ≤ 240) (.pointer (some ⟨u2.heap.size, 0, none⟩)) (u2.alloc (.cells #[.slice A6 n6 c6, .slice B6 m6 k6, .slice D6 p6 q6] 31)) from ⟨u2.heap.size, A6, n6, c6, B6, m6, k6, D6, p6, q6, s6, rfl, HV.out.2.2, HV.out.alloc _ _, Box3.new _ _ _ _ _, HS6.out.kept ((Kept.refl _).alloc _ _), HPT.out⟩)
                  refine soloP (HV.out.alloc _ _) ?_
                  rw [wpPlan_one]
                  simp only [pickOps_cons, pickOps_nil, consO_some, List.getElem?_cons_zero, List.getElem?_cons_succ]
                  go_wp2_with fail
                  refine soloP (HV.out.alloc _ _) ?_
                  refine wpPlan_stop ?_
                  go_wp2_with fail
                  go_meet
                  exact HF.out
                · go_wp2_with fail
                  have hkn := (Kept.refl u1).alloc #[.slice none 0 0, .slice none 0 0, .slice none 0 0] 31
                  have HB7 := Lib.hid (Box3.new u1 (.slice none 0 0) (.slice none 0 0) (.slice none 0 0) 31)
                  obtain ⟨b7, hb7⟩ : ∃ b7, (World.heap u1).size = b7 := ⟨_, rfl⟩
                  have HL7 := Lib.hid (show wr.heap.size ≤ b7 by rw [← hb7]; exact HV.out.2.2)
                  replace HV := Lib.hid (HV.out.trans hkn)
                  replace HDG := Lib.hid (HDG.out.kept hkn)
                  obtain ⟨u7, hu7⟩ : ∃ u7, World.alloc u1 (.cells #[.slice none 0 0, .slice none 0 0, .slice none 0 0] 31) = u7 := ⟨_, rfl⟩
                  rw [hb7, hu7] at HB7
                  rw [hu7] at HV ⊢
                  rw [hu7] at HDG
                  rw [hb7]
                  clear hkn hb7 hu7
                  refine soloP HV.out ?_
                  rw [wpPlan_one]
                  simp only [pickOps_cons, pickOps_nil, consO_some, List.getElem?_cons_zero, List.getElem?_cons_succ]
                  go_wp2_with (go_at_call 15; refine (without_any Ak nk ck (p t2).L Bk mk kk (p t2).V Dk pk qk (p t2).C Ag ng cg (goneE (p t1) (p t2)) _ (HTk.out.el.kept HV.out) (HTk.out.il.kept HV.out) (HTk.out.dl.kept HV.out) HDG.out HOk.out.ctx (by omega) (by omega) (by omega)).mono ?_; intro e u2 hst; obtain ⟨A6, n6, c6, B6, m6, k6, D6, p6, q6, s6, rfl, hs6, hpt, hk⟩ := part_start hst)
                  have HS6 := Lib.hid hs6
                  have HPT := Lib.hid (show Part (p t2) (p t1) 0 s6 ∧ s6.C.length ≤ 240 from ⟨hpt.1, by have := hpt.2; omega⟩)
                  replace HV := Lib.hid (HV.out.trans hk)
                  replace HB7 := Lib.hid (HB7.out.kept hk)
                  clear hst hs6 hpt hk
                  refine soloP HV.out ?_
                  rw [wpPlan_one]
                  simp only [pickOps_cons, pickOps_nil, consO_some, List.getElem?_cons_zero, List.getElem?_cons_succ]
                  have hl7 := HL7.out
                  have e0 := HB7.out.c0; have e1 := HB7.out.c1; have e2 := HB7.out.c2; have ef0 := HB7.out.f 0; have ef1 := HB7.out.f 1; have ef2 := HB7.out.f 2
                  have HF := Lib.hid (hasS_set (W := wr) (S := (fun s => Part (p t2) (p t1) 0 s ∧ s.C.length ≤ 240)) (s := s6) HS6.out HB7.out hl7 HV.out HPT.out)
                  go_wp2_with fail
                  refine soloP (((HV.out.setCell hl7 _).setCell hl7 _).setCell hl7 _) ?_
                  refine wpPlan_stop ?_
                  clear e0 e1 e2 ef0 ef1 ef2
                  go_wp2_with fail
                  go_meet
                  exact HF.out
              · go_wp2_with fail
                have hkn := (Kept.refl wd).alloc #[.slice none 0 0, .slice none 0 0, .slice none 0 0] 31
                have HB7 := Lib.hid (Box3.new wd (.slice none 0 0) (.slice none 0 0) (.slice none 0 0) 31)
                obtain ⟨b7, hb7⟩ : ∃ b7, (World.heap wd).size = b7 := ⟨_, rfl⟩
                have HL7 := Lib.hid (show wr.heap.size ≤ b7 by rw [← hb7]; exact HV.out.2.2)
                replace HV := Lib.hid (HV.out.trans hkn)
                obtain ⟨u7, hu7⟩ : ∃ u7, World.alloc wd (.cells #[.slice none 0 0, .slice none 0 0, .slice none 0 0] 31) = u7 := ⟨_, rfl⟩
                rw [hb7, hu7] at HB7
                rw [hu7] at HV ⊢
                rw [hb7]
                clear hkn hb7 hu7
                refine soloP HV.out ?_
                rw [wpPlan_one]
                simp only [pickOps_cons, pickOps_nil, consO_some, List.getElem?_cons_zero, List.getElem?_cons_succ]
                go_wp2_with (go_at_call 16; refine (gone_any Ai ni ci Bi mi ki Di pi qi (p t1) Ak nk ck (.slice Bk mk kk) (.slice Dk pk qk) (p t2) _ (HTi.out.kept HV.out) (HTk.out.el.kept HV.out) HOi.out HOk.out.wfL (by omega) (by omega) (by omega)).mono ?_; rintro e u1 ⟨Ag, cg, rfl, hdg, hk⟩)
                rw [HNG.out] at hdg ⊢
                have HDG := Lib.hid hdg
                replace HV := Lib.hid (HV.out.trans hk)
                replace HB7 := Lib.hid (HB7.out.kept hk)
                clear hdg hk
                refine soloP HV.out ?_
                rw [wpPlan_one]
                simp only [pickOps_cons, pickOps_nil, consO_some, List.getElem?_cons_zero, List.getElem?_cons_succ]
                go_wp2_with (go_at_call 15; refine (without_any Ak nk ck (p t2).L Bk mk kk (p t2).V Dk pk qk (p t2).C Ag ng cg (goneE (p t1) (p t2)) _ (HTk.out.el.kept HV.out) (HTk.out.il.kept HV.out) (HTk.out.dl.kept HV.out) HDG.out HOk.out.ctx (by omega) (by omega) (by omega)).mono ?_; intro e u2 hst; obtain ⟨A6, n6, c6, B6, m6, k6, D6, p6, q6, s6, rfl, hs6, hpt, hk⟩ := part_start hst)
                have HS6 := Lib.hid hs6
                have HPT := Lib.hid (show Part (p t2) (p t1) 0 s6 ∧ s6.C.length ≤ 240 from ⟨hpt.1, by have := hpt.2; omega⟩)
                replace HV := Lib.hid (HV.out.trans hk)
                replace HB7 := Lib.hid (HB7.out.kept hk)
                clear hst hs6 hpt hk
                refine soloP HV.out ?_
                rw [wpPlan_one]
                simp only [pickOps_cons, pickOps_nil, consO_some, List.getElem?_cons_zero, List.getElem?_cons_succ]
                have hl7 := HL7.out
                have e0 := HB7.out.c0; have e1 := HB7.out.c1; have e2 := HB7.out.c2; have ef0 := HB7.out.f 0; have ef1 := HB7.out.f 1; have ef2 := HB7.out.f 2
                have HF := Lib.hid (hasS_set (W := wr) (S := (fun s => Part (p t2) (p t1) 0 s ∧ s.C.length ≤ 240)) (s := s6) HS6.out HB7.out hl7 HV.out HPT.out)
                go_wp2_with fail
                refine soloP (((HV.out.setCell hl7 _).setCell hl7 _).setCell hl7 _) ?_
                refine wpPlan_stop ?_
                clear e0 e1 e2 ef0 ef1 ef2
                go_wp2_with fail
                go_meet
                exact HF.out
            case rest =>
              clear Xi0 Xi1 Xi2 Xk0 Xk1 Xk2
              obtain ⟨b6, A6, n6, c6, B6, m6, k6, D6, p6, q6, s6, rfl, hb6, hk6, hbx, hst, hpt⟩ := hcut
              have HB6 := Lib.hid hbx; have HS6 := Lib.hid hst; have HPT := Lib.hid hpt; have HK6 := Lib.hid hk6
              clear hbx hst hpt hk6
              have Xi0 := KExt.cell (HK6.out.cell HYi0.out); have Xi1 := KExt.cell (HK6.out.cell HYi1.out); have Xi2 := KExt.cell (HK6.out.cell HYi2.out)
              have Xk1 := KExt.cell (HK6.out.cell HYk1.out); have Xk2 := KExt.cell (HK6.out.cell HYk2.out)
              go_wp2_with fail
              refine region_plan _ 10 (.read [0, 1, 2, 3, 4, 5, 6, 9] (.one 7 (.read [8] .stop))) (by kernel_rfl) (by kernel_rfl) (by kernel_rfl) (by kernel_rfl) (by kernel_rfl) (fun _ d _ _ _ h => by cases d <;> exact h) (Kept.refl _) ?_
              intro wd hwd
              have HV := Lib.hid hwd
              clear hwd
              rw [wpPlan_read]
              simp only [pickOps_cons, pickOps_nil, consO_some, List.getElem?_cons_zero, List.getElem?_cons_succ]
              repeat (go_big_quiet_step (fail))
              refine wpQuiet_nil ?_
              clear Xi0 Xi1 Xi2 Xk1 Xk2
              rw [wpPlan_one]
              simp only [pickOps_cons, pickOps_nil, consO_some, List.getElem?_cons_zero, List.getElem?_cons_succ]
              go_wp2_with (go_at_call 17; refine (beyond_any Ai ni ci (p t1).L (.slice Bi mi ki) (.slice Di pi qi) Bk mk kk (p t2).V Dk pk qk (p t2).C _ (HTi.out.el.kept (HK6.out.trans HV.out)) (HTk.out.il.kept (HK6.out.trans HV.out)) (HTk.out.dl.kept (HK6.out.trans HV.out)) (by omega) (by omega) HOk.out.wfC HOi.out.wfL).mono ?_; rintro e w9 ⟨A9, c9, rfl, he9, hk⟩)
              obtain ⟨X, hX⟩ : ∃ X, (p t1).L.filter (newE (p t2).V (p t2).C) = X := ⟨_, rfl⟩
              rw [hX] at he9 ⊢
              obtain ⟨n9, hn9⟩ : ∃ n9, X.length = n9 := ⟨_, rfl⟩
              rw [hn9] at he9 ⊢
              have hn9b : n9 ≤ 120 := by rw [← hn9, ← hX]; have := List.length_filter_le (newE (p t2).V (p t2).C) (p t1).L; have := HFi.out; omega
              have HXE := Lib.hid hX; have HN9 := Lib.hid hn9
              replace HV := Lib.hid (HV.out.trans hk)
              have HE9 := Lib.hid he9
              clear hX hn9 he9 hk
              refine soloP HV.out ?_
              rw [wpPlan_read]
              simp only [pickOps_cons, pickOps_nil, consO_some, List.getElem?_cons_zero, List.getElem?_cons_succ]
              repeat (go_big_quiet_step (fail))
              refine wpQuiet_nil ?_
              refine wpPlan_stop ?_
              have HPM := Lib.hid (show PartM wr b6 (p t2) (p t1) A9 n9 c9 X w9 0 from ⟨HK6.out.trans HV.out, HE9.out, A6, n6, c6, B6, m6, k6, D6, p6, q6, s6, HB6.out.kept HV.out, HS6.out.kept HV.out, HPT.out.1, HPT.out.2⟩)
              clear HV HE9 HB6 HS6 HPT HK6
              obtain ⟨W5, hW5⟩ : ∃ W5, W5 = wr := ⟨_, rfl⟩
              subst hW5
              go_wp2_with fail
              go_loopw [41] (fun vi wr => ∃ u : Nat, u ≤ n9 ∧ vi = .int .i64 u ∧ PartM W5 b6 (p t2) (p t1) A9 n9 c9 X wr u) (fun vi _ => n9 - (intOf vi).toNat)
              case atStart => exact ⟨0, Nat.zero_le _, rfl, HPM.out⟩
              case round =>
                clear HPM
                obtain ⟨u, hu, rfl, hkn, he9, A7, n7, c7, B7, m7, k7, D7, p7, q7, s7, hbx, hst, hpt, hc7⟩ := hrel
                have HKU := Lib.hid hkn; have HE9 := Lib.hid he9; have HB := Lib.hid hbx; have HS := Lib.hid hst; have HPT := Lib.hid hpt
                have hn7 : n7 ≤ 240 := by have := hst.el.1; have := hpt.len; have := HFi.out; have := HFk.out; omega
                have hp7 : p7 ≤ 240 + u := by have := hst.dl.1; omega
                have hwl := hbx.lt
                clear hkn he9 hbx hst hpt hc7
                by_cases hlt : u < n9
                · obtain ⟨g, o, x, rfl, hx, EX⟩ := HE9.out.get hlt
                  have y0 := EX.c0; have y1 := EX.c1; have y2 := EX.c2; have y3 := EX.c3; have y4 := EX.c4; have y5 := EX.c5; have y6 := EX.c6; have y7 := EX.c7; have y8 := EX.c8
                  have HXX := Lib.hid (show ((p t1).L.filter (newE (p t2).V (p t2).C))[u]? = some x by rw [HXE.out]; exact hx)
                  have HX := Ent.new wr x 47
                  have hka := (Kept.refl wr).alloc #[.int .i64 x.d.1, .int .i64 x.d.2, .string x.p, .int .i64 x.k, .int .i64 x.vk, .int .i64 x.vn, .string x.vt, .int .i64 x.e.1, .int .i64 x.e.2] 47
                  have HB1 := Lib.hid (HB.out.kept hka); have HS1 := Lib.hid (HS.out.kept hka); have HKA := Lib.hid hka
                  have b0 := HB1.out.c0; have b1 := HB1.out.c1; have b2 := HB1.out.c2
                  have x0 := HX.c0; have x1 := HX.c1; have x2 := HX.c2; have x3 := HX.c3; have x4 := HX.c4; have x5 := HX.c5; have x6 := HX.c6; have x7 := HX.c7; have x8 := HX.c8
                  clear EX hx hka HX HB HS
                  go_wp2_with fail
                  go_at_call 18
                  refine (with_any A7 n7 c7 s7.L B7 m7 k7 s7.V D7 p7 q7 s7.C x _ HS1.out.el HS1.out.il HS1.out.dl (HPT.out.rise HOk.out) HPT.out.ctx (by omega) (by omega)).mono ?_
                  intro e w8 hst
                  obtain ⟨A8, n8, c8, B8, m8, k8, D8, p8, q8, s8, rfl, hs8, hpt, hk8⟩ := part_step hst HOi.out HPT.out HXX.out
                  have hbx := HB1.out.kept hk8
                  have HEND := Lib.hid (show PartM W5 b6 (p t2) (p t1) (some ⟨g, o, none⟩) n9 c9 X (((w8.setCell ⟨b6, 0, none⟩ (.slice A8 n8 c8)).setCell ⟨b6, 1, none⟩ (.slice B8 m8 k8)).setCell ⟨b6, 2, none⟩ (.slice D8 p8 q8)) (u + 1) from
                    ⟨(((HKU.out.trans (HKA.out.trans hk8)).setCell (a := ⟨b6, 0, none⟩) hb6 _).setCell (a := ⟨b6, 1, none⟩) hb6 _).setCell (a := ⟨b6, 2, none⟩) hb6 _, hbx.el _ _ _ (HE9.out.kept (HKA.out.trans hk8)), A8, n8, c8, B8, m8, k8, D8, p8, q8, s8, hbx.set3 _ _ _, ⟨hbx.el _ _ _ hs8.el, hbx.il _ _ _ hs8.il, hbx.dl _ _ _ hs8.dl⟩, hpt.1, by have := hpt.2; omega⟩)
                  have f0 := hbx.c0; have f1 := hbx.c1; have f2 := hbx.c2; have ef0 := hbx.f 0; have ef1 := hbx.f 1; have ef2 := hbx.f 2
                  clear hst hs8 hpt hk8 hbx y0 y1 y2 y3 y4 y5 y6 y7 y8 x0 x1 x2 x3 x4 x5 x6 x7 x8 b0 b1 b2
                  go_wp2_with fail
                  go_roundw
                  case rel => exact ⟨u + 1, hlt, by go_num, HEND.out⟩
                  case measure => simp [intOf]; omega
                · obtain rfl : u = n9 := by omega
                  have Xi1 := KExt.cell HYi1.out; have Xi2 := KExt.cell HYi2.out
                  go_wp2_with fail
                  refine region_plan W5 9 (.read [0, 2, 3, 4, 5] (.one 1 (.one 6 (.read [7] (.one 8 .stop))))) (by kernel_rfl) (by kernel_rfl) (by kernel_rfl) (by kernel_rfl) (by kernel_rfl) (fun _ d _ _ _ h => by cases d <;> exact h) HKU.out ?_
                  intro wd hwd
                  have HV := Lib.hid hwd
                  have hbx := HB.out.kept hwd
                  have b1 := hbx.c1; have b2 := hbx.c2
                  clear hwd hbx
                  rw [wpPlan_read]
                  simp only [pickOps_cons, pickOps_nil, consO_some, List.getElem?_cons_zero, List.getElem?_cons_succ]
                  repeat (go_big_quiet_step (fail))
                  refine wpQuiet_nil ?_
                  clear Xi1 Xi2
                  rw [wpPlan_one]
                  simp only [pickOps_cons, pickOps_nil, consO_some, List.getElem?_cons_zero, List.getElem?_cons_succ]
                  go_wp2_with fail
                  refine soloP (HKU.out.trans HV.out) ?_
                  clear b1 b2
                  rw [wpPlan_one]
                  simp only [pickOps_cons, pickOps_nil, consO_some, List.getElem?_cons_zero, List.getElem?_cons_succ]
                  go_wp2_with (go_at_call 19; refine (gjoin_any B7 m7 k7 s7.V D7 p7 q7 s7.C Bi mi ki (p t1).V Di pi qi (p t1).C _ (HS.out.il.kept HV.out) HPT.out.ctx.vec (HS.out.dl.kept HV.out) (HTi.out.il.kept (HKU.out.trans HV.out)) HOi.out.ctx.vec (HTi.out.dl.kept (HKU.out.trans HV.out)) (by omega)).mono ?_; rintro e w8 ⟨A8, n8, c8, B8, m8, k8, V8, C8, rfl, hi8, hd8, hset, hm8, hk8, -, -⟩)
                  replace HV := Lib.hid (HV.out.trans hk8)
                  have hbx := HB.out.kept HV.out
                  have HB8 := Lib.hid (box2of3 hbx (.slice A8 n8 c8) (.slice B8 m8 k8))
                  have HS8 := Lib.hid (stt2 hbx (.slice A8 n8 c8) (.slice B8 m8 k8) (show Stt w8 A7 n7 c7 A8 n8 c8 B8 m8 k8 s7.L V8 C8 from ⟨HS.out.el.kept HV.out, hi8, hd8⟩))
                  have HD8 := Lib.hid (fun (j : Sta) (hj : JoinOf (p t2) (p t1) j) => Part.done HOk.out HOi.out hj (by rw [HXE.out, HN9.out]) HPT.out hset)
                  have HK8 := Lib.hid (((HKU.out.trans HV.out).setCell (a := ⟨b6, 1, none⟩) hb6 (.slice A8 n8 c8)).setCell (a := ⟨b6, 2, none⟩) hb6 (.slice B8 m8 k8))
                  have e1 := hbx.c1; have e2 := hbx.c2; have ef1 := hbx.f 1; have ef2 := hbx.f 2
                  clear hi8 hd8 hset hm8 hk8 hbx HB HS
                  refine soloP (HKU.out.trans HV.out) ?_
                  rw [wpPlan_read]
                  simp only [pickOps_cons, pickOps_nil, consO_some, List.getElem?_cons_zero, List.getElem?_cons_succ]
                  repeat (go_big_quiet_step (fail))
                  refine wpQuiet_nil ?_
                  rw [wpPlan_one]
                  simp only [pickOps_cons, pickOps_nil, consO_some, List.getElem?_cons_zero, List.getElem?_cons_succ]
                  go_wp2_with fail
                  refine soloP HK8.out ?_
                  refine wpPlan_stop ?_
                  clear e1 e2 ef1 ef2 HV HKU
                  obtain ⟨W8, hW8⟩ : ∃ W8, (w8.setCell ⟨b6, 1, none⟩ (.slice A8 n8 c8)).setCell ⟨b6, 2, none⟩ (.slice B8 m8 k8) = W8 := ⟨_, rfl⟩
                  rw [hW8] at HB8 HS8 HK8 ⊢
                  clear hW8
                  have Xi0 := KExt.cell (HK8.out.cell HYi0.out); have Xi1 := KExt.cell (HK8.out.cell HYi1.out); have Xi2 := KExt.cell (HK8.out.cell HYi2.out)
                  have Xk0 := KExt.cell (HK8.out.cell HYk0.out); have Xk1 := KExt.cell (HK8.out.cell HYk1.out); have Xk2 := KExt.cell (HK8.out.cell HYk2.out)
                  have b0 := KExt.cell HB8.out.c0; have b1 := KExt.cell HB8.out.c1; have b2 := KExt.cell HB8.out.c2
                  go_wp2_with fail
                  refine region_plan W8 10 (.read [0, 1, 2, 3, 4, 5, 7] (.one 6 (.one 8 (.read [9] .stop)))) (by kernel_rfl) (by kernel_rfl) (by kernel_rfl) (by kernel_rfl) (by kernel_rfl) (fun _ d _ _ _ h => by cases d <;> exact h) (Kept.refl _) ?_
                  intro wd hwd
                  have HV := Lib.hid hwd
                  clear hwd
                  rw [wpPlan_read]
                  simp only [pickOps_cons, pickOps_nil, consO_some, List.getElem?_cons_zero, List.getElem?_cons_succ]
                  repeat (go_big_quiet_step (fail))
                  refine wpQuiet_nil ?_
                  clear Xi0 Xi1 Xi2 Xk0 Xk1 Xk2
                  clear b0 b1 b2
                  rw [wpPlan_one]
                  simp only [pickOps_cons, pickOps_nil, consO_some, List.getElem?_cons_zero, List.getElem?_cons_succ]
                  go_wp2_with (go_at_call 9; refine (join_any Ak nk ck Bk mk kk Dk pk qk (p t2) Ai ni ci Bi mi ki Di pi qi (p t1) _ (HTk.out.kept (HK8.out.trans HV.out)) (HTi.out.kept (HK8.out.trans HV.out)) HOk.out HOi.out (by omega) (by omega) (by omega) (by omega)).mono ?_; rintro e w10 ⟨Aj, nj, cj, Bj, mj, kj, Dj, pj, qj, sj, rfl, hsj, hjj, hkj⟩)
                  have HSJ := Lib.hid hsj
                  have HJJ := Lib.hid (HD8.out sj hjj.1)
                  replace HV := Lib.hid (HV.out.trans hkj)
                  clear hsj hjj hkj
                  refine soloP HV.out ?_
                  rw [wpPlan_one]
                  simp only [pickOps_cons, pickOps_nil, consO_some, List.getElem?_cons_zero, List.getElem?_cons_succ]
                  go_wp2_with (go_at_call 11; refine (ssame_any Aj nj cj sj.L Bj mj kj sj.V Dj pj qj sj.C A7 n7 c7 s7.L A8 n8 c8 V8 B8 m8 k8 C8 _ HSJ.out.el HSJ.out.il HSJ.out.dl (HS8.out.el.kept HV.out) (HS8.out.il.kept HV.out) (HS8.out.dl.kept HV.out) true ⟨fun _ => HJJ.out, fun _ => rfl⟩).mono ?_; rintro e w11 ⟨rfl, hk11⟩)
                  replace HV := Lib.hid (HV.out.trans hk11)
                  clear hk11
                  refine soloP HV.out ?_
                  rw [wpPlan_read]
                  simp only [pickOps_cons, pickOps_nil, consO_some, List.getElem?_cons_zero, List.getElem?_cons_succ]
                  repeat (go_big_quiet_step (fail))
                  refine wpQuiet_nil ?_
                  refine wpPlan_stop ?_
                  go_wp2_with fail
                  go_roundw
                  case rel => (repeat apply Exists.intro); exact ⟨(show t2 + 1 ≤ 3 by omega), by go_num, HKW.out.trans (HK8.out.trans HV.out)⟩
                  case measure => simp [intOf]; omega
          · obtain rfl : t2 = 3 := by omega
            go_wp2_with fail
            go_roundw
            case rel => (repeat apply Exists.intro); exact ⟨(show t1 + 1 ≤ 3 by omega), by go_num, HKW.out⟩
            case measure => simp [intOf]; omega
      · obtain rfl : t1 = 3 := by omega
        go_wp2_with fail
        go_at_call 7
        refine (jawake_any _).mono ?_
        rintro e wz ⟨rfl, hkz⟩
        have HKZ := Lib.hid (HK3.out.trans (HKW.out.trans hkz))
        clear hkz
        go_wp2_with fail
        go_ret
        exact ⟨rfl, HKZ.out⟩
end Go.Proofs.YtcldbmhjfmbcfaaGreat
