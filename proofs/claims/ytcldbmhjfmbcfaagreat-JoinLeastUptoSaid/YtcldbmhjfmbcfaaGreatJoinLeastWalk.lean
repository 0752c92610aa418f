/-
  What is proved: the Go function JoinLeast of layer 9's laws, called with any events whose paths are of bounded length, returns true; the world has new blocks at most.
-/
import Derived.Test.YtcldbmhjfmbcfaaGreatM31
import Derived.Test.YtcldbmhjfmbcfaaGreatJPlayW
import Derived.Test.YtcldbmhjfmbcfaaGreatM35
import Derived.Deep.DeepCutAuto
namespace Go.Proofs.YtcldbmhjfmbcfaaGreat
open Go.RowKit
set_option linter.unusedVariables false

set_option maxRecDepth 100000 in
set_option maxHeartbeats 32000000 in
theorem joinLeast_any (A : Option Addr) (n c : Nat) (L : List Ev) (w : World) (h : Evl w A n c L) (hs : ∀ x ∈ L, x.path.size ≤ 1048576) :
    Calls Tryz.prog 5 #[.slice A n c] w fun e w' => e = .returned (.bool true) ∧ Kept w w' := by
  obtain ⟨r, hr⟩ := bool_iff ((∀ x ∈ L, L4.rightS x.path = true) ∧ n ≤ 40)
  have hcap := h.cap.1; have hcap2 := h.cap.2
  have AF := Lib.hid (fair_any A n c L w h (fun x hx => Nat.le_trans (hs x hx) (by decide)) r hr)
  have HL := Lib.hid h; have HR := Lib.hid hr
  clear h hs hr
  cases r with
  | false =>
    go_enter Tryz.func5, Tryz.ntmps5
    go_wp2_with fail
    go_at_call 6
    refine AF.out.mono ?_
    rintro e w1 ⟨rfl, hk1⟩
    have HK1 := Lib.hid hk1
    clear hk1
    go_wp2_with fail
    go_at_call 7
    refine (jawake_any w1).mono ?_
    rintro e w2 ⟨rfl, hk2⟩
    have HK2 := Lib.hid (HK1.out.trans hk2)
    clear hk2
    go_wp2_with fail
    go_ret
    exact ⟨rfl, HK2.out⟩
  | true =>
    obtain ⟨hp, h40⟩ := HR.out.1 rfl
    have HP := Lib.hid hp
    clear hp HR
    go_enter Tryz.func5, Tryz.ntmps5
    go_wp2_with fail
    go_at_call 6
    refine AF.out.mono ?_
    rintro e w1 ⟨rfl, hk1⟩
    have HK1 := Lib.hid hk1
    clear hk1
    go_wp2_with fail
    go_at_call 8
    refine (play_any A n c L w1 (HL.out.kept HK1.out) h40 HP.out).mono ?_
    rintro e w2 ⟨p, A0, n0, c0, B0, m0, k0, D0, p0, q0, A1, n1, c1, B1, m1, k1, D1, p1, q1, A2, n2, c2, B2, m2, k2, D2, p2, q2, rfl, hs0, hs1, hs2, hinv, hk2⟩
    have har := arr_three 32 hs0 hs1 hs2
    have hka := (HK1.out.trans hk2).alloc #[.slice A0 n0 c0, .slice B0 m0 k0, .slice D0 p0 q0, .slice A1 n1 c1, .slice B1 m1 k1, .slice D1 p1 q1, .slice A2 n2 c2, .slice B2 m2 k2, .slice D2 p2 q2] 32
    have HINV := Lib.hid hinv
    obtain ⟨b3, hb3⟩ : ∃ b3, w2.heap.size = b3 := ⟨_, rfl⟩
    obtain ⟨W3, hW3⟩ : ∃ W3, w2.alloc (.cells #[.slice A0 n0 c0, .slice B0 m0 k0, .slice D0 p0 q0, .slice A1 n1 c1, .slice B1 m1 k1, .slice D1 p1 q1, .slice A2 n2 c2, .slice B2 m2 k2, .slice D2 p2 q2] 32) = W3 := ⟨_, rfl⟩
    rw [hb3, hW3] at har
    rw [hW3] at hka
    have HAR := Lib.hid har; have HK3 := Lib.hid hka; have HB3 := Lib.hid hb3; have HW3 := Lib.hid hW3
    clear hs0 hs1 hs2 hinv hk2 hka har hb3 hW3 AF HL HP HK1 hcap hcap2
    go_wp2_with fail
    rw [HW3.out, HB3.out]
    go_loopw [13] (fun vi wr => ∃ t1 : Nat, t1 ≤ 3 ∧ vi = .int .i64 t1 ∧ Kept W3 wr) (fun vi _ => 3 - (intOf vi).toNat)
    case atStart => exact ⟨0, Nat.zero_le _, rfl, Kept.refl _⟩
    case round =>
      obtain ⟨t1, ht1, rfl, hkw⟩ := hrel
      have HKW := Lib.hid hkw
      clear hkw
      by_cases hti : t1 < 3
      · have dti : decide ((t1 : Int) < 3) = true := decide_eq_true (by omega)
        go_wp2_with fail
        go_loopw [16] (fun vi wr => ∃ t2 : Nat, t2 ≤ 3 ∧ vi = .int .i64 t2 ∧ Kept W3 wr) (fun vi _ => 3 - (intOf vi).toNat)
        case atStart => exact ⟨0, Nat.zero_le _, rfl, HKW.out⟩
        case round =>
          clear HKW
          obtain ⟨t2, ht2, rfl, hkw⟩ := hrel
          have HKW := Lib.hid hkw
          clear hkw
          by_cases htk : t2 < 3
          · have dtk : decide ((t2 : Int) < 3) = true := decide_eq_true (by omega)
            go_wp2_with fail
            go_loopw [19] (fun vi wr => ∃ t3 : Nat, t3 ≤ 3 ∧ vi = .int .i64 t3 ∧ Kept W3 wr) (fun vi _ => 3 - (intOf vi).toNat)
            case atStart => exact ⟨0, Nat.zero_le _, rfl, HKW.out⟩
            case round =>
              clear HKW
              obtain ⟨t3, ht3, rfl, hkw⟩ := hrel
              have HKW := Lib.hid hkw
              clear hkw
              have HARW := Lib.hid (HAR.out.kept HKW.out)
              by_cases htm : t3 < 3
              · obtain ⟨Am, nm, cm, Bm, mm, km, Dm, pm, qm, sm0, sm1, sm2, hsm⟩ := HARW.out.st t3 htm
                have HSm := Lib.hid hsm
                have hfm := HINV.out.size h40 htm
                have hnm : nm ≤ 120 := by have := hsm.el.1; omega
                have hpm : pm ≤ 120 := by have := hsm.dl.1; omega
                have HOm := Lib.hid (HINV.out.ord t3 htm)
                have HFm := Lib.hid hfm
                have Xm0 := KExt.cell sm0; have Xm1 := KExt.cell sm1; have Xm2 := KExt.cell sm2
                clear hsm hfm sm0 sm1 sm2
                obtain ⟨Ai, ni, ci, Bi, mi, ki, Di, pi, qi, si0, si1, si2, hsi⟩ := HARW.out.st t1 hti
                have HSi := Lib.hid hsi
                have hfi := HINV.out.size h40 hti
                have hni : ni ≤ 120 := by have := hsi.el.1; omega
                have hpi : pi ≤ 120 := by have := hsi.dl.1; omega
                have HOi := Lib.hid (HINV.out.ord t1 hti)
                have HFi := Lib.hid hfi
                have Xi0 := KExt.cell si0; have Xi1 := KExt.cell si1; have Xi2 := KExt.cell si2
                clear hsi hfi si0 si1 si2
                obtain ⟨Ak, nk, ck, Bk, mk, kk, Dk, pk, qk, sk0, sk1, sk2, hsk⟩ := HARW.out.st t2 htk
                have HSk := Lib.hid hsk
                have hfk := HINV.out.size h40 htk
                have hnk : nk ≤ 120 := by have := hsk.el.1; omega
                have hpk : pk ≤ 120 := by have := hsk.dl.1; omega
                have HOk := Lib.hid (HINV.out.ord t2 htk)
                have HFk := Lib.hid hfk
                have Xk0 := KExt.cell sk0; have Xk1 := KExt.cell sk1; have Xk2 := KExt.cell sk2
                clear hsk hfk sk0 sk1 sk2
                obtain ⟨g1, hg1⟩ := bool_iff (JoinOf (p t3) (p t1) (p t3))
                obtain ⟨g2, hg2⟩ := bool_iff (JoinOf (p t3) (p t2) (p t3))
                have HC1 := Lib.hid hg1; have HC2 := Lib.hid hg2
                have HCB := Lib.hid (fun (j : Sta) (hj : JoinOf (p t1) (p t2) j) => covers_both HOm.out HOi.out HOk.out (HINV.out.agree t3 t1 htm hti) (HINV.out.agree t3 t2 htm htk) (HINV.out.agree t1 t2 hti htk) hj)
                clear hg1 hg2
                cases g1 with
                | true =>
                  replace HCB := Lib.hid (fun (j : Sta) (hj : JoinOf (p t1) (p t2) j) => show g2 = true ↔ JoinOf (p t3) j (p t3) from ⟨fun h => (HCB.out j hj).1 ⟨HC1.out.1 rfl, HC2.out.1 h⟩, fun h => HC2.out.2 ((HCB.out j hj).2 h).2⟩)
                  replace HC1 := Lib.hid (HC1.out.1 rfl)
                  go_wp2_with fail
                  refine region_plan wr 28 (.read [0, 1, 2, 3, 4, 5, 16, 17, 18, 19, 20, 21, 22, 23, 24] (.one 6 (.read [7, 8, 9, 10, 11, 12, 13] (.one 14 (.read [15] (.one 25 (.one 26 (.read [27] .stop)))))))) (by kernel_rfl) (by kernel_rfl) (by kernel_rfl) (by kernel_rfl) (by kernel_rfl) (fun _ d _ _ _ h => by cases d <;> exact h) (Kept.refl _) ?_
                  intro wd hwd
                  have HV := Lib.hid hwd
                  clear hwd
                  rw [wpPlan_read]
                  simp only [pickOps_cons, pickOps_nil, consO_some, List.getElem?_cons_zero, List.getElem?_cons_succ]
                  repeat (go_big_quiet_step (fail))
                  refine wpQuiet_nil ?_
                  rw [wpPlan_one]
                  simp only [pickOps_cons, pickOps_nil, consO_some, List.getElem?_cons_zero, List.getElem?_cons_succ]
                  go_wp2_with (go_at_call 12; refine (covers_any Am nm cm Bm mm km Dm pm qm (p t3) Ai ni ci Bi mi ki Di pi qi (p t1) _ (HSm.out.kept HV.out) (HSi.out.kept HV.out) HOm.out HOi.out (by omega) (by omega) (by omega) (by omega) true ⟨fun _ => HC1.out, fun _ => rfl⟩).mono ?_; rintro e u1 ⟨rfl, hk⟩)
                  replace HV := Lib.hid (HV.out.trans hk)
                  clear hk
                  refine soloP HV.out ?_
                  rw [wpPlan_read]
                  simp only [pickOps_cons, pickOps_nil, consO_some, List.getElem?_cons_zero, List.getElem?_cons_succ]
                  repeat (go_big_quiet_step (fail))
                  refine wpQuiet_nil ?_
                  rw [wpPlan_one]
                  simp only [pickOps_cons, pickOps_nil, consO_some, List.getElem?_cons_zero, List.getElem?_cons_succ]
                  go_wp2_with (go_at_call 12; refine (covers_any Am nm cm Bm mm km Dm pm qm (p t3) Ak nk ck Bk mk kk Dk pk qk (p t2) _ (HSm.out.kept HV.out) (HSk.out.kept HV.out) HOm.out HOk.out (by omega) (by omega) (by omega) (by omega) g2 HC2.out).mono ?_; rintro e u2 ⟨rfl, hk⟩)
                  replace HV := Lib.hid (HV.out.trans hk)
                  clear hk
                  refine soloP HV.out ?_
                  rw [wpPlan_read]
                  simp only [pickOps_cons, pickOps_nil, consO_some, List.getElem?_cons_zero, List.getElem?_cons_succ]
                  repeat (go_big_quiet_step (fail))
                  refine wpQuiet_nil ?_
                  rw [wpPlan_one]
                  simp only [pickOps_cons, pickOps_nil, consO_some, List.getElem?_cons_zero, List.getElem?_cons_succ]
                  go_wp2_with (go_at_call 9; refine (join_any Ai ni ci Bi mi ki Di pi qi (p t1) Ak nk ck Bk mk kk Dk pk qk (p t2) _ (HSi.out.kept HV.out) (HSk.out.kept HV.out) HOi.out HOk.out (by omega) (by omega) (by omega) (by omega)).mono ?_; rintro e uj ⟨Aj, nj, cj, Bj, mj, kj, Dj, pj, qj, sj, rfl, hsj, hjj, hk⟩)
                  have HSjH := Lib.hid hsj
                  have HJj := Lib.hid hjj.1
                  have hnj : nj ≤ 240 := by have := hsj.el.1; have := hjj.2.1; have := HFi.out; have := HFk.out; omega
                  have hpj : pj ≤ 240 := by have := hsj.dl.1; have := hjj.2.2; have := HFi.out; have := HFk.out; omega
                  have HFj := Lib.hid (show sj.L.length ≤ (p t1).L.length + (p t2).L.length ∧ sj.C.length ≤ (p t1).C.length + (p t2).C.length from hjj.2)
                  have HOj := Lib.hid (hjj.1.ord HOi.out HOk.out)
                  replace HV := Lib.hid (HV.out.trans hk)
                  clear hsj hjj hk
                  refine soloP HV.out ?_
                  have HSj := HSjH
                  rw [wpPlan_one]
                  simp only [pickOps_cons, pickOps_nil, consO_some, List.getElem?_cons_zero, List.getElem?_cons_succ]
                  go_wp2_with (go_at_call 12; refine (covers_any Am nm cm Bm mm km Dm pm qm (p t3) Aj nj cj Bj mj kj Dj pj qj sj _ (HSm.out.kept HV.out) (HSj.out) HOm.out HOj.out (by omega) (by omega) (by omega) (by omega) (g2) (HCB.out sj HJj.out)).mono ?_; rintro e u4 ⟨rfl, hk⟩)
                  replace HV := Lib.hid (HV.out.trans hk)
                  clear hk
                  refine soloP HV.out ?_
                  clear HSj
                  rw [wpPlan_read]
                  simp only [pickOps_cons, pickOps_nil, consO_some, List.getElem?_cons_zero, List.getElem?_cons_succ]
                  repeat (go_big_quiet_step (fail))
                  refine wpQuiet_nil ?_
                  refine wpPlan_stop ?_
                  clear Xm0 Xm1 Xm2 Xi0 Xi1 Xi2 Xk0 Xk1 Xk2
                  go_wp2_with fail
                  go_roundw
                  case rel => exact ⟨t3 + 1, by omega, by go_num, HKW.out.trans HV.out⟩
                  case measure => simp [intOf]; omega
                | false =>
                  replace HCB := Lib.hid (fun (j : Sta) (hj : JoinOf (p t1) (p t2) j) => show ¬ JoinOf (p t3) j (p t3) from fun h => Bool.false_ne_true (HC1.out.2 ((HCB.out j hj).2 h).1))
                  replace HC1 := Lib.hid (show ¬ JoinOf (p t3) (p t1) (p t3) from fun h => Bool.false_ne_true (HC1.out.2 h))
                  go_wp2_with fail
                  refine region_plan wr 28 (.read [0, 1, 2, 3, 4, 5, 16, 17, 18, 19, 20, 21, 22, 23, 24] (.one 6 (.read [7, 8, 9, 10, 11, 12, 13] (.one 14 (.read [15] (.one 25 (.one 26 (.read [27] .stop)))))))) (by kernel_rfl) (by kernel_rfl) (by kernel_rfl) (by kernel_rfl) (by kernel_rfl) (fun _ d _ _ _ h => by cases d <;> exact h) (Kept.refl _) ?_
                  intro wd hwd
                  have HV := Lib.hid hwd
                  clear hwd
                  rw [wpPlan_read]
                  simp only [pickOps_cons, pickOps_nil, consO_some, List.getElem?_cons_zero, List.getElem?_cons_succ]
                  repeat (go_big_quiet_step (fail))
                  refine wpQuiet_nil ?_
                  rw [wpPlan_one]
                  simp only [pickOps_cons, pickOps_nil, consO_some, List.getElem?_cons_zero, List.getElem?_cons_succ]
                  go_wp2_with (go_at_call 12; refine (covers_any Am nm cm Bm mm km Dm pm qm (p t3) Ai ni ci Bi mi ki Di pi qi (p t1) _ (HSm.out.kept HV.out) (HSi.out.kept HV.out) HOm.out HOi.out (by omega) (by omega) (by omega) (by omega) false ⟨(fun h => by cases h), fun h => absurd h HC1.out⟩).mono ?_; rintro e u1 ⟨rfl, hk⟩)
                  replace HV := Lib.hid (HV.out.trans hk)
                  clear hk
                  refine soloP HV.out ?_
                  rw [wpPlan_read]
                  simp only [pickOps_cons, pickOps_nil, consO_some, List.getElem?_cons_zero, List.getElem?_cons_succ]
                  repeat (go_big_quiet_step (fail))
                  refine wpQuiet_nil ?_
                  rw [wpPlan_one]
                  simp only [pickOps_cons, pickOps_nil, consO_some, List.getElem?_cons_zero, List.getElem?_cons_succ]
                  go_wp2_with fail
                  refine soloP HV.out ?_
                  rw [wpPlan_read]
                  simp only [pickOps_cons, pickOps_nil, consO_some, List.getElem?_cons_zero, List.getElem?_cons_succ]
                  repeat (go_big_quiet_step (fail))
                  refine wpQuiet_nil ?_
                  rw [wpPlan_one]
                  simp only [pickOps_cons, pickOps_nil, consO_some, List.getElem?_cons_zero, List.getElem?_cons_succ]
                  go_wp2_with (go_at_call 9; refine (join_any Ai ni ci Bi mi ki Di pi qi (p t1) Ak nk ck Bk mk kk Dk pk qk (p t2) _ (HSi.out.kept HV.out) (HSk.out.kept HV.out) HOi.out HOk.out (by omega) (by omega) (by omega) (by omega)).mono ?_; rintro e uj ⟨Aj, nj, cj, Bj, mj, kj, Dj, pj, qj, sj, rfl, hsj, hjj, hk⟩)
                  have HSjH := Lib.hid hsj
                  have HJj := Lib.hid hjj.1
                  have hnj : nj ≤ 240 := by have := hsj.el.1; have := hjj.2.1; have := HFi.out; have := HFk.out; omega
                  have hpj : pj ≤ 240 := by have := hsj.dl.1; have := hjj.2.2; have := HFi.out; have := HFk.out; omega
                  have HFj := Lib.hid (show sj.L.length ≤ (p t1).L.length + (p t2).L.length ∧ sj.C.length ≤ (p t1).C.length + (p t2).C.length from hjj.2)
                  have HOj := Lib.hid (hjj.1.ord HOi.out HOk.out)
                  replace HV := Lib.hid (HV.out.trans hk)
                  clear hsj hjj hk
                  refine soloP HV.out ?_
                  have HSj := HSjH
                  rw [wpPlan_one]
                  simp only [pickOps_cons, pickOps_nil, consO_some, List.getElem?_cons_zero, List.getElem?_cons_succ]
                  go_wp2_with (go_at_call 12; refine (covers_any Am nm cm Bm mm km Dm pm qm (p t3) Aj nj cj Bj mj kj Dj pj qj sj _ (HSm.out.kept HV.out) (HSj.out) HOm.out HOj.out (by omega) (by omega) (by omega) (by omega) (false) ⟨(fun h => by cases h), fun h => absurd h (HCB.out sj HJj.out)⟩).mono ?_; rintro e u4 ⟨rfl, hk⟩)
                  replace HV := Lib.hid (HV.out.trans hk)
                  clear hk
                  refine soloP HV.out ?_
                  clear HSj
                  rw [wpPlan_read]
                  simp only [pickOps_cons, pickOps_nil, consO_some, List.getElem?_cons_zero, List.getElem?_cons_succ]
                  repeat (go_big_quiet_step (fail))
                  refine wpQuiet_nil ?_
                  refine wpPlan_stop ?_
                  clear Xm0 Xm1 Xm2 Xi0 Xi1 Xi2 Xk0 Xk1 Xk2
                  go_wp2_with fail
                  go_roundw
                  case rel => exact ⟨t3 + 1, by omega, by go_num, HKW.out.trans HV.out⟩
                  case measure => simp [intOf]; omega
              · obtain rfl : t3 = 3 := by omega
                obtain ⟨Ai, ni, ci, Bi, mi, ki, Di, pi, qi, si0, si1, si2, hsi⟩ := HARW.out.st t1 hti
                have HSi := Lib.hid hsi
                have hfi := HINV.out.size h40 hti
                have hni : ni ≤ 120 := by have := hsi.el.1; omega
                have hpi : pi ≤ 120 := by have := hsi.dl.1; omega
                have HOi := Lib.hid (HINV.out.ord t1 hti)
                have HFi := Lib.hid hfi
                have Xi0 := KExt.cell si0; have Xi1 := KExt.cell si1; have Xi2 := KExt.cell si2
                clear hsi hfi si0 si1 si2
                obtain ⟨Ak, nk, ck, Bk, mk, kk, Dk, pk, qk, sk0, sk1, sk2, hsk⟩ := HARW.out.st t2 htk
                have HSk := Lib.hid hsk
                have hfk := HINV.out.size h40 htk
                have hnk : nk ≤ 120 := by have := hsk.el.1; omega
                have hpk : pk ≤ 120 := by have := hsk.dl.1; omega
                have HOk := Lib.hid (HINV.out.ord t2 htk)
                have HFk := Lib.hid hfk
                have Xk0 := KExt.cell sk0; have Xk1 := KExt.cell sk1; have Xk2 := KExt.cell sk2
                clear hsk hfk sk0 sk1 sk2
                obtain ⟨g1, hg1⟩ := bool_iff (JoinOf (p t1) (p t2) (p t1))
                obtain ⟨g2, hg2⟩ := bool_iff (JoinOf (p t2) (p t1) (p t2))
                have HC1 := Lib.hid hg1; have HC2 := Lib.hid hg2
                have HCA := Lib.hid ((covers_each HOi.out HOk.out (HINV.out.agree t1 t2 hti htk)).trans sta_same.symm)
                clear hg1 hg2
                cases g1 with
                | true =>
                  have HCB := Lib.hid (show g2 = true ↔ _ from ⟨fun h => HCA.out.1 ⟨HC1.out.1 rfl, HC2.out.1 h⟩, fun h => HC2.out.2 (HCA.out.2 h).2⟩)
                  replace HC1 := Lib.hid (HC1.out.1 rfl)
                  go_wp2_with fail
                  refine region_plan wr 24 (.read [0, 1, 2, 3, 4, 5, 16, 17, 18, 19, 20, 21] (.one 6 (.read [7, 8, 9, 10, 11, 12, 13] (.one 14 (.read [15] (.one 22 (.read [23] .stop))))))) (by kernel_rfl) (by kernel_rfl) (by kernel_rfl) (by kernel_rfl) (by kernel_rfl) (fun _ d _ _ _ h => by cases d <;> exact h) (Kept.refl _) ?_
                  intro wd hwd
                  have HV := Lib.hid hwd
                  clear hwd
                  rw [wpPlan_read]
                  simp only [pickOps_cons, pickOps_nil, consO_some, List.getElem?_cons_zero, List.getElem?_cons_succ]
                  repeat (go_big_quiet_step (fail))
                  refine wpQuiet_nil ?_
                  rw [wpPlan_one]
                  simp only [pickOps_cons, pickOps_nil, consO_some, List.getElem?_cons_zero, List.getElem?_cons_succ]
                  go_wp2_with (go_at_call 12; refine (covers_any Ai ni ci Bi mi ki Di pi qi (p t1) Ak nk ck Bk mk kk Dk pk qk (p t2) _ (HSi.out.kept HV.out) (HSk.out.kept HV.out) HOi.out HOk.out (by omega) (by omega) (by omega) (by omega) true ⟨fun _ => HC1.out, fun _ => rfl⟩).mono ?_; rintro e u1 ⟨rfl, hk⟩)
                  replace HV := Lib.hid (HV.out.trans hk)
                  clear hk
                  refine soloP HV.out ?_
                  rw [wpPlan_read]
                  simp only [pickOps_cons, pickOps_nil, consO_some, List.getElem?_cons_zero, List.getElem?_cons_succ]
                  repeat (go_big_quiet_step (fail))
                  refine wpQuiet_nil ?_
                  rw [wpPlan_one]
                  simp only [pickOps_cons, pickOps_nil, consO_some, List.getElem?_cons_zero, List.getElem?_cons_succ]
                  go_wp2_with (go_at_call 12; refine (covers_any Ak nk ck Bk mk kk Dk pk qk (p t2) Ai ni ci Bi mi ki Di pi qi (p t1) _ (HSk.out.kept HV.out) (HSi.out.kept HV.out) HOk.out HOi.out (by omega) (by omega) (by omega) (by omega) g2 HC2.out).mono ?_; rintro e u2 ⟨rfl, hk⟩)
                  replace HV := Lib.hid (HV.out.trans hk)
                  clear hk
                  refine soloP HV.out ?_
                  rw [wpPlan_read]
                  simp only [pickOps_cons, pickOps_nil, consO_some, List.getElem?_cons_zero, List.getElem?_cons_succ]
                  repeat (go_big_quiet_step (fail))
                  refine wpQuiet_nil ?_
                  rw [wpPlan_one]
                  simp only [pickOps_cons, pickOps_nil, consO_some, List.getElem?_cons_zero, List.getElem?_cons_succ]
                  go_wp2_with (go_at_call 11; refine (ssame_any Ai ni ci (p t1).L Bi mi ki (p t1).V Di pi qi (p t1).C Ak nk ck (p t2).L Bk mk kk (p t2).V Dk pk qk (p t2).C _ (HSi.out.el.kept HV.out) (HSi.out.il.kept HV.out) (HSi.out.dl.kept HV.out) (HSk.out.el.kept HV.out) (HSk.out.il.kept HV.out) (HSk.out.dl.kept HV.out) g2 HCB.out).mono ?_; rintro e u3 ⟨rfl, hk⟩)
                  replace HV := Lib.hid (HV.out.trans hk)
                  clear hk
                  refine soloP HV.out ?_
                  rw [wpPlan_read]
                  simp only [pickOps_cons, pickOps_nil, consO_some, List.getElem?_cons_zero, List.getElem?_cons_succ]
                  repeat (go_big_quiet_step (fail))
                  refine wpQuiet_nil ?_
                  refine wpPlan_stop ?_
                  clear Xi0 Xi1 Xi2 Xk0 Xk1 Xk2
                  go_wp2_with fail
                  go_roundw
                  case rel => (repeat apply Exists.intro); exact ⟨(show t2 + 1 ≤ 3 by omega), by go_num, HKW.out.trans HV.out⟩
                  case measure => simp [intOf]; omega
                | false =>
                  have HCB := Lib.hid (show ¬ ((p t1).L = (p t2).L ∧ (p t1).V = (p t2).V ∧ (p t1).C = (p t2).C) from fun h => Bool.false_ne_true (HC1.out.2 (HCA.out.2 h).1))
                  replace HC1 := Lib.hid (show ¬ JoinOf (p t1) (p t2) (p t1) from fun h => Bool.false_ne_true (HC1.out.2 h))
                  go_wp2_with fail
                  refine region_plan wr 24 (.read [0, 1, 2, 3, 4, 5, 16, 17, 18, 19, 20, 21] (.one 6 (.read [7, 8, 9, 10, 11, 12, 13] (.one 14 (.read [15] (.one 22 (.read [23] .stop))))))) (by kernel_rfl) (by kernel_rfl) (by kernel_rfl) (by kernel_rfl) (by kernel_rfl) (fun _ d _ _ _ h => by cases d <;> exact h) (Kept.refl _) ?_
                  intro wd hwd
                  have HV := Lib.hid hwd
                  clear hwd
                  rw [wpPlan_read]
                  simp only [pickOps_cons, pickOps_nil, consO_some, List.getElem?_cons_zero, List.getElem?_cons_succ]
                  repeat (go_big_quiet_step (fail))
                  refine wpQuiet_nil ?_
                  rw [wpPlan_one]
                  simp only [pickOps_cons, pickOps_nil, consO_some, List.getElem?_cons_zero, List.getElem?_cons_succ]
                  go_wp2_with (go_at_call 12; refine (covers_any Ai ni ci Bi mi ki Di pi qi (p t1) Ak nk ck Bk mk kk Dk pk qk (p t2) _ (HSi.out.kept HV.out) (HSk.out.kept HV.out) HOi.out HOk.out (by omega) (by omega) (by omega) (by omega) false ⟨(fun h => by cases h), fun h => absurd h HC1.out⟩).mono ?_; rintro e u1 ⟨rfl, hk⟩)
                  replace HV := Lib.hid (HV.out.trans hk)
                  clear hk
                  refine soloP HV.out ?_
                  rw [wpPlan_read]
                  simp only [pickOps_cons, pickOps_nil, consO_some, List.getElem?_cons_zero, List.getElem?_cons_succ]
                  repeat (go_big_quiet_step (fail))
                  refine wpQuiet_nil ?_
                  rw [wpPlan_one]
                  simp only [pickOps_cons, pickOps_nil, consO_some, List.getElem?_cons_zero, List.getElem?_cons_succ]
                  go_wp2_with fail
                  refine soloP HV.out ?_
                  rw [wpPlan_read]
                  simp only [pickOps_cons, pickOps_nil, consO_some, List.getElem?_cons_zero, List.getElem?_cons_succ]
                  repeat (go_big_quiet_step (fail))
                  refine wpQuiet_nil ?_
                  rw [wpPlan_one]
                  simp only [pickOps_cons, pickOps_nil, consO_some, List.getElem?_cons_zero, List.getElem?_cons_succ]
                  go_wp2_with (go_at_call 11; refine (ssame_any Ai ni ci (p t1).L Bi mi ki (p t1).V Di pi qi (p t1).C Ak nk ck (p t2).L Bk mk kk (p t2).V Dk pk qk (p t2).C _ (HSi.out.el.kept HV.out) (HSi.out.il.kept HV.out) (HSi.out.dl.kept HV.out) (HSk.out.el.kept HV.out) (HSk.out.il.kept HV.out) (HSk.out.dl.kept HV.out) false ⟨(fun h => by cases h), fun h => absurd h HCB.out⟩).mono ?_; rintro e u3 ⟨rfl, hk⟩)
                  replace HV := Lib.hid (HV.out.trans hk)
                  clear hk
                  refine soloP HV.out ?_
                  rw [wpPlan_read]
                  simp only [pickOps_cons, pickOps_nil, consO_some, List.getElem?_cons_zero, List.getElem?_cons_succ]
                  repeat (go_big_quiet_step (fail))
                  refine wpQuiet_nil ?_
                  refine wpPlan_stop ?_
                  clear Xi0 Xi1 Xi2 Xk0 Xk1 Xk2
                  go_wp2_with fail
                  go_roundw
                  case rel => (repeat apply Exists.intro); exact ⟨(show t2 + 1 ≤ 3 by omega), by go_num, HKW.out.trans HV.out⟩
                  case measure => simp [intOf]; omega
          · obtain rfl : t2 = 3 := by omega
            go_wp2_with fail
            go_roundw
            case rel => (repeat apply Exists.intro); exact ⟨(show t1 + 1 ≤ 3 by omega), by go_num, HKW.out⟩
            case measure => simp [intOf]; omega
      · obtain rfl : t1 = 3 := by omega
        go_wp2_with fail
        go_at_call 7
        refine (jawake_any _).mono ?_
        rintro e wz ⟨rfl, hkz⟩
        have HKZ := Lib.hid (HK3.out.trans (HKW.out.trans hkz))
        clear hkz
        go_wp2_with fail
        go_ret
        exact ⟨rfl, HKZ.out⟩
end Go.Proofs.YtcldbmhjfmbcfaaGreat
