/-
  What is proved: the Go function CtxDots of layer 6's laws, called with any slice of dots that lies in memory and any number, returns true, if package ctx keeps the contracts and the laws' helper 'awake' returns true; the world has new blocks at most.
-/
import Derived.Test.YtgofecnpmohmgaaCtxC
import Derived.Test.YtgofecnpmohmgaaCDotsMath
import Derived.Test.YtgofecnpmohmgaaCBackWalk
import Derived.Test.YtgofecnpmohmgaaPlanE
import Derived.Test.YtgofecnpmohmgaaDSame
import Derived.Test.YtgofecnpmohmgaaDSort
import Derived.Deep.DeepCutAuto
namespace Go.Proofs.Ytgofecnpmohmgaa
open Go.RowKit

theorem sets_eq2 {S S' : Int × Int → Prop} {V V' : List Int} {C C' : List (Int × Int)} (h : SetC S V C) (h' : SetC S' V' C') (he : ∀ d, S d ↔ S' d) : decide (V = V' ∧ C = C') = true := decide_eq_true (h.same h' he)
set_option maxRecDepth 100000 in
set_option maxHeartbeats 8000000 in
theorem cdots_small (K : CtxC) (HA : AwakeC) (A : Option Addr) (n c : Nat) (L : List (Int × Int)) (s : Int) (w : World) (h : Dl w A n c L) (hn : n ≤ 40) (hs0 : 0 ≤ s) (hs1 : s ≤ 255) :
    Calls Try.prog 6 #[.slice A n c, .int .u8 s] w fun e w' => e = .returned (.bool true) ∧ Kept w w' := by
  have q1 : decide ((40 : Int) < n) = false := decide_eq_false (by omega)
  have q2 : decide (40 < n) = false := decide_eq_false (by omega)
  have hcap := h.cap.1
  have hcap2 := h.cap.2
  have HL := Lib.hid h
  have HLN := Lib.hid h.1
  have HK := Lib.hid K
  have HAW := Lib.hid HA
  clear h K HA
  go_enter Try.func6, Try.ntmps6
  go_wp2_with fail
  go_at_call 11
  refine (HK.out.of_ A n c L w HL.out (by omega)).mono ?_
  rintro e w1 ⟨A1, n1, c1, B1, m1, k1, V, C, rfl, hi, hd, hs, hm, hk⟩
  have hkb := (Kept.refl w1).alloc #[.slice A1 n1 c1, .slice B1 m1 k1] 25
  have HIc := Lib.hid (hi.kept hkb)
  have HDc := Lib.hid (hd.kept hkb)
  have HBc := Lib.hid (Box2.new w1 (.slice A1 n1 c1) (.slice B1 m1 k1) 25)
  have HW := Lib.hid (hk.trans hkb)
  have HS := Lib.hid hs
  have hm9 : m1 ≤ 40 := by omega
  obtain ⟨D, hD⟩ : ∃ D, dotsC V C = D := ⟨_, rfl⟩
  have HMEM := Lib.hid (show ∀ d, d ∈ D ↔ hasC V C d from fun d => by rw [← hD]; exact dotsC_mem V C d)
  have HND := Lib.hid (show D.Nodup by rw [← hD]; exact dotsC_nodup hs.right)
  obtain ⟨md, hmd⟩ : ∃ md, D.length = md := ⟨_, rfl⟩
  have hmd9 : md ≤ 40 := by
    have := nodup_le D L HND.out fun x hx => ((hs.has x).1 ((HMEM.out x).1 hx)).2
    have := HLN.out
    omega
  have HMD := Lib.hid hmd
  have HDT := Lib.hid (show (dotsC V C).take (100 : Int).toNat = D by rw [hD, List.take_of_length_le]; rw [hmd]; exact Nat.le_trans hmd9 (by decide))
  have HDN := Lib.hid (HK.out.dots A1 n1 c1 V B1 m1 k1 C 100 (w1.alloc (.cells #[.slice A1 n1 c1, .slice B1 m1 k1] 25)) HIc.out HDc.out HS.out.right (by decide))
  rw [HDT.out, hmd] at HDN
  have HDQ := Lib.hid hD
  have e0 := HBc.out.c0
  have e1 := HBc.out.c1
  clear hi hd hs hm hk hkb hD hmd
  go_wp2_with fail
  go_at_call 30
  refine HDN.out.mono ?_
  rintro e w2 ⟨A2, c2, rfl, hdm, hk⟩
  have HDm := Lib.hid hdm
  have hdc1 := hdm.cap.1
  have hdc2 := hdm.cap.2
  replace HIc := Lib.hid (HIc.out.kept hk); replace HDc := Lib.hid (HDc.out.kept hk); replace HBc := Lib.hid (HBc.out.kept hk)
  replace HW := Lib.hid (HW.out.trans hk)
  clear hk hdm e0 e1
  obtain ⟨j, hj⟩ : ∃ j : Nat, s.toNat % 50 = j := ⟨_, rfl⟩
  have hj9 : j < 50 := by omega
  have hrem : Int.tmod s 50 = (j : Int) := by rw [Int.tmod_eq_emod_of_nonneg hs0]; omega
  have hw8 : IntKind.u8.wrap (j : Int) = (j : Int) := by simp only [IntKind.wrap_u8]; omega
  have hw64 : IntKind.i64.wrap (j : Int) = (j : Int) := IntWalk.i64_in _ (by omega)
  obtain ⟨q, hq⟩ : ∃ q, min j md = q := ⟨_, rfl⟩
  have hq1 : q ≤ md := by omega
  have hmin : min (j : Int) (md : Int) = (q : Int) := by omega
  have hr4 := run_dhead A2 md c2 q (by omega)
  have hr5 := run_dhead2 A2 md c2 q (by omega)
  have HDJ := Lib.hid (fun (W : World) (hW : Kept w2 W) => show Calls Try.prog 30 #[.agg #[.slice A1 n1 c1, .slice B1 m1 k1], .int .i64 (j : Int)] W (fun e w' => ∃ A' c', e = .returned (.slice A' q c') ∧ Dl w' A' q c' (D.take q) ∧ Kept W w') by
    have h1 := HK.out.dots A1 n1 c1 V B1 m1 k1 C (j : Int) W (HIc.out.kept hW) (HDc.out.kept hW) HS.out.right (by omega)
    have h2 : (dotsC V C).take (j : Int).toNat = D.take q := by
      rw [HDQ.out, Int.toNat_natCast, ← hq, ← HMD.out]
      rcases Nat.le_total j D.length with h | h
      · rw [Nat.min_eq_left h]
      · rw [Nat.min_eq_right h, List.take_of_length_le h, List.take_of_length_le (Nat.le_refl _)]
    have h3 : (D.take q).length = q := by rw [List.length_take, HMD.out]; omega
    rw [h2, h3] at h1
    exact h1)
  clear hj hq
  have cc0 := KExt.cell HBc.out.c0
  have cc1 := KExt.cell HBc.out.c1
  go_wp2_with fail
  go_cut [48] (fun s48 wx => s48 = .bool false ∧ Kept w2 wx)
  case first =>
    refine region_plan w2 30 (.read [0, 2] (.one 1 (.one 3 (.read [4, 5, 6, 7, 8, 9, 11, 12, 13, 14, 15, 16] (.two 10 (.one 17 (.read [18] (.one 19 (.read [20, 21, 22, 23, 26, 27] (.one 24 (.read [25, 28, 29] .stop)))))) 17 (.read [18] (.one 10 (.one 19 (.read [20, 21, 22, 23, 26, 27] (.one 24 (.read [25, 28, 29] .stop))))))))))) (by kernel_rfl) (by as_aux_lemma => kernel_rfl) (by kernel_rfl) (by kernel_rfl) (by as_aux_lemma => kernel_rfl) (fun _ d _ _ _ h => by cases d <;> exact h) (Kept.refl _) ?_
    intro wd hwd
    have HV := Lib.hid hwd
    clear hwd
    rw [wpPlan_read]
    simp only [pickOps_cons, pickOps_nil, consO_some, List.getElem?_cons_zero, List.getElem?_cons_succ]
    repeat (go_big_quiet_step (fail))
    refine wpQuiet_nil ?_
    rw [wpPlan_one]
    simp only [pickOps_cons, pickOps_nil, consO_some, List.getElem?_cons_zero, List.getElem?_cons_succ]
    go_wp2_with (go_at_call 11; refine (HK.out.of_ A2 md c2 D _ (HDm.out.kept HV.out) (by omega)).mono ?_; rintro e u1 ⟨A3, n3, c3, B3, m3, k3, V3, C3, rfl, hi, hd, hs, hm, hk⟩)
    have HS3 := Lib.hid hs
    have HI3 := Lib.hid hi
    have HD3 := Lib.hid hd
    clear hi hd hs hm
    replace HV := Lib.hid (HV.out.trans hk)
    clear hk
    refine soloP HV.out ?_
    rw [wpPlan_one]
    simp only [pickOps_cons, pickOps_nil, consO_some, List.getElem?_cons_zero, List.getElem?_cons_succ]
    go_wp2_with (go_at_call 28; refine (HK.out.same A3 n3 c3 V3 B3 m3 k3 C3 A1 n1 c1 V B1 m1 k1 C _ HI3.out HD3.out (HIc.out.kept HV.out) (HDc.out.kept HV.out) true (sets_eq2 HS3.out (SetC.self HS.out.right) fun d => by rw [HMEM.out]; exact ⟨fun h => h.2, fun h => ⟨HS.out.right.has_right h, h⟩⟩)).mono ?_; rintro e u3 ⟨rfl, hk⟩)
    clear HI3 HD3
    replace HV := Lib.hid (HV.out.trans hk)
    clear hk
    refine soloP HV.out ?_
    rw [wpPlan_read]
    simp only [pickOps_cons, pickOps_nil, consO_some, List.getElem?_cons_zero, List.getElem?_cons_succ]
    repeat (go_big_quiet_step (fail))
    refine wpQuiet_nil ?_
    rw [wpPlan_two]
    simp only [pickOps_cons, pickOps_nil, consO_some, List.getElem?_cons_zero, List.getElem?_cons_succ]
    constructor
    · go_wp2_with (go_at_call 30; refine (HDJ.out _ HV.out).mono ?_; rintro e u10 ⟨A4, c4, rfl, hd4, hk⟩)
      have HD4 := Lib.hid hd4
      clear hd4
      replace HV := Lib.hid (HV.out.trans hk)
      clear hk
      refine soloP HV.out ?_
      rw [wpPlan_one]
      simp only [pickOps_cons, pickOps_nil, consO_some, List.getElem?_cons_zero, List.getElem?_cons_succ]
      go_wp2_with fail
      refine soloP HV.out ?_
      rw [wpPlan_read]
      simp only [pickOps_cons, pickOps_nil, consO_some, List.getElem?_cons_zero, List.getElem?_cons_succ]
      repeat (go_big_quiet_step (fail))
      refine wpQuiet_nil ?_
      rw [wpPlan_one]
      simp only [pickOps_cons, pickOps_nil, consO_some, List.getElem?_cons_zero, List.getElem?_cons_succ]
      go_wp2_with (go_at_call 29; refine (same_yes A4 A2 c4 c2 q _ _ (HD4.out.kept (Kept.refl _)) (dl_head (HDm.out.kept HV.out) hq1)).mono ?_; rintro e u19 ⟨rfl, hk⟩)
      replace HV := Lib.hid (HV.out.trans hk)
      clear hk
      refine soloP HV.out ?_
      rw [wpPlan_read]
      simp only [pickOps_cons, pickOps_nil, consO_some, List.getElem?_cons_zero, List.getElem?_cons_succ]
      repeat (go_big_quiet_step (fail))
      refine wpQuiet_nil ?_
      rw [wpPlan_one]
      simp only [pickOps_cons, pickOps_nil, consO_some, List.getElem?_cons_zero, List.getElem?_cons_succ]
      go_wp2_with (go_at_call 36; refine (dsort_any A2 md c2 D _ (HDm.out.kept HV.out) (by omega)).mono ?_; rintro e u24 ⟨A5, m5, c5, X, rfl, hd5, hs5, hm5, hk, _⟩)
      obtain rfl : m5 = md := by rw [← HMD.out, hd5.1]; exact sort_len hs5 HND.out (by rw [← hd5.1]; exact hm5)
      clear hd5 hs5 hm5
      replace HV := Lib.hid (HV.out.trans hk)
      clear hk
      refine soloP HV.out ?_
      rw [wpPlan_read]
      simp only [pickOps_cons, pickOps_nil, consO_some, List.getElem?_cons_zero, List.getElem?_cons_succ]
      repeat (go_big_quiet_step (fail))
      refine wpQuiet_nil ?_
      refine wpPlan_stop ?_
      clear cc0 cc1 hr4 hr5 hmin hrem hw8 hw64
      go_wp2_with fail
      go_meet
      exact ⟨rfl, HV.out⟩
    · go_wp2_with fail
      refine soloP HV.out ?_
      rw [wpPlan_read]
      simp only [pickOps_cons, pickOps_nil, consO_some, List.getElem?_cons_zero, List.getElem?_cons_succ]
      repeat (go_big_quiet_step (fail))
      refine wpQuiet_nil ?_
      rw [wpPlan_one]
      simp only [pickOps_cons, pickOps_nil, consO_some, List.getElem?_cons_zero, List.getElem?_cons_succ]
      go_wp2_with (go_at_call 30; refine (HDJ.out _ HV.out).mono ?_; rintro e u10 ⟨A4, c4, rfl, hd4, hk⟩)
      have HD4 := Lib.hid hd4
      clear hd4
      replace HV := Lib.hid (HV.out.trans hk)
      clear hk
      refine soloP HV.out ?_
      rw [wpPlan_one]
      simp only [pickOps_cons, pickOps_nil, consO_some, List.getElem?_cons_zero, List.getElem?_cons_succ]
      go_wp2_with (go_at_call 29; refine (same_yes A4 A2 c4 c2 q _ _ (HD4.out.kept (Kept.refl _)) (dl_head (HDm.out.kept HV.out) hq1)).mono ?_; rintro e u19 ⟨rfl, hk⟩)
      replace HV := Lib.hid (HV.out.trans hk)
      clear hk
      refine soloP HV.out ?_
      rw [wpPlan_read]
      simp only [pickOps_cons, pickOps_nil, consO_some, List.getElem?_cons_zero, List.getElem?_cons_succ]
      repeat (go_big_quiet_step (fail))
      refine wpQuiet_nil ?_
      rw [wpPlan_one]
      simp only [pickOps_cons, pickOps_nil, consO_some, List.getElem?_cons_zero, List.getElem?_cons_succ]
      go_wp2_with (go_at_call 36; refine (dsort_any A2 md c2 D _ (HDm.out.kept HV.out) (by omega)).mono ?_; rintro e u24 ⟨A5, m5, c5, X, rfl, hd5, hs5, hm5, hk, _⟩)
      obtain rfl : m5 = md := by rw [← HMD.out, hd5.1]; exact sort_len hs5 HND.out (by rw [← hd5.1]; exact hm5)
      clear hd5 hs5 hm5
      replace HV := Lib.hid (HV.out.trans hk)
      clear hk
      refine soloP HV.out ?_
      rw [wpPlan_read]
      simp only [pickOps_cons, pickOps_nil, consO_some, List.getElem?_cons_zero, List.getElem?_cons_succ]
      repeat (go_big_quiet_step (fail))
      refine wpQuiet_nil ?_
      refine wpPlan_stop ?_
      clear cc0 cc1 hr4 hr5 hmin hrem hw8 hw64
      go_wp2_with fail
      go_meet
      exact ⟨rfl, HV.out⟩
  case rest =>
    clear cc0 cc1 hr4 hr5 hmin hrem hw8 hw64
    obtain ⟨rfl, hk5⟩ := hcut
    have HV5 := Lib.hid hk5
    clear hk5
    go_wp2_with fail
    go_loopw [51] (fun i wr => ∃ t : Nat, t ≤ n ∧ i = .int .i64 t ∧ Kept w2 wr) (fun i _ => n - (intOf i).toNat)
    case atStart => exact ⟨0, Nat.zero_le _, rfl, HV5.out⟩
    case round =>
      obtain ⟨t, ht, rfl, hkr⟩ := hrel
      have HR := Lib.hid hkr
      clear hkr
      by_cases hlt : t < n
      · obtain ⟨g, o, ⟨y1, y2⟩, rfl, hy, g1, g2⟩ := ((HL.out.kept HW.out).kept HR.out).get hlt
        simp only at g1 g2
        obtain ⟨rd, hrd⟩ : ∃ b, rightD (y1, y2) = b := ⟨_, rfl⟩
        have hhm : decide (((y1, y2) : Int × Int) ∈ D) = rd := by
          rw [← hrd, Bool.eq_iff_iff, decide_eq_true_iff, HMEM.out, HS.out.has]
          exact and_iff_left (List.mem_of_getElem? hy)
        obtain ⟨mo, hmo⟩ : ∃ mo, mostC V C y1 = mo := ⟨_, rfl⟩
        have HQ := Lib.hid (HR.out.trans ((Kept.refl _).alloc #[.int .i64 y1, .int .i64 y2] 36))
        have HCH := Lib.hid (fun W h => dhas_c A2 md c2 D (y1, y2) rd hhm W (HDm.out.kept (HQ.out.trans h)))
        have HCR := Lib.hid (fun W => dright_c (y1, y2) rd hrd W)
        have HCM := Lib.hid (fun W h => HK.out.most A1 n1 c1 V B1 m1 k1 C y1 W (HIc.out.kept (HQ.out.trans h)) (HDc.out.kept (HQ.out.trans h)) HS.out.right)
        rw [hmo] at HCM
        have hbe := Box2.new wr (.int .i64 y1) (.int .i64 y2) 36
        have cc0 := KExt.cell (HBc.out.kept HQ.out).c0
        have cc1 := KExt.cell (HBc.out.kept HQ.out).c1
        have be0 := KExt.cell hbe.c0; have be1 := KExt.cell hbe.c1
        have hge : rd = true → y2 ≤ mo := fun hr => by
          have := most_ge ((HS.out.has (y1, y2)).2 ⟨hrd.trans hr, List.mem_of_getElem? hy⟩)
          rw [← hmo]; exact this
        clear hy hbe hrd hhm hmo
        cases rd
        case' true => have d1 : decide (mo < y2) = false := decide_eq_false (by have := hge rfl; omega)
        all_goals
          clear hge
          go_wp2_with fail
          refine region_plan (wr.alloc (.cells #[.int .i64 y1, .int .i64 y2] 36)) 19 (.read [0, 1, 3] (.one 2 (.one 4 (.read [5, 6, 7] (.one 8 (.read [9, 10, 11, 12, 14, 15] (.one 13 (.read [16, 17, 18] .stop)))))))) (by kernel_rfl) (by as_aux_lemma => kernel_rfl) (by kernel_rfl) (by kernel_rfl) (by as_aux_lemma => kernel_rfl) (fun _ d _ _ _ h => by cases d <;> exact h) (Kept.refl _) ?_
          intro wd hwd
          have HV2 := Lib.hid hwd
          clear hwd
          repeat (first
            | (rw [wpPlan_read]; simp only [pickOps_cons, pickOps_nil, consO_some, List.getElem?_cons_zero, List.getElem?_cons_succ]; (repeat (go_big_quiet_step (fail))); refine wpQuiet_nil ?_)
            | (rw [wpPlan_one]; simp only [pickOps_cons, pickOps_nil, consO_some, List.getElem?_cons_zero, List.getElem?_cons_succ]; go_wp2_with (first
                | (go_at_call 35; ((with_reducible refine (HCH.out _ HV2.out).mono ?_); rintro e u ⟨rfl, hk⟩; (replace HV2 := Lib.hid (HV2.out.trans hk)); clear hk))
                | (go_at_call 34; ((with_reducible refine (HCR.out _).mono ?_); rintro e u ⟨rfl, hk⟩; (replace HV2 := Lib.hid (HV2.out.trans hk)); clear hk))
                | (go_at_call 20; ((refine (HCM.out _ HV2.out).mono ?_); rintro e u ⟨rfl, hk⟩; (replace HV2 := Lib.hid (HV2.out.trans hk)); clear hk))); refine soloP HV2.out ?_))
          refine wpPlan_stop ?_
          clear cc0 cc1 be0 be1 g1 g2
          go_wp2_with fail
          go_roundw
          case rel => exact ⟨t + 1, hlt, by go_num, HR.out.trans (((Kept.refl _).alloc _ _).trans HV2.out)⟩
          case measure => simp [intOf]; omega
      · go_wp2_with fail
        go_loopw [77] (fun i wr => ∃ t : Nat, t ≤ md ∧ i = .int .i64 t ∧ Kept w2 wr) (fun i _ => md - (intOf i).toNat)
        case atStart => exact ⟨0, Nat.zero_le _, rfl, HR.out⟩
        case round =>
          clear hlt ht
          obtain ⟨t, ht, rfl, hkr⟩ := hrel
          have HR2 := Lib.hid hkr
          clear hkr
          by_cases hlt : t < md
          · obtain ⟨g, o, ⟨y1, y2⟩, rfl, hy, g1, g2⟩ := (HDm.out.kept HR2.out).get hlt
            simp only at g1 g2
            have hyD := List.mem_of_getElem? hy
            have hyC := (HMEM.out _).1 hyD
            have hyS := (HS.out.has _).1 hyC
            obtain ⟨mo, hmo⟩ : ∃ mo, mostC V C y1 = mo := ⟨_, rfl⟩
            have hmoD : ((y1, mo) : Int × Int) ∈ D := by
              rw [HMEM.out, ← hmo]
              exact most_has hyC (by have := rightD_bd hyS.1; simp only at this; omega)
            have HQ := Lib.hid (HR2.out.trans ((Kept.refl _).alloc #[.int .i64 y1, .int .i64 y2] 36))
            have HCL := Lib.hid (fun W h => dhas_c A n c L (y1, y2) true (decide_eq_true hyS.2) W ((HL.out.kept HW.out).kept (HQ.out.trans h)))
            have HCC := Lib.hid (fun W h => HK.out.has A1 n1 c1 V B1 m1 k1 C y1 y2 W (HIc.out.kept (HQ.out.trans h)) (HDc.out.kept (HQ.out.trans h)) HS.out.right true (decide_eq_true hyC))
            have HCM := Lib.hid (fun W h => HK.out.most A1 n1 c1 V B1 m1 k1 C y1 W (HIc.out.kept (HQ.out.trans h)) (HDc.out.kept (HQ.out.trans h)) HS.out.right)
            rw [hmo] at HCM
            have HCH := Lib.hid (fun W h => dhas_c (some ⟨g, o, none⟩) md c2 D (y1, mo) true (decide_eq_true hmoD) W (HDm.out.kept (HQ.out.trans h)))
            have hbe := Box2.new wr (.int .i64 y1) (.int .i64 y2) 36
            have cc0 := KExt.cell (HBc.out.kept HQ.out).c0
            have cc1 := KExt.cell (HBc.out.kept HQ.out).c1
            have be0 := KExt.cell hbe.c0; have be1 := KExt.cell hbe.c1
            clear hy hbe hmo hyD hyC hyS hmoD
            go_wp2_with fail
            refine region_plan (wr.alloc (.cells #[.int .i64 y1, .int .i64 y2] 36)) 22 (.read [0, 1] (.one 2 (.read [3, 4, 5, 6] (.one 7 (.read [8, 9, 10, 11, 12, 13, 14, 15, 16] (.one 17 (.read [18] (.one 19 (.read [20, 21] .stop))))))))) (by kernel_rfl) (by as_aux_lemma => kernel_rfl) (by kernel_rfl) (by kernel_rfl) (by as_aux_lemma => kernel_rfl) (fun _ d _ _ _ h => by cases d <;> exact h) (Kept.refl _) ?_
            intro wd hwd
            have HV2 := Lib.hid hwd
            clear hwd
            repeat (first
              | (rw [wpPlan_read]; simp only [pickOps_cons, pickOps_nil, consO_some, List.getElem?_cons_zero, List.getElem?_cons_succ]; (repeat (go_big_quiet_step (fail))); refine wpQuiet_nil ?_)
              | (rw [wpPlan_one]; simp only [pickOps_cons, pickOps_nil, consO_some, List.getElem?_cons_zero, List.getElem?_cons_succ]; go_wp2_with (first
                  | (go_at_call 35; first
                      | ((with_reducible refine (HCL.out _ HV2.out).mono ?_); rintro e u ⟨rfl, hk⟩; (replace HV2 := Lib.hid (HV2.out.trans hk)); clear hk)
                      | ((with_reducible refine (HCH.out _ HV2.out).mono ?_); rintro e u ⟨rfl, hk⟩; (replace HV2 := Lib.hid (HV2.out.trans hk)); clear hk))
                  | (go_at_call 16; ((refine (HCC.out _ HV2.out).mono ?_); rintro e u ⟨rfl, hk⟩; (replace HV2 := Lib.hid (HV2.out.trans hk)); clear hk))
                  | (go_at_call 20; ((refine (HCM.out _ HV2.out).mono ?_); rintro e u ⟨rfl, hk⟩; (replace HV2 := Lib.hid (HV2.out.trans hk)); clear hk))); refine soloP HV2.out ?_))
            refine wpPlan_stop ?_
            clear cc0 cc1 be0 be1 g1 g2
            go_wp2_with fail
            go_roundw
            case rel => exact ⟨t + 1, hlt, by go_num, HR2.out.trans (((Kept.refl _).alloc _ _).trans HV2.out)⟩
            case measure => simp [intOf]; omega
          · go_wp2_with fail
            go_at_call 7
            refine (HAW.out _).mono ?_
            rintro e w7 ⟨rfl, hk7⟩
            go_wp2_with fail
            go_ret
            exact ⟨rfl, HW.out.trans (HR2.out.trans hk7)⟩

theorem cdots_big (HA : AwakeC) (A : Option Addr) (n c : Nat) (s : Int) (w : World) (hc : n ≤ 9223372036854775807) (hn : 40 < n) :
    Calls Try.prog 6 #[.slice A n c, .int .u8 s] w fun e w' => e = .returned (.bool true) ∧ Kept w w' := by
  have q1 : decide ((40 : Int) < n) = true := decide_eq_true (by omega)
  have q2 : decide (40 < n) = true := decide_eq_true hn
  clear hn
  go_enter Try.func6, Try.ntmps6
  go_wp2_with fail
  go_at_call 7
  refine (HA _).mono ?_
  rintro e w7 ⟨rfl, hk7⟩
  go_wp2_with fail
  go_ret
  exact ⟨rfl, hk7⟩
end Go.Proofs.Ytgofecnpmohmgaa
