/-
  What is proved: awake of layer 10's laws returns true; the world has new blocks at most.
-/
import Derived.Test.YtkooihljddibfaaGreatM25
import Derived.Test.YtkooihljddibfaaGreatM26
import Derived.Test.YtkooihljddibfaaGreatSRight
import Derived.Deep.DeepCutAuto
namespace Go.Proofs.YtkooihljddibfaaGreat
open Go.RowKit
set_option linter.unusedVariables false

theorem nx1 : nx [0, 1] [] 1 = (((1 : Int), (2 : Int)), (0 : Int)) := by unfold nx; rw [most1]; rfl
theorem nx64 : nx [0, 1] [] 64 = (((0 : Int), (0 : Int)), (1 : Int)) := by unfold nx; rw [if_neg (by omega)]
theorem sizeL : ∀ x ∈ sL.L, x.p.size ≤ 1099511627776 ∧ x.vt.size ≤ 1099511627776 := fun x hx => by
  obtain rfl : x = eL := by simpa [sL] using hx
  exact ⟨by decide, by decide⟩
theorem sizeT : ∀ x ∈ sT.L, x.p.size ≤ 1099511627776 ∧ x.vt.size ≤ 1099511627776 := fun x hx => by cases hx
set_option maxRecDepth 100000 in
set_option maxHeartbeats 2000000 in
theorem one_any (a b : Int) (p : ByteArray) (n : Int) (w : World) :
    Calls Tryz.prog 27 #[.int .i64 a, .int .i64 b, .string p, .int .i64 n] w fun e w' => e = .returned (.agg #[.int .i64 a, .int .i64 b, .string p, .int .i64 1, .int .i64 1, .int .i64 n, .string ⟨#[]⟩, .int .i64 0, .int .i64 0]) ∧ Kept w w' := by
  have K0 := Lib.hid (((Kept.refl w).alloc #[.int .i64 a, .int .i64 b, .string p, .int .i64 1, .int .i64 1, .int .i64 n, .string ⟨#[]⟩, .int .i64 0, .int .i64 0] 34))
  go_enter Tryz.func27, Tryz.ntmps27
  go_wp2
  refine bodyPost_ret (by simp [results, Tryz.results27, go_sem, *]) rfl ⟨rfl, ?_⟩
  first | exact K0.out | exact (((((((((((Kept.refl w).alloc #[.int .i64 0, .int .i64 0, .string ⟨#[]⟩, .int .i64 0, .int .i64 0, .int .i64 0, .string ⟨#[]⟩, .int .i64 0, .int .i64 0] 34).setCell (Nat.le_refl _) _).setCell (Nat.le_refl _) _).setCell (Nat.le_refl _) _).setCell (Nat.le_refl _) _).setCell (Nat.le_refl _) _).setCell (Nat.le_refl _) _).setCell (Nat.le_refl _) _).setCell (Nat.le_refl _) _).setCell (Nat.le_refl _) _)
set_option maxRecDepth 100000 in
set_option maxHeartbeats 32000000 in
theorem uawake_any (w : World) : Calls Tryz.prog 7 #[] w fun e w' => e = .returned (.bool true) ∧ Kept w w' := by
  go_enter Tryz.func7, Tryz.ntmps7
  go_wp2_with fail
  go_at_call 27
  refine (one_any 1 1 ⟨#[97]⟩ 5 _).mono ?_
  rintro e v0 ⟨rfl, hk⟩
  have HW := Lib.hid hk
  clear hk
  have AW := Lib.hid (with_any none 0 0 [] none 0 0 [] none 0 0 [] eS v0 (El.nil _) (Il.nil _) (Dl.nil _) riseE_nil Ord.none.ctx (by decide) (by decide))
  go_wp2_with fail
  go_at_call 26
  refine AW.out.mono ?_
  intro e v1 hst
  obtain ⟨A1, n1, c1, B1, m1, k1, D1, p1, q1, _, rfl, hs1, rfl, hk⟩ := stS_at (V := [0, 1]) (C := []) hst setS
  have hka := (Kept.refl v1).alloc #[.slice A1 n1 c1, .slice B1 m1 k1, .slice D1 p1 q1] 28
  have HB1 := Lib.hid (Box3.new v1 (.slice A1 n1 c1) (.slice B1 m1 k1) (.slice D1 p1 q1) 28)
  have HS1 := Lib.hid (show Stt _ A1 n1 c1 B1 m1 k1 D1 p1 q1 sS.L sS.V sS.C from hs1.kept hka)
  have hn1 : n1 = 1 := hs1.el.1
  have hp1 : p1 = 0 := hs1.dl.1
  replace HW := Lib.hid (HW.out.trans (hk.trans hka))
  clear hst hs1 hk hka AW
  subst hn1 hp1
  have x0 := HB1.out.c0; have x1 := HB1.out.c1; have x2 := HB1.out.c2
  go_wp2_with fail
  go_at_call 8
  refine (unext_any (.slice A1 1 c1) B1 m1 k1 [0, 1] D1 0 q1 [] 1 _ HS1.out.il HS1.out.dl ordS.ctx).mono ?_
  rintro e v2 ⟨hN, hk⟩
  obtain rfl := hN.nx nx1
  have hka := (Kept.refl v2).alloc #[.int .i64 1, .int .i64 2] 30
  have hkk := hk.trans hka
  replace HW := Lib.hid (HW.out.trans hkk)
  replace HB1 := Lib.hid (HB1.out.kept hkk); replace HS1 := Lib.hid (HS1.out.kept hkk)
  have HD2 := Lib.hid (Box2.new v2 (.int .i64 1) (.int .i64 2) 30)
  clear hN hk hka hkk x0 x1 x2
  have x0 := HB1.out.c0; have x1 := HB1.out.c1; have x2 := HB1.out.c2
  go_wp2_with fail
  go_at_call 8
  refine (unext_any (.slice A1 1 c1) B1 m1 k1 [0, 1] D1 0 q1 [] 64 _ HS1.out.il HS1.out.dl ordS.ctx).mono ?_
  rintro e v3 ⟨hN, hk⟩
  obtain rfl := hN.nx nx64
  have hka := (Kept.refl v3).alloc #[.int .i64 0, .int .i64 0] 30
  have hkk := hk.trans hka
  replace HW := Lib.hid (HW.out.trans hkk)
  replace HB1 := Lib.hid (HB1.out.kept hkk); replace HS1 := Lib.hid (HS1.out.kept hkk); replace HD2 := Lib.hid (HD2.out.kept hkk)
  have HD3 := Lib.hid (Box2.new v3 (.int .i64 0) (.int .i64 0) 30)
  clear hN hk hka hkk x0 x1 x2
  go_wp2_with fail
  go_at_call 27
  refine (one_any 1 2 ⟨#[97]⟩ 6 _).mono ?_
  rintro e v4 ⟨rfl, hk⟩
  replace HW := Lib.hid (HW.out.trans hk)
  replace HB1 := Lib.hid (HB1.out.kept hk); replace HS1 := Lib.hid (HS1.out.kept hk); replace HD2 := Lib.hid (HD2.out.kept hk)
  have hkd := (Kept.refl v4).alloc #[.int .i64 1, .int .i64 1] 30
  have AW := Lib.hid (uleave_any eL (some ⟨v4.heap.size, 0, none⟩) 1 1 [((1 : Int), (1 : Int))] _ (dl_one v4 1 1 30) (by decide))
  have HKD := Lib.hid hkd
  clear hk hkd
  go_wp2_with fail
  go_at_call 10
  refine AW.out.mono ?_
  rintro e v5 ⟨A5, n5, c5, B5, m5, k5, D5, p5, q5, s5, rfl, hs5, hj5, hk⟩
  obtain rfl := hj5.one leaveL
  have hka := (Kept.refl v5).alloc #[.slice A5 n5 c5, .slice B5 m5 k5, .slice D5 p5 q5] 28
  have hkk := (HKD.out.trans hk).trans hka
  have HB5 := Lib.hid (Box3.new v5 (.slice A5 n5 c5) (.slice B5 m5 k5) (.slice D5 p5 q5) 28)
  have HS5 := Lib.hid (hs5.kept hka)
  have hn5 : n5 = 1 := hs5.el.1
  have hp5 : p5 = 0 := hs5.dl.1
  replace HW := Lib.hid (HW.out.trans hkk)
  replace HB1 := Lib.hid (HB1.out.kept hkk); replace HS1 := Lib.hid (HS1.out.kept hkk); replace HD2 := Lib.hid (HD2.out.kept hkk)
  clear hs5 hj5 hk hka hkk AW HKD
  subst hn5 hp5
  obtain ⟨W5, hW5⟩ : ∃ W5, v5.alloc (.cells #[.slice A5 1 c5, .slice B5 m5 k5, .slice D5 0 q5] 28) = W5 := ⟨_, rfl⟩
  rw [hW5] at HW HB1 HS1 HD2 HB5 HS5
  have HW5 := Lib.hid hW5
  have HSZ5 := Lib.hid (show W5.heap.size = v5.heap.size + 1 by rw [← hW5]; simp)
  clear hW5
  have hkd := (Kept.refl W5).alloc #[.int .i64 1, .int .i64 1] 30
  have AW := Lib.hid (utake_any ((1 : Int), (2 : Int)) (some ⟨W5.heap.size, 0, none⟩) 1 1 [((1 : Int), (1 : Int))] _ (dl_one W5 1 1 30) (by decide))
  have HKD := Lib.hid hkd
  rw [HSZ5.out] at AW
  clear hkd
  go_wp2_with fail
  go_at_call 12
  rw [HW5.out]
  refine AW.out.mono ?_
  rintro e v6 ⟨A6, n6, c6, B6, m6, k6, D6, p6, q6, s6, rfl, hs6, hj6, hk⟩
  obtain rfl := hj6.one takeT
  have hka := (Kept.refl v6).alloc #[.slice A6 n6 c6, .slice B6 m6 k6, .slice D6 p6 q6] 28
  have hkk := (HKD.out.trans hk).trans hka
  have HB6 := Lib.hid (Box3.new v6 (.slice A6 n6 c6) (.slice B6 m6 k6) (.slice D6 p6 q6) 28)
  have HS6 := Lib.hid (hs6.kept hka)
  have hn6 : n6 = 0 := hs6.el.1
  have hp6 : p6 = 0 := hs6.dl.1
  replace HW := Lib.hid (HW.out.trans hkk)
  replace HB1 := Lib.hid (HB1.out.kept hkk); replace HS1 := Lib.hid (HS1.out.kept hkk); replace HD2 := Lib.hid (HD2.out.kept hkk); replace HB5 := Lib.hid (HB5.out.kept hkk); replace HS5 := Lib.hid (HS5.out.kept hkk)
  clear hs6 hj6 hk hka hkk AW HKD HW5 HSZ5
  subst hn6 hp6
  obtain ⟨W6, hW6⟩ : ∃ W6, v6.alloc (.cells #[.slice A6 0 c6, .slice B6 m6 k6, .slice D6 0 q6] 28) = W6 := ⟨_, rfl⟩
  rw [hW6] at HW HB1 HS1 HD2 HB5 HS5 HB6 HS6
  have HW6 := Lib.hid hW6
  clear hW6
  go_wp2_with fail
  rw [HW6.out]
  have X0 := KExt.cell HB1.out.c0; have X1 := KExt.cell HB1.out.c1; have X2 := KExt.cell HB1.out.c2; have Y0 := KExt.cell HB5.out.c0; have Y1 := KExt.cell HB5.out.c1; have Y2 := KExt.cell HB5.out.c2; have T0 := KExt.cell HB6.out.c0; have T1 := KExt.cell HB6.out.c1; have T2 := KExt.cell HB6.out.c2
  go_cut [8, 9] (fun v u wx => TwoB W6 (fun s t => s = sL ∧ t = sT) v u wx)
  case first =>
    refine region_plan W6 10 (.read [0, 1, 3, 4] (.three 2 (.three 5 (.two 6 (.one 7 (.one 8 (.one 9 .stop))) 7 (.one 6 (.one 8 (.one 9 .stop)))) 6 (.two 5 (.one 7 (.one 8 (.one 9 .stop))) 7 (.one 5 (.one 8 (.one 9 .stop)))) 7 (.two 5 (.one 6 (.one 8 (.one 9 .stop))) 6 (.one 5 (.one 8 (.one 9 .stop))))) 6 (.two 2 (.two 5 (.one 7 (.one 8 (.one 9 .stop))) 7 (.one 5 (.one 8 (.one 9 .stop)))) 7 (.one 2 (.one 5 (.one 8 (.one 9 .stop))))) 7 (.two 2 (.two 5 (.one 6 (.one 8 (.one 9 .stop))) 6 (.one 5 (.one 8 (.one 9 .stop)))) 6 (.one 2 (.one 5 (.one 8 (.one 9 .stop))))))) (by kernel_rfl) (by kernel_rfl) (by kernel_rfl) (by kernel_rfl) (by kernel_rfl) (fun _ d _ _ _ h => by cases d <;> exact h) (Kept.refl _) ?_
    intro wd hwd
    have HV := Lib.hid hwd
    clear hwd
    rw [wpPlan_read]
    simp only [pickOps_cons, pickOps_nil, consO_some, List.getElem?_cons_zero, List.getElem?_cons_succ]
    repeat (go_big_quiet_step (fail))
    refine wpQuiet_nil ?_
    clear X0 X1 X2 Y0 Y1 Y2 T0 T1 T2
    rw [wpPlan_three]
    simp only [pickOps_cons, pickOps_nil, consO_some, List.getElem?_cons_zero, List.getElem?_cons_succ]
    refine ⟨?_, ?_, ?_⟩
    · go_wp2_with (go_at_call 15; refine (uplay_any A1 1 c1 B1 m1 k1 D1 0 q1 sS A5 1 c5 B5 m5 k5 D5 0 q5 sL _ (HS1.out.kept HV.out) (HS5.out.kept HV.out) ordS ordL (by decide) (by decide) (by decide) (by decide)).mono ?_; rintro e u1 ⟨Ag, ng, cg, Bg, mg, kg, Dg, pg, qg, sg, rfl, hsg, hjg, hkz⟩)
      have HSg := Lib.hid hsg
      have HJg := Lib.hid hjg
      replace HV := Lib.hid (HV.out.trans hkz)
      clear hsg hjg hkz
      refine soloP HV.out ?_
      rw [wpPlan_three]
      simp only [pickOps_cons, pickOps_nil, consO_some, List.getElem?_cons_zero, List.getElem?_cons_succ]
      refine ⟨?_, ?_, ?_⟩
      · go_wp2_with (go_at_call 15; refine (uplay_any A1 1 c1 B1 m1 k1 D1 0 q1 sS A6 0 c6 B6 m6 k6 D6 0 q6 sT _ (HS1.out.kept HV.out) (HS6.out.kept HV.out) ordS ordT (by decide) (by decide) (by decide) (by decide)).mono ?_; rintro e u2 ⟨Ah, nh, ch, Bh, mh, kh, Dh, ph, qh, sh, rfl, hsh, hjh, hkz⟩)
        replace HSg := Lib.hid (HSg.out.kept hkz)
        have HSh := Lib.hid hsh
        have HJh := Lib.hid hjh
        replace HV := Lib.hid (HV.out.trans hkz)
        clear hsh hjh hkz
        refine soloP HV.out ?_
        rw [wpPlan_two]
        simp only [pickOps_cons, pickOps_nil, consO_some, List.getElem?_cons_zero, List.getElem?_cons_succ]
        constructor
        · go_wp2_with fail
          have hkz := (Kept.refl u2).alloc #[.slice none 0 0, .slice none 0 0, .slice none 0 0] 28
          replace HSg := Lib.hid (HSg.out.kept hkz)
          replace HSh := Lib.hid (HSh.out.kept hkz)
          have HBC := Lib.hid (Box3.new u2 (.slice none 0 0) (.slice none 0 0) (.slice none 0 0) 28)
          have HLC := Lib.hid HV.out.2.2
          replace HV := Lib.hid (HV.out.trans hkz)
          obtain ⟨bC, hbz⟩ : ∃ b, (World.heap u2).size = b := ⟨_, rfl⟩
          obtain ⟨u3, hwz⟩ : ∃ u, World.alloc u2 (.cells #[.slice none 0 0, .slice none 0 0, .slice none 0 0] 28) = u := ⟨_, rfl⟩
          rw [hwz] at HBC HV HSg HSh ⊢
          rw [hbz] at HBC HLC ⊢
          clear hkz hbz hwz
          refine soloP HV.out ?_
          rw [wpPlan_one]
          simp only [pickOps_cons, pickOps_nil, consO_some, List.getElem?_cons_zero, List.getElem?_cons_succ]
          go_wp2_with fail
          have hkz := (Kept.refl u3).alloc #[.slice none 0 0, .slice none 0 0, .slice none 0 0] 28
          have HNE := Lib.hid (show bC ≠ u3.heap.size from fun e => by have := HBC.out.lt; omega)
          replace HSg := Lib.hid (HSg.out.kept hkz)
          replace HSh := Lib.hid (HSh.out.kept hkz)
          replace HBC := Lib.hid (HBC.out.kept hkz)
          have HBD := Lib.hid (Box3.new u3 (.slice none 0 0) (.slice none 0 0) (.slice none 0 0) 28)
          have HLD := Lib.hid HV.out.2.2
          replace HV := Lib.hid (HV.out.trans hkz)
          obtain ⟨bD, hbz⟩ : ∃ b, (World.heap u3).size = b := ⟨_, rfl⟩
          obtain ⟨u4, hwz⟩ : ∃ u, World.alloc u3 (.cells #[.slice none 0 0, .slice none 0 0, .slice none 0 0] 28) = u := ⟨_, rfl⟩
          rw [hwz] at HBD HV HSg HSh HBC ⊢
          rw [hbz] at HBD HLD HNE ⊢
          clear hkz hbz hwz
          refine soloP HV.out ?_
          rw [wpPlan_one]
          simp only [pickOps_cons, pickOps_nil, consO_some, List.getElem?_cons_zero, List.getElem?_cons_succ]
          have hl := HLC.out
          have e0 := HBC.out.c0; have e1 := HBC.out.c1; have e2 := HBC.out.c2; have ef0 := HBC.out.f 0; have ef1 := HBC.out.f 1; have ef2 := HBC.out.f 2
          go_wp2_with fail
          clear e0 e1 e2 ef0 ef1 ef2
          replace HSg := Lib.hid (HBC.out.stt (.slice Ag ng cg) (.slice Bg mg kg) (.slice Dg pg qg) HSg.out)
          replace HSh := Lib.hid (HBC.out.stt (.slice Ag ng cg) (.slice Bg mg kg) (.slice Dg pg qg) HSh.out)
          replace HBD := Lib.hid (HBD.out.set_far HNE.out.symm (.slice Ag ng cg) (.slice Bg mg kg) (.slice Dg pg qg))
          replace HBC := Lib.hid (HBC.out.set3 (.slice Ag ng cg) (.slice Bg mg kg) (.slice Dg pg qg))
          replace HV := Lib.hid (((HV.out.setCell (a := ⟨bC, 0, none⟩) hl (.slice Ag ng cg)).setCell (a := ⟨bC, 1, none⟩) hl (.slice Bg mg kg)).setCell (a := ⟨bC, 2, none⟩) hl (.slice Dg pg qg))
          obtain ⟨u5, hwz⟩ : ∃ u, ((World.setCell u4 ⟨bC, 0, none⟩ (.slice Ag ng cg)).setCell ⟨bC, 1, none⟩ (.slice Bg mg kg)).setCell ⟨bC, 2, none⟩ (.slice Dg pg qg) = u := ⟨_, rfl⟩
          rw [hwz] at HV HBC HBD HSg HSh ⊢
          clear hl hwz
          refine soloP HV.out ?_
          rw [wpPlan_one]
          simp only [pickOps_cons, pickOps_nil, consO_some, List.getElem?_cons_zero, List.getElem?_cons_succ]
          have hl := HLD.out
          have e0 := HBD.out.c0; have e1 := HBD.out.c1; have e2 := HBD.out.c2; have ef0 := HBD.out.f 0; have ef1 := HBD.out.f 1; have ef2 := HBD.out.f 2
          go_wp2_with fail
          clear e0 e1 e2 ef0 ef1 ef2
          replace HSg := Lib.hid (HBD.out.stt (.slice Ah nh ch) (.slice Bh mh kh) (.slice Dh ph qh) HSg.out)
          replace HSh := Lib.hid (HBD.out.stt (.slice Ah nh ch) (.slice Bh mh kh) (.slice Dh ph qh) HSh.out)
          replace HBC := Lib.hid (HBC.out.set_far HNE.out (.slice Ah nh ch) (.slice Bh mh kh) (.slice Dh ph qh))
          replace HBD := Lib.hid (HBD.out.set3 (.slice Ah nh ch) (.slice Bh mh kh) (.slice Dh ph qh))
          replace HV := Lib.hid (((HV.out.setCell (a := ⟨bD, 0, none⟩) hl (.slice Ah nh ch)).setCell (a := ⟨bD, 1, none⟩) hl (.slice Bh mh kh)).setCell (a := ⟨bD, 2, none⟩) hl (.slice Dh ph qh))
          obtain ⟨u6, hwz⟩ : ∃ u, ((World.setCell u5 ⟨bD, 0, none⟩ (.slice Ah nh ch)).setCell ⟨bD, 1, none⟩ (.slice Bh mh kh)).setCell ⟨bD, 2, none⟩ (.slice Dh ph qh) = u := ⟨_, rfl⟩
          rw [hwz] at HV HBC HBD HSg HSh ⊢
          clear hl hwz
          refine soloP HV.out ?_
          have HF := Lib.hid (show TwoB W6 (fun s t => s = sL ∧ t = sT) (.pointer (some ⟨bC, 0, none⟩)) (.pointer (some ⟨bD, 0, none⟩)) u6 from ⟨bC, bD, Ag, ng, cg, Bg, mg, kg, Dg, pg, qg, Ah, nh, ch, Bh, mh, kh, Dh, ph, qh, sg, sh, rfl, rfl, HV.out, HBC.out, HBD.out, HSg.out, HSh.out, ⟨HJg.out.1.one joinL, HJh.out.1.one joinT⟩⟩)
          refine wpPlan_stop ?_
          go_wp2_with fail
          go_meet
          exact HF.out
        · go_wp2_with fail
          have hkz := (Kept.refl u2).alloc #[.slice none 0 0, .slice none 0 0, .slice none 0 0] 28
          replace HSg := Lib.hid (HSg.out.kept hkz)
          replace HSh := Lib.hid (HSh.out.kept hkz)
          have HBD := Lib.hid (Box3.new u2 (.slice none 0 0) (.slice none 0 0) (.slice none 0 0) 28)
          have HLD := Lib.hid HV.out.2.2
          replace HV := Lib.hid (HV.out.trans hkz)
          obtain ⟨bD, hbz⟩ : ∃ b, (World.heap u2).size = b := ⟨_, rfl⟩
          obtain ⟨u3, hwz⟩ : ∃ u, World.alloc u2 (.cells #[.slice none 0 0, .slice none 0 0, .slice none 0 0] 28) = u := ⟨_, rfl⟩
          rw [hwz] at HBD HV HSg HSh ⊢
          rw [hbz] at HBD HLD ⊢
          clear hkz hbz hwz
          refine soloP HV.out ?_
          rw [wpPlan_one]
          simp only [pickOps_cons, pickOps_nil, consO_some, List.getElem?_cons_zero, List.getElem?_cons_succ]
          go_wp2_with fail
          have hkz := (Kept.refl u3).alloc #[.slice none 0 0, .slice none 0 0, .slice none 0 0] 28
          have HNE := Lib.hid (show bD ≠ u3.heap.size from fun e => by have := HBD.out.lt; omega)
          replace HSg := Lib.hid (HSg.out.kept hkz)
          replace HSh := Lib.hid (HSh.out.kept hkz)
          replace HBD := Lib.hid (HBD.out.kept hkz)
          have HBC := Lib.hid (Box3.new u3 (.slice none 0 0) (.slice none 0 0) (.slice none 0 0) 28)
          have HLC := Lib.hid HV.out.2.2
          replace HV := Lib.hid (HV.out.trans hkz)
          obtain ⟨bC, hbz⟩ : ∃ b, (World.heap u3).size = b := ⟨_, rfl⟩
          obtain ⟨u4, hwz⟩ : ∃ u, World.alloc u3 (.cells #[.slice none 0 0, .slice none 0 0, .slice none 0 0] 28) = u := ⟨_, rfl⟩
          rw [hwz] at HBC HV HSg HSh HBD ⊢
          rw [hbz] at HBC HLC HNE ⊢
          clear hkz hbz hwz
          refine soloP HV.out ?_
          rw [wpPlan_one]
          simp only [pickOps_cons, pickOps_nil, consO_some, List.getElem?_cons_zero, List.getElem?_cons_succ]
          have hl := HLC.out
          have e0 := HBC.out.c0; have e1 := HBC.out.c1; have e2 := HBC.out.c2; have ef0 := HBC.out.f 0; have ef1 := HBC.out.f 1; have ef2 := HBC.out.f 2
          go_wp2_with fail
          clear e0 e1 e2 ef0 ef1 ef2
          replace HSg := Lib.hid (HBC.out.stt (.slice Ag ng cg) (.slice Bg mg kg) (.slice Dg pg qg) HSg.out)
          replace HSh := Lib.hid (HBC.out.stt (.slice Ag ng cg) (.slice Bg mg kg) (.slice Dg pg qg) HSh.out)
          replace HBD := Lib.hid (HBD.out.set_far HNE.out (.slice Ag ng cg) (.slice Bg mg kg) (.slice Dg pg qg))
          replace HBC := Lib.hid (HBC.out.set3 (.slice Ag ng cg) (.slice Bg mg kg) (.slice Dg pg qg))
          replace HV := Lib.hid (((HV.out.setCell (a := ⟨bC, 0, none⟩) hl (.slice Ag ng cg)).setCell (a := ⟨bC, 1, none⟩) hl (.slice Bg mg kg)).setCell (a := ⟨bC, 2, none⟩) hl (.slice Dg pg qg))
          obtain ⟨u5, hwz⟩ : ∃ u, ((World.setCell u4 ⟨bC, 0, none⟩ (.slice Ag ng cg)).setCell ⟨bC, 1, none⟩ (.slice Bg mg kg)).setCell ⟨bC, 2, none⟩ (.slice Dg pg qg) = u := ⟨_, rfl⟩
          rw [hwz] at HV HBC HBD HSg HSh ⊢
          clear hl hwz
          refine soloP HV.out ?_
          rw [wpPlan_one]
          simp only [pickOps_cons, pickOps_nil, consO_some, List.getElem?_cons_zero, List.getElem?_cons_succ]
          have hl := HLD.out
          have e0 := HBD.out.c0; have e1 := HBD.out.c1; have e2 := HBD.out.c2; have ef0 := HBD.out.f 0; have ef1 := HBD.out.f 1; have ef2 := HBD.out.f 2
          go_wp2_with fail
          clear e0 e1 e2 ef0 ef1 ef2
          replace HSg := Lib.hid (HBD.out.stt (.slice Ah nh ch) (.slice Bh mh kh) (.slice Dh ph qh) HSg.out)
          replace HSh := Lib.hid (HBD.out.stt (.slice Ah nh ch) (.slice Bh mh kh) (.slice Dh ph qh) HSh.out)
          replace HBC := Lib.hid (HBC.out.set_far HNE.out.symm (.slice Ah nh ch) (.slice Bh mh kh) (.slice Dh ph qh))
          replace HBD := Lib.hid (HBD.out.set3 (.slice Ah nh ch) (.slice Bh mh kh) (.slice Dh ph qh))
          replace HV := Lib.hid (((HV.out.setCell (a := ⟨bD, 0, none⟩) hl (.slice Ah nh ch)).setCell (a := ⟨bD, 1, none⟩) hl (.slice Bh mh kh)).setCell (a := ⟨bD, 2, none⟩) hl (.slice Dh ph qh))
          obtain ⟨u6, hwz⟩ : ∃ u, ((World.setCell u5 ⟨bD, 0, none⟩ (.slice Ah nh ch)).setCell ⟨bD, 1, none⟩ (.slice Bh mh kh)).setCell ⟨bD, 2, none⟩ (.slice Dh ph qh) = u := ⟨_, rfl⟩
          rw [hwz] at HV HBC HBD HSg HSh ⊢
          clear hl hwz
          refine soloP HV.out ?_
          have HF := Lib.hid (show TwoB W6 (fun s t => s = sL ∧ t = sT) (.pointer (some ⟨bC, 0, none⟩)) (.pointer (some ⟨bD, 0, none⟩)) u6 from ⟨bC, bD, Ag, ng, cg, Bg, mg, kg, Dg, pg, qg, Ah, nh, ch, Bh, mh, kh, Dh, ph, qh, sg, sh, rfl, rfl, HV.out, HBC.out, HBD.out, HSg.out, HSh.out, ⟨HJg.out.1.one joinL, HJh.out.1.one joinT⟩⟩)
          refine wpPlan_stop ?_
          go_wp2_with fail
          go_meet
          exact HF.out
      · go_wp2_with fail
        have hkz := (Kept.refl u1).alloc #[.slice none 0 0, .slice none 0 0, .slice none 0 0] 28
        replace HSg := Lib.hid (HSg.out.kept hkz)
        have HBC := Lib.hid (Box3.new u1 (.slice none 0 0) (.slice none 0 0) (.slice none 0 0) 28)
        have HLC := Lib.hid HV.out.2.2
        replace HV := Lib.hid (HV.out.trans hkz)
        obtain ⟨bC, hbz⟩ : ∃ b, (World.heap u1).size = b := ⟨_, rfl⟩
        obtain ⟨u2, hwz⟩ : ∃ u, World.alloc u1 (.cells #[.slice none 0 0, .slice none 0 0, .slice none 0 0] 28) = u := ⟨_, rfl⟩
        rw [hwz] at HBC HV HSg ⊢
        rw [hbz] at HBC HLC ⊢
        clear hkz hbz hwz
        refine soloP HV.out ?_
        rw [wpPlan_two]
        simp only [pickOps_cons, pickOps_nil, consO_some, List.getElem?_cons_zero, List.getElem?_cons_succ]
        constructor
        · go_wp2_with (go_at_call 15; refine (uplay_any A1 1 c1 B1 m1 k1 D1 0 q1 sS A6 0 c6 B6 m6 k6 D6 0 q6 sT _ (HS1.out.kept HV.out) (HS6.out.kept HV.out) ordS ordT (by decide) (by decide) (by decide) (by decide)).mono ?_; rintro e u3 ⟨Ah, nh, ch, Bh, mh, kh, Dh, ph, qh, sh, rfl, hsh, hjh, hkz⟩)
          replace HSg := Lib.hid (HSg.out.kept hkz)
          replace HBC := Lib.hid (HBC.out.kept hkz)
          have HSh := Lib.hid hsh
          have HJh := Lib.hid hjh
          replace HV := Lib.hid (HV.out.trans hkz)
          clear hsh hjh hkz
          refine soloP HV.out ?_
          rw [wpPlan_one]
          simp only [pickOps_cons, pickOps_nil, consO_some, List.getElem?_cons_zero, List.getElem?_cons_succ]
          go_wp2_with fail
          have hkz := (Kept.refl u3).alloc #[.slice none 0 0, .slice none 0 0, .slice none 0 0] 28
          have HNE := Lib.hid (show bC ≠ u3.heap.size from fun e => by have := HBC.out.lt; omega)
          replace HSg := Lib.hid (HSg.out.kept hkz)
          replace HSh := Lib.hid (HSh.out.kept hkz)
          replace HBC := Lib.hid (HBC.out.kept hkz)
          have HBD := Lib.hid (Box3.new u3 (.slice none 0 0) (.slice none 0 0) (.slice none 0 0) 28)
          have HLD := Lib.hid HV.out.2.2
          replace HV := Lib.hid (HV.out.trans hkz)
          obtain ⟨bD, hbz⟩ : ∃ b, (World.heap u3).size = b := ⟨_, rfl⟩
          obtain ⟨u4, hwz⟩ : ∃ u, World.alloc u3 (.cells #[.slice none 0 0, .slice none 0 0, .slice none 0 0] 28) = u := ⟨_, rfl⟩
          rw [hwz] at HBD HV HSg HSh HBC ⊢
          rw [hbz] at HBD HLD HNE ⊢
          clear hkz hbz hwz
          refine soloP HV.out ?_
          rw [wpPlan_one]
          simp only [pickOps_cons, pickOps_nil, consO_some, List.getElem?_cons_zero, List.getElem?_cons_succ]
          have hl := HLC.out
          have e0 := HBC.out.c0; have e1 := HBC.out.c1; have e2 := HBC.out.c2; have ef0 := HBC.out.f 0; have ef1 := HBC.out.f 1; have ef2 := HBC.out.f 2
          go_wp2_with fail
          clear e0 e1 e2 ef0 ef1 ef2
          replace HSg := Lib.hid (HBC.out.stt (.slice Ag ng cg) (.slice Bg mg kg) (.slice Dg pg qg) HSg.out)
          replace HSh := Lib.hid (HBC.out.stt (.slice Ag ng cg) (.slice Bg mg kg) (.slice Dg pg qg) HSh.out)
          replace HBD := Lib.hid (HBD.out.set_far HNE.out.symm (.slice Ag ng cg) (.slice Bg mg kg) (.slice Dg pg qg))
          replace HBC := Lib.hid (HBC.out.set3 (.slice Ag ng cg) (.slice Bg mg kg) (.slice Dg pg qg))
          replace HV := Lib.hid (((HV.out.setCell (a := ⟨bC, 0, none⟩) hl (.slice Ag ng cg)).setCell (a := ⟨bC, 1, none⟩) hl (.slice Bg mg kg)).setCell (a := ⟨bC, 2, none⟩) hl (.slice Dg pg qg))
          obtain ⟨u5, hwz⟩ : ∃ u, ((World.setCell u4 ⟨bC, 0, none⟩ (.slice Ag ng cg)).setCell ⟨bC, 1, none⟩ (.slice Bg mg kg)).setCell ⟨bC, 2, none⟩ (.slice Dg pg qg) = u := ⟨_, rfl⟩
          rw [hwz] at HV HBC HBD HSg HSh ⊢
          clear hl hwz
          refine soloP HV.out ?_
          rw [wpPlan_one]
          simp only [pickOps_cons, pickOps_nil, consO_some, List.getElem?_cons_zero, List.getElem?_cons_succ]
          have hl := HLD.out
          have e0 := HBD.out.c0; have e1 := HBD.out.c1; have e2 := HBD.out.c2; have ef0 := HBD.out.f 0; have ef1 := HBD.out.f 1; have ef2 := HBD.out.f 2
          go_wp2_with fail
          clear e0 e1 e2 ef0 ef1 ef2
          replace HSg := Lib.hid (HBD.out.stt (.slice Ah nh ch) (.slice Bh mh kh) (.slice Dh ph qh) HSg.out)
          replace HSh := Lib.hid (HBD.out.stt (.slice Ah nh ch) (.slice Bh mh kh) (.slice Dh ph qh) HSh.out)
          replace HBC := Lib.hid (HBC.out.set_far HNE.out (.slice Ah nh ch) (.slice Bh mh kh) (.slice Dh ph qh))
          replace HBD := Lib.hid (HBD.out.set3 (.slice Ah nh ch) (.slice Bh mh kh) (.slice Dh ph qh))
          replace HV := Lib.hid (((HV.out.setCell (a := ⟨bD, 0, none⟩) hl (.slice Ah nh ch)).setCell (a := ⟨bD, 1, none⟩) hl (.slice Bh mh kh)).setCell (a := ⟨bD, 2, none⟩) hl (.slice Dh ph qh))
          obtain ⟨u6, hwz⟩ : ∃ u, ((World.setCell u5 ⟨bD, 0, none⟩ (.slice Ah nh ch)).setCell ⟨bD, 1, none⟩ (.slice Bh mh kh)).setCell ⟨bD, 2, none⟩ (.slice Dh ph qh) = u := ⟨_, rfl⟩
          rw [hwz] at HV HBC HBD HSg HSh ⊢
          clear hl hwz
          refine soloP HV.out ?_
          have HF := Lib.hid (show TwoB W6 (fun s t => s = sL ∧ t = sT) (.pointer (some ⟨bC, 0, none⟩)) (.pointer (some ⟨bD, 0, none⟩)) u6 from ⟨bC, bD, Ag, ng, cg, Bg, mg, kg, Dg, pg, qg, Ah, nh, ch, Bh, mh, kh, Dh, ph, qh, sg, sh, rfl, rfl, HV.out, HBC.out, HBD.out, HSg.out, HSh.out, ⟨HJg.out.1.one joinL, HJh.out.1.one joinT⟩⟩)
          refine wpPlan_stop ?_
          go_wp2_with fail
          go_meet
          exact HF.out
        · go_wp2_with fail
          have hkz := (Kept.refl u2).alloc #[.slice none 0 0, .slice none 0 0, .slice none 0 0] 28
          have HNE := Lib.hid (show bC ≠ u2.heap.size from fun e => by have := HBC.out.lt; omega)
          replace HSg := Lib.hid (HSg.out.kept hkz)
          replace HBC := Lib.hid (HBC.out.kept hkz)
          have HBD := Lib.hid (Box3.new u2 (.slice none 0 0) (.slice none 0 0) (.slice none 0 0) 28)
          have HLD := Lib.hid HV.out.2.2
          replace HV := Lib.hid (HV.out.trans hkz)
          obtain ⟨bD, hbz⟩ : ∃ b, (World.heap u2).size = b := ⟨_, rfl⟩
          obtain ⟨u3, hwz⟩ : ∃ u, World.alloc u2 (.cells #[.slice none 0 0, .slice none 0 0, .slice none 0 0] 28) = u := ⟨_, rfl⟩
          rw [hwz] at HBD HV HSg HBC ⊢
          rw [hbz] at HBD HLD HNE ⊢
          clear hkz hbz hwz
          refine soloP HV.out ?_
          rw [wpPlan_one]
          simp only [pickOps_cons, pickOps_nil, consO_some, List.getElem?_cons_zero, List.getElem?_cons_succ]
          go_wp2_with (go_at_call 15; refine (uplay_any A1 1 c1 B1 m1 k1 D1 0 q1 sS A6 0 c6 B6 m6 k6 D6 0 q6 sT _ (HS1.out.kept HV.out) (HS6.out.kept HV.out) ordS ordT (by decide) (by decide) (by decide) (by decide)).mono ?_; rintro e u4 ⟨Ah, nh, ch, Bh, mh, kh, Dh, ph, qh, sh, rfl, hsh, hjh, hkz⟩)
          replace HSg := Lib.hid (HSg.out.kept hkz)
          replace HBC := Lib.hid (HBC.out.kept hkz)
          replace HBD := Lib.hid (HBD.out.kept hkz)
          have HSh := Lib.hid hsh
          have HJh := Lib.hid hjh
          replace HV := Lib.hid (HV.out.trans hkz)
          clear hsh hjh hkz
          refine soloP HV.out ?_
          rw [wpPlan_one]
          simp only [pickOps_cons, pickOps_nil, consO_some, List.getElem?_cons_zero, List.getElem?_cons_succ]
          have hl := HLC.out
          have e0 := HBC.out.c0; have e1 := HBC.out.c1; have e2 := HBC.out.c2; have ef0 := HBC.out.f 0; have ef1 := HBC.out.f 1; have ef2 := HBC.out.f 2
          go_wp2_with fail
          clear e0 e1 e2 ef0 ef1 ef2
          replace HSg := Lib.hid (HBC.out.stt (.slice Ag ng cg) (.slice Bg mg kg) (.slice Dg pg qg) HSg.out)
          replace HSh := Lib.hid (HBC.out.stt (.slice Ag ng cg) (.slice Bg mg kg) (.slice Dg pg qg) HSh.out)
          replace HBD := Lib.hid (HBD.out.set_far HNE.out.symm (.slice Ag ng cg) (.slice Bg mg kg) (.slice Dg pg qg))
          replace HBC := Lib.hid (HBC.out.set3 (.slice Ag ng cg) (.slice Bg mg kg) (.slice Dg pg qg))
          replace HV := Lib.hid (((HV.out.setCell (a := ⟨bC, 0, none⟩) hl (.slice Ag ng cg)).setCell (a := ⟨bC, 1, none⟩) hl (.slice Bg mg kg)).setCell (a := ⟨bC, 2, none⟩) hl (.slice Dg pg qg))
          obtain ⟨u5, hwz⟩ : ∃ u, ((World.setCell u4 ⟨bC, 0, none⟩ (.slice Ag ng cg)).setCell ⟨bC, 1, none⟩ (.slice Bg mg kg)).setCell ⟨bC, 2, none⟩ (.slice Dg pg qg) = u := ⟨_, rfl⟩
          rw [hwz] at HV HBC HBD HSg HSh ⊢
          clear hl hwz
          refine soloP HV.out ?_
          rw [wpPlan_one]
          simp only [pickOps_cons, pickOps_nil, consO_some, List.getElem?_cons_zero, List.getElem?_cons_succ]
          have hl := HLD.out
          have e0 := HBD.out.c0; have e1 := HBD.out.c1; have e2 := HBD.out.c2; have ef0 := HBD.out.f 0; have ef1 := HBD.out.f 1; have ef2 := HBD.out.f 2
          go_wp2_with fail
          clear e0 e1 e2 ef0 ef1 ef2
          replace HSg := Lib.hid (HBD.out.stt (.slice Ah nh ch) (.slice Bh mh kh) (.slice Dh ph qh) HSg.out)
          replace HSh := Lib.hid (HBD.out.stt (.slice Ah nh ch) (.slice Bh mh kh) (.slice Dh ph qh) HSh.out)
          replace HBC := Lib.hid (HBC.out.set_far HNE.out (.slice Ah nh ch) (.slice Bh mh kh) (.slice Dh ph qh))
          replace HBD := Lib.hid (HBD.out.set3 (.slice Ah nh ch) (.slice Bh mh kh) (.slice Dh ph qh))
          replace HV := Lib.hid (((HV.out.setCell (a := ⟨bD, 0, none⟩) hl (.slice Ah nh ch)).setCell (a := ⟨bD, 1, none⟩) hl (.slice Bh mh kh)).setCell (a := ⟨bD, 2, none⟩) hl (.slice Dh ph qh))
          obtain ⟨u6, hwz⟩ : ∃ u, ((World.setCell u5 ⟨bD, 0, none⟩ (.slice Ah nh ch)).setCell ⟨bD, 1, none⟩ (.slice Bh mh kh)).setCell ⟨bD, 2, none⟩ (.slice Dh ph qh) = u := ⟨_, rfl⟩
          rw [hwz] at HV HBC HBD HSg HSh ⊢
          clear hl hwz
          refine soloP HV.out ?_
          have HF := Lib.hid (show TwoB W6 (fun s t => s = sL ∧ t = sT) (.pointer (some ⟨bC, 0, none⟩)) (.pointer (some ⟨bD, 0, none⟩)) u6 from ⟨bC, bD, Ag, ng, cg, Bg, mg, kg, Dg, pg, qg, Ah, nh, ch, Bh, mh, kh, Dh, ph, qh, sg, sh, rfl, rfl, HV.out, HBC.out, HBD.out, HSg.out, HSh.out, ⟨HJg.out.1.one joinL, HJh.out.1.one joinT⟩⟩)
          refine wpPlan_stop ?_
          go_wp2_with fail
          go_meet
          exact HF.out
      · go_wp2_with fail
        have hkz := (Kept.refl u1).alloc #[.slice none 0 0, .slice none 0 0, .slice none 0 0] 28
        replace HSg := Lib.hid (HSg.out.kept hkz)
        have HBD := Lib.hid (Box3.new u1 (.slice none 0 0) (.slice none 0 0) (.slice none 0 0) 28)
        have HLD := Lib.hid HV.out.2.2
        replace HV := Lib.hid (HV.out.trans hkz)
        obtain ⟨bD, hbz⟩ : ∃ b, (World.heap u1).size = b := ⟨_, rfl⟩
        obtain ⟨u2, hwz⟩ : ∃ u, World.alloc u1 (.cells #[.slice none 0 0, .slice none 0 0, .slice none 0 0] 28) = u := ⟨_, rfl⟩
        rw [hwz] at HBD HV HSg ⊢
        rw [hbz] at HBD HLD ⊢
        clear hkz hbz hwz
        refine soloP HV.out ?_
        rw [wpPlan_two]
        simp only [pickOps_cons, pickOps_nil, consO_some, List.getElem?_cons_zero, List.getElem?_cons_succ]
        constructor
        · go_wp2_with (go_at_call 15; refine (uplay_any A1 1 c1 B1 m1 k1 D1 0 q1 sS A6 0 c6 B6 m6 k6 D6 0 q6 sT _ (HS1.out.kept HV.out) (HS6.out.kept HV.out) ordS ordT (by decide) (by decide) (by decide) (by decide)).mono ?_; rintro e u3 ⟨Ah, nh, ch, Bh, mh, kh, Dh, ph, qh, sh, rfl, hsh, hjh, hkz⟩)
          replace HSg := Lib.hid (HSg.out.kept hkz)
          replace HBD := Lib.hid (HBD.out.kept hkz)
          have HSh := Lib.hid hsh
          have HJh := Lib.hid hjh
          replace HV := Lib.hid (HV.out.trans hkz)
          clear hsh hjh hkz
          refine soloP HV.out ?_
          rw [wpPlan_one]
          simp only [pickOps_cons, pickOps_nil, consO_some, List.getElem?_cons_zero, List.getElem?_cons_succ]
          go_wp2_with fail
          have hkz := (Kept.refl u3).alloc #[.slice none 0 0, .slice none 0 0, .slice none 0 0] 28
          have HNE := Lib.hid (show bD ≠ u3.heap.size from fun e => by have := HBD.out.lt; omega)
          replace HSg := Lib.hid (HSg.out.kept hkz)
          replace HSh := Lib.hid (HSh.out.kept hkz)
          replace HBD := Lib.hid (HBD.out.kept hkz)
          have HBC := Lib.hid (Box3.new u3 (.slice none 0 0) (.slice none 0 0) (.slice none 0 0) 28)
          have HLC := Lib.hid HV.out.2.2
          replace HV := Lib.hid (HV.out.trans hkz)
          obtain ⟨bC, hbz⟩ : ∃ b, (World.heap u3).size = b := ⟨_, rfl⟩
          obtain ⟨u4, hwz⟩ : ∃ u, World.alloc u3 (.cells #[.slice none 0 0, .slice none 0 0, .slice none 0 0] 28) = u := ⟨_, rfl⟩
          rw [hwz] at HBC HV HSg HSh HBD ⊢
          rw [hbz] at HBC HLC HNE ⊢
          clear hkz hbz hwz
          refine soloP HV.out ?_
          rw [wpPlan_one]
          simp only [pickOps_cons, pickOps_nil, consO_some, List.getElem?_cons_zero, List.getElem?_cons_succ]
          have hl := HLC.out
          have e0 := HBC.out.c0; have e1 := HBC.out.c1; have e2 := HBC.out.c2; have ef0 := HBC.out.f 0; have ef1 := HBC.out.f 1; have ef2 := HBC.out.f 2
          go_wp2_with fail
          clear e0 e1 e2 ef0 ef1 ef2
          replace HSg := Lib.hid (HBC.out.stt (.slice Ag ng cg) (.slice Bg mg kg) (.slice Dg pg qg) HSg.out)
          replace HSh := Lib.hid (HBC.out.stt (.slice Ag ng cg) (.slice Bg mg kg) (.slice Dg pg qg) HSh.out)
          replace HBD := Lib.hid (HBD.out.set_far HNE.out (.slice Ag ng cg) (.slice Bg mg kg) (.slice Dg pg qg))
          replace HBC := Lib.hid (HBC.out.set3 (.slice Ag ng cg) (.slice Bg mg kg) (.slice Dg pg qg))
          replace HV := Lib.hid (((HV.out.setCell (a := ⟨bC, 0, none⟩) hl (.slice Ag ng cg)).setCell (a := ⟨bC, 1, none⟩) hl (.slice Bg mg kg)).setCell (a := ⟨bC, 2, none⟩) hl (.slice Dg pg qg))
          obtain ⟨u5, hwz⟩ : ∃ u, ((World.setCell u4 ⟨bC, 0, none⟩ (.slice Ag ng cg)).setCell ⟨bC, 1, none⟩ (.slice Bg mg kg)).setCell ⟨bC, 2, none⟩ (.slice Dg pg qg) = u := ⟨_, rfl⟩
          rw [hwz] at HV HBC HBD HSg HSh ⊢
          clear hl hwz
          refine soloP HV.out ?_
          rw [wpPlan_one]
          simp only [pickOps_cons, pickOps_nil, consO_some, List.getElem?_cons_zero, List.getElem?_cons_succ]
          have hl := HLD.out
          have e0 := HBD.out.c0; have e1 := HBD.out.c1; have e2 := HBD.out.c2; have ef0 := HBD.out.f 0; have ef1 := HBD.out.f 1; have ef2 := HBD.out.f 2
          go_wp2_with fail
          clear e0 e1 e2 ef0 ef1 ef2
          replace HSg := Lib.hid (HBD.out.stt (.slice Ah nh ch) (.slice Bh mh kh) (.slice Dh ph qh) HSg.out)
          replace HSh := Lib.hid (HBD.out.stt (.slice Ah nh ch) (.slice Bh mh kh) (.slice Dh ph qh) HSh.out)
          replace HBC := Lib.hid (HBC.out.set_far HNE.out.symm (.slice Ah nh ch) (.slice Bh mh kh) (.slice Dh ph qh))
          replace HBD := Lib.hid (HBD.out.set3 (.slice Ah nh ch) (.slice Bh mh kh) (.slice Dh ph qh))
          replace HV := Lib.hid (((HV.out.setCell (a := ⟨bD, 0, none⟩) hl (.slice Ah nh ch)).setCell (a := ⟨bD, 1, none⟩) hl (.slice Bh mh kh)).setCell (a := ⟨bD, 2, none⟩) hl (.slice Dh ph qh))
          obtain ⟨u6, hwz⟩ : ∃ u, ((World.setCell u5 ⟨bD, 0, none⟩ (.slice Ah nh ch)).setCell ⟨bD, 1, none⟩ (.slice Bh mh kh)).setCell ⟨bD, 2, none⟩ (.slice Dh ph qh) = u := ⟨_, rfl⟩
          rw [hwz] at HV HBC HBD HSg HSh ⊢
          clear hl hwz
          refine soloP HV.out ?_
          have HF := Lib.hid (show TwoB W6 (fun s t => s = sL ∧ t = sT) (.pointer (some ⟨bC, 0, none⟩)) (.pointer (some ⟨bD, 0, none⟩)) u6 from ⟨bC, bD, Ag, ng, cg, Bg, mg, kg, Dg, pg, qg, Ah, nh, ch, Bh, mh, kh, Dh, ph, qh, sg, sh, rfl, rfl, HV.out, HBC.out, HBD.out, HSg.out, HSh.out, ⟨HJg.out.1.one joinL, HJh.out.1.one joinT⟩⟩)
          refine wpPlan_stop ?_
          go_wp2_with fail
          go_meet
          exact HF.out
        · go_wp2_with fail
          have hkz := (Kept.refl u2).alloc #[.slice none 0 0, .slice none 0 0, .slice none 0 0] 28
          have HNE := Lib.hid (show bD ≠ u2.heap.size from fun e => by have := HBD.out.lt; omega)
          replace HSg := Lib.hid (HSg.out.kept hkz)
          replace HBD := Lib.hid (HBD.out.kept hkz)
          have HBC := Lib.hid (Box3.new u2 (.slice none 0 0) (.slice none 0 0) (.slice none 0 0) 28)
          have HLC := Lib.hid HV.out.2.2
          replace HV := Lib.hid (HV.out.trans hkz)
          obtain ⟨bC, hbz⟩ : ∃ b, (World.heap u2).size = b := ⟨_, rfl⟩
          obtain ⟨u3, hwz⟩ : ∃ u, World.alloc u2 (.cells #[.slice none 0 0, .slice none 0 0, .slice none 0 0] 28) = u := ⟨_, rfl⟩
          rw [hwz] at HBC HV HSg HBD ⊢
          rw [hbz] at HBC HLC HNE ⊢
          clear hkz hbz hwz
          refine soloP HV.out ?_
          rw [wpPlan_one]
          simp only [pickOps_cons, pickOps_nil, consO_some, List.getElem?_cons_zero, List.getElem?_cons_succ]
          go_wp2_with (go_at_call 15; refine (uplay_any A1 1 c1 B1 m1 k1 D1 0 q1 sS A6 0 c6 B6 m6 k6 D6 0 q6 sT _ (HS1.out.kept HV.out) (HS6.out.kept HV.out) ordS ordT (by decide) (by decide) (by decide) (by decide)).mono ?_; rintro e u4 ⟨Ah, nh, ch, Bh, mh, kh, Dh, ph, qh, sh, rfl, hsh, hjh, hkz⟩)
          replace HSg := Lib.hid (HSg.out.kept hkz)
          replace HBC := Lib.hid (HBC.out.kept hkz)
          replace HBD := Lib.hid (HBD.out.kept hkz)
          have HSh := Lib.hid hsh
          have HJh := Lib.hid hjh
          replace HV := Lib.hid (HV.out.trans hkz)
          clear hsh hjh hkz
          refine soloP HV.out ?_
          rw [wpPlan_one]
          simp only [pickOps_cons, pickOps_nil, consO_some, List.getElem?_cons_zero, List.getElem?_cons_succ]
          have hl := HLC.out
          have e0 := HBC.out.c0; have e1 := HBC.out.c1; have e2 := HBC.out.c2; have ef0 := HBC.out.f 0; have ef1 := HBC.out.f 1; have ef2 := HBC.out.f 2
          go_wp2_with fail
          clear e0 e1 e2 ef0 ef1 ef2
          replace HSg := Lib.hid (HBC.out.stt (.slice Ag ng cg) (.slice Bg mg kg) (.slice Dg pg qg) HSg.out)
          replace HSh := Lib.hid (HBC.out.stt (.slice Ag ng cg) (.slice Bg mg kg) (.slice Dg pg qg) HSh.out)
          replace HBD := Lib.hid (HBD.out.set_far HNE.out (.slice Ag ng cg) (.slice Bg mg kg) (.slice Dg pg qg))
          replace HBC := Lib.hid (HBC.out.set3 (.slice Ag ng cg) (.slice Bg mg kg) (.slice Dg pg qg))
          replace HV := Lib.hid (((HV.out.setCell (a := ⟨bC, 0, none⟩) hl (.slice Ag ng cg)).setCell (a := ⟨bC, 1, none⟩) hl (.slice Bg mg kg)).setCell (a := ⟨bC, 2, none⟩) hl (.slice Dg pg qg))
          obtain ⟨u5, hwz⟩ : ∃ u, ((World.setCell u4 ⟨bC, 0, none⟩ (.slice Ag ng cg)).setCell ⟨bC, 1, none⟩ (.slice Bg mg kg)).setCell ⟨bC, 2, none⟩ (.slice Dg pg qg) = u := ⟨_, rfl⟩
          rw [hwz] at HV HBC HBD HSg HSh ⊢
          clear hl hwz
          refine soloP HV.out ?_
          rw [wpPlan_one]
          simp only [pickOps_cons, pickOps_nil, consO_some, List.getElem?_cons_zero, List.getElem?_cons_succ]
          have hl := HLD.out
          have e0 := HBD.out.c0; have e1 := HBD.out.c1; have e2 := HBD.out.c2; have ef0 := HBD.out.f 0; have ef1 := HBD.out.f 1; have ef2 := HBD.out.f 2
          go_wp2_with fail
          clear e0 e1 e2 ef0 ef1 ef2
          replace HSg := Lib.hid (HBD.out.stt (.slice Ah nh ch) (.slice Bh mh kh) (.slice Dh ph qh) HSg.out)
          replace HSh := Lib.hid (HBD.out.stt (.slice Ah nh ch) (.slice Bh mh kh) (.slice Dh ph qh) HSh.out)
          replace HBC := Lib.hid (HBC.out.set_far HNE.out.symm (.slice Ah nh ch) (.slice Bh mh kh) (.slice Dh ph qh))
          replace HBD := Lib.hid (HBD.out.set3 (.slice Ah nh ch) (.slice Bh mh kh) (.slice Dh ph qh))
          replace HV := Lib.hid (((HV.out.setCell (a := ⟨bD, 0, none⟩) hl (.slice Ah nh ch)).setCell (a := ⟨bD, 1, none⟩) hl (.slice Bh mh kh)).setCell (a := ⟨bD, 2, none⟩) hl (.slice Dh ph qh))
          obtain ⟨u6, hwz⟩ : ∃ u, ((World.setCell u5 ⟨bD, 0, none⟩ (.slice Ah nh ch)).setCell ⟨bD, 1, none⟩ (.slice Bh mh kh)).setCell ⟨bD, 2, none⟩ (.slice Dh ph qh) = u := ⟨_, rfl⟩
          rw [hwz] at HV HBC HBD HSg HSh ⊢
          clear hl hwz
          refine soloP HV.out ?_
          have HF := Lib.hid (show TwoB W6 (fun s t => s = sL ∧ t = sT) (.pointer (some ⟨bC, 0, none⟩)) (.pointer (some ⟨bD, 0, none⟩)) u6 from ⟨bC, bD, Ag, ng, cg, Bg, mg, kg, Dg, pg, qg, Ah, nh, ch, Bh, mh, kh, Dh, ph, qh, sg, sh, rfl, rfl, HV.out, HBC.out, HBD.out, HSg.out, HSh.out, ⟨HJg.out.1.one joinL, HJh.out.1.one joinT⟩⟩)
          refine wpPlan_stop ?_
          go_wp2_with fail
          go_meet
          exact HF.out
    · go_wp2_with fail
      have hkz := (Kept.refl wd).alloc #[.slice none 0 0, .slice none 0 0, .slice none 0 0] 28
      have HBC := Lib.hid (Box3.new wd (.slice none 0 0) (.slice none 0 0) (.slice none 0 0) 28)
      have HLC := Lib.hid HV.out.2.2
      replace HV := Lib.hid (HV.out.trans hkz)
      obtain ⟨bC, hbz⟩ : ∃ b, (World.heap wd).size = b := ⟨_, rfl⟩
      obtain ⟨u1, hwz⟩ : ∃ u, World.alloc wd (.cells #[.slice none 0 0, .slice none 0 0, .slice none 0 0] 28) = u := ⟨_, rfl⟩
      rw [hwz] at HBC HV ⊢
      rw [hbz] at HBC HLC ⊢
      clear hkz hbz hwz
      refine soloP HV.out ?_
      rw [wpPlan_two]
      simp only [pickOps_cons, pickOps_nil, consO_some, List.getElem?_cons_zero, List.getElem?_cons_succ]
      constructor
      · go_wp2_with (go_at_call 15; refine (uplay_any A1 1 c1 B1 m1 k1 D1 0 q1 sS A5 1 c5 B5 m5 k5 D5 0 q5 sL _ (HS1.out.kept HV.out) (HS5.out.kept HV.out) ordS ordL (by decide) (by decide) (by decide) (by decide)).mono ?_; rintro e u2 ⟨Ag, ng, cg, Bg, mg, kg, Dg, pg, qg, sg, rfl, hsg, hjg, hkz⟩)
        replace HBC := Lib.hid (HBC.out.kept hkz)
        have HSg := Lib.hid hsg
        have HJg := Lib.hid hjg
        replace HV := Lib.hid (HV.out.trans hkz)
        clear hsg hjg hkz
        refine soloP HV.out ?_
        rw [wpPlan_two]
        simp only [pickOps_cons, pickOps_nil, consO_some, List.getElem?_cons_zero, List.getElem?_cons_succ]
        constructor
        · go_wp2_with (go_at_call 15; refine (uplay_any A1 1 c1 B1 m1 k1 D1 0 q1 sS A6 0 c6 B6 m6 k6 D6 0 q6 sT _ (HS1.out.kept HV.out) (HS6.out.kept HV.out) ordS ordT (by decide) (by decide) (by decide) (by decide)).mono ?_; rintro e u3 ⟨Ah, nh, ch, Bh, mh, kh, Dh, ph, qh, sh, rfl, hsh, hjh, hkz⟩)
          replace HSg := Lib.hid (HSg.out.kept hkz)
          replace HBC := Lib.hid (HBC.out.kept hkz)
          have HSh := Lib.hid hsh
          have HJh := Lib.hid hjh
          replace HV := Lib.hid (HV.out.trans hkz)
          clear hsh hjh hkz
          refine soloP HV.out ?_
          rw [wpPlan_one]
          simp only [pickOps_cons, pickOps_nil, consO_some, List.getElem?_cons_zero, List.getElem?_cons_succ]
          go_wp2_with fail
          have hkz := (Kept.refl u3).alloc #[.slice none 0 0, .slice none 0 0, .slice none 0 0] 28
          have HNE := Lib.hid (show bC ≠ u3.heap.size from fun e => by have := HBC.out.lt; omega)
          replace HSg := Lib.hid (HSg.out.kept hkz)
          replace HSh := Lib.hid (HSh.out.kept hkz)
          replace HBC := Lib.hid (HBC.out.kept hkz)
          have HBD := Lib.hid (Box3.new u3 (.slice none 0 0) (.slice none 0 0) (.slice none 0 0) 28)
          have HLD := Lib.hid HV.out.2.2
          replace HV := Lib.hid (HV.out.trans hkz)
          obtain ⟨bD, hbz⟩ : ∃ b, (World.heap u3).size = b := ⟨_, rfl⟩
          obtain ⟨u4, hwz⟩ : ∃ u, World.alloc u3 (.cells #[.slice none 0 0, .slice none 0 0, .slice none 0 0] 28) = u := ⟨_, rfl⟩
          rw [hwz] at HBD HV HSg HSh HBC ⊢
          rw [hbz] at HBD HLD HNE ⊢
          clear hkz hbz hwz
          refine soloP HV.out ?_
          rw [wpPlan_one]
          simp only [pickOps_cons, pickOps_nil, consO_some, List.getElem?_cons_zero, List.getElem?_cons_succ]
          have hl := HLC.out
          have e0 := HBC.out.c0; have e1 := HBC.out.c1; have e2 := HBC.out.c2; have ef0 := HBC.out.f 0; have ef1 := HBC.out.f 1; have ef2 := HBC.out.f 2
          go_wp2_with fail
          clear e0 e1 e2 ef0 ef1 ef2
          replace HSg := Lib.hid (HBC.out.stt (.slice Ag ng cg) (.slice Bg mg kg) (.slice Dg pg qg) HSg.out)
          replace HSh := Lib.hid (HBC.out.stt (.slice Ag ng cg) (.slice Bg mg kg) (.slice Dg pg qg) HSh.out)
          replace HBD := Lib.hid (HBD.out.set_far HNE.out.symm (.slice Ag ng cg) (.slice Bg mg kg) (.slice Dg pg qg))
          replace HBC := Lib.hid (HBC.out.set3 (.slice Ag ng cg) (.slice Bg mg kg) (.slice Dg pg qg))
          replace HV := Lib.hid (((HV.out.setCell (a := ⟨bC, 0, none⟩) hl (.slice Ag ng cg)).setCell (a := ⟨bC, 1, none⟩) hl (.slice Bg mg kg)).setCell (a := ⟨bC, 2, none⟩) hl (.slice Dg pg qg))
          obtain ⟨u5, hwz⟩ : ∃ u, ((World.setCell u4 ⟨bC, 0, none⟩ (.slice Ag ng cg)).setCell ⟨bC, 1, none⟩ (.slice Bg mg kg)).setCell ⟨bC, 2, none⟩ (.slice Dg pg qg) = u := ⟨_, rfl⟩
          rw [hwz] at HV HBC HBD HSg HSh ⊢
          clear hl hwz
          refine soloP HV.out ?_
          rw [wpPlan_one]
          simp only [pickOps_cons, pickOps_nil, consO_some, List.getElem?_cons_zero, List.getElem?_cons_succ]
          have hl := HLD.out
          have e0 := HBD.out.c0; have e1 := HBD.out.c1; have e2 := HBD.out.c2; have ef0 := HBD.out.f 0; have ef1 := HBD.out.f 1; have ef2 := HBD.out.f 2
          go_wp2_with fail
          clear e0 e1 e2 ef0 ef1 ef2
          replace HSg := Lib.hid (HBD.out.stt (.slice Ah nh ch) (.slice Bh mh kh) (.slice Dh ph qh) HSg.out)
          replace HSh := Lib.hid (HBD.out.stt (.slice Ah nh ch) (.slice Bh mh kh) (.slice Dh ph qh) HSh.out)
          replace HBC := Lib.hid (HBC.out.set_far HNE.out (.slice Ah nh ch) (.slice Bh mh kh) (.slice Dh ph qh))
          replace HBD := Lib.hid (HBD.out.set3 (.slice Ah nh ch) (.slice Bh mh kh) (.slice Dh ph qh))
          replace HV := Lib.hid (((HV.out.setCell (a := ⟨bD, 0, none⟩) hl (.slice Ah nh ch)).setCell (a := ⟨bD, 1, none⟩) hl (.slice Bh mh kh)).setCell (a := ⟨bD, 2, none⟩) hl (.slice Dh ph qh))
          obtain ⟨u6, hwz⟩ : ∃ u, ((World.setCell u5 ⟨bD, 0, none⟩ (.slice Ah nh ch)).setCell ⟨bD, 1, none⟩ (.slice Bh mh kh)).setCell ⟨bD, 2, none⟩ (.slice Dh ph qh) = u := ⟨_, rfl⟩
          rw [hwz] at HV HBC HBD HSg HSh ⊢
          clear hl hwz
          refine soloP HV.out ?_
          have HF := Lib.hid (show TwoB W6 (fun s t => s = sL ∧ t = sT) (.pointer (some ⟨bC, 0, none⟩)) (.pointer (some ⟨bD, 0, none⟩)) u6 from ⟨bC, bD, Ag, ng, cg, Bg, mg, kg, Dg, pg, qg, Ah, nh, ch, Bh, mh, kh, Dh, ph, qh, sg, sh, rfl, rfl, HV.out, HBC.out, HBD.out, HSg.out, HSh.out, ⟨HJg.out.1.one joinL, HJh.out.1.one joinT⟩⟩)
          refine wpPlan_stop ?_
          go_wp2_with fail
          go_meet
          exact HF.out
        · go_wp2_with fail
          have hkz := (Kept.refl u2).alloc #[.slice none 0 0, .slice none 0 0, .slice none 0 0] 28
          have HNE := Lib.hid (show bC ≠ u2.heap.size from fun e => by have := HBC.out.lt; omega)
          replace HSg := Lib.hid (HSg.out.kept hkz)
          replace HBC := Lib.hid (HBC.out.kept hkz)
          have HBD := Lib.hid (Box3.new u2 (.slice none 0 0) (.slice none 0 0) (.slice none 0 0) 28)
          have HLD := Lib.hid HV.out.2.2
          replace HV := Lib.hid (HV.out.trans hkz)
          obtain ⟨bD, hbz⟩ : ∃ b, (World.heap u2).size = b := ⟨_, rfl⟩
          obtain ⟨u3, hwz⟩ : ∃ u, World.alloc u2 (.cells #[.slice none 0 0, .slice none 0 0, .slice none 0 0] 28) = u := ⟨_, rfl⟩
          rw [hwz] at HBD HV HSg HBC ⊢
          rw [hbz] at HBD HLD HNE ⊢
          clear hkz hbz hwz
          refine soloP HV.out ?_
          rw [wpPlan_one]
          simp only [pickOps_cons, pickOps_nil, consO_some, List.getElem?_cons_zero, List.getElem?_cons_succ]
          go_wp2_with (go_at_call 15; refine (uplay_any A1 1 c1 B1 m1 k1 D1 0 q1 sS A6 0 c6 B6 m6 k6 D6 0 q6 sT _ (HS1.out.kept HV.out) (HS6.out.kept HV.out) ordS ordT (by decide) (by decide) (by decide) (by decide)).mono ?_; rintro e u4 ⟨Ah, nh, ch, Bh, mh, kh, Dh, ph, qh, sh, rfl, hsh, hjh, hkz⟩)
          replace HSg := Lib.hid (HSg.out.kept hkz)
          replace HBC := Lib.hid (HBC.out.kept hkz)
          replace HBD := Lib.hid (HBD.out.kept hkz)
          have HSh := Lib.hid hsh
          have HJh := Lib.hid hjh
          replace HV := Lib.hid (HV.out.trans hkz)
          clear hsh hjh hkz
          refine soloP HV.out ?_
          rw [wpPlan_one]
          simp only [pickOps_cons, pickOps_nil, consO_some, List.getElem?_cons_zero, List.getElem?_cons_succ]
          have hl := HLC.out
          have e0 := HBC.out.c0; have e1 := HBC.out.c1; have e2 := HBC.out.c2; have ef0 := HBC.out.f 0; have ef1 := HBC.out.f 1; have ef2 := HBC.out.f 2
          go_wp2_with fail
          clear e0 e1 e2 ef0 ef1 ef2
          replace HSg := Lib.hid (HBC.out.stt (.slice Ag ng cg) (.slice Bg mg kg) (.slice Dg pg qg) HSg.out)
          replace HSh := Lib.hid (HBC.out.stt (.slice Ag ng cg) (.slice Bg mg kg) (.slice Dg pg qg) HSh.out)
          replace HBD := Lib.hid (HBD.out.set_far HNE.out.symm (.slice Ag ng cg) (.slice Bg mg kg) (.slice Dg pg qg))
          replace HBC := Lib.hid (HBC.out.set3 (.slice Ag ng cg) (.slice Bg mg kg) (.slice Dg pg qg))
          replace HV := Lib.hid (((HV.out.setCell (a := ⟨bC, 0, none⟩) hl (.slice Ag ng cg)).setCell (a := ⟨bC, 1, none⟩) hl (.slice Bg mg kg)).setCell (a := ⟨bC, 2, none⟩) hl (.slice Dg pg qg))
          obtain ⟨u5, hwz⟩ : ∃ u, ((World.setCell u4 ⟨bC, 0, none⟩ (.slice Ag ng cg)).setCell ⟨bC, 1, none⟩ (.slice Bg mg kg)).setCell ⟨bC, 2, none⟩ (.slice Dg pg qg) = u := ⟨_, rfl⟩
          rw [hwz] at HV HBC HBD HSg HSh ⊢
          clear hl hwz
          refine soloP HV.out ?_
          rw [wpPlan_one]
          simp only [pickOps_cons, pickOps_nil, consO_some, List.getElem?_cons_zero, List.getElem?_cons_succ]
          have hl := HLD.out
          have e0 := HBD.out.c0; have e1 := HBD.out.c1; have e2 := HBD.out.c2; have ef0 := HBD.out.f 0; have ef1 := HBD.out.f 1; have ef2 := HBD.out.f 2
          go_wp2_with fail
          clear e0 e1 e2 ef0 ef1 ef2
          replace HSg := Lib.hid (HBD.out.stt (.slice Ah nh ch) (.slice Bh mh kh) (.slice Dh ph qh) HSg.out)
          replace HSh := Lib.hid (HBD.out.stt (.slice Ah nh ch) (.slice Bh mh kh) (.slice Dh ph qh) HSh.out)
          replace HBC := Lib.hid (HBC.out.set_far HNE.out (.slice Ah nh ch) (.slice Bh mh kh) (.slice Dh ph qh))
          replace HBD := Lib.hid (HBD.out.set3 (.slice Ah nh ch) (.slice Bh mh kh) (.slice Dh ph qh))
          replace HV := Lib.hid (((HV.out.setCell (a := ⟨bD, 0, none⟩) hl (.slice Ah nh ch)).setCell (a := ⟨bD, 1, none⟩) hl (.slice Bh mh kh)).setCell (a := ⟨bD, 2, none⟩) hl (.slice Dh ph qh))
          obtain ⟨u6, hwz⟩ : ∃ u, ((World.setCell u5 ⟨bD, 0, none⟩ (.slice Ah nh ch)).setCell ⟨bD, 1, none⟩ (.slice Bh mh kh)).setCell ⟨bD, 2, none⟩ (.slice Dh ph qh) = u := ⟨_, rfl⟩
          rw [hwz] at HV HBC HBD HSg HSh ⊢
          clear hl hwz
          refine soloP HV.out ?_
          have HF := Lib.hid (show TwoB W6 (fun s t => s = sL ∧ t = sT) (.pointer (some ⟨bC, 0, none⟩)) (.pointer (some ⟨bD, 0, none⟩)) u6 from ⟨bC, bD, Ag, ng, cg, Bg, mg, kg, Dg, pg, qg, Ah, nh, ch, Bh, mh, kh, Dh, ph, qh, sg, sh, rfl, rfl, HV.out, HBC.out, HBD.out, HSg.out, HSh.out, ⟨HJg.out.1.one joinL, HJh.out.1.one joinT⟩⟩)
          refine wpPlan_stop ?_
          go_wp2_with fail
          go_meet
          exact HF.out
      · go_wp2_with fail
        have hkz := (Kept.refl u1).alloc #[.slice none 0 0, .slice none 0 0, .slice none 0 0] 28
        have HNE := Lib.hid (show bC ≠ u1.heap.size from fun e => by have := HBC.out.lt; omega)
        replace HBC := Lib.hid (HBC.out.kept hkz)
        have HBD := Lib.hid (Box3.new u1 (.slice none 0 0) (.slice none 0 0) (.slice none 0 0) 28)
        have HLD := Lib.hid HV.out.2.2
        replace HV := Lib.hid (HV.out.trans hkz)
        obtain ⟨bD, hbz⟩ : ∃ b, (World.heap u1).size = b := ⟨_, rfl⟩
        obtain ⟨u2, hwz⟩ : ∃ u, World.alloc u1 (.cells #[.slice none 0 0, .slice none 0 0, .slice none 0 0] 28) = u := ⟨_, rfl⟩
        rw [hwz] at HBD HV HBC ⊢
        rw [hbz] at HBD HLD HNE ⊢
        clear hkz hbz hwz
        refine soloP HV.out ?_
        rw [wpPlan_one]
        simp only [pickOps_cons, pickOps_nil, consO_some, List.getElem?_cons_zero, List.getElem?_cons_succ]
        go_wp2_with (go_at_call 15; refine (uplay_any A1 1 c1 B1 m1 k1 D1 0 q1 sS A5 1 c5 B5 m5 k5 D5 0 q5 sL _ (HS1.out.kept HV.out) (HS5.out.kept HV.out) ordS ordL (by decide) (by decide) (by decide) (by decide)).mono ?_; rintro e u3 ⟨Ag, ng, cg, Bg, mg, kg, Dg, pg, qg, sg, rfl, hsg, hjg, hkz⟩)
        replace HBC := Lib.hid (HBC.out.kept hkz)
        replace HBD := Lib.hid (HBD.out.kept hkz)
        have HSg := Lib.hid hsg
        have HJg := Lib.hid hjg
        replace HV := Lib.hid (HV.out.trans hkz)
        clear hsg hjg hkz
        refine soloP HV.out ?_
        rw [wpPlan_one]
        simp only [pickOps_cons, pickOps_nil, consO_some, List.getElem?_cons_zero, List.getElem?_cons_succ]
        go_wp2_with (go_at_call 15; refine (uplay_any A1 1 c1 B1 m1 k1 D1 0 q1 sS A6 0 c6 B6 m6 k6 D6 0 q6 sT _ (HS1.out.kept HV.out) (HS6.out.kept HV.out) ordS ordT (by decide) (by decide) (by decide) (by decide)).mono ?_; rintro e u4 ⟨Ah, nh, ch, Bh, mh, kh, Dh, ph, qh, sh, rfl, hsh, hjh, hkz⟩)
        replace HSg := Lib.hid (HSg.out.kept hkz)
        replace HBC := Lib.hid (HBC.out.kept hkz)
        replace HBD := Lib.hid (HBD.out.kept hkz)
        have HSh := Lib.hid hsh
        have HJh := Lib.hid hjh
        replace HV := Lib.hid (HV.out.trans hkz)
        clear hsh hjh hkz
        refine soloP HV.out ?_
        rw [wpPlan_one]
        simp only [pickOps_cons, pickOps_nil, consO_some, List.getElem?_cons_zero, List.getElem?_cons_succ]
        have hl := HLC.out
        have e0 := HBC.out.c0; have e1 := HBC.out.c1; have e2 := HBC.out.c2; have ef0 := HBC.out.f 0; have ef1 := HBC.out.f 1; have ef2 := HBC.out.f 2
        go_wp2_with fail
        clear e0 e1 e2 ef0 ef1 ef2
        replace HSg := Lib.hid (HBC.out.stt (.slice Ag ng cg) (.slice Bg mg kg) (.slice Dg pg qg) HSg.out)
        replace HSh := Lib.hid (HBC.out.stt (.slice Ag ng cg) (.slice Bg mg kg) (.slice Dg pg qg) HSh.out)
        replace HBD := Lib.hid (HBD.out.set_far HNE.out.symm (.slice Ag ng cg) (.slice Bg mg kg) (.slice Dg pg qg))
        replace HBC := Lib.hid (HBC.out.set3 (.slice Ag ng cg) (.slice Bg mg kg) (.slice Dg pg qg))
        replace HV := Lib.hid (((HV.out.setCell (a := ⟨bC, 0, none⟩) hl (.slice Ag ng cg)).setCell (a := ⟨bC, 1, none⟩) hl (.slice Bg mg kg)).setCell (a := ⟨bC, 2, none⟩) hl (.slice Dg pg qg))
        obtain ⟨u5, hwz⟩ : ∃ u, ((World.setCell u4 ⟨bC, 0, none⟩ (.slice Ag ng cg)).setCell ⟨bC, 1, none⟩ (.slice Bg mg kg)).setCell ⟨bC, 2, none⟩ (.slice Dg pg qg) = u := ⟨_, rfl⟩
        rw [hwz] at HV HBC HBD HSg HSh ⊢
        clear hl hwz
        refine soloP HV.out ?_
        rw [wpPlan_one]
        simp only [pickOps_cons, pickOps_nil, consO_some, List.getElem?_cons_zero, List.getElem?_cons_succ]
        have hl := HLD.out
        have e0 := HBD.out.c0; have e1 := HBD.out.c1; have e2 := HBD.out.c2; have ef0 := HBD.out.f 0; have ef1 := HBD.out.f 1; have ef2 := HBD.out.f 2
        go_wp2_with fail
        clear e0 e1 e2 ef0 ef1 ef2
        replace HSg := Lib.hid (HBD.out.stt (.slice Ah nh ch) (.slice Bh mh kh) (.slice Dh ph qh) HSg.out)
        replace HSh := Lib.hid (HBD.out.stt (.slice Ah nh ch) (.slice Bh mh kh) (.slice Dh ph qh) HSh.out)
        replace HBC := Lib.hid (HBC.out.set_far HNE.out (.slice Ah nh ch) (.slice Bh mh kh) (.slice Dh ph qh))
        replace HBD := Lib.hid (HBD.out.set3 (.slice Ah nh ch) (.slice Bh mh kh) (.slice Dh ph qh))
        replace HV := Lib.hid (((HV.out.setCell (a := ⟨bD, 0, none⟩) hl (.slice Ah nh ch)).setCell (a := ⟨bD, 1, none⟩) hl (.slice Bh mh kh)).setCell (a := ⟨bD, 2, none⟩) hl (.slice Dh ph qh))
        obtain ⟨u6, hwz⟩ : ∃ u, ((World.setCell u5 ⟨bD, 0, none⟩ (.slice Ah nh ch)).setCell ⟨bD, 1, none⟩ (.slice Bh mh kh)).setCell ⟨bD, 2, none⟩ (.slice Dh ph qh) = u := ⟨_, rfl⟩
        rw [hwz] at HV HBC HBD HSg HSh ⊢
        clear hl hwz
        refine soloP HV.out ?_
        have HF := Lib.hid (show TwoB W6 (fun s t => s = sL ∧ t = sT) (.pointer (some ⟨bC, 0, none⟩)) (.pointer (some ⟨bD, 0, none⟩)) u6 from ⟨bC, bD, Ag, ng, cg, Bg, mg, kg, Dg, pg, qg, Ah, nh, ch, Bh, mh, kh, Dh, ph, qh, sg, sh, rfl, rfl, HV.out, HBC.out, HBD.out, HSg.out, HSh.out, ⟨HJg.out.1.one joinL, HJh.out.1.one joinT⟩⟩)
        refine wpPlan_stop ?_
        go_wp2_with fail
        go_meet
        exact HF.out
    · go_wp2_with fail
      have hkz := (Kept.refl wd).alloc #[.slice none 0 0, .slice none 0 0, .slice none 0 0] 28
      have HBD := Lib.hid (Box3.new wd (.slice none 0 0) (.slice none 0 0) (.slice none 0 0) 28)
      have HLD := Lib.hid HV.out.2.2
      replace HV := Lib.hid (HV.out.trans hkz)
      obtain ⟨bD, hbz⟩ : ∃ b, (World.heap wd).size = b := ⟨_, rfl⟩
      obtain ⟨u1, hwz⟩ : ∃ u, World.alloc wd (.cells #[.slice none 0 0, .slice none 0 0, .slice none 0 0] 28) = u := ⟨_, rfl⟩
      rw [hwz] at HBD HV ⊢
      rw [hbz] at HBD HLD ⊢
      clear hkz hbz hwz
      refine soloP HV.out ?_
      rw [wpPlan_two]
      simp only [pickOps_cons, pickOps_nil, consO_some, List.getElem?_cons_zero, List.getElem?_cons_succ]
      constructor
      · go_wp2_with (go_at_call 15; refine (uplay_any A1 1 c1 B1 m1 k1 D1 0 q1 sS A5 1 c5 B5 m5 k5 D5 0 q5 sL _ (HS1.out.kept HV.out) (HS5.out.kept HV.out) ordS ordL (by decide) (by decide) (by decide) (by decide)).mono ?_; rintro e u2 ⟨Ag, ng, cg, Bg, mg, kg, Dg, pg, qg, sg, rfl, hsg, hjg, hkz⟩)
        replace HBD := Lib.hid (HBD.out.kept hkz)
        have HSg := Lib.hid hsg
        have HJg := Lib.hid hjg
        replace HV := Lib.hid (HV.out.trans hkz)
        clear hsg hjg hkz
        refine soloP HV.out ?_
        rw [wpPlan_two]
        simp only [pickOps_cons, pickOps_nil, consO_some, List.getElem?_cons_zero, List.getElem?_cons_succ]
        constructor
        · go_wp2_with (go_at_call 15; refine (uplay_any A1 1 c1 B1 m1 k1 D1 0 q1 sS A6 0 c6 B6 m6 k6 D6 0 q6 sT _ (HS1.out.kept HV.out) (HS6.out.kept HV.out) ordS ordT (by decide) (by decide) (by decide) (by decide)).mono ?_; rintro e u3 ⟨Ah, nh, ch, Bh, mh, kh, Dh, ph, qh, sh, rfl, hsh, hjh, hkz⟩)
          replace HSg := Lib.hid (HSg.out.kept hkz)
          replace HBD := Lib.hid (HBD.out.kept hkz)
          have HSh := Lib.hid hsh
          have HJh := Lib.hid hjh
          replace HV := Lib.hid (HV.out.trans hkz)
          clear hsh hjh hkz
          refine soloP HV.out ?_
          rw [wpPlan_one]
          simp only [pickOps_cons, pickOps_nil, consO_some, List.getElem?_cons_zero, List.getElem?_cons_succ]
          go_wp2_with fail
          have hkz := (Kept.refl u3).alloc #[.slice none 0 0, .slice none 0 0, .slice none 0 0] 28
          have HNE := Lib.hid (show bD ≠ u3.heap.size from fun e => by have := HBD.out.lt; omega)
          replace HSg := Lib.hid (HSg.out.kept hkz)
          replace HSh := Lib.hid (HSh.out.kept hkz)
          replace HBD := Lib.hid (HBD.out.kept hkz)
          have HBC := Lib.hid (Box3.new u3 (.slice none 0 0) (.slice none 0 0) (.slice none 0 0) 28)
          have HLC := Lib.hid HV.out.2.2
          replace HV := Lib.hid (HV.out.trans hkz)
          obtain ⟨bC, hbz⟩ : ∃ b, (World.heap u3).size = b := ⟨_, rfl⟩
          obtain ⟨u4, hwz⟩ : ∃ u, World.alloc u3 (.cells #[.slice none 0 0, .slice none 0 0, .slice none 0 0] 28) = u := ⟨_, rfl⟩
          rw [hwz] at HBC HV HSg HSh HBD ⊢
          rw [hbz] at HBC HLC HNE ⊢
          clear hkz hbz hwz
          refine soloP HV.out ?_
          rw [wpPlan_one]
          simp only [pickOps_cons, pickOps_nil, consO_some, List.getElem?_cons_zero, List.getElem?_cons_succ]
          have hl := HLC.out
          have e0 := HBC.out.c0; have e1 := HBC.out.c1; have e2 := HBC.out.c2; have ef0 := HBC.out.f 0; have ef1 := HBC.out.f 1; have ef2 := HBC.out.f 2
          go_wp2_with fail
          clear e0 e1 e2 ef0 ef1 ef2
          replace HSg := Lib.hid (HBC.out.stt (.slice Ag ng cg) (.slice Bg mg kg) (.slice Dg pg qg) HSg.out)
          replace HSh := Lib.hid (HBC.out.stt (.slice Ag ng cg) (.slice Bg mg kg) (.slice Dg pg qg) HSh.out)
          replace HBD := Lib.hid (HBD.out.set_far HNE.out (.slice Ag ng cg) (.slice Bg mg kg) (.slice Dg pg qg))
          replace HBC := Lib.hid (HBC.out.set3 (.slice Ag ng cg) (.slice Bg mg kg) (.slice Dg pg qg))
          replace HV := Lib.hid (((HV.out.setCell (a := ⟨bC, 0, none⟩) hl (.slice Ag ng cg)).setCell (a := ⟨bC, 1, none⟩) hl (.slice Bg mg kg)).setCell (a := ⟨bC, 2, none⟩) hl (.slice Dg pg qg))
          obtain ⟨u5, hwz⟩ : ∃ u, ((World.setCell u4 ⟨bC, 0, none⟩ (.slice Ag ng cg)).setCell ⟨bC, 1, none⟩ (.slice Bg mg kg)).setCell ⟨bC, 2, none⟩ (.slice Dg pg qg) = u := ⟨_, rfl⟩
          rw [hwz] at HV HBC HBD HSg HSh ⊢
          clear hl hwz
          refine soloP HV.out ?_
          rw [wpPlan_one]
          simp only [pickOps_cons, pickOps_nil, consO_some, List.getElem?_cons_zero, List.getElem?_cons_succ]
          have hl := HLD.out
          have e0 := HBD.out.c0; have e1 := HBD.out.c1; have e2 := HBD.out.c2; have ef0 := HBD.out.f 0; have ef1 := HBD.out.f 1; have ef2 := HBD.out.f 2
          go_wp2_with fail
          clear e0 e1 e2 ef0 ef1 ef2
          replace HSg := Lib.hid (HBD.out.stt (.slice Ah nh ch) (.slice Bh mh kh) (.slice Dh ph qh) HSg.out)
          replace HSh := Lib.hid (HBD.out.stt (.slice Ah nh ch) (.slice Bh mh kh) (.slice Dh ph qh) HSh.out)
          replace HBC := Lib.hid (HBC.out.set_far HNE.out.symm (.slice Ah nh ch) (.slice Bh mh kh) (.slice Dh ph qh))
          replace HBD := Lib.hid (HBD.out.set3 (.slice Ah nh ch) (.slice Bh mh kh) (.slice Dh ph qh))
          replace HV := Lib.hid (((HV.out.setCell (a := ⟨bD, 0, none⟩) hl (.slice Ah nh ch)).setCell (a := ⟨bD, 1, none⟩) hl (.slice Bh mh kh)).setCell (a := ⟨bD, 2, none⟩) hl (.slice Dh ph qh))
          obtain ⟨u6, hwz⟩ : ∃ u, ((World.setCell u5 ⟨bD, 0, none⟩ (.slice Ah nh ch)).setCell ⟨bD, 1, none⟩ (.slice Bh mh kh)).setCell ⟨bD, 2, none⟩ (.slice Dh ph qh) = u := ⟨_, rfl⟩
          rw [hwz] at HV HBC HBD HSg HSh ⊢
          clear hl hwz
          refine soloP HV.out ?_
          have HF := Lib.hid (show TwoB W6 (fun s t => s = sL ∧ t = sT) (.pointer (some ⟨bC, 0, none⟩)) (.pointer (some ⟨bD, 0, none⟩)) u6 from ⟨bC, bD, Ag, ng, cg, Bg, mg, kg, Dg, pg, qg, Ah, nh, ch, Bh, mh, kh, Dh, ph, qh, sg, sh, rfl, rfl, HV.out, HBC.out, HBD.out, HSg.out, HSh.out, ⟨HJg.out.1.one joinL, HJh.out.1.one joinT⟩⟩)
          refine wpPlan_stop ?_
          go_wp2_with fail
          go_meet
          exact HF.out
        · go_wp2_with fail
          have hkz := (Kept.refl u2).alloc #[.slice none 0 0, .slice none 0 0, .slice none 0 0] 28
          have HNE := Lib.hid (show bD ≠ u2.heap.size from fun e => by have := HBD.out.lt; omega)
          replace HSg := Lib.hid (HSg.out.kept hkz)
          replace HBD := Lib.hid (HBD.out.kept hkz)
          have HBC := Lib.hid (Box3.new u2 (.slice none 0 0) (.slice none 0 0) (.slice none 0 0) 28)
          have HLC := Lib.hid HV.out.2.2
          replace HV := Lib.hid (HV.out.trans hkz)
          obtain ⟨bC, hbz⟩ : ∃ b, (World.heap u2).size = b := ⟨_, rfl⟩
          obtain ⟨u3, hwz⟩ : ∃ u, World.alloc u2 (.cells #[.slice none 0 0, .slice none 0 0, .slice none 0 0] 28) = u := ⟨_, rfl⟩
          rw [hwz] at HBC HV HSg HBD ⊢
          rw [hbz] at HBC HLC HNE ⊢
          clear hkz hbz hwz
          refine soloP HV.out ?_
          rw [wpPlan_one]
          simp only [pickOps_cons, pickOps_nil, consO_some, List.getElem?_cons_zero, List.getElem?_cons_succ]
          go_wp2_with (go_at_call 15; refine (uplay_any A1 1 c1 B1 m1 k1 D1 0 q1 sS A6 0 c6 B6 m6 k6 D6 0 q6 sT _ (HS1.out.kept HV.out) (HS6.out.kept HV.out) ordS ordT (by decide) (by decide) (by decide) (by decide)).mono ?_; rintro e u4 ⟨Ah, nh, ch, Bh, mh, kh, Dh, ph, qh, sh, rfl, hsh, hjh, hkz⟩)
          replace HSg := Lib.hid (HSg.out.kept hkz)
          replace HBC := Lib.hid (HBC.out.kept hkz)
          replace HBD := Lib.hid (HBD.out.kept hkz)
          have HSh := Lib.hid hsh
          have HJh := Lib.hid hjh
          replace HV := Lib.hid (HV.out.trans hkz)
          clear hsh hjh hkz
          refine soloP HV.out ?_
          rw [wpPlan_one]
          simp only [pickOps_cons, pickOps_nil, consO_some, List.getElem?_cons_zero, List.getElem?_cons_succ]
          have hl := HLC.out
          have e0 := HBC.out.c0; have e1 := HBC.out.c1; have e2 := HBC.out.c2; have ef0 := HBC.out.f 0; have ef1 := HBC.out.f 1; have ef2 := HBC.out.f 2
          go_wp2_with fail
          clear e0 e1 e2 ef0 ef1 ef2
          replace HSg := Lib.hid (HBC.out.stt (.slice Ag ng cg) (.slice Bg mg kg) (.slice Dg pg qg) HSg.out)
          replace HSh := Lib.hid (HBC.out.stt (.slice Ag ng cg) (.slice Bg mg kg) (.slice Dg pg qg) HSh.out)
          replace HBD := Lib.hid (HBD.out.set_far HNE.out (.slice Ag ng cg) (.slice Bg mg kg) (.slice Dg pg qg))
          replace HBC := Lib.hid (HBC.out.set3 (.slice Ag ng cg) (.slice Bg mg kg) (.slice Dg pg qg))
          replace HV := Lib.hid (((HV.out.setCell (a := ⟨bC, 0, none⟩) hl (.slice Ag ng cg)).setCell (a := ⟨bC, 1, none⟩) hl (.slice Bg mg kg)).setCell (a := ⟨bC, 2, none⟩) hl (.slice Dg pg qg))
          obtain ⟨u5, hwz⟩ : ∃ u, ((World.setCell u4 ⟨bC, 0, none⟩ (.slice Ag ng cg)).setCell ⟨bC, 1, none⟩ (.slice Bg mg kg)).setCell ⟨bC, 2, none⟩ (.slice Dg pg qg) = u := ⟨_, rfl⟩
          rw [hwz] at HV HBC HBD HSg HSh ⊢
          clear hl hwz
          refine soloP HV.out ?_
          rw [wpPlan_one]
          simp only [pickOps_cons, pickOps_nil, consO_some, List.getElem?_cons_zero, List.getElem?_cons_succ]
          have hl := HLD.out
          have e0 := HBD.out.c0; have e1 := HBD.out.c1; have e2 := HBD.out.c2; have ef0 := HBD.out.f 0; have ef1 := HBD.out.f 1; have ef2 := HBD.out.f 2
          go_wp2_with fail
          clear e0 e1 e2 ef0 ef1 ef2
          replace HSg := Lib.hid (HBD.out.stt (.slice Ah nh ch) (.slice Bh mh kh) (.slice Dh ph qh) HSg.out)
          replace HSh := Lib.hid (HBD.out.stt (.slice Ah nh ch) (.slice Bh mh kh) (.slice Dh ph qh) HSh.out)
          replace HBC := Lib.hid (HBC.out.set_far HNE.out.symm (.slice Ah nh ch) (.slice Bh mh kh) (.slice Dh ph qh))
          replace HBD := Lib.hid (HBD.out.set3 (.slice Ah nh ch) (.slice Bh mh kh) (.slice Dh ph qh))
          replace HV := Lib.hid (((HV.out.setCell (a := ⟨bD, 0, none⟩) hl (.slice Ah nh ch)).setCell (a := ⟨bD, 1, none⟩) hl (.slice Bh mh kh)).setCell (a := ⟨bD, 2, none⟩) hl (.slice Dh ph qh))
          obtain ⟨u6, hwz⟩ : ∃ u, ((World.setCell u5 ⟨bD, 0, none⟩ (.slice Ah nh ch)).setCell ⟨bD, 1, none⟩ (.slice Bh mh kh)).setCell ⟨bD, 2, none⟩ (.slice Dh ph qh) = u := ⟨_, rfl⟩
          rw [hwz] at HV HBC HBD HSg HSh ⊢
          clear hl hwz
          refine soloP HV.out ?_
          have HF := Lib.hid (show TwoB W6 (fun s t => s = sL ∧ t = sT) (.pointer (some ⟨bC, 0, none⟩)) (.pointer (some ⟨bD, 0, none⟩)) u6 from ⟨bC, bD, Ag, ng, cg, Bg, mg, kg, Dg, pg, qg, Ah, nh, ch, Bh, mh, kh, Dh, ph, qh, sg, sh, rfl, rfl, HV.out, HBC.out, HBD.out, HSg.out, HSh.out, ⟨HJg.out.1.one joinL, HJh.out.1.one joinT⟩⟩)
          refine wpPlan_stop ?_
          go_wp2_with fail
          go_meet
          exact HF.out
      · go_wp2_with fail
        have hkz := (Kept.refl u1).alloc #[.slice none 0 0, .slice none 0 0, .slice none 0 0] 28
        have HNE := Lib.hid (show bD ≠ u1.heap.size from fun e => by have := HBD.out.lt; omega)
        replace HBD := Lib.hid (HBD.out.kept hkz)
        have HBC := Lib.hid (Box3.new u1 (.slice none 0 0) (.slice none 0 0) (.slice none 0 0) 28)
        have HLC := Lib.hid HV.out.2.2
        replace HV := Lib.hid (HV.out.trans hkz)
        obtain ⟨bC, hbz⟩ : ∃ b, (World.heap u1).size = b := ⟨_, rfl⟩
        obtain ⟨u2, hwz⟩ : ∃ u, World.alloc u1 (.cells #[.slice none 0 0, .slice none 0 0, .slice none 0 0] 28) = u := ⟨_, rfl⟩
        rw [hwz] at HBC HV HBD ⊢
        rw [hbz] at HBC HLC HNE ⊢
        clear hkz hbz hwz
        refine soloP HV.out ?_
        rw [wpPlan_one]
        simp only [pickOps_cons, pickOps_nil, consO_some, List.getElem?_cons_zero, List.getElem?_cons_succ]
        go_wp2_with (go_at_call 15; refine (uplay_any A1 1 c1 B1 m1 k1 D1 0 q1 sS A5 1 c5 B5 m5 k5 D5 0 q5 sL _ (HS1.out.kept HV.out) (HS5.out.kept HV.out) ordS ordL (by decide) (by decide) (by decide) (by decide)).mono ?_; rintro e u3 ⟨Ag, ng, cg, Bg, mg, kg, Dg, pg, qg, sg, rfl, hsg, hjg, hkz⟩)
        replace HBC := Lib.hid (HBC.out.kept hkz)
        replace HBD := Lib.hid (HBD.out.kept hkz)
        have HSg := Lib.hid hsg
        have HJg := Lib.hid hjg
        replace HV := Lib.hid (HV.out.trans hkz)
        clear hsg hjg hkz
        refine soloP HV.out ?_
        rw [wpPlan_one]
        simp only [pickOps_cons, pickOps_nil, consO_some, List.getElem?_cons_zero, List.getElem?_cons_succ]
        go_wp2_with (go_at_call 15; refine (uplay_any A1 1 c1 B1 m1 k1 D1 0 q1 sS A6 0 c6 B6 m6 k6 D6 0 q6 sT _ (HS1.out.kept HV.out) (HS6.out.kept HV.out) ordS ordT (by decide) (by decide) (by decide) (by decide)).mono ?_; rintro e u4 ⟨Ah, nh, ch, Bh, mh, kh, Dh, ph, qh, sh, rfl, hsh, hjh, hkz⟩)
        replace HSg := Lib.hid (HSg.out.kept hkz)
        replace HBC := Lib.hid (HBC.out.kept hkz)
        replace HBD := Lib.hid (HBD.out.kept hkz)
        have HSh := Lib.hid hsh
        have HJh := Lib.hid hjh
        replace HV := Lib.hid (HV.out.trans hkz)
        clear hsh hjh hkz
        refine soloP HV.out ?_
        rw [wpPlan_one]
        simp only [pickOps_cons, pickOps_nil, consO_some, List.getElem?_cons_zero, List.getElem?_cons_succ]
        have hl := HLC.out
        have e0 := HBC.out.c0; have e1 := HBC.out.c1; have e2 := HBC.out.c2; have ef0 := HBC.out.f 0; have ef1 := HBC.out.f 1; have ef2 := HBC.out.f 2
        go_wp2_with fail
        clear e0 e1 e2 ef0 ef1 ef2
        replace HSg := Lib.hid (HBC.out.stt (.slice Ag ng cg) (.slice Bg mg kg) (.slice Dg pg qg) HSg.out)
        replace HSh := Lib.hid (HBC.out.stt (.slice Ag ng cg) (.slice Bg mg kg) (.slice Dg pg qg) HSh.out)
        replace HBD := Lib.hid (HBD.out.set_far HNE.out (.slice Ag ng cg) (.slice Bg mg kg) (.slice Dg pg qg))
        replace HBC := Lib.hid (HBC.out.set3 (.slice Ag ng cg) (.slice Bg mg kg) (.slice Dg pg qg))
        replace HV := Lib.hid (((HV.out.setCell (a := ⟨bC, 0, none⟩) hl (.slice Ag ng cg)).setCell (a := ⟨bC, 1, none⟩) hl (.slice Bg mg kg)).setCell (a := ⟨bC, 2, none⟩) hl (.slice Dg pg qg))
        obtain ⟨u5, hwz⟩ : ∃ u, ((World.setCell u4 ⟨bC, 0, none⟩ (.slice Ag ng cg)).setCell ⟨bC, 1, none⟩ (.slice Bg mg kg)).setCell ⟨bC, 2, none⟩ (.slice Dg pg qg) = u := ⟨_, rfl⟩
        rw [hwz] at HV HBC HBD HSg HSh ⊢
        clear hl hwz
        refine soloP HV.out ?_
        rw [wpPlan_one]
        simp only [pickOps_cons, pickOps_nil, consO_some, List.getElem?_cons_zero, List.getElem?_cons_succ]
        have hl := HLD.out
        have e0 := HBD.out.c0; have e1 := HBD.out.c1; have e2 := HBD.out.c2; have ef0 := HBD.out.f 0; have ef1 := HBD.out.f 1; have ef2 := HBD.out.f 2
        go_wp2_with fail
        clear e0 e1 e2 ef0 ef1 ef2
        replace HSg := Lib.hid (HBD.out.stt (.slice Ah nh ch) (.slice Bh mh kh) (.slice Dh ph qh) HSg.out)
        replace HSh := Lib.hid (HBD.out.stt (.slice Ah nh ch) (.slice Bh mh kh) (.slice Dh ph qh) HSh.out)
        replace HBC := Lib.hid (HBC.out.set_far HNE.out.symm (.slice Ah nh ch) (.slice Bh mh kh) (.slice Dh ph qh))
        replace HBD := Lib.hid (HBD.out.set3 (.slice Ah nh ch) (.slice Bh mh kh) (.slice Dh ph qh))
        replace HV := Lib.hid (((HV.out.setCell (a := ⟨bD, 0, none⟩) hl (.slice Ah nh ch)).setCell (a := ⟨bD, 1, none⟩) hl (.slice Bh mh kh)).setCell (a := ⟨bD, 2, none⟩) hl (.slice Dh ph qh))
        obtain ⟨u6, hwz⟩ : ∃ u, ((World.setCell u5 ⟨bD, 0, none⟩ (.slice Ah nh ch)).setCell ⟨bD, 1, none⟩ (.slice Bh mh kh)).setCell ⟨bD, 2, none⟩ (.slice Dh ph qh) = u := ⟨_, rfl⟩
        rw [hwz] at HV HBC HBD HSg HSh ⊢
        clear hl hwz
        refine soloP HV.out ?_
        have HF := Lib.hid (show TwoB W6 (fun s t => s = sL ∧ t = sT) (.pointer (some ⟨bC, 0, none⟩)) (.pointer (some ⟨bD, 0, none⟩)) u6 from ⟨bC, bD, Ag, ng, cg, Bg, mg, kg, Dg, pg, qg, Ah, nh, ch, Bh, mh, kh, Dh, ph, qh, sg, sh, rfl, rfl, HV.out, HBC.out, HBD.out, HSg.out, HSh.out, ⟨HJg.out.1.one joinL, HJh.out.1.one joinT⟩⟩)
        refine wpPlan_stop ?_
        go_wp2_with fail
        go_meet
        exact HF.out
  case rest =>
    clear X0 X1 X2 Y0 Y1 Y2 T0 T1 T2
    obtain ⟨b8, b9, A8, n8, c8, B8, m8, k8, D8, p8, q8, A9, n9, c9, B9, m9, k9, D9, p9, q9, _, _, rfl, rfl, hk8, hb8, hb9, hs8, hs9, rfl, rfl⟩ := hcut
    have HB8 := Lib.hid hb8; have HB9 := Lib.hid hb9; have HS8 := Lib.hid hs8; have HS9 := Lib.hid hs9
    replace HW := Lib.hid (HW.out.trans hk8)
    replace HD2 := Lib.hid (HD2.out.kept hk8); replace HB5 := Lib.hid (HB5.out.kept hk8); replace HS5 := Lib.hid (HS5.out.kept hk8); replace HB6 := Lib.hid (HB6.out.kept hk8); replace HS6 := Lib.hid (HS6.out.kept hk8)
    have hn8 : n8 = 1 := hs8.el.1
    have hn9 : n9 = 0 := hs9.el.1
    have hp9 : p9 = 0 := hs9.dl.1
    clear hk8 hb8 hb9 hs8 hs9
    subst hn8 hn9 hp9
    obtain ⟨g, o, y, rfl, hy, EY⟩ := HS8.out.el.get (k := 0) (by decide)
    obtain rfl : eL = y := by simpa [sL] using hy
    have y5 := EY.c5
    simp only [Nat.zero_mul, Nat.add_zero, eL] at y5
    clear EY hy
    have x0 := HB8.out.c0; have z0 := HB9.out.c0; have z1 := HB9.out.c1; have z2 := HB9.out.c2; have l0 := HB5.out.c0; have d0 := HD2.out.c0; have d1 := HD2.out.c1
    go_wp2_with fail
    go_at_call 18
    refine (ghas_any B9 m9 k9 [0, 2] D9 0 q9 [] 1 2 _ HS9.out.il HS9.out.dl true (decide_eq_true ((hasV2 0 2 _).2 (by simp)))).mono ?_
    rintro e w1 ⟨rfl, hk⟩
    replace HW := Lib.hid (HW.out.trans hk)
    replace HB5 := Lib.hid (HB5.out.kept hk); replace HS5 := Lib.hid (HS5.out.kept hk); replace HB6 := Lib.hid (HB6.out.kept hk); replace HS6 := Lib.hid (HS6.out.kept hk)
    clear hk
    clear x0 z0 z1 z2 l0 d0 d1 y5
    have l0 := HB5.out.c0; have l1 := HB5.out.c1; have l2 := HB5.out.c2
    go_wp2_with fail
    go_at_call 19
    refine (sright_any A5 1 c5 sL.L B5 m5 k5 sL.V D5 0 q5 sL.C _ HS5.out.el HS5.out.il HS5.out.dl ordL.ctx (by decide) (by decide) sizeL true ⟨fun _ => okL, fun _ => rfl⟩).mono ?_
    rintro e w2 ⟨rfl, hk⟩
    replace HW := Lib.hid (HW.out.trans hk)
    replace HB6 := Lib.hid (HB6.out.kept hk); replace HS6 := Lib.hid (HS6.out.kept hk)
    clear hk
    clear l0 l1 l2
    have l0 := HB6.out.c0; have l1 := HB6.out.c1; have l2 := HB6.out.c2
    go_wp2_with fail
    go_at_call 19
    refine (sright_any A6 0 c6 sT.L B6 m6 k6 sT.V D6 0 q6 sT.C _ HS6.out.el HS6.out.il HS6.out.dl ordT.ctx (by decide) (by decide) sizeT true ⟨fun _ => okT, fun _ => rfl⟩).mono ?_
    rintro e w3 ⟨rfl, hk⟩
    replace HW := Lib.hid (HW.out.trans hk)

    clear hk
    clear l0 l1 l2
    go_wp2_with fail
    go_ret
    exact ⟨rfl, HW.out⟩
end Go.Proofs.YtkooihljddibfaaGreat
