/-
  What is proved: the Go function JoinRing of layer 9's laws, called with any events whose paths are of bounded length, returns true; the world has new blocks at most.
-/
import Derived.Test.YtcldbmhjfmbcfaaGreatM31
import Derived.Test.YtcldbmhjfmbcfaaGreatJPlayW
import Derived.Test.YtcldbmhjfmbcfaaGreatM35
import Derived.Test.YtcldbmhjfmbcfaaGreatSRight
import Derived.Test.YtcldbmhjfmbcfaaGreatM36
import Derived.Deep.DeepCutAuto
namespace Go.Proofs.YtcldbmhjfmbcfaaGreat
open Go.RowKit
set_option linter.unusedVariables false

set_option maxRecDepth 100000 in
set_option maxHeartbeats 32000000 in
theorem joinRing_any (A : Option Addr) (n c : Nat) (L : List Ev) (w : World) (h : Evl w A n c L) (hs : ∀ x ∈ L, x.path.size ≤ 1048576) :
    Calls Tryz.prog 3 #[.slice A n c] w fun e w' => e = .returned (.bool true) ∧ Kept w w' := by
  obtain ⟨r, hr⟩ := bool_iff ((∀ x ∈ L, L4.rightS x.path = true) ∧ n ≤ 40)
  have hcap := h.cap.1; have hcap2 := h.cap.2
  have AF := Lib.hid (fair_any A n c L w h (fun x hx => Nat.le_trans (hs x hx) (by decide)) r hr)
  have HL := Lib.hid h; have HR := Lib.hid hr
  clear h hs hr
  cases r with
  | false =>
    go_enter Tryz.func3, Tryz.ntmps3
    go_wp2_with fail
    go_at_call 6
    refine AF.out.mono ?_
    rintro e w1 ⟨rfl, hk1⟩
    have HK1 := Lib.hid hk1
    clear hk1
    go_wp2_with fail
    go_at_call 7
    refine (jawake_any w1).mono ?_
    rintro e w2 ⟨rfl, hk2⟩
    have HK2 := Lib.hid (HK1.out.trans hk2)
    clear hk2
    go_wp2_with fail
    go_ret
    exact ⟨rfl, HK2.out⟩
  | true =>
    obtain ⟨hp, h40⟩ := HR.out.1 rfl
    have HP := Lib.hid hp
    clear hp HR
    go_enter Tryz.func3, Tryz.ntmps3
    go_wp2_with fail
    go_at_call 6
    refine AF.out.mono ?_
    rintro e w1 ⟨rfl, hk1⟩
    have HK1 := Lib.hid hk1
    clear hk1
    go_wp2_with fail
    go_at_call 8
    refine (play_any A n c L w1 (HL.out.kept HK1.out) h40 HP.out).mono ?_
    rintro e w2 ⟨p, A0, n0, c0, B0, m0, k0, D0, p0, q0, A1, n1, c1, B1, m1, k1, D1, p1, q1, A2, n2, c2, B2, m2, k2, D2, p2, q2, rfl, hs0, hs1, hs2, hinv, hk2⟩
    have har := arr_three 32 hs0 hs1 hs2
    have hka := (HK1.out.trans hk2).alloc #[.slice A0 n0 c0, .slice B0 m0 k0, .slice D0 p0 q0, .slice A1 n1 c1, .slice B1 m1 k1, .slice D1 p1 q1, .slice A2 n2 c2, .slice B2 m2 k2, .slice D2 p2 q2] 32
    have HINV := Lib.hid hinv
    obtain ⟨b3, hb3⟩ : ∃ b3, w2.heap.size = b3 := ⟨_, rfl⟩
    obtain ⟨W3, hW3⟩ : ∃ W3, w2.alloc (.cells #[.slice A0 n0 c0, .slice B0 m0 k0, .slice D0 p0 q0, .slice A1 n1 c1, .slice B1 m1 k1, .slice D1 p1 q1, .slice A2 n2 c2, .slice B2 m2 k2, .slice D2 p2 q2] 32) = W3 := ⟨_, rfl⟩
    rw [hb3, hW3] at har
    rw [hW3] at hka
    have HAR := Lib.hid har; have HK3 := Lib.hid hka; have HB3 := Lib.hid hb3; have HW3 := Lib.hid hW3
    clear hs0 hs1 hs2 hinv hk2 hka har hb3 hW3 AF HL HP HK1 hcap hcap2
    go_wp2_with fail
    rw [HW3.out, HB3.out]
    obtain ⟨Aa, na, ca, Ba, ma, ka, Da, pa, qa, sa0, sa1, sa2, hsa⟩ := HAR.out.lit (k := 0) (by decide) (o0 := 0) (o1 := 1) (o2 := 2) rfl rfl rfl
    have HSa := Lib.hid hsa
    have hfa := HINV.out.size h40 (k := 0) (by decide)
    have hna : na ≤ 120 := by have := hsa.el.1; omega
    have hpa : pa ≤ 120 := by have := hsa.dl.1; omega
    have HOa := Lib.hid (HINV.out.ord 0 (by decide))
    have HFa := Lib.hid hfa
    have Xa0 := KExt.cell sa0; have Xa1 := KExt.cell sa1; have Xa2 := KExt.cell sa2
    clear hsa hfa sa0 sa1 sa2
    obtain ⟨Ab, nb, cb, Bb, mb, kb, Db, pb, qb, sb0, sb1, sb2, hsb⟩ := HAR.out.lit (k := 1) (by decide) (o0 := 3) (o1 := 4) (o2 := 5) rfl rfl rfl
    have HSb := Lib.hid hsb
    have hfb := HINV.out.size h40 (k := 1) (by decide)
    have hnb : nb ≤ 120 := by have := hsb.el.1; omega
    have hpb : pb ≤ 120 := by have := hsb.dl.1; omega
    have HOb := Lib.hid (HINV.out.ord 1 (by decide))
    have HFb := Lib.hid hfb
    have Xb0 := KExt.cell sb0; have Xb1 := KExt.cell sb1; have Xb2 := KExt.cell sb2
    clear hsb hfb sb0 sb1 sb2
    obtain ⟨Ac, nc, cc, Bc, mc, kc, Dc, pc, qc, sc0, sc1, sc2, hsc⟩ := HAR.out.lit (k := 2) (by decide) (o0 := 6) (o1 := 7) (o2 := 8) rfl rfl rfl
    have HSc := Lib.hid hsc
    have hfc := HINV.out.size h40 (k := 2) (by decide)
    have hnc : nc ≤ 120 := by have := hsc.el.1; omega
    have hpc : pc ≤ 120 := by have := hsc.dl.1; omega
    have HOc := Lib.hid (HINV.out.ord 2 (by decide))
    have HFc := Lib.hid hfc
    have Xc0 := KExt.cell sc0; have Xc1 := KExt.cell sc1; have Xc2 := KExt.cell sc2
    clear hsc hfc sc0 sc1 sc2
    go_cut [4, 5, 6] (fun s4 s5 s6 wx => RingC W3 (.slice Aa na ca) (.slice Ba ma ka) (.slice Da pa qa) (.slice Ab nb cb) (.slice Bb mb kb) (.slice Db pb qb) (.slice Ac nc cc) (.slice Bc mc kc) (.slice Dc pc qc) s4 s5 s6 wx)
    case first =>
      refine region_plan W3 12 (.read [0, 1, 2, 3, 4, 5] (.three 6 (.two 7 (.one 8 (.one 9 (.one 10 (.one 11 .stop)))) 8 (.one 7 (.one 9 (.one 10 (.one 11 .stop))))) 7 (.two 6 (.one 8 (.one 9 (.one 10 (.one 11 .stop)))) 8 (.one 6 (.one 9 (.one 10 (.one 11 .stop))))) 8 (.two 6 (.one 7 (.one 9 (.one 10 (.one 11 .stop)))) 7 (.one 6 (.one 9 (.one 10 (.one 11 .stop))))))) (by kernel_rfl) (by kernel_rfl) (by kernel_rfl) (by kernel_rfl) (by kernel_rfl) (fun _ d _ _ _ h => by cases d <;> exact h) (Kept.refl _) ?_
      intro wd hwd
      have HV := Lib.hid hwd
      clear hwd
      rw [wpPlan_read]
      simp only [pickOps_cons, pickOps_nil, consO_some, List.getElem?_cons_zero, List.getElem?_cons_succ]
      repeat (go_big_quiet_step (fail))
      refine wpQuiet_nil ?_
      clear Xa0 Xa1 Xa2 Xb0 Xb1 Xb2 Xc0 Xc1 Xc2
      rw [wpPlan_three]
      simp only [pickOps_cons, pickOps_nil, consO_some, List.getElem?_cons_zero, List.getElem?_cons_succ]
      refine ⟨?_, ?_, ?_⟩
      · go_wp2_with fail
        have hkn := (Kept.refl wd).alloc #[.slice none 0 0, .slice none 0 0, .slice none 0 0] 31
        have HB4 := Lib.hid (Box3.new wd (.slice none 0 0) (.slice none 0 0) (.slice none 0 0) 31)
        obtain ⟨z4, hz⟩ : ∃ z, (World.heap wd).size = z := ⟨_, rfl⟩
        have HL4 := Lib.hid (show W3.heap.size ≤ z4 by rw [← hz]; exact HV.out.2.2)
        replace HV := Lib.hid (HV.out.trans hkn)
        obtain ⟨v1, hv⟩ : ∃ v, World.alloc wd (.cells #[.slice none 0 0, .slice none 0 0, .slice none 0 0] 31) = v := ⟨_, rfl⟩
        rw [hz, hv] at HB4
        rw [hv] at HV ⊢
        rw [hz]
        clear hkn hz hv
        refine soloP HV.out ?_
        rw [wpPlan_two]
        simp only [pickOps_cons, pickOps_nil, consO_some, List.getElem?_cons_zero, List.getElem?_cons_succ]
        constructor
        · go_wp2_with fail
          have hkn := (Kept.refl v1).alloc #[.slice none 0 0, .slice none 0 0, .slice none 0 0] 31
          have HB5 := Lib.hid (Box3.new v1 (.slice none 0 0) (.slice none 0 0) (.slice none 0 0) 31)
          obtain ⟨z5, hz⟩ : ∃ z, (World.heap v1).size = z := ⟨_, rfl⟩
          have HL5 := Lib.hid (show W3.heap.size ≤ z5 by rw [← hz]; exact HV.out.2.2)
          have HN45 := Lib.hid (show z4 ≠ z5 from fun e => by have := HB4.out.lt; omega)
          replace HB4 := Lib.hid (HB4.out.kept hkn)
          replace HV := Lib.hid (HV.out.trans hkn)
          obtain ⟨v2, hv⟩ : ∃ v, World.alloc v1 (.cells #[.slice none 0 0, .slice none 0 0, .slice none 0 0] 31) = v := ⟨_, rfl⟩
          rw [hz, hv] at HB5
          rw [hv] at HB4 HV ⊢
          rw [hz]
          clear hkn hz hv
          refine soloP HV.out ?_
          rw [wpPlan_one]
          simp only [pickOps_cons, pickOps_nil, consO_some, List.getElem?_cons_zero, List.getElem?_cons_succ]
          go_wp2_with fail
          have hkn := (Kept.refl v2).alloc #[.slice none 0 0, .slice none 0 0, .slice none 0 0] 31
          have HB6 := Lib.hid (Box3.new v2 (.slice none 0 0) (.slice none 0 0) (.slice none 0 0) 31)
          obtain ⟨z6, hz⟩ : ∃ z, (World.heap v2).size = z := ⟨_, rfl⟩
          have HL6 := Lib.hid (show W3.heap.size ≤ z6 by rw [← hz]; exact HV.out.2.2)
          have HN46 := Lib.hid (show z4 ≠ z6 from fun e => by have := HB4.out.lt; omega)
          replace HB4 := Lib.hid (HB4.out.kept hkn)
          have HN56 := Lib.hid (show z5 ≠ z6 from fun e => by have := HB5.out.lt; omega)
          replace HB5 := Lib.hid (HB5.out.kept hkn)
          replace HV := Lib.hid (HV.out.trans hkn)
          obtain ⟨v3, hv⟩ : ∃ v, World.alloc v2 (.cells #[.slice none 0 0, .slice none 0 0, .slice none 0 0] 31) = v := ⟨_, rfl⟩
          rw [hz, hv] at HB6
          rw [hv] at HB4 HB5 HV ⊢
          rw [hz]
          clear hkn hz hv
          refine soloP HV.out ?_
          rw [wpPlan_one]
          simp only [pickOps_cons, pickOps_nil, consO_some, List.getElem?_cons_zero, List.getElem?_cons_succ]
          have hl := HL4.out
          have e0 := HB4.out.c0; have e1 := HB4.out.c1; have e2 := HB4.out.c2; have ef0 := HB4.out.f 0; have ef1 := HB4.out.f 1; have ef2 := HB4.out.f 2
          replace HV := Lib.hid (((HV.out.setCell (a := ⟨z4, 0, none⟩) hl (.slice Aa na ca)).setCell (a := ⟨z4, 1, none⟩) hl (.slice Ba ma ka)).setCell (a := ⟨z4, 2, none⟩) hl (.slice Da pa qa))
          replace HB4 := Lib.hid (HB4.out.set3 (.slice Aa na ca) (.slice Ba ma ka) (.slice Da pa qa))
          replace HB5 := Lib.hid (HB5.out.put3 (Ne.symm HN45.out) (.slice Aa na ca) (.slice Ba ma ka) (.slice Da pa qa))
          replace HB6 := Lib.hid (HB6.out.put3 (Ne.symm HN46.out) (.slice Aa na ca) (.slice Ba ma ka) (.slice Da pa qa))
          clear hl
          go_wp2_with fail
          refine soloP HV.out ?_
          clear e0 e1 e2 ef0 ef1 ef2
          obtain ⟨w4, hv⟩ : ∃ v, ((World.setCell v3 ⟨z4, 0, none⟩ (.slice Aa na ca)).setCell ⟨z4, 1, none⟩ (.slice Ba ma ka)).setCell ⟨z4, 2, none⟩ (.slice Da pa qa) = v := ⟨_, rfl⟩
          rw [hv] at HB4 HB5 HB6 HV ⊢
          clear hv
          rw [wpPlan_one]
          simp only [pickOps_cons, pickOps_nil, consO_some, List.getElem?_cons_zero, List.getElem?_cons_succ]
          have hl := HL5.out
          have e0 := HB5.out.c0; have e1 := HB5.out.c1; have e2 := HB5.out.c2; have ef0 := HB5.out.f 0; have ef1 := HB5.out.f 1; have ef2 := HB5.out.f 2
          replace HV := Lib.hid (((HV.out.setCell (a := ⟨z5, 0, none⟩) hl (.slice Ab nb cb)).setCell (a := ⟨z5, 1, none⟩) hl (.slice Bb mb kb)).setCell (a := ⟨z5, 2, none⟩) hl (.slice Db pb qb))
          replace HB5 := Lib.hid (HB5.out.set3 (.slice Ab nb cb) (.slice Bb mb kb) (.slice Db pb qb))
          replace HB4 := Lib.hid (HB4.out.put3 HN45.out (.slice Ab nb cb) (.slice Bb mb kb) (.slice Db pb qb))
          replace HB6 := Lib.hid (HB6.out.put3 (Ne.symm HN56.out) (.slice Ab nb cb) (.slice Bb mb kb) (.slice Db pb qb))
          clear hl
          go_wp2_with fail
          refine soloP HV.out ?_
          clear e0 e1 e2 ef0 ef1 ef2
          obtain ⟨w5, hv⟩ : ∃ v, ((World.setCell w4 ⟨z5, 0, none⟩ (.slice Ab nb cb)).setCell ⟨z5, 1, none⟩ (.slice Bb mb kb)).setCell ⟨z5, 2, none⟩ (.slice Db pb qb) = v := ⟨_, rfl⟩
          rw [hv] at HB4 HB5 HB6 HV ⊢
          clear hv
          rw [wpPlan_one]
          simp only [pickOps_cons, pickOps_nil, consO_some, List.getElem?_cons_zero, List.getElem?_cons_succ]
          have hl := HL6.out
          have e0 := HB6.out.c0; have e1 := HB6.out.c1; have e2 := HB6.out.c2; have ef0 := HB6.out.f 0; have ef1 := HB6.out.f 1; have ef2 := HB6.out.f 2
          replace HV := Lib.hid (((HV.out.setCell (a := ⟨z6, 0, none⟩) hl (.slice Ac nc cc)).setCell (a := ⟨z6, 1, none⟩) hl (.slice Bc mc kc)).setCell (a := ⟨z6, 2, none⟩) hl (.slice Dc pc qc))
          replace HB6 := Lib.hid (HB6.out.set3 (.slice Ac nc cc) (.slice Bc mc kc) (.slice Dc pc qc))
          replace HB4 := Lib.hid (HB4.out.put3 HN46.out (.slice Ac nc cc) (.slice Bc mc kc) (.slice Dc pc qc))
          replace HB5 := Lib.hid (HB5.out.put3 HN56.out (.slice Ac nc cc) (.slice Bc mc kc) (.slice Dc pc qc))
          clear hl
          go_wp2_with fail
          refine soloP HV.out ?_
          clear e0 e1 e2 ef0 ef1 ef2
          obtain ⟨w6, hv⟩ : ∃ v, ((World.setCell w5 ⟨z6, 0, none⟩ (.slice Ac nc cc)).setCell ⟨z6, 1, none⟩ (.slice Bc mc kc)).setCell ⟨z6, 2, none⟩ (.slice Dc pc qc) = v := ⟨_, rfl⟩
          rw [hv] at HB4 HB5 HB6 HV ⊢
          clear hv
          refine wpPlan_stop ?_
          have HF := Lib.hid (show RingC W3 (.slice Aa na ca) (.slice Ba ma ka) (.slice Da pa qa) (.slice Ab nb cb) (.slice Bb mb kb) (.slice Db pb qb) (.slice Ac nc cc) (.slice Bc mc kc) (.slice Dc pc qc) (.pointer (some ⟨z4, 0, none⟩)) (.pointer (some ⟨z5, 0, none⟩)) (.pointer (some ⟨z6, 0, none⟩)) w6 from ⟨z4, z5, z6, rfl, rfl, rfl, HV.out, HB4.out, HB5.out, HB6.out⟩)
          go_wp2_with fail
          go_meet
          exact HF.out
        · go_wp2_with fail
          have hkn := (Kept.refl v1).alloc #[.slice none 0 0, .slice none 0 0, .slice none 0 0] 31
          have HB6 := Lib.hid (Box3.new v1 (.slice none 0 0) (.slice none 0 0) (.slice none 0 0) 31)
          obtain ⟨z6, hz⟩ : ∃ z, (World.heap v1).size = z := ⟨_, rfl⟩
          have HL6 := Lib.hid (show W3.heap.size ≤ z6 by rw [← hz]; exact HV.out.2.2)
          have HN46 := Lib.hid (show z4 ≠ z6 from fun e => by have := HB4.out.lt; omega)
          replace HB4 := Lib.hid (HB4.out.kept hkn)
          replace HV := Lib.hid (HV.out.trans hkn)
          obtain ⟨v2, hv⟩ : ∃ v, World.alloc v1 (.cells #[.slice none 0 0, .slice none 0 0, .slice none 0 0] 31) = v := ⟨_, rfl⟩
          rw [hz, hv] at HB6
          rw [hv] at HB4 HV ⊢
          rw [hz]
          clear hkn hz hv
          refine soloP HV.out ?_
          rw [wpPlan_one]
          simp only [pickOps_cons, pickOps_nil, consO_some, List.getElem?_cons_zero, List.getElem?_cons_succ]
          go_wp2_with fail
          have hkn := (Kept.refl v2).alloc #[.slice none 0 0, .slice none 0 0, .slice none 0 0] 31
          have HB5 := Lib.hid (Box3.new v2 (.slice none 0 0) (.slice none 0 0) (.slice none 0 0) 31)
          obtain ⟨z5, hz⟩ : ∃ z, (World.heap v2).size = z := ⟨_, rfl⟩
          have HL5 := Lib.hid (show W3.heap.size ≤ z5 by rw [← hz]; exact HV.out.2.2)
          have HN45 := Lib.hid (show z4 ≠ z5 from fun e => by have := HB4.out.lt; omega)
          replace HB4 := Lib.hid (HB4.out.kept hkn)
          have HN65 := Lib.hid (show z6 ≠ z5 from fun e => by have := HB6.out.lt; omega)
          replace HB6 := Lib.hid (HB6.out.kept hkn)
          replace HV := Lib.hid (HV.out.trans hkn)
          obtain ⟨v3, hv⟩ : ∃ v, World.alloc v2 (.cells #[.slice none 0 0, .slice none 0 0, .slice none 0 0] 31) = v := ⟨_, rfl⟩
          rw [hz, hv] at HB5
          rw [hv] at HB4 HB6 HV ⊢
          rw [hz]
          clear hkn hz hv
          refine soloP HV.out ?_
          rw [wpPlan_one]
          simp only [pickOps_cons, pickOps_nil, consO_some, List.getElem?_cons_zero, List.getElem?_cons_succ]
          have hl := HL4.out
          have e0 := HB4.out.c0; have e1 := HB4.out.c1; have e2 := HB4.out.c2; have ef0 := HB4.out.f 0; have ef1 := HB4.out.f 1; have ef2 := HB4.out.f 2
          replace HV := Lib.hid (((HV.out.setCell (a := ⟨z4, 0, none⟩) hl (.slice Aa na ca)).setCell (a := ⟨z4, 1, none⟩) hl (.slice Ba ma ka)).setCell (a := ⟨z4, 2, none⟩) hl (.slice Da pa qa))
          replace HB4 := Lib.hid (HB4.out.set3 (.slice Aa na ca) (.slice Ba ma ka) (.slice Da pa qa))
          replace HB5 := Lib.hid (HB5.out.put3 (Ne.symm HN45.out) (.slice Aa na ca) (.slice Ba ma ka) (.slice Da pa qa))
          replace HB6 := Lib.hid (HB6.out.put3 (Ne.symm HN46.out) (.slice Aa na ca) (.slice Ba ma ka) (.slice Da pa qa))
          clear hl
          go_wp2_with fail
          refine soloP HV.out ?_
          clear e0 e1 e2 ef0 ef1 ef2
          obtain ⟨w4, hv⟩ : ∃ v, ((World.setCell v3 ⟨z4, 0, none⟩ (.slice Aa na ca)).setCell ⟨z4, 1, none⟩ (.slice Ba ma ka)).setCell ⟨z4, 2, none⟩ (.slice Da pa qa) = v := ⟨_, rfl⟩
          rw [hv] at HB4 HB5 HB6 HV ⊢
          clear hv
          rw [wpPlan_one]
          simp only [pickOps_cons, pickOps_nil, consO_some, List.getElem?_cons_zero, List.getElem?_cons_succ]
          have hl := HL5.out
          have e0 := HB5.out.c0; have e1 := HB5.out.c1; have e2 := HB5.out.c2; have ef0 := HB5.out.f 0; have ef1 := HB5.out.f 1; have ef2 := HB5.out.f 2
          replace HV := Lib.hid (((HV.out.setCell (a := ⟨z5, 0, none⟩) hl (.slice Ab nb cb)).setCell (a := ⟨z5, 1, none⟩) hl (.slice Bb mb kb)).setCell (a := ⟨z5, 2, none⟩) hl (.slice Db pb qb))
          replace HB5 := Lib.hid (HB5.out.set3 (.slice Ab nb cb) (.slice Bb mb kb) (.slice Db pb qb))
          replace HB4 := Lib.hid (HB4.out.put3 HN45.out (.slice Ab nb cb) (.slice Bb mb kb) (.slice Db pb qb))
          replace HB6 := Lib.hid (HB6.out.put3 HN65.out (.slice Ab nb cb) (.slice Bb mb kb) (.slice Db pb qb))
          clear hl
          go_wp2_with fail
          refine soloP HV.out ?_
          clear e0 e1 e2 ef0 ef1 ef2
          obtain ⟨w5, hv⟩ : ∃ v, ((World.setCell w4 ⟨z5, 0, none⟩ (.slice Ab nb cb)).setCell ⟨z5, 1, none⟩ (.slice Bb mb kb)).setCell ⟨z5, 2, none⟩ (.slice Db pb qb) = v := ⟨_, rfl⟩
          rw [hv] at HB4 HB5 HB6 HV ⊢
          clear hv
          rw [wpPlan_one]
          simp only [pickOps_cons, pickOps_nil, consO_some, List.getElem?_cons_zero, List.getElem?_cons_succ]
          have hl := HL6.out
          have e0 := HB6.out.c0; have e1 := HB6.out.c1; have e2 := HB6.out.c2; have ef0 := HB6.out.f 0; have ef1 := HB6.out.f 1; have ef2 := HB6.out.f 2
          replace HV := Lib.hid (((HV.out.setCell (a := ⟨z6, 0, none⟩) hl (.slice Ac nc cc)).setCell (a := ⟨z6, 1, none⟩) hl (.slice Bc mc kc)).setCell (a := ⟨z6, 2, none⟩) hl (.slice Dc pc qc))
          replace HB6 := Lib.hid (HB6.out.set3 (.slice Ac nc cc) (.slice Bc mc kc) (.slice Dc pc qc))
          replace HB4 := Lib.hid (HB4.out.put3 HN46.out (.slice Ac nc cc) (.slice Bc mc kc) (.slice Dc pc qc))
          replace HB5 := Lib.hid (HB5.out.put3 (Ne.symm HN65.out) (.slice Ac nc cc) (.slice Bc mc kc) (.slice Dc pc qc))
          clear hl
          go_wp2_with fail
          refine soloP HV.out ?_
          clear e0 e1 e2 ef0 ef1 ef2
          obtain ⟨w6, hv⟩ : ∃ v, ((World.setCell w5 ⟨z6, 0, none⟩ (.slice Ac nc cc)).setCell ⟨z6, 1, none⟩ (.slice Bc mc kc)).setCell ⟨z6, 2, none⟩ (.slice Dc pc qc) = v := ⟨_, rfl⟩
          rw [hv] at HB4 HB5 HB6 HV ⊢
          clear hv
          refine wpPlan_stop ?_
          have HF := Lib.hid (show RingC W3 (.slice Aa na ca) (.slice Ba ma ka) (.slice Da pa qa) (.slice Ab nb cb) (.slice Bb mb kb) (.slice Db pb qb) (.slice Ac nc cc) (.slice Bc mc kc) (.slice Dc pc qc) (.pointer (some ⟨z4, 0, none⟩)) (.pointer (some ⟨z5, 0, none⟩)) (.pointer (some ⟨z6, 0, none⟩)) w6 from ⟨z4, z5, z6, rfl, rfl, rfl, HV.out, HB4.out, HB5.out, HB6.out⟩)
          go_wp2_with fail
          go_meet
          exact HF.out
      · go_wp2_with fail
        have hkn := (Kept.refl wd).alloc #[.slice none 0 0, .slice none 0 0, .slice none 0 0] 31
        have HB5 := Lib.hid (Box3.new wd (.slice none 0 0) (.slice none 0 0) (.slice none 0 0) 31)
        obtain ⟨z5, hz⟩ : ∃ z, (World.heap wd).size = z := ⟨_, rfl⟩
        have HL5 := Lib.hid (show W3.heap.size ≤ z5 by rw [← hz]; exact HV.out.2.2)
        replace HV := Lib.hid (HV.out.trans hkn)
        obtain ⟨v1, hv⟩ : ∃ v, World.alloc wd (.cells #[.slice none 0 0, .slice none 0 0, .slice none 0 0] 31) = v := ⟨_, rfl⟩
        rw [hz, hv] at HB5
        rw [hv] at HV ⊢
        rw [hz]
        clear hkn hz hv
        refine soloP HV.out ?_
        rw [wpPlan_two]
        simp only [pickOps_cons, pickOps_nil, consO_some, List.getElem?_cons_zero, List.getElem?_cons_succ]
        constructor
        · go_wp2_with fail
          have hkn := (Kept.refl v1).alloc #[.slice none 0 0, .slice none 0 0, .slice none 0 0] 31
          have HB4 := Lib.hid (Box3.new v1 (.slice none 0 0) (.slice none 0 0) (.slice none 0 0) 31)
          obtain ⟨z4, hz⟩ : ∃ z, (World.heap v1).size = z := ⟨_, rfl⟩
          have HL4 := Lib.hid (show W3.heap.size ≤ z4 by rw [← hz]; exact HV.out.2.2)
          have HN54 := Lib.hid (show z5 ≠ z4 from fun e => by have := HB5.out.lt; omega)
          replace HB5 := Lib.hid (HB5.out.kept hkn)
          replace HV := Lib.hid (HV.out.trans hkn)
          obtain ⟨v2, hv⟩ : ∃ v, World.alloc v1 (.cells #[.slice none 0 0, .slice none 0 0, .slice none 0 0] 31) = v := ⟨_, rfl⟩
          rw [hz, hv] at HB4
          rw [hv] at HB5 HV ⊢
          rw [hz]
          clear hkn hz hv
          refine soloP HV.out ?_
          rw [wpPlan_one]
          simp only [pickOps_cons, pickOps_nil, consO_some, List.getElem?_cons_zero, List.getElem?_cons_succ]
          go_wp2_with fail
          have hkn := (Kept.refl v2).alloc #[.slice none 0 0, .slice none 0 0, .slice none 0 0] 31
          have HB6 := Lib.hid (Box3.new v2 (.slice none 0 0) (.slice none 0 0) (.slice none 0 0) 31)
          obtain ⟨z6, hz⟩ : ∃ z, (World.heap v2).size = z := ⟨_, rfl⟩
          have HL6 := Lib.hid (show W3.heap.size ≤ z6 by rw [← hz]; exact HV.out.2.2)
          have HN56 := Lib.hid (show z5 ≠ z6 from fun e => by have := HB5.out.lt; omega)
          replace HB5 := Lib.hid (HB5.out.kept hkn)
          have HN46 := Lib.hid (show z4 ≠ z6 from fun e => by have := HB4.out.lt; omega)
          replace HB4 := Lib.hid (HB4.out.kept hkn)
          replace HV := Lib.hid (HV.out.trans hkn)
          obtain ⟨v3, hv⟩ : ∃ v, World.alloc v2 (.cells #[.slice none 0 0, .slice none 0 0, .slice none 0 0] 31) = v := ⟨_, rfl⟩
          rw [hz, hv] at HB6
          rw [hv] at HB5 HB4 HV ⊢
          rw [hz]
          clear hkn hz hv
          refine soloP HV.out ?_
          rw [wpPlan_one]
          simp only [pickOps_cons, pickOps_nil, consO_some, List.getElem?_cons_zero, List.getElem?_cons_succ]
          have hl := HL4.out
          have e0 := HB4.out.c0; have e1 := HB4.out.c1; have e2 := HB4.out.c2; have ef0 := HB4.out.f 0; have ef1 := HB4.out.f 1; have ef2 := HB4.out.f 2
          replace HV := Lib.hid (((HV.out.setCell (a := ⟨z4, 0, none⟩) hl (.slice Aa na ca)).setCell (a := ⟨z4, 1, none⟩) hl (.slice Ba ma ka)).setCell (a := ⟨z4, 2, none⟩) hl (.slice Da pa qa))
          replace HB4 := Lib.hid (HB4.out.set3 (.slice Aa na ca) (.slice Ba ma ka) (.slice Da pa qa))
          replace HB5 := Lib.hid (HB5.out.put3 HN54.out (.slice Aa na ca) (.slice Ba ma ka) (.slice Da pa qa))
          replace HB6 := Lib.hid (HB6.out.put3 (Ne.symm HN46.out) (.slice Aa na ca) (.slice Ba ma ka) (.slice Da pa qa))
          clear hl
          go_wp2_with fail
          refine soloP HV.out ?_
          clear e0 e1 e2 ef0 ef1 ef2
          obtain ⟨w4, hv⟩ : ∃ v, ((World.setCell v3 ⟨z4, 0, none⟩ (.slice Aa na ca)).setCell ⟨z4, 1, none⟩ (.slice Ba ma ka)).setCell ⟨z4, 2, none⟩ (.slice Da pa qa) = v := ⟨_, rfl⟩
          rw [hv] at HB4 HB5 HB6 HV ⊢
          clear hv
          rw [wpPlan_one]
          simp only [pickOps_cons, pickOps_nil, consO_some, List.getElem?_cons_zero, List.getElem?_cons_succ]
          have hl := HL5.out
          have e0 := HB5.out.c0; have e1 := HB5.out.c1; have e2 := HB5.out.c2; have ef0 := HB5.out.f 0; have ef1 := HB5.out.f 1; have ef2 := HB5.out.f 2
          replace HV := Lib.hid (((HV.out.setCell (a := ⟨z5, 0, none⟩) hl (.slice Ab nb cb)).setCell (a := ⟨z5, 1, none⟩) hl (.slice Bb mb kb)).setCell (a := ⟨z5, 2, none⟩) hl (.slice Db pb qb))
          replace HB5 := Lib.hid (HB5.out.set3 (.slice Ab nb cb) (.slice Bb mb kb) (.slice Db pb qb))
          replace HB4 := Lib.hid (HB4.out.put3 (Ne.symm HN54.out) (.slice Ab nb cb) (.slice Bb mb kb) (.slice Db pb qb))
          replace HB6 := Lib.hid (HB6.out.put3 (Ne.symm HN56.out) (.slice Ab nb cb) (.slice Bb mb kb) (.slice Db pb qb))
          clear hl
          go_wp2_with fail
          refine soloP HV.out ?_
          clear e0 e1 e2 ef0 ef1 ef2
          obtain ⟨w5, hv⟩ : ∃ v, ((World.setCell w4 ⟨z5, 0, none⟩ (.slice Ab nb cb)).setCell ⟨z5, 1, none⟩ (.slice Bb mb kb)).setCell ⟨z5, 2, none⟩ (.slice Db pb qb) = v := ⟨_, rfl⟩
          rw [hv] at HB4 HB5 HB6 HV ⊢
          clear hv
          rw [wpPlan_one]
          simp only [pickOps_cons, pickOps_nil, consO_some, List.getElem?_cons_zero, List.getElem?_cons_succ]
          have hl := HL6.out
          have e0 := HB6.out.c0; have e1 := HB6.out.c1; have e2 := HB6.out.c2; have ef0 := HB6.out.f 0; have ef1 := HB6.out.f 1; have ef2 := HB6.out.f 2
          replace HV := Lib.hid (((HV.out.setCell (a := ⟨z6, 0, none⟩) hl (.slice Ac nc cc)).setCell (a := ⟨z6, 1, none⟩) hl (.slice Bc mc kc)).setCell (a := ⟨z6, 2, none⟩) hl (.slice Dc pc qc))
          replace HB6 := Lib.hid (HB6.out.set3 (.slice Ac nc cc) (.slice Bc mc kc) (.slice Dc pc qc))
          replace HB4 := Lib.hid (HB4.out.put3 HN46.out (.slice Ac nc cc) (.slice Bc mc kc) (.slice Dc pc qc))
          replace HB5 := Lib.hid (HB5.out.put3 HN56.out (.slice Ac nc cc) (.slice Bc mc kc) (.slice Dc pc qc))
          clear hl
          go_wp2_with fail
          refine soloP HV.out ?_
          clear e0 e1 e2 ef0 ef1 ef2
          obtain ⟨w6, hv⟩ : ∃ v, ((World.setCell w5 ⟨z6, 0, none⟩ (.slice Ac nc cc)).setCell ⟨z6, 1, none⟩ (.slice Bc mc kc)).setCell ⟨z6, 2, none⟩ (.slice Dc pc qc) = v := ⟨_, rfl⟩
          rw [hv] at HB4 HB5 HB6 HV ⊢
          clear hv
          refine wpPlan_stop ?_
          have HF := Lib.hid (show RingC W3 (.slice Aa na ca) (.slice Ba ma ka) (.slice Da pa qa) (.slice Ab nb cb) (.slice Bb mb kb) (.slice Db pb qb) (.slice Ac nc cc) (.slice Bc mc kc) (.slice Dc pc qc) (.pointer (some ⟨z4, 0, none⟩)) (.pointer (some ⟨z5, 0, none⟩)) (.pointer (some ⟨z6, 0, none⟩)) w6 from ⟨z4, z5, z6, rfl, rfl, rfl, HV.out, HB4.out, HB5.out, HB6.out⟩)
          go_wp2_with fail
          go_meet
          exact HF.out
        · go_wp2_with fail
          have hkn := (Kept.refl v1).alloc #[.slice none 0 0, .slice none 0 0, .slice none 0 0] 31
          have HB6 := Lib.hid (Box3.new v1 (.slice none 0 0) (.slice none 0 0) (.slice none 0 0) 31)
          obtain ⟨z6, hz⟩ : ∃ z, (World.heap v1).size = z := ⟨_, rfl⟩
          have HL6 := Lib.hid (show W3.heap.size ≤ z6 by rw [← hz]; exact HV.out.2.2)
          have HN56 := Lib.hid (show z5 ≠ z6 from fun e => by have := HB5.out.lt; omega)
          replace HB5 := Lib.hid (HB5.out.kept hkn)
          replace HV := Lib.hid (HV.out.trans hkn)
          obtain ⟨v2, hv⟩ : ∃ v, World.alloc v1 (.cells #[.slice none 0 0, .slice none 0 0, .slice none 0 0] 31) = v := ⟨_, rfl⟩
          rw [hz, hv] at HB6
          rw [hv] at HB5 HV ⊢
          rw [hz]
          clear hkn hz hv
          refine soloP HV.out ?_
          rw [wpPlan_one]
          simp only [pickOps_cons, pickOps_nil, consO_some, List.getElem?_cons_zero, List.getElem?_cons_succ]
          go_wp2_with fail
          have hkn := (Kept.refl v2).alloc #[.slice none 0 0, .slice none 0 0, .slice none 0 0] 31
          have HB4 := Lib.hid (Box3.new v2 (.slice none 0 0) (.slice none 0 0) (.slice none 0 0) 31)
          obtain ⟨z4, hz⟩ : ∃ z, (World.heap v2).size = z := ⟨_, rfl⟩
          have HL4 := Lib.hid (show W3.heap.size ≤ z4 by rw [← hz]; exact HV.out.2.2)
          have HN54 := Lib.hid (show z5 ≠ z4 from fun e => by have := HB5.out.lt; omega)
          replace HB5 := Lib.hid (HB5.out.kept hkn)
          have HN64 := Lib.hid (show z6 ≠ z4 from fun e => by have := HB6.out.lt; omega)
          replace HB6 := Lib.hid (HB6.out.kept hkn)
          replace HV := Lib.hid (HV.out.trans hkn)
          obtain ⟨v3, hv⟩ : ∃ v, World.alloc v2 (.cells #[.slice none 0 0, .slice none 0 0, .slice none 0 0] 31) = v := ⟨_, rfl⟩
          rw [hz, hv] at HB4
          rw [hv] at HB5 HB6 HV ⊢
          rw [hz]
          clear hkn hz hv
          refine soloP HV.out ?_
          rw [wpPlan_one]
          simp only [pickOps_cons, pickOps_nil, consO_some, List.getElem?_cons_zero, List.getElem?_cons_succ]
          have hl := HL4.out
          have e0 := HB4.out.c0; have e1 := HB4.out.c1; have e2 := HB4.out.c2; have ef0 := HB4.out.f 0; have ef1 := HB4.out.f 1; have ef2 := HB4.out.f 2
          replace HV := Lib.hid (((HV.out.setCell (a := ⟨z4, 0, none⟩) hl (.slice Aa na ca)).setCell (a := ⟨z4, 1, none⟩) hl (.slice Ba ma ka)).setCell (a := ⟨z4, 2, none⟩) hl (.slice Da pa qa))
          replace HB4 := Lib.hid (HB4.out.set3 (.slice Aa na ca) (.slice Ba ma ka) (.slice Da pa qa))
          replace HB5 := Lib.hid (HB5.out.put3 HN54.out (.slice Aa na ca) (.slice Ba ma ka) (.slice Da pa qa))
          replace HB6 := Lib.hid (HB6.out.put3 HN64.out (.slice Aa na ca) (.slice Ba ma ka) (.slice Da pa qa))
          clear hl
          go_wp2_with fail
          refine soloP HV.out ?_
          clear e0 e1 e2 ef0 ef1 ef2
          obtain ⟨w4, hv⟩ : ∃ v, ((World.setCell v3 ⟨z4, 0, none⟩ (.slice Aa na ca)).setCell ⟨z4, 1, none⟩ (.slice Ba ma ka)).setCell ⟨z4, 2, none⟩ (.slice Da pa qa) = v := ⟨_, rfl⟩
          rw [hv] at HB4 HB5 HB6 HV ⊢
          clear hv
          rw [wpPlan_one]
          simp only [pickOps_cons, pickOps_nil, consO_some, List.getElem?_cons_zero, List.getElem?_cons_succ]
          have hl := HL5.out
          have e0 := HB5.out.c0; have e1 := HB5.out.c1; have e2 := HB5.out.c2; have ef0 := HB5.out.f 0; have ef1 := HB5.out.f 1; have ef2 := HB5.out.f 2
          replace HV := Lib.hid (((HV.out.setCell (a := ⟨z5, 0, none⟩) hl (.slice Ab nb cb)).setCell (a := ⟨z5, 1, none⟩) hl (.slice Bb mb kb)).setCell (a := ⟨z5, 2, none⟩) hl (.slice Db pb qb))
          replace HB5 := Lib.hid (HB5.out.set3 (.slice Ab nb cb) (.slice Bb mb kb) (.slice Db pb qb))
          replace HB4 := Lib.hid (HB4.out.put3 (Ne.symm HN54.out) (.slice Ab nb cb) (.slice Bb mb kb) (.slice Db pb qb))
          replace HB6 := Lib.hid (HB6.out.put3 (Ne.symm HN56.out) (.slice Ab nb cb) (.slice Bb mb kb) (.slice Db pb qb))
          clear hl
          go_wp2_with fail
          refine soloP HV.out ?_
          clear e0 e1 e2 ef0 ef1 ef2
          obtain ⟨w5, hv⟩ : ∃ v, ((World.setCell w4 ⟨z5, 0, none⟩ (.slice Ab nb cb)).setCell ⟨z5, 1, none⟩ (.slice Bb mb kb)).setCell ⟨z5, 2, none⟩ (.slice Db pb qb) = v := ⟨_, rfl⟩
          rw [hv] at HB4 HB5 HB6 HV ⊢
          clear hv
          rw [wpPlan_one]
          simp only [pickOps_cons, pickOps_nil, consO_some, List.getElem?_cons_zero, List.getElem?_cons_succ]
          have hl := HL6.out
          have e0 := HB6.out.c0; have e1 := HB6.out.c1; have e2 := HB6.out.c2; have ef0 := HB6.out.f 0; have ef1 := HB6.out.f 1; have ef2 := HB6.out.f 2
          replace HV := Lib.hid (((HV.out.setCell (a := ⟨z6, 0, none⟩) hl (.slice Ac nc cc)).setCell (a := ⟨z6, 1, none⟩) hl (.slice Bc mc kc)).setCell (a := ⟨z6, 2, none⟩) hl (.slice Dc pc qc))
          replace HB6 := Lib.hid (HB6.out.set3 (.slice Ac nc cc) (.slice Bc mc kc) (.slice Dc pc qc))
          replace HB4 := Lib.hid (HB4.out.put3 (Ne.symm HN64.out) (.slice Ac nc cc) (.slice Bc mc kc) (.slice Dc pc qc))
          replace HB5 := Lib.hid (HB5.out.put3 HN56.out (.slice Ac nc cc) (.slice Bc mc kc) (.slice Dc pc qc))
          clear hl
          go_wp2_with fail
          refine soloP HV.out ?_
          clear e0 e1 e2 ef0 ef1 ef2
          obtain ⟨w6, hv⟩ : ∃ v, ((World.setCell w5 ⟨z6, 0, none⟩ (.slice Ac nc cc)).setCell ⟨z6, 1, none⟩ (.slice Bc mc kc)).setCell ⟨z6, 2, none⟩ (.slice Dc pc qc) = v := ⟨_, rfl⟩
          rw [hv] at HB4 HB5 HB6 HV ⊢
          clear hv
          refine wpPlan_stop ?_
          have HF := Lib.hid (show RingC W3 (.slice Aa na ca) (.slice Ba ma ka) (.slice Da pa qa) (.slice Ab nb cb) (.slice Bb mb kb) (.slice Db pb qb) (.slice Ac nc cc) (.slice Bc mc kc) (.slice Dc pc qc) (.pointer (some ⟨z4, 0, none⟩)) (.pointer (some ⟨z5, 0, none⟩)) (.pointer (some ⟨z6, 0, none⟩)) w6 from ⟨z4, z5, z6, rfl, rfl, rfl, HV.out, HB4.out, HB5.out, HB6.out⟩)
          go_wp2_with fail
          go_meet
          exact HF.out
      · go_wp2_with fail
        have hkn := (Kept.refl wd).alloc #[.slice none 0 0, .slice none 0 0, .slice none 0 0] 31
        have HB6 := Lib.hid (Box3.new wd (.slice none 0 0) (.slice none 0 0) (.slice none 0 0) 31)
        obtain ⟨z6, hz⟩ : ∃ z, (World.heap wd).size = z := ⟨_, rfl⟩
        have HL6 := Lib.hid (show W3.heap.size ≤ z6 by rw [← hz]; exact HV.out.2.2)
        replace HV := Lib.hid (HV.out.trans hkn)
        obtain ⟨v1, hv⟩ : ∃ v, World.alloc wd (.cells #[.slice none 0 0, .slice none 0 0, .slice none 0 0] 31) = v := ⟨_, rfl⟩
        rw [hz, hv] at HB6
        rw [hv] at HV ⊢
        rw [hz]
        clear hkn hz hv
        refine soloP HV.out ?_
        rw [wpPlan_two]
        simp only [pickOps_cons, pickOps_nil, consO_some, List.getElem?_cons_zero, List.getElem?_cons_succ]
        constructor
        · go_wp2_with fail
          have hkn := (Kept.refl v1).alloc #[.slice none 0 0, .slice none 0 0, .slice none 0 0] 31
          have HB4 := Lib.hid (Box3.new v1 (.slice none 0 0) (.slice none 0 0) (.slice none 0 0) 31)
          obtain ⟨z4, hz⟩ : ∃ z, (World.heap v1).size = z := ⟨_, rfl⟩
          have HL4 := Lib.hid (show W3.heap.size ≤ z4 by rw [← hz]; exact HV.out.2.2)
          have HN64 := Lib.hid (show z6 ≠ z4 from fun e => by have := HB6.out.lt; omega)
          replace HB6 := Lib.hid (HB6.out.kept hkn)
          replace HV := Lib.hid (HV.out.trans hkn)
          obtain ⟨v2, hv⟩ : ∃ v, World.alloc v1 (.cells #[.slice none 0 0, .slice none 0 0, .slice none 0 0] 31) = v := ⟨_, rfl⟩
          rw [hz, hv] at HB4
          rw [hv] at HB6 HV ⊢
          rw [hz]
          clear hkn hz hv
          refine soloP HV.out ?_
          rw [wpPlan_one]
          simp only [pickOps_cons, pickOps_nil, consO_some, List.getElem?_cons_zero, List.getElem?_cons_succ]
          go_wp2_with fail
          have hkn := (Kept.refl v2).alloc #[.slice none 0 0, .slice none 0 0, .slice none 0 0] 31
          have HB5 := Lib.hid (Box3.new v2 (.slice none 0 0) (.slice none 0 0) (.slice none 0 0) 31)
          obtain ⟨z5, hz⟩ : ∃ z, (World.heap v2).size = z := ⟨_, rfl⟩
          have HL5 := Lib.hid (show W3.heap.size ≤ z5 by rw [← hz]; exact HV.out.2.2)
          have HN65 := Lib.hid (show z6 ≠ z5 from fun e => by have := HB6.out.lt; omega)
          replace HB6 := Lib.hid (HB6.out.kept hkn)
          have HN45 := Lib.hid (show z4 ≠ z5 from fun e => by have := HB4.out.lt; omega)
          replace HB4 := Lib.hid (HB4.out.kept hkn)
          replace HV := Lib.hid (HV.out.trans hkn)
          obtain ⟨v3, hv⟩ : ∃ v, World.alloc v2 (.cells #[.slice none 0 0, .slice none 0 0, .slice none 0 0] 31) = v := ⟨_, rfl⟩
          rw [hz, hv] at HB5
          rw [hv] at HB6 HB4 HV ⊢
          rw [hz]
          clear hkn hz hv
          refine soloP HV.out ?_
          rw [wpPlan_one]
          simp only [pickOps_cons, pickOps_nil, consO_some, List.getElem?_cons_zero, List.getElem?_cons_succ]
          have hl := HL4.out
          have e0 := HB4.out.c0; have e1 := HB4.out.c1; have e2 := HB4.out.c2; have ef0 := HB4.out.f 0; have ef1 := HB4.out.f 1; have ef2 := HB4.out.f 2
          replace HV := Lib.hid (((HV.out.setCell (a := ⟨z4, 0, none⟩) hl (.slice Aa na ca)).setCell (a := ⟨z4, 1, none⟩) hl (.slice Ba ma ka)).setCell (a := ⟨z4, 2, none⟩) hl (.slice Da pa qa))
          replace HB4 := Lib.hid (HB4.out.set3 (.slice Aa na ca) (.slice Ba ma ka) (.slice Da pa qa))
          replace HB5 := Lib.hid (HB5.out.put3 (Ne.symm HN45.out) (.slice Aa na ca) (.slice Ba ma ka) (.slice Da pa qa))
          replace HB6 := Lib.hid (HB6.out.put3 HN64.out (.slice Aa na ca) (.slice Ba ma ka) (.slice Da pa qa))
          clear hl
          go_wp2_with fail
          refine soloP HV.out ?_
          clear e0 e1 e2 ef0 ef1 ef2
          obtain ⟨w4, hv⟩ : ∃ v, ((World.setCell v3 ⟨z4, 0, none⟩ (.slice Aa na ca)).setCell ⟨z4, 1, none⟩ (.slice Ba ma ka)).setCell ⟨z4, 2, none⟩ (.slice Da pa qa) = v := ⟨_, rfl⟩
          rw [hv] at HB4 HB5 HB6 HV ⊢
          clear hv
          rw [wpPlan_one]
          simp only [pickOps_cons, pickOps_nil, consO_some, List.getElem?_cons_zero, List.getElem?_cons_succ]
          have hl := HL5.out
          have e0 := HB5.out.c0; have e1 := HB5.out.c1; have e2 := HB5.out.c2; have ef0 := HB5.out.f 0; have ef1 := HB5.out.f 1; have ef2 := HB5.out.f 2
          replace HV := Lib.hid (((HV.out.setCell (a := ⟨z5, 0, none⟩) hl (.slice Ab nb cb)).setCell (a := ⟨z5, 1, none⟩) hl (.slice Bb mb kb)).setCell (a := ⟨z5, 2, none⟩) hl (.slice Db pb qb))
          replace HB5 := Lib.hid (HB5.out.set3 (.slice Ab nb cb) (.slice Bb mb kb) (.slice Db pb qb))
          replace HB4 := Lib.hid (HB4.out.put3 HN45.out (.slice Ab nb cb) (.slice Bb mb kb) (.slice Db pb qb))
          replace HB6 := Lib.hid (HB6.out.put3 HN65.out (.slice Ab nb cb) (.slice Bb mb kb) (.slice Db pb qb))
          clear hl
          go_wp2_with fail
          refine soloP HV.out ?_
          clear e0 e1 e2 ef0 ef1 ef2
          obtain ⟨w5, hv⟩ : ∃ v, ((World.setCell w4 ⟨z5, 0, none⟩ (.slice Ab nb cb)).setCell ⟨z5, 1, none⟩ (.slice Bb mb kb)).setCell ⟨z5, 2, none⟩ (.slice Db pb qb) = v := ⟨_, rfl⟩
          rw [hv] at HB4 HB5 HB6 HV ⊢
          clear hv
          rw [wpPlan_one]
          simp only [pickOps_cons, pickOps_nil, consO_some, List.getElem?_cons_zero, List.getElem?_cons_succ]
          have hl := HL6.out
          have e0 := HB6.out.c0; have e1 := HB6.out.c1; have e2 := HB6.out.c2; have ef0 := HB6.out.f 0; have ef1 := HB6.out.f 1; have ef2 := HB6.out.f 2
          replace HV := Lib.hid (((HV.out.setCell (a := ⟨z6, 0, none⟩) hl (.slice Ac nc cc)).setCell (a := ⟨z6, 1, none⟩) hl (.slice Bc mc kc)).setCell (a := ⟨z6, 2, none⟩) hl (.slice Dc pc qc))
          replace HB6 := Lib.hid (HB6.out.set3 (.slice Ac nc cc) (.slice Bc mc kc) (.slice Dc pc qc))
          replace HB4 := Lib.hid (HB4.out.put3 (Ne.symm HN64.out) (.slice Ac nc cc) (.slice Bc mc kc) (.slice Dc pc qc))
          replace HB5 := Lib.hid (HB5.out.put3 (Ne.symm HN65.out) (.slice Ac nc cc) (.slice Bc mc kc) (.slice Dc pc qc))
          clear hl
          go_wp2_with fail
          refine soloP HV.out ?_
          clear e0 e1 e2 ef0 ef1 ef2
          obtain ⟨w6, hv⟩ : ∃ v, ((World.setCell w5 ⟨z6, 0, none⟩ (.slice Ac nc cc)).setCell ⟨z6, 1, none⟩ (.slice Bc mc kc)).setCell ⟨z6, 2, none⟩ (.slice Dc pc qc) = v := ⟨_, rfl⟩
          rw [hv] at HB4 HB5 HB6 HV ⊢
          clear hv
          refine wpPlan_stop ?_
          have HF := Lib.hid (show RingC W3 (.slice Aa na ca) (.slice Ba ma ka) (.slice Da pa qa) (.slice Ab nb cb) (.slice Bb mb kb) (.slice Db pb qb) (.slice Ac nc cc) (.slice Bc mc kc) (.slice Dc pc qc) (.pointer (some ⟨z4, 0, none⟩)) (.pointer (some ⟨z5, 0, none⟩)) (.pointer (some ⟨z6, 0, none⟩)) w6 from ⟨z4, z5, z6, rfl, rfl, rfl, HV.out, HB4.out, HB5.out, HB6.out⟩)
          go_wp2_with fail
          go_meet
          exact HF.out
        · go_wp2_with fail
          have hkn := (Kept.refl v1).alloc #[.slice none 0 0, .slice none 0 0, .slice none 0 0] 31
          have HB5 := Lib.hid (Box3.new v1 (.slice none 0 0) (.slice none 0 0) (.slice none 0 0) 31)
          obtain ⟨z5, hz⟩ : ∃ z, (World.heap v1).size = z := ⟨_, rfl⟩
          have HL5 := Lib.hid (show W3.heap.size ≤ z5 by rw [← hz]; exact HV.out.2.2)
          have HN65 := Lib.hid (show z6 ≠ z5 from fun e => by have := HB6.out.lt; omega)
          replace HB6 := Lib.hid (HB6.out.kept hkn)
          replace HV := Lib.hid (HV.out.trans hkn)
          obtain ⟨v2, hv⟩ : ∃ v, World.alloc v1 (.cells #[.slice none 0 0, .slice none 0 0, .slice none 0 0] 31) = v := ⟨_, rfl⟩
          rw [hz, hv] at HB5
          rw [hv] at HB6 HV ⊢
          rw [hz]
          clear hkn hz hv
          refine soloP HV.out ?_
          rw [wpPlan_one]
          simp only [pickOps_cons, pickOps_nil, consO_some, List.getElem?_cons_zero, List.getElem?_cons_succ]
          go_wp2_with fail
          have hkn := (Kept.refl v2).alloc #[.slice none 0 0, .slice none 0 0, .slice none 0 0] 31
          have HB4 := Lib.hid (Box3.new v2 (.slice none 0 0) (.slice none 0 0) (.slice none 0 0) 31)
          obtain ⟨z4, hz⟩ : ∃ z, (World.heap v2).size = z := ⟨_, rfl⟩
          have HL4 := Lib.hid (show W3.heap.size ≤ z4 by rw [← hz]; exact HV.out.2.2)
          have HN64 := Lib.hid (show z6 ≠ z4 from fun e => by have := HB6.out.lt; omega)
          replace HB6 := Lib.hid (HB6.out.kept hkn)
          have HN54 := Lib.hid (show z5 ≠ z4 from fun e => by have := HB5.out.lt; omega)
          replace HB5 := Lib.hid (HB5.out.kept hkn)
          replace HV := Lib.hid (HV.out.trans hkn)
          obtain ⟨v3, hv⟩ : ∃ v, World.alloc v2 (.cells #[.slice none 0 0, .slice none 0 0, .slice none 0 0] 31) = v := ⟨_, rfl⟩
          rw [hz, hv] at HB4
          rw [hv] at HB6 HB5 HV ⊢
          rw [hz]
          clear hkn hz hv
          refine soloP HV.out ?_
          rw [wpPlan_one]
          simp only [pickOps_cons, pickOps_nil, consO_some, List.getElem?_cons_zero, List.getElem?_cons_succ]
          have hl := HL4.out
          have e0 := HB4.out.c0; have e1 := HB4.out.c1; have e2 := HB4.out.c2; have ef0 := HB4.out.f 0; have ef1 := HB4.out.f 1; have ef2 := HB4.out.f 2
          replace HV := Lib.hid (((HV.out.setCell (a := ⟨z4, 0, none⟩) hl (.slice Aa na ca)).setCell (a := ⟨z4, 1, none⟩) hl (.slice Ba ma ka)).setCell (a := ⟨z4, 2, none⟩) hl (.slice Da pa qa))
          replace HB4 := Lib.hid (HB4.out.set3 (.slice Aa na ca) (.slice Ba ma ka) (.slice Da pa qa))
          replace HB5 := Lib.hid (HB5.out.put3 HN54.out (.slice Aa na ca) (.slice Ba ma ka) (.slice Da pa qa))
          replace HB6 := Lib.hid (HB6.out.put3 HN64.out (.slice Aa na ca) (.slice Ba ma ka) (.slice Da pa qa))
          clear hl
          go_wp2_with fail
          refine soloP HV.out ?_
          clear e0 e1 e2 ef0 ef1 ef2
          obtain ⟨w4, hv⟩ : ∃ v, ((World.setCell v3 ⟨z4, 0, none⟩ (.slice Aa na ca)).setCell ⟨z4, 1, none⟩ (.slice Ba ma ka)).setCell ⟨z4, 2, none⟩ (.slice Da pa qa) = v := ⟨_, rfl⟩
          rw [hv] at HB4 HB5 HB6 HV ⊢
          clear hv
          rw [wpPlan_one]
          simp only [pickOps_cons, pickOps_nil, consO_some, List.getElem?_cons_zero, List.getElem?_cons_succ]
          have hl := HL5.out
          have e0 := HB5.out.c0; have e1 := HB5.out.c1; have e2 := HB5.out.c2; have ef0 := HB5.out.f 0; have ef1 := HB5.out.f 1; have ef2 := HB5.out.f 2
          replace HV := Lib.hid (((HV.out.setCell (a := ⟨z5, 0, none⟩) hl (.slice Ab nb cb)).setCell (a := ⟨z5, 1, none⟩) hl (.slice Bb mb kb)).setCell (a := ⟨z5, 2, none⟩) hl (.slice Db pb qb))
          replace HB5 := Lib.hid (HB5.out.set3 (.slice Ab nb cb) (.slice Bb mb kb) (.slice Db pb qb))
          replace HB4 := Lib.hid (HB4.out.put3 (Ne.symm HN54.out) (.slice Ab nb cb) (.slice Bb mb kb) (.slice Db pb qb))
          replace HB6 := Lib.hid (HB6.out.put3 HN65.out (.slice Ab nb cb) (.slice Bb mb kb) (.slice Db pb qb))
          clear hl
          go_wp2_with fail
          refine soloP HV.out ?_
          clear e0 e1 e2 ef0 ef1 ef2
          obtain ⟨w5, hv⟩ : ∃ v, ((World.setCell w4 ⟨z5, 0, none⟩ (.slice Ab nb cb)).setCell ⟨z5, 1, none⟩ (.slice Bb mb kb)).setCell ⟨z5, 2, none⟩ (.slice Db pb qb) = v := ⟨_, rfl⟩
          rw [hv] at HB4 HB5 HB6 HV ⊢
          clear hv
          rw [wpPlan_one]
          simp only [pickOps_cons, pickOps_nil, consO_some, List.getElem?_cons_zero, List.getElem?_cons_succ]
          have hl := HL6.out
          have e0 := HB6.out.c0; have e1 := HB6.out.c1; have e2 := HB6.out.c2; have ef0 := HB6.out.f 0; have ef1 := HB6.out.f 1; have ef2 := HB6.out.f 2
          replace HV := Lib.hid (((HV.out.setCell (a := ⟨z6, 0, none⟩) hl (.slice Ac nc cc)).setCell (a := ⟨z6, 1, none⟩) hl (.slice Bc mc kc)).setCell (a := ⟨z6, 2, none⟩) hl (.slice Dc pc qc))
          replace HB6 := Lib.hid (HB6.out.set3 (.slice Ac nc cc) (.slice Bc mc kc) (.slice Dc pc qc))
          replace HB4 := Lib.hid (HB4.out.put3 (Ne.symm HN64.out) (.slice Ac nc cc) (.slice Bc mc kc) (.slice Dc pc qc))
          replace HB5 := Lib.hid (HB5.out.put3 (Ne.symm HN65.out) (.slice Ac nc cc) (.slice Bc mc kc) (.slice Dc pc qc))
          clear hl
          go_wp2_with fail
          refine soloP HV.out ?_
          clear e0 e1 e2 ef0 ef1 ef2
          obtain ⟨w6, hv⟩ : ∃ v, ((World.setCell w5 ⟨z6, 0, none⟩ (.slice Ac nc cc)).setCell ⟨z6, 1, none⟩ (.slice Bc mc kc)).setCell ⟨z6, 2, none⟩ (.slice Dc pc qc) = v := ⟨_, rfl⟩
          rw [hv] at HB4 HB5 HB6 HV ⊢
          clear hv
          refine wpPlan_stop ?_
          have HF := Lib.hid (show RingC W3 (.slice Aa na ca) (.slice Ba ma ka) (.slice Da pa qa) (.slice Ab nb cb) (.slice Bb mb kb) (.slice Db pb qb) (.slice Ac nc cc) (.slice Bc mc kc) (.slice Dc pc qc) (.pointer (some ⟨z4, 0, none⟩)) (.pointer (some ⟨z5, 0, none⟩)) (.pointer (some ⟨z6, 0, none⟩)) w6 from ⟨z4, z5, z6, rfl, rfl, rfl, HV.out, HB4.out, HB5.out, HB6.out⟩)
          go_wp2_with fail
          go_meet
          exact HF.out
    case rest =>
      clear Xa0 Xa1 Xa2 Xb0 Xb1 Xb2 Xc0 Xc1 Xc2
      obtain ⟨z4, z5, z6, rfl, rfl, rfl, hk4, hb4, hb5, hb6⟩ := hcut
      have HB4 := Lib.hid hb4; have HB5 := Lib.hid hb5; have HB6 := Lib.hid hb6; have HK4 := Lib.hid (HK3.out.trans hk4)
      replace HSa := Lib.hid (HSa.out.kept hk4); replace HSb := Lib.hid (HSb.out.kept hk4); replace HSc := Lib.hid (HSc.out.kept hk4)
      clear hb5 hb6 hk4
      have e0 := hb4.c0; have e1 := hb4.c1; have e2 := hb4.c2; have g0 := HB5.out.c0; have g1 := HB5.out.c1; have g2 := HB5.out.c2
      clear hb4
      go_wp2_with fail
      go_at_call 9
      refine (join_any Aa na ca Ba ma ka Da pa qa (p 0) Ab nb cb Bb mb kb Db pb qb (p 1) _ HSa.out HSb.out HOa.out HOb.out (by omega) (by omega) (by omega) (by omega)).mono ?_
      rintro e w6 ⟨Ag, ng, cg, Bg, mg, kg, Dg, pg, qg, sg, rfl, hsg, hjg, hkg⟩
      have hka := (Kept.refl w6).alloc #[.slice Ag ng cg, .slice Bg mg kg, .slice Dg pg qg] 31
      have HB7 := Lib.hid (Box3.new w6 (.slice Ag ng cg) (.slice Bg mg kg) (.slice Dg pg qg) 31)
      have HSg := Lib.hid (hsg.kept hka)
      have HJg := Lib.hid hjg.1
      have HOK := Lib.hid (HINV.out.join_ok (by decide) (by decide) hjg.1)
      have hng : ng ≤ 240 := by have := hsg.el.1; have := hjg.2.1; have := HFa.out; have := HFb.out; omega
      have hpg : pg ≤ 240 := by have := hsg.dl.1; have := hjg.2.2; have := HFa.out; have := HFb.out; omega
      have HFg := Lib.hid (show sg.L.length ≤ 240 ∧ sg.C.length ≤ 240 from by have := hsg.el.1; have := hsg.dl.1; omega)
      have HOg := Lib.hid (hjg.1.ord HOa.out HOb.out)
      have HK6 := Lib.hid (HK4.out.trans (hkg.trans hka))
      replace HB4 := Lib.hid (HB4.out.kept (hkg.trans hka)); replace HB5 := Lib.hid (HB5.out.kept (hkg.trans hka)); replace HB6 := Lib.hid (HB6.out.kept (hkg.trans hka))
      replace HSa := Lib.hid (HSa.out.kept (hkg.trans hka)); replace HSb := Lib.hid (HSb.out.kept (hkg.trans hka)); replace HSc := Lib.hid (HSc.out.kept (hkg.trans hka))
      clear hsg hjg hkg hka e0 e1 e2 g0 g1 g2 HK4
      obtain ⟨z7, hz⟩ : ∃ z, w6.heap.size = z := ⟨_, rfl⟩
      obtain ⟨W6, hW6⟩ : ∃ W6, w6.alloc (.cells #[.slice Ag ng cg, .slice Bg mg kg, .slice Dg pg qg] 31) = W6 := ⟨_, rfl⟩
      rw [hz] at HB7
      rw [hW6] at HB4 HB5 HB6 HB7 HSa HSb HSc HSg HK6
      have HW6 := Lib.hid hW6; have HZ7 := Lib.hid hz
      clear hW6 hz
      have HASS := Lib.hid (fun (j bc j' : Sta) (h2 : JoinOf sg (p 2) j) (h3 : JoinOf (p 1) (p 2) bc) (h4 : JoinOf (p 0) bc j') => JoinOf.assoc HOa.out HOb.out HOc.out (HINV.out.agree 0 1 (by decide) (by decide)) (HINV.out.agree 0 2 (by decide) (by decide)) (HINV.out.agree 1 2 (by decide) (by decide)) HJg.out h2 h3 h4)
      go_wp2_with fail
      rw [HW6.out, HZ7.out]
      have Xa0 := KExt.cell HB4.out.c0; have Xa1 := KExt.cell HB4.out.c1; have Xa2 := KExt.cell HB4.out.c2
      have Xb0 := KExt.cell HB5.out.c0; have Xb1 := KExt.cell HB5.out.c1; have Xb2 := KExt.cell HB5.out.c2
      have Xc0 := KExt.cell HB6.out.c0; have Xc1 := KExt.cell HB6.out.c1; have Xc2 := KExt.cell HB6.out.c2
      have Xg0 := KExt.cell HB7.out.c0; have Xg1 := KExt.cell HB7.out.c1; have Xg2 := KExt.cell HB7.out.c2
      refine region_plan W6 43 (.read [0] (.one 1 (.read [2, 3, 4, 5, 6] (.one 7 (.one 8 (.read [9, 10, 11, 12, 13, 15, 16, 17] (.one 14 (.one 18 (.one 19 (.one 20 (.read [21, 22, 23, 24, 25, 27] (.one 26 (.one 28 (.read [29, 30, 31, 32, 33] (.one 34 (.read [35, 36, 37, 38, 39] (.one 40 (.read [41, 42] .stop)))))))))))))))))) (by kernel_rfl) (by kernel_rfl) (by kernel_rfl) (by kernel_rfl) (by kernel_rfl) (fun _ d _ _ _ h => by cases d <;> exact h) (Kept.refl _) ?_
      intro wd hwd
      have HV := Lib.hid hwd
      clear hwd
      rw [wpPlan_read]
      simp only [pickOps_cons, pickOps_nil, consO_some, List.getElem?_cons_zero]
      repeat (go_big_quiet_step (fail))
      refine wpQuiet_nil ?_
      rw [wpPlan_one]
      simp only [pickOps_cons, pickOps_nil, consO_some, List.getElem?_cons_zero, List.getElem?_cons_succ]
      go_wp2_with (go_at_call 10; refine (sright_any Ag ng cg sg.L Bg mg kg sg.V Dg pg qg sg.C _ (HSg.out.el.kept HV.out) (HSg.out.il.kept HV.out) (HSg.out.dl.kept HV.out) HOg.out.ctx (by omega) (by omega) HOK.out.2 true ⟨fun _ => HOK.out.1, fun _ => rfl⟩).mono ?_; rintro e uz ⟨rfl, hkz⟩)
      replace HV := Lib.hid (HV.out.trans hkz)
      clear hkz
      refine soloP HV.out ?_
      rw [wpPlan_read]
      simp only [pickOps_cons, pickOps_nil, consO_some, List.getElem?_cons_zero, List.getElem?_cons_succ]
      repeat (go_big_quiet_step (fail))
      refine wpQuiet_nil ?_
      rw [wpPlan_one]
      simp only [pickOps_cons, pickOps_nil, consO_some, List.getElem?_cons_zero, List.getElem?_cons_succ]
      go_wp2_with (go_at_call 9; refine (join_any Ab nb cb Bb mb kb Db pb qb (p 1) Aa na ca Ba ma ka Da pa qa (p 0) _ (HSb.out.kept HV.out) (HSa.out.kept HV.out) HOb.out HOa.out (by omega) (by omega) (by omega) (by omega)).mono ?_; rintro e uh ⟨Ah, nh, ch, Bh, mh, kh, Dh, ph, qh, sh, rfl, hsh, hjh, hkh⟩)
      rw [hjh.1.one (HJg.out.comm HOa.out HOb.out (HINV.out.agree 0 1 (by decide) (by decide)))] at hsh
      have HSh := Lib.hid hsh
      replace HV := Lib.hid (HV.out.trans hkh)
      clear hsh hjh hkh
      refine soloP HV.out ?_
      rw [wpPlan_one]
      simp only [pickOps_cons, pickOps_nil, consO_some, List.getElem?_cons_zero, List.getElem?_cons_succ]
      go_wp2_with (go_at_call 11; refine (ssame_any Ag ng cg sg.L Bg mg kg sg.V Dg pg qg sg.C Ah nh ch sg.L Bh mh kh sg.V Dh ph qh sg.C _ (HSg.out.el.kept HV.out) (HSg.out.il.kept HV.out) (HSg.out.dl.kept HV.out) HSh.out.el HSh.out.il HSh.out.dl true ⟨fun _ => ⟨rfl, rfl, rfl⟩, fun _ => rfl⟩).mono ?_; rintro e uz ⟨rfl, hkz⟩)
      replace HV := Lib.hid (HV.out.trans hkz)
      clear hkz HSh
      refine soloP HV.out ?_
      rw [wpPlan_read]
      simp only [pickOps_cons, pickOps_nil, consO_some, List.getElem?_cons_zero, List.getElem?_cons_succ]
      repeat (go_big_quiet_step (fail))
      refine wpQuiet_nil ?_
      rw [wpPlan_one]
      simp only [pickOps_cons, pickOps_nil, consO_some, List.getElem?_cons_zero, List.getElem?_cons_succ]
      go_wp2_with (go_at_call 9; refine (join_any Ag ng cg Bg mg kg Dg pg qg sg Ac nc cc Bc mc kc Dc pc qc (p 2) _ (HSg.out.kept HV.out) (HSc.out.kept HV.out) HOg.out HOc.out (by omega) (by omega) (by omega) (by omega)).mono ?_; rintro e ui ⟨Ai, ni, ci, Bi, mi, ki, Di, pi, qi, si, rfl, hsi, hji, hki⟩)
      have HJi := Lib.hid hji.1
      have hni : ni ≤ 480 := by have := hsi.el.1; have := hji.2.1; have := HFg.out; have := HFc.out; omega
      have hpi : pi ≤ 480 := by have := hsi.dl.1; have := hji.2.2; have := HFg.out; have := HFc.out; omega
      have HFi := Lib.hid (show si.L.length ≤ 480 ∧ si.C.length ≤ 480 from by have := hsi.el.1; have := hsi.dl.1; omega)
      have HOi := Lib.hid (hji.1.ord HOg.out HOc.out)
      have HSi := Lib.hid hsi
      replace HV := Lib.hid (HV.out.trans hki)
      clear hsi hji hki
      refine soloP HV.out ?_
      rw [wpPlan_one]
      simp only [pickOps_cons, pickOps_nil, consO_some, List.getElem?_cons_zero, List.getElem?_cons_succ]
      go_wp2_with (go_at_call 9; refine (join_any Ab nb cb Bb mb kb Db pb qb (p 1) Ac nc cc Bc mc kc Dc pc qc (p 2) _ (HSb.out.kept HV.out) (HSc.out.kept HV.out) HOb.out HOc.out (by omega) (by omega) (by omega) (by omega)).mono ?_; rintro e uj ⟨Aj, nj, cj, Bj, mj, kj, Dj, pj, qj, sj, rfl, hsj, hjj, hkj⟩)
      have HJj := Lib.hid hjj.1
      have hnj : nj ≤ 480 := by have := hsj.el.1; have := hjj.2.1; have := HFb.out; have := HFc.out; omega
      have hpj : pj ≤ 480 := by have := hsj.dl.1; have := hjj.2.2; have := HFb.out; have := HFc.out; omega
      have HFj := Lib.hid (show sj.L.length ≤ 480 ∧ sj.C.length ≤ 480 from by have := hsj.el.1; have := hsj.dl.1; omega)
      have HOj := Lib.hid (hjj.1.ord HOb.out HOc.out)
      have HSj := Lib.hid hsj
      replace HV := Lib.hid (HV.out.trans hkj)
      replace HSi := Lib.hid (HSi.out.kept hkj)
      clear hsj hjj hkj
      refine soloP HV.out ?_
      rw [wpPlan_one]
      simp only [pickOps_cons, pickOps_nil, consO_some, List.getElem?_cons_zero, List.getElem?_cons_succ]
      go_wp2_with (go_at_call 9; refine (join_any Aa na ca Ba ma ka Da pa qa (p 0) Aj nj cj Bj mj kj Dj pj qj sj _ (HSa.out.kept HV.out) HSj.out HOa.out HOj.out (by omega) (by omega) (by omega) (by omega)).mono ?_; rintro e ul ⟨Al, nl, cl, Bl, ml, kl, Dl, pl, ql, sl, rfl, hsl, hjl, hkl⟩)
      rw [← HASS.out _ _ _ HJi.out HJj.out hjl.1] at hsl
      have HSl := Lib.hid hsl
      replace HV := Lib.hid (HV.out.trans hkl)
      replace HSi := Lib.hid (HSi.out.kept hkl)
      replace HSj := Lib.hid (HSj.out.kept hkl)
      clear hsl hjl hkl
      refine soloP HV.out ?_
      rw [wpPlan_one]
      simp only [pickOps_cons, pickOps_nil, consO_some, List.getElem?_cons_zero, List.getElem?_cons_succ]
      go_wp2_with (go_at_call 11; refine (ssame_any Ai ni ci si.L Bi mi ki si.V Di pi qi si.C Al nl cl si.L Bl ml kl si.V Dl pl ql si.C _ HSi.out.el HSi.out.il HSi.out.dl HSl.out.el HSl.out.il HSl.out.dl true ⟨fun _ => ⟨rfl, rfl, rfl⟩, fun _ => rfl⟩).mono ?_; rintro e uz ⟨rfl, hkz⟩)
      replace HV := Lib.hid (HV.out.trans hkz)
      clear hkz HSi HSl HSj
      refine soloP HV.out ?_
      rw [wpPlan_read]
      simp only [pickOps_cons, pickOps_nil, consO_some, List.getElem?_cons_zero, List.getElem?_cons_succ]
      repeat (go_big_quiet_step (fail))
      refine wpQuiet_nil ?_
      rw [wpPlan_one]
      simp only [pickOps_cons, pickOps_nil, consO_some, List.getElem?_cons_zero, List.getElem?_cons_succ]
      go_wp2_with (go_at_call 9; refine (join_any Aa na ca Ba ma ka Da pa qa (p 0) Aa na ca Ba ma ka Da pa qa (p 0) _ (HSa.out.kept HV.out) (HSa.out.kept HV.out) HOa.out HOa.out (by omega) (by omega) (by omega) (by omega)).mono ?_; rintro e ut ⟨At, nt, ct, Bt, mt, kt, Dt, pt, qt, st, rfl, hst, hjt, hkt⟩)
      rw [hjt.1.one (JoinOf.self HOa.out)] at hst
      have HSt := Lib.hid hst
      replace HV := Lib.hid (HV.out.trans hkt)
      clear hst hjt hkt
      refine soloP HV.out ?_
      rw [wpPlan_one]
      simp only [pickOps_cons, pickOps_nil, consO_some, List.getElem?_cons_zero, List.getElem?_cons_succ]
      go_wp2_with (go_at_call 11; refine (ssame_any At nt ct (p 0).L Bt mt kt (p 0).V Dt pt qt (p 0).C Aa na ca (p 0).L Ba ma ka (p 0).V Da pa qa (p 0).C _ HSt.out.el HSt.out.il HSt.out.dl (HSa.out.el.kept HV.out) (HSa.out.il.kept HV.out) (HSa.out.dl.kept HV.out) true ⟨fun _ => ⟨rfl, rfl, rfl⟩, fun _ => rfl⟩).mono ?_; rintro e uz ⟨rfl, hkz⟩)
      replace HV := Lib.hid (HV.out.trans hkz)
      clear hkz HSt
      refine soloP HV.out ?_
      rw [wpPlan_read]
      simp only [pickOps_cons, pickOps_nil, consO_some, List.getElem?_cons_zero, List.getElem?_cons_succ]
      repeat (go_big_quiet_step (fail))
      refine wpQuiet_nil ?_
      rw [wpPlan_one]
      simp only [pickOps_cons, pickOps_nil, consO_some, List.getElem?_cons_zero, List.getElem?_cons_succ]
      go_wp2_with (go_at_call 12; refine (covers_any Ag ng cg Bg mg kg Dg pg qg sg Aa na ca Ba ma ka Da pa qa (p 0) _ (HSg.out.kept HV.out) (HSa.out.kept HV.out) HOg.out HOa.out (by omega) (by omega) (by omega) (by omega) true ⟨fun _ => HJg.out.left HOa.out HOb.out (HINV.out.agree 0 1 (by decide) (by decide)), fun _ => rfl⟩).mono ?_; rintro e uz ⟨rfl, hkz⟩)
      replace HV := Lib.hid (HV.out.trans hkz)
      clear hkz
      refine soloP HV.out ?_
      rw [wpPlan_read]
      simp only [pickOps_cons, pickOps_nil, consO_some, List.getElem?_cons_zero, List.getElem?_cons_succ]
      repeat (go_big_quiet_step (fail))
      refine wpQuiet_nil ?_
      rw [wpPlan_one]
      simp only [pickOps_cons, pickOps_nil, consO_some, List.getElem?_cons_zero, List.getElem?_cons_succ]
      go_wp2_with (go_at_call 12; refine (covers_any Ag ng cg Bg mg kg Dg pg qg sg Ab nb cb Bb mb kb Db pb qb (p 1) _ (HSg.out.kept HV.out) (HSb.out.kept HV.out) HOg.out HOb.out (by omega) (by omega) (by omega) (by omega) true ⟨fun _ => HJg.out.right_ HOa.out HOb.out (HINV.out.agree 0 1 (by decide) (by decide)), fun _ => rfl⟩).mono ?_; rintro e uz ⟨rfl, hkz⟩)
      replace HV := Lib.hid (HV.out.trans hkz)
      clear hkz
      refine soloP HV.out ?_
      rw [wpPlan_read]
      simp only [pickOps_cons, pickOps_nil, consO_some, List.getElem?_cons_zero, List.getElem?_cons_succ]
      repeat (go_big_quiet_step (fail))
      refine wpQuiet_nil ?_
      refine wpPlan_stop ?_
      clear Xg0 Xg1 Xg2
      clear Xa0 Xa1 Xa2 Xb0 Xb1 Xb2 Xc0 Xc1 Xc2
      replace HB4 := Lib.hid (HB4.out.kept HV.out); replace HB5 := Lib.hid (HB5.out.kept HV.out); replace HB6 := Lib.hid (HB6.out.kept HV.out); replace HB7 := Lib.hid (HB7.out.kept HV.out)
      replace HSa := Lib.hid (HSa.out.kept HV.out); replace HSb := Lib.hid (HSb.out.kept HV.out); replace HSc := Lib.hid (HSc.out.kept HV.out); replace HSg := Lib.hid (HSg.out.kept HV.out)
      have HK7 := Lib.hid (HK6.out.trans HV.out)
      clear HV HK6
      have HTU := Lib.hid (fun (r r' : Sta) (h' : AllR [p 2, p 0, p 1, p 0] r) (h : AllR [p 0, p 1, p 2] r') => HINV.out.turn h h')
      have HAL := Lib.hid (HINV.out.alls h40)
      obtain ⟨g, hg⟩ := bool_iff (JoinOf (p 0) (p 1) (p 0))
      have HCV := Lib.hid hg
      have HWI := Lib.hid (fun (h : JoinOf (p 0) (p 1) (p 0)) => ((covers_iff HOa.out HOb.out (HINV.out.agree 0 1 (by decide) (by decide))).1 h).1)
      clear hg
      have Xa0 := KExt.cell HB4.out.c0; have Xa1 := KExt.cell HB4.out.c1; have Xa2 := KExt.cell HB4.out.c2
      have Xb0 := KExt.cell HB5.out.c0; have Xb1 := KExt.cell HB5.out.c1; have Xb2 := KExt.cell HB5.out.c2
      have Xc0 := KExt.cell HB6.out.c0; have Xc1 := KExt.cell HB6.out.c1; have Xc2 := KExt.cell HB6.out.c2
      have Xg0 := KExt.cell HB7.out.c0; have Xg1 := KExt.cell HB7.out.c1; have Xg2 := KExt.cell HB7.out.c2
      go_wp2_with fail
      refine region_plan _ 36 (.read [0, 1, 3] (.one 2 (.one 4 (.read [5, 6, 7, 8, 9, 12, 13, 14] (.two 10 (.two 11 (.one 15 (.one 16 (.one 17 (.read [18, 19, 20, 21] (.one 22 (.read [23, 24, 25, 26, 27, 28] (.one 29 (.read [30, 31, 32] (.one 33 (.read [34, 35] .stop)))))))))) 15 (.one 11 (.one 16 (.one 17 (.read [18, 19, 20, 21] (.one 22 (.read [23, 24, 25, 26, 27, 28] (.one 29 (.read [30, 31, 32] (.one 33 (.read [34, 35] .stop))))))))))) 15 (.one 10 (.one 11 (.one 16 (.one 17 (.read [18, 19, 20, 21] (.one 22 (.read [23, 24, 25, 26, 27, 28] (.one 29 (.read [30, 31, 32] (.one 33 (.read [34, 35] .stop)))))))))))))))) (by kernel_rfl) (by kernel_rfl) (by kernel_rfl) (by kernel_rfl) (by kernel_rfl) (fun _ d _ _ _ h => by cases d <;> exact h) (Kept.refl _) ?_
      intro wd hwd
      have HV := Lib.hid hwd
      clear hwd
      rw [wpPlan_read]
      simp only [pickOps_cons, pickOps_nil, consO_some, List.getElem?_cons_zero, List.getElem?_cons_succ]
      repeat (go_big_quiet_step (fail))
      refine wpQuiet_nil ?_
      rw [wpPlan_one]
      simp only [pickOps_cons, pickOps_nil, consO_some, List.getElem?_cons_zero, List.getElem?_cons_succ]
      go_wp2_with (go_at_call 9; refine (join_any Ag ng cg Bg mg kg Dg pg qg sg Aa na ca Ba ma ka Da pa qa (p 0) _ (HSg.out.kept HV.out) (HSa.out.kept HV.out) HOg.out HOa.out (by omega) (by omega) (by omega) (by omega)).mono ?_; rintro e uh ⟨Ah, nh, ch, Bh, mh, kh, Dh, ph, qh, sh, rfl, hsh, hjh, hkh⟩)
      rw [hjh.1.one (HJg.out.left HOa.out HOb.out (HINV.out.agree 0 1 (by decide) (by decide)))] at hsh
      have HSh := Lib.hid hsh
      replace HV := Lib.hid (HV.out.trans hkh)
      clear hsh hjh hkh
      refine soloP HV.out ?_
      rw [wpPlan_one]
      simp only [pickOps_cons, pickOps_nil, consO_some, List.getElem?_cons_zero, List.getElem?_cons_succ]
      go_wp2_with (go_at_call 11; refine (ssame_any Ah nh ch sg.L Bh mh kh sg.V Dh ph qh sg.C Ag ng cg sg.L Bg mg kg sg.V Dg pg qg sg.C _ HSh.out.el HSh.out.il HSh.out.dl (HSg.out.el.kept HV.out) (HSg.out.il.kept HV.out) (HSg.out.dl.kept HV.out) true ⟨fun _ => ⟨rfl, rfl, rfl⟩, fun _ => rfl⟩).mono ?_; rintro e uy ⟨rfl, hkz⟩)
      replace HV := Lib.hid (HV.out.trans hkz)
      clear hkz HSh
      refine soloP HV.out ?_
      rw [wpPlan_read]
      simp only [pickOps_cons, pickOps_nil, consO_some, List.getElem?_cons_zero, List.getElem?_cons_succ]
      repeat (go_big_quiet_step (fail))
      refine wpQuiet_nil ?_
      rw [wpPlan_two]
      simp only [pickOps_cons, pickOps_nil, consO_some, List.getElem?_cons_zero, List.getElem?_cons_succ]
      constructor
      · go_wp2_with fail
        have HL4 := Lib.hid (ss_four 31 (HSc.out.kept HV.out) (HSa.out.kept HV.out) (HSb.out.kept HV.out) (HSa.out.kept HV.out))
        have hkn := (Kept.refl uy).alloc #[.slice Ac nc cc, .slice Bc mc kc, .slice Dc pc qc, .slice Aa na ca, .slice Ba ma ka, .slice Da pa qa, .slice Ab nb cb, .slice Bb mb kb, .slice Db pb qb, .slice Aa na ca, .slice Ba ma ka, .slice Da pa qa] 31
        obtain ⟨zL4, hz⟩ : ∃ z, (World.heap uy).size = z := ⟨_, rfl⟩
        replace HV := Lib.hid (HV.out.trans hkn)
        obtain ⟨yL4, hy⟩ : ∃ y, World.alloc uy (.cells #[.slice Ac nc cc, .slice Bc mc kc, .slice Dc pc qc, .slice Aa na ca, .slice Ba ma ka, .slice Da pa qa, .slice Ab nb cb, .slice Bb mb kb, .slice Db pb qb, .slice Aa na ca, .slice Ba ma ka, .slice Da pa qa] 31) = y := ⟨_, rfl⟩
        rw [hz, hy] at HL4
        rw [hy] at HV ⊢
        rw [hz]
        clear hkn hz hy
        refine soloP HV.out ?_
        rw [wpPlan_two]
        simp only [pickOps_cons, pickOps_nil, consO_some, List.getElem?_cons_zero, List.getElem?_cons_succ]
        constructor
        · go_wp2_with (go_at_call 13; refine (all_any 120 4 (by decide) _ 4 4 [p 2, p 0, p 1, p 0] _ HL4.out HAL.out.1 rfl).mono ?_; rintro e u11 ⟨Ar, nr, cr, Br, mr, kr, Dr, pr, qr, sr, rfl, hsr, hjr, hkr⟩)
          have HAr := Lib.hid hjr.1
          have HSr := Lib.hid hsr
          replace HV := Lib.hid (HV.out.trans hkr)
          clear hsr hjr hkr HL4
          refine soloP HV.out ?_
          rw [wpPlan_one]
          simp only [pickOps_cons, pickOps_nil, consO_some, List.getElem?_cons_zero, List.getElem?_cons_succ]
          go_wp2_with fail
          have HL3 := Lib.hid (ss_three 31 (HSa.out.kept HV.out) (HSb.out.kept HV.out) (HSc.out.kept HV.out))
          have hkn := (Kept.refl u11).alloc #[.slice Aa na ca, .slice Ba ma ka, .slice Da pa qa, .slice Ab nb cb, .slice Bb mb kb, .slice Db pb qb, .slice Ac nc cc, .slice Bc mc kc, .slice Dc pc qc] 31
          obtain ⟨zL3, hz⟩ : ∃ z, (World.heap u11).size = z := ⟨_, rfl⟩
          replace HV := Lib.hid (HV.out.trans hkn)
          replace HSr := Lib.hid (HSr.out.kept hkn)
          obtain ⟨yL3, hy⟩ : ∃ y, World.alloc u11 (.cells #[.slice Aa na ca, .slice Ba ma ka, .slice Da pa qa, .slice Ab nb cb, .slice Bb mb kb, .slice Db pb qb, .slice Ac nc cc, .slice Bc mc kc, .slice Dc pc qc] 31) = y := ⟨_, rfl⟩
          rw [hz, hy] at HL3
          rw [hy] at HSr HV ⊢
          rw [hz]
          clear hkn hz hy
          refine soloP HV.out ?_
          rw [wpPlan_one]
          simp only [pickOps_cons, pickOps_nil, consO_some, List.getElem?_cons_zero, List.getElem?_cons_succ]
          go_wp2_with (go_at_call 13; refine (all_any 120 3 (by decide) _ 3 3 [p 0, p 1, p 2] _ HL3.out HAL.out.2 rfl).mono ?_; rintro e u16 ⟨Ax, nx, cx, Bx, mx, kx, Dx, px, qx, sx, rfl, hsx, hjx, hkx⟩)
          have HAx := Lib.hid hjx.1
          have HSx := Lib.hid hsx
          replace HV := Lib.hid (HV.out.trans hkx)
          replace HSr := Lib.hid (HSr.out.kept hkx)
          clear hsx hjx hkx HL3
          refine soloP HV.out ?_
          rw [wpPlan_one]
          simp only [pickOps_cons, pickOps_nil, consO_some, List.getElem?_cons_zero, List.getElem?_cons_succ]
          have hsx2 := HSx.out
          rw [HTU.out _ _ HAr.out HAx.out] at hsx2
          replace HSx := Lib.hid hsx2
          clear hsx2
          go_wp2_with (go_at_call 11; refine (ssame_any Ar nr cr sr.L Br mr kr sr.V Dr pr qr sr.C Ax nx cx sr.L Bx mx kx sr.V Dx px qx sr.C _ HSr.out.el HSr.out.il HSr.out.dl HSx.out.el HSx.out.il HSx.out.dl true ⟨fun _ => ⟨rfl, rfl, rfl⟩, fun _ => rfl⟩).mono ?_; rintro e uz ⟨rfl, hkz⟩)
          replace HV := Lib.hid (HV.out.trans hkz)
          clear hkz HSr HSx
          refine soloP HV.out ?_
          rw [wpPlan_read]
          simp only [pickOps_cons, pickOps_nil, consO_some, List.getElem?_cons_zero, List.getElem?_cons_succ]
          repeat (go_big_quiet_step (fail))
          refine wpQuiet_nil ?_
          rw [wpPlan_one]
          simp only [pickOps_cons, pickOps_nil, consO_some, List.getElem?_cons_zero, List.getElem?_cons_succ]
          go_wp2_with (go_at_call 12; refine (covers_any Aa na ca Ba ma ka Da pa qa (p 0) Ab nb cb Bb mb kb Db pb qb (p 1) _ (HSa.out.kept HV.out) (HSb.out.kept HV.out) HOa.out HOb.out (by omega) (by omega) (by omega) (by omega) g HCV.out).mono ?_; rintro e uz ⟨rfl, hkz⟩)
          replace HV := Lib.hid (HV.out.trans hkz)
          clear hkz
          refine soloP HV.out ?_
          cases g with
          | true =>
            rw [wpPlan_read]
            simp only [pickOps_cons, pickOps_nil, consO_some, List.getElem?_cons_zero, List.getElem?_cons_succ]
            repeat (go_big_quiet_step (fail))
            refine wpQuiet_nil ?_
            rw [wpPlan_one]
            simp only [pickOps_cons, pickOps_nil, consO_some, List.getElem?_cons_zero, List.getElem?_cons_succ]
            go_wp2_with (go_at_call 14; refine (gwithin_any Bb mb kb (p 1).V Db pb qb (p 1).C Ba ma ka (p 0).V Da pa qa (p 0).C _ (HSb.out.il.kept HV.out) (HSb.out.dl.kept HV.out) (HSa.out.il.kept HV.out) (HSa.out.dl.kept HV.out) HOa.out.ctx (by omega) true ⟨fun _ => HWI.out (HCV.out.1 rfl), fun _ => rfl⟩).mono ?_; rintro e uz ⟨rfl, hkz⟩)
            replace HV := Lib.hid (HV.out.trans hkz)
            clear hkz
            refine soloP HV.out ?_
            rw [wpPlan_read]
            simp only [pickOps_cons, pickOps_nil, consO_some, List.getElem?_cons_zero, List.getElem?_cons_succ]
            repeat (go_big_quiet_step (fail))
            refine wpQuiet_nil ?_
            rw [wpPlan_one]
            simp only [pickOps_cons, pickOps_nil, consO_some, List.getElem?_cons_zero, List.getElem?_cons_succ]
            go_wp2_with (go_at_call 7; refine (jawake_any _).mono ?_; rintro e uz ⟨rfl, hkz⟩)
            replace HV := Lib.hid (HV.out.trans hkz)
            clear hkz
            refine soloP HV.out ?_
            rw [wpPlan_read]
            simp only [pickOps_cons, pickOps_nil, consO_some, List.getElem?_cons_zero, List.getElem?_cons_succ]
            repeat (go_big_quiet_step (fail))
            refine wpQuiet_nil ?_
            refine wpPlan_stop ?_
            clear Xg0 Xg1 Xg2 Xa0 Xa1 Xa2 Xb0 Xb1 Xb2 Xc0 Xc1 Xc2
            go_wp2_with fail
            go_ret
            exact ⟨rfl, HK7.out.trans HV.out⟩
          | false =>
            rw [wpPlan_read]
            simp only [pickOps_cons, pickOps_nil, consO_some, List.getElem?_cons_zero, List.getElem?_cons_succ]
            repeat (go_big_quiet_step (fail))
            refine wpQuiet_nil ?_
            rw [wpPlan_one]
            simp only [pickOps_cons, pickOps_nil, consO_some, List.getElem?_cons_zero, List.getElem?_cons_succ]
            go_wp2_with fail
            refine soloP HV.out ?_
            rw [wpPlan_read]
            simp only [pickOps_cons, pickOps_nil, consO_some, List.getElem?_cons_zero, List.getElem?_cons_succ]
            repeat (go_big_quiet_step (fail))
            refine wpQuiet_nil ?_
            rw [wpPlan_one]
            simp only [pickOps_cons, pickOps_nil, consO_some, List.getElem?_cons_zero, List.getElem?_cons_succ]
            go_wp2_with (go_at_call 7; refine (jawake_any _).mono ?_; rintro e uz ⟨rfl, hkz⟩)
            replace HV := Lib.hid (HV.out.trans hkz)
            clear hkz
            refine soloP HV.out ?_
            rw [wpPlan_read]
            simp only [pickOps_cons, pickOps_nil, consO_some, List.getElem?_cons_zero, List.getElem?_cons_succ]
            repeat (go_big_quiet_step (fail))
            refine wpQuiet_nil ?_
            refine wpPlan_stop ?_
            clear Xg0 Xg1 Xg2 Xa0 Xa1 Xa2 Xb0 Xb1 Xb2 Xc0 Xc1 Xc2
            go_wp2_with fail
            go_ret
            exact ⟨rfl, HK7.out.trans HV.out⟩
        · go_wp2_with fail
          have HL3 := Lib.hid (ss_three 31 (HSa.out.kept HV.out) (HSb.out.kept HV.out) (HSc.out.kept HV.out))
          have hkn := (Kept.refl yL4).alloc #[.slice Aa na ca, .slice Ba ma ka, .slice Da pa qa, .slice Ab nb cb, .slice Bb mb kb, .slice Db pb qb, .slice Ac nc cc, .slice Bc mc kc, .slice Dc pc qc] 31
          obtain ⟨zL3, hz⟩ : ∃ z, (World.heap yL4).size = z := ⟨_, rfl⟩
          replace HV := Lib.hid (HV.out.trans hkn)
          replace HL4 := Lib.hid (HL4.out.kept hkn)
          obtain ⟨yL3, hy⟩ : ∃ y, World.alloc yL4 (.cells #[.slice Aa na ca, .slice Ba ma ka, .slice Da pa qa, .slice Ab nb cb, .slice Bb mb kb, .slice Db pb qb, .slice Ac nc cc, .slice Bc mc kc, .slice Dc pc qc] 31) = y := ⟨_, rfl⟩
          rw [hz, hy] at HL3
          rw [hy] at HL4 HV ⊢
          rw [hz]
          clear hkn hz hy
          refine soloP HV.out ?_
          rw [wpPlan_one]
          simp only [pickOps_cons, pickOps_nil, consO_some, List.getElem?_cons_zero, List.getElem?_cons_succ]
          go_wp2_with (go_at_call 13; refine (all_any 120 4 (by decide) _ 4 4 [p 2, p 0, p 1, p 0] _ HL4.out HAL.out.1 rfl).mono ?_; rintro e u11 ⟨Ar, nr, cr, Br, mr, kr, Dr, pr, qr, sr, rfl, hsr, hjr, hkr⟩)
          have HAr := Lib.hid hjr.1
          have HSr := Lib.hid hsr
          replace HV := Lib.hid (HV.out.trans hkr)
          replace HL3 := Lib.hid (HL3.out.kept hkr)
          clear hsr hjr hkr HL4
          refine soloP HV.out ?_
          rw [wpPlan_one]
          simp only [pickOps_cons, pickOps_nil, consO_some, List.getElem?_cons_zero, List.getElem?_cons_succ]
          go_wp2_with (go_at_call 13; refine (all_any 120 3 (by decide) _ 3 3 [p 0, p 1, p 2] _ HL3.out HAL.out.2 rfl).mono ?_; rintro e u16 ⟨Ax, nx, cx, Bx, mx, kx, Dx, px, qx, sx, rfl, hsx, hjx, hkx⟩)
          have HAx := Lib.hid hjx.1
          have HSx := Lib.hid hsx
          replace HV := Lib.hid (HV.out.trans hkx)
          replace HSr := Lib.hid (HSr.out.kept hkx)
          clear hsx hjx hkx HL3
          refine soloP HV.out ?_
          rw [wpPlan_one]
          simp only [pickOps_cons, pickOps_nil, consO_some, List.getElem?_cons_zero, List.getElem?_cons_succ]
          have hsx2 := HSx.out
          rw [HTU.out _ _ HAr.out HAx.out] at hsx2
          replace HSx := Lib.hid hsx2
          clear hsx2
          go_wp2_with (go_at_call 11; refine (ssame_any Ar nr cr sr.L Br mr kr sr.V Dr pr qr sr.C Ax nx cx sr.L Bx mx kx sr.V Dx px qx sr.C _ HSr.out.el HSr.out.il HSr.out.dl HSx.out.el HSx.out.il HSx.out.dl true ⟨fun _ => ⟨rfl, rfl, rfl⟩, fun _ => rfl⟩).mono ?_; rintro e uz ⟨rfl, hkz⟩)
          replace HV := Lib.hid (HV.out.trans hkz)
          clear hkz HSr HSx
          refine soloP HV.out ?_
          rw [wpPlan_read]
          simp only [pickOps_cons, pickOps_nil, consO_some, List.getElem?_cons_zero, List.getElem?_cons_succ]
          repeat (go_big_quiet_step (fail))
          refine wpQuiet_nil ?_
          rw [wpPlan_one]
          simp only [pickOps_cons, pickOps_nil, consO_some, List.getElem?_cons_zero, List.getElem?_cons_succ]
          go_wp2_with (go_at_call 12; refine (covers_any Aa na ca Ba ma ka Da pa qa (p 0) Ab nb cb Bb mb kb Db pb qb (p 1) _ (HSa.out.kept HV.out) (HSb.out.kept HV.out) HOa.out HOb.out (by omega) (by omega) (by omega) (by omega) g HCV.out).mono ?_; rintro e uz ⟨rfl, hkz⟩)
          replace HV := Lib.hid (HV.out.trans hkz)
          clear hkz
          refine soloP HV.out ?_
          cases g with
          | true =>
            rw [wpPlan_read]
            simp only [pickOps_cons, pickOps_nil, consO_some, List.getElem?_cons_zero, List.getElem?_cons_succ]
            repeat (go_big_quiet_step (fail))
            refine wpQuiet_nil ?_
            rw [wpPlan_one]
            simp only [pickOps_cons, pickOps_nil, consO_some, List.getElem?_cons_zero, List.getElem?_cons_succ]
            go_wp2_with (go_at_call 14; refine (gwithin_any Bb mb kb (p 1).V Db pb qb (p 1).C Ba ma ka (p 0).V Da pa qa (p 0).C _ (HSb.out.il.kept HV.out) (HSb.out.dl.kept HV.out) (HSa.out.il.kept HV.out) (HSa.out.dl.kept HV.out) HOa.out.ctx (by omega) true ⟨fun _ => HWI.out (HCV.out.1 rfl), fun _ => rfl⟩).mono ?_; rintro e uz ⟨rfl, hkz⟩)
            replace HV := Lib.hid (HV.out.trans hkz)
            clear hkz
            refine soloP HV.out ?_
            rw [wpPlan_read]
            simp only [pickOps_cons, pickOps_nil, consO_some, List.getElem?_cons_zero, List.getElem?_cons_succ]
            repeat (go_big_quiet_step (fail))
            refine wpQuiet_nil ?_
            rw [wpPlan_one]
            simp only [pickOps_cons, pickOps_nil, consO_some, List.getElem?_cons_zero, List.getElem?_cons_succ]
            go_wp2_with (go_at_call 7; refine (jawake_any _).mono ?_; rintro e uz ⟨rfl, hkz⟩)
            replace HV := Lib.hid (HV.out.trans hkz)
            clear hkz
            refine soloP HV.out ?_
            rw [wpPlan_read]
            simp only [pickOps_cons, pickOps_nil, consO_some, List.getElem?_cons_zero, List.getElem?_cons_succ]
            repeat (go_big_quiet_step (fail))
            refine wpQuiet_nil ?_
            refine wpPlan_stop ?_
            clear Xg0 Xg1 Xg2 Xa0 Xa1 Xa2 Xb0 Xb1 Xb2 Xc0 Xc1 Xc2
            go_wp2_with fail
            go_ret
            exact ⟨rfl, HK7.out.trans HV.out⟩
          | false =>
            rw [wpPlan_read]
            simp only [pickOps_cons, pickOps_nil, consO_some, List.getElem?_cons_zero, List.getElem?_cons_succ]
            repeat (go_big_quiet_step (fail))
            refine wpQuiet_nil ?_
            rw [wpPlan_one]
            simp only [pickOps_cons, pickOps_nil, consO_some, List.getElem?_cons_zero, List.getElem?_cons_succ]
            go_wp2_with fail
            refine soloP HV.out ?_
            rw [wpPlan_read]
            simp only [pickOps_cons, pickOps_nil, consO_some, List.getElem?_cons_zero, List.getElem?_cons_succ]
            repeat (go_big_quiet_step (fail))
            refine wpQuiet_nil ?_
            rw [wpPlan_one]
            simp only [pickOps_cons, pickOps_nil, consO_some, List.getElem?_cons_zero, List.getElem?_cons_succ]
            go_wp2_with (go_at_call 7; refine (jawake_any _).mono ?_; rintro e uz ⟨rfl, hkz⟩)
            replace HV := Lib.hid (HV.out.trans hkz)
            clear hkz
            refine soloP HV.out ?_
            rw [wpPlan_read]
            simp only [pickOps_cons, pickOps_nil, consO_some, List.getElem?_cons_zero, List.getElem?_cons_succ]
            repeat (go_big_quiet_step (fail))
            refine wpQuiet_nil ?_
            refine wpPlan_stop ?_
            clear Xg0 Xg1 Xg2 Xa0 Xa1 Xa2 Xb0 Xb1 Xb2 Xc0 Xc1 Xc2
            go_wp2_with fail
            go_ret
            exact ⟨rfl, HK7.out.trans HV.out⟩
      · go_wp2_with fail
        have HL3 := Lib.hid (ss_three 31 (HSa.out.kept HV.out) (HSb.out.kept HV.out) (HSc.out.kept HV.out))
        have hkn := (Kept.refl uy).alloc #[.slice Aa na ca, .slice Ba ma ka, .slice Da pa qa, .slice Ab nb cb, .slice Bb mb kb, .slice Db pb qb, .slice Ac nc cc, .slice Bc mc kc, .slice Dc pc qc] 31
        obtain ⟨zL3, hz⟩ : ∃ z, (World.heap uy).size = z := ⟨_, rfl⟩
        replace HV := Lib.hid (HV.out.trans hkn)
        obtain ⟨yL3, hy⟩ : ∃ y, World.alloc uy (.cells #[.slice Aa na ca, .slice Ba ma ka, .slice Da pa qa, .slice Ab nb cb, .slice Bb mb kb, .slice Db pb qb, .slice Ac nc cc, .slice Bc mc kc, .slice Dc pc qc] 31) = y := ⟨_, rfl⟩
        rw [hz, hy] at HL3
        rw [hy] at HV ⊢
        rw [hz]
        clear hkn hz hy
        refine soloP HV.out ?_
        rw [wpPlan_one]
        simp only [pickOps_cons, pickOps_nil, consO_some, List.getElem?_cons_zero, List.getElem?_cons_succ]
        go_wp2_with fail
        have HL4 := Lib.hid (ss_four 31 (HSc.out.kept HV.out) (HSa.out.kept HV.out) (HSb.out.kept HV.out) (HSa.out.kept HV.out))
        have hkn := (Kept.refl yL3).alloc #[.slice Ac nc cc, .slice Bc mc kc, .slice Dc pc qc, .slice Aa na ca, .slice Ba ma ka, .slice Da pa qa, .slice Ab nb cb, .slice Bb mb kb, .slice Db pb qb, .slice Aa na ca, .slice Ba ma ka, .slice Da pa qa] 31
        obtain ⟨zL4, hz⟩ : ∃ z, (World.heap yL3).size = z := ⟨_, rfl⟩
        replace HV := Lib.hid (HV.out.trans hkn)
        replace HL3 := Lib.hid (HL3.out.kept hkn)
        obtain ⟨yL4, hy⟩ : ∃ y, World.alloc yL3 (.cells #[.slice Ac nc cc, .slice Bc mc kc, .slice Dc pc qc, .slice Aa na ca, .slice Ba ma ka, .slice Da pa qa, .slice Ab nb cb, .slice Bb mb kb, .slice Db pb qb, .slice Aa na ca, .slice Ba ma ka, .slice Da pa qa] 31) = y := ⟨_, rfl⟩
        rw [hz, hy] at HL4
        rw [hy] at HL3 HV ⊢
        rw [hz]
        clear hkn hz hy
        refine soloP HV.out ?_
        rw [wpPlan_one]
        simp only [pickOps_cons, pickOps_nil, consO_some, List.getElem?_cons_zero, List.getElem?_cons_succ]
        go_wp2_with (go_at_call 13; refine (all_any 120 4 (by decide) _ 4 4 [p 2, p 0, p 1, p 0] _ HL4.out HAL.out.1 rfl).mono ?_; rintro e u11 ⟨Ar, nr, cr, Br, mr, kr, Dr, pr, qr, sr, rfl, hsr, hjr, hkr⟩)
        have HAr := Lib.hid hjr.1
        have HSr := Lib.hid hsr
        replace HV := Lib.hid (HV.out.trans hkr)
        replace HL3 := Lib.hid (HL3.out.kept hkr)
        clear hsr hjr hkr HL4
        refine soloP HV.out ?_
        rw [wpPlan_one]
        simp only [pickOps_cons, pickOps_nil, consO_some, List.getElem?_cons_zero, List.getElem?_cons_succ]
        go_wp2_with (go_at_call 13; refine (all_any 120 3 (by decide) _ 3 3 [p 0, p 1, p 2] _ HL3.out HAL.out.2 rfl).mono ?_; rintro e u16 ⟨Ax, nx, cx, Bx, mx, kx, Dx, px, qx, sx, rfl, hsx, hjx, hkx⟩)
        have HAx := Lib.hid hjx.1
        have HSx := Lib.hid hsx
        replace HV := Lib.hid (HV.out.trans hkx)
        replace HSr := Lib.hid (HSr.out.kept hkx)
        clear hsx hjx hkx HL3
        refine soloP HV.out ?_
        rw [wpPlan_one]
        simp only [pickOps_cons, pickOps_nil, consO_some, List.getElem?_cons_zero, List.getElem?_cons_succ]
        have hsx2 := HSx.out
        rw [HTU.out _ _ HAr.out HAx.out] at hsx2
        replace HSx := Lib.hid hsx2
        clear hsx2
        go_wp2_with (go_at_call 11; refine (ssame_any Ar nr cr sr.L Br mr kr sr.V Dr pr qr sr.C Ax nx cx sr.L Bx mx kx sr.V Dx px qx sr.C _ HSr.out.el HSr.out.il HSr.out.dl HSx.out.el HSx.out.il HSx.out.dl true ⟨fun _ => ⟨rfl, rfl, rfl⟩, fun _ => rfl⟩).mono ?_; rintro e uz ⟨rfl, hkz⟩)
        replace HV := Lib.hid (HV.out.trans hkz)
        clear hkz HSr HSx
        refine soloP HV.out ?_
        rw [wpPlan_read]
        simp only [pickOps_cons, pickOps_nil, consO_some, List.getElem?_cons_zero, List.getElem?_cons_succ]
        repeat (go_big_quiet_step (fail))
        refine wpQuiet_nil ?_
        rw [wpPlan_one]
        simp only [pickOps_cons, pickOps_nil, consO_some, List.getElem?_cons_zero, List.getElem?_cons_succ]
        go_wp2_with (go_at_call 12; refine (covers_any Aa na ca Ba ma ka Da pa qa (p 0) Ab nb cb Bb mb kb Db pb qb (p 1) _ (HSa.out.kept HV.out) (HSb.out.kept HV.out) HOa.out HOb.out (by omega) (by omega) (by omega) (by omega) g HCV.out).mono ?_; rintro e uz ⟨rfl, hkz⟩)
        replace HV := Lib.hid (HV.out.trans hkz)
        clear hkz
        refine soloP HV.out ?_
        cases g with
        | true =>
          rw [wpPlan_read]
          simp only [pickOps_cons, pickOps_nil, consO_some, List.getElem?_cons_zero, List.getElem?_cons_succ]
          repeat (go_big_quiet_step (fail))
          refine wpQuiet_nil ?_
          rw [wpPlan_one]
          simp only [pickOps_cons, pickOps_nil, consO_some, List.getElem?_cons_zero, List.getElem?_cons_succ]
          go_wp2_with (go_at_call 14; refine (gwithin_any Bb mb kb (p 1).V Db pb qb (p 1).C Ba ma ka (p 0).V Da pa qa (p 0).C _ (HSb.out.il.kept HV.out) (HSb.out.dl.kept HV.out) (HSa.out.il.kept HV.out) (HSa.out.dl.kept HV.out) HOa.out.ctx (by omega) true ⟨fun _ => HWI.out (HCV.out.1 rfl), fun _ => rfl⟩).mono ?_; rintro e uz ⟨rfl, hkz⟩)
          replace HV := Lib.hid (HV.out.trans hkz)
          clear hkz
          refine soloP HV.out ?_
          rw [wpPlan_read]
          simp only [pickOps_cons, pickOps_nil, consO_some, List.getElem?_cons_zero, List.getElem?_cons_succ]
          repeat (go_big_quiet_step (fail))
          refine wpQuiet_nil ?_
          rw [wpPlan_one]
          simp only [pickOps_cons, pickOps_nil, consO_some, List.getElem?_cons_zero, List.getElem?_cons_succ]
          go_wp2_with (go_at_call 7; refine (jawake_any _).mono ?_; rintro e uz ⟨rfl, hkz⟩)
          replace HV := Lib.hid (HV.out.trans hkz)
          clear hkz
          refine soloP HV.out ?_
          rw [wpPlan_read]
          simp only [pickOps_cons, pickOps_nil, consO_some, List.getElem?_cons_zero, List.getElem?_cons_succ]
          repeat (go_big_quiet_step (fail))
          refine wpQuiet_nil ?_
          refine wpPlan_stop ?_
          clear Xg0 Xg1 Xg2 Xa0 Xa1 Xa2 Xb0 Xb1 Xb2 Xc0 Xc1 Xc2
          go_wp2_with fail
          go_ret
          exact ⟨rfl, HK7.out.trans HV.out⟩
        | false =>
          rw [wpPlan_read]
          simp only [pickOps_cons, pickOps_nil, consO_some, List.getElem?_cons_zero, List.getElem?_cons_succ]
          repeat (go_big_quiet_step (fail))
          refine wpQuiet_nil ?_
          rw [wpPlan_one]
          simp only [pickOps_cons, pickOps_nil, consO_some, List.getElem?_cons_zero, List.getElem?_cons_succ]
          go_wp2_with fail
          refine soloP HV.out ?_
          rw [wpPlan_read]
          simp only [pickOps_cons, pickOps_nil, consO_some, List.getElem?_cons_zero, List.getElem?_cons_succ]
          repeat (go_big_quiet_step (fail))
          refine wpQuiet_nil ?_
          rw [wpPlan_one]
          simp only [pickOps_cons, pickOps_nil, consO_some, List.getElem?_cons_zero, List.getElem?_cons_succ]
          go_wp2_with (go_at_call 7; refine (jawake_any _).mono ?_; rintro e uz ⟨rfl, hkz⟩)
          replace HV := Lib.hid (HV.out.trans hkz)
          clear hkz
          refine soloP HV.out ?_
          rw [wpPlan_read]
          simp only [pickOps_cons, pickOps_nil, consO_some, List.getElem?_cons_zero, List.getElem?_cons_succ]
          repeat (go_big_quiet_step (fail))
          refine wpQuiet_nil ?_
          refine wpPlan_stop ?_
          clear Xg0 Xg1 Xg2 Xa0 Xa1 Xa2 Xb0 Xb1 Xb2 Xc0 Xc1 Xc2
          go_wp2_with fail
          go_ret
          exact ⟨rfl, HK7.out.trans HV.out⟩
end Go.Proofs.YtcldbmhjfmbcfaaGreat
