/-
  What is proved: awake of layer 14's laws returns true; the world has new blocks at most.
-/
import Derived.Test.YtofnpifooaijcaaGreatM43
import Derived.Test.YtofnpifooaijcaaGreatM4
import Derived.Deep.DeepCutAuto
namespace Go.Proofs.YtofnpifooaijcaaGreat
open Go.RowKit
set_option linter.unusedVariables false
theorem Box1.put {w : World} {b : Nat} {u : Value} (h : Box1 w b u) (v : Value) : Box1 (w.setCell ⟨b, 0, none⟩ v) b v :=
  ⟨World.cell?_setCell_same _ _ _ h.c0, fun j => by rw [World.frozen?_setCell]; exact h.f j, by have := h.lt; simpa [World.setCell] using this⟩
def OneB (V : World) (M : List Fd) (v u : Value) (w : World) : Prop :=
  ∃ g B d, v = .pointer (some ⟨g, 0, none⟩) ∧ u = .int .i64 0 ∧ Kept V w ∧ Box1 w g (.slice B 4 d) ∧ Fl w B 4 d M
theorem M1_w : ∀ x ∈ M1, x.p.size ≤ 1099511627776 := of_decide_eq_true (by kernel_rfl)
theorem M2_w : ∀ x ∈ M2, x.p.size ≤ 1099511627776 := of_decide_eq_true (by kernel_rfl)
theorem M3_w : ∀ x ∈ M3, x.p.size ≤ 1099511627776 := of_decide_eq_true (by kernel_rfl)
theorem M9_w : ∀ x ∈ M9, x.p.size ≤ 1099511627776 := of_decide_eq_true (by kernel_rfl)
set_option maxRecDepth 100000 in
set_option maxHeartbeats 64000000 in
theorem kawake_any (w : World) : Calls Tryz.prog 7 #[] w fun e w' => e = .returned (.bool true) ∧ Kept w w' := by
  have HW := Lib.hid (Kept.refl w)
  go_enter Tryz.func7, Tryz.ntmps7
  go_wp2_with fail
  go_at_call 26
  refine (fsmall_any _).mono ?_
  rintro e z1 ⟨b0, rfl, hs, hk⟩
  have hka := (Kept.refl z1).alloc #[.slice (some ⟨b0, 0, none⟩) 4 4] 24
  have HS := Lib.hid (hs.kept hka); have HB := Lib.hid (Box1.new z1 (.slice (some ⟨b0, 0, none⟩) 4 4) 24)
  replace HW := Lib.hid (HW.out.trans (hk.trans hka))
  clear hs hk hka
  obtain ⟨va, hva⟩ : ∃ u, z1.alloc (.cells #[.slice (some ⟨b0, 0, none⟩) 4 4] 24) = u := ⟨_, rfl⟩
  rw [hva] at HW HS HB
  have HVA := Lib.hid hva
  clear hva
  go_wp2_with fail
  rw [HVA.out]
  have X0 := KExt.cell HB.out.c0
  go_cut [2, 3] (fun v u wx => OneB va M1 v u wx)
  case first =>
    refine region_plan va 9 (.read [0] (.two 1 (.two 2 (.read [3, 4, 5] (.one 6 (.one 7 (.read [8] .stop)))) 6 (.one 2 (.read [3, 4, 5] (.one 7 (.read [8] .stop))))) 6 (.one 1 (.one 2 (.read [3, 4, 5] (.one 7 (.read [8] .stop))))))) (by kernel_rfl) (by kernel_rfl) (by kernel_rfl) (by kernel_rfl) (by kernel_rfl) (fun _ d _ _ _ h => by cases d <;> exact h) (Kept.refl _) ?_
    intro wd hwd
    have HV := Lib.hid hwd
    clear hwd
    rw [wpPlan_read]
    simp only [pA, pB, pC, pD]
    repeat (go_big_quiet_step (fail))
    refine wpQuiet_nil ?_
    clear X0
    rw [wpPlan_two]
    simp only [pA, pB, pC, pD, pE]
    constructor
    · go_wp2_with (go_at_call 27; refine (frename_any _ _ _).mono ?_; rintro e yva1 ⟨rfl, hkz⟩)
      replace HV := Lib.hid (HV.out.trans hkz)
      clear hkz
      refine soloP HV.out ?_
      rw [wpPlan_two]
      simp only [pA, pB, pC, pD, pE]
      constructor
      · go_wp2_with (go_at_call 8; refine (c_ck1 (HS.out.kept HV.out)).mono ?_; rintro e yva2 ⟨B, d, rfl, hf, hkz⟩)
        have HFL := Lib.hid hf
        clear hf
        replace HV := Lib.hid (HV.out.trans hkz)
        clear hkz
        refine soloP HV.out ?_
        rw [wpPlan_read]
        simp only [pA, pB, pC, pD, pE]
        repeat (go_big_quiet_step (fail))
        refine wpQuiet_nil ?_
        rw [wpPlan_one]
        simp only [pA, pB, pC, pD, pE]
        go_wp2_with fail
        have hkz := (Kept.refl yva2).alloc #[.slice none 0 0] 24
        replace HFL := Lib.hid (HFL.out.kept hkz)
        have HBX := Lib.hid (Box1.new yva2 (.slice none 0 0) 24)
        have HLX := Lib.hid HV.out.2.2
        replace HV := Lib.hid (HV.out.trans hkz)
        obtain ⟨g, hbz⟩ : ∃ b, (World.heap yva2).size = b := ⟨_, rfl⟩
        obtain ⟨yva3, hwz⟩ : ∃ u, World.alloc yva2 (.cells #[.slice none 0 0] 24) = u := ⟨_, rfl⟩
        rw [hwz] at HBX HV HFL ⊢
        rw [hbz] at HBX HLX ⊢
        clear hkz hbz hwz
        refine soloP HV.out ?_
        rw [wpPlan_one]
        simp only [pA, pB, pC, pD, pE]
        have hl := HLX.out
        have e0 := HBX.out.c0; have ef := HBX.out.f 0
        go_wp2_with fail
        clear e0 ef
        replace HFL := Lib.hid (HBX.out.fl (.slice B 4 d) HFL.out)
        replace HBX := Lib.hid (HBX.out.put (.slice B 4 d))
        replace HV := Lib.hid (HV.out.setCell (a := ⟨g, 0, none⟩) hl (.slice B 4 d))
        obtain ⟨yva4, hwz⟩ : ∃ u, World.setCell yva3 ⟨g, 0, none⟩ (.slice B 4 d) = u := ⟨_, rfl⟩
        rw [hwz] at HV HBX HFL ⊢
        clear hl hwz
        refine soloP HV.out ?_
        rw [wpPlan_read]
        simp only [pA, pB, pC, pD, pE]
        repeat (go_big_quiet_step (fail))
        refine wpQuiet_nil ?_
        have HF := Lib.hid (show OneB va M1 (.pointer (some ⟨g, 0, none⟩)) (.int .i64 0) _ from ⟨g, B, d, rfl, rfl, HV.out, HBX.out, HFL.out⟩)
        refine wpPlan_stop ?_
        go_wp2_with fail
        go_meet
        exact HF.out
      · go_wp2_with fail
        have hkz := (Kept.refl yva1).alloc #[.slice none 0 0] 24
        have HBX := Lib.hid (Box1.new yva1 (.slice none 0 0) 24)
        have HLX := Lib.hid HV.out.2.2
        replace HV := Lib.hid (HV.out.trans hkz)
        obtain ⟨g, hbz⟩ : ∃ b, (World.heap yva1).size = b := ⟨_, rfl⟩
        obtain ⟨yva2, hwz⟩ : ∃ u, World.alloc yva1 (.cells #[.slice none 0 0] 24) = u := ⟨_, rfl⟩
        rw [hwz] at HBX HV ⊢
        rw [hbz] at HBX HLX ⊢
        clear hkz hbz hwz
        refine soloP HV.out ?_
        rw [wpPlan_one]
        simp only [pA, pB, pC, pD, pE]
        go_wp2_with (go_at_call 8; refine (c_ck1 (HS.out.kept HV.out)).mono ?_; rintro e yva3 ⟨B, d, rfl, hf, hkz⟩)
        replace HBX := Lib.hid (HBX.out.kept hkz)
        have HFL := Lib.hid hf
        clear hf
        replace HV := Lib.hid (HV.out.trans hkz)
        clear hkz
        refine soloP HV.out ?_
        rw [wpPlan_read]
        simp only [pA, pB, pC, pD, pE]
        repeat (go_big_quiet_step (fail))
        refine wpQuiet_nil ?_
        rw [wpPlan_one]
        simp only [pA, pB, pC, pD, pE]
        have hl := HLX.out
        have e0 := HBX.out.c0; have ef := HBX.out.f 0
        go_wp2_with fail
        clear e0 ef
        replace HFL := Lib.hid (HBX.out.fl (.slice B 4 d) HFL.out)
        replace HBX := Lib.hid (HBX.out.put (.slice B 4 d))
        replace HV := Lib.hid (HV.out.setCell (a := ⟨g, 0, none⟩) hl (.slice B 4 d))
        obtain ⟨yva4, hwz⟩ : ∃ u, World.setCell yva3 ⟨g, 0, none⟩ (.slice B 4 d) = u := ⟨_, rfl⟩
        rw [hwz] at HV HBX HFL ⊢
        clear hl hwz
        refine soloP HV.out ?_
        rw [wpPlan_read]
        simp only [pA, pB, pC, pD, pE]
        repeat (go_big_quiet_step (fail))
        refine wpQuiet_nil ?_
        have HF := Lib.hid (show OneB va M1 (.pointer (some ⟨g, 0, none⟩)) (.int .i64 0) _ from ⟨g, B, d, rfl, rfl, HV.out, HBX.out, HFL.out⟩)
        refine wpPlan_stop ?_
        go_wp2_with fail
        go_meet
        exact HF.out
    · go_wp2_with fail
      have hkz := (Kept.refl wd).alloc #[.slice none 0 0] 24
      have HBX := Lib.hid (Box1.new wd (.slice none 0 0) 24)
      have HLX := Lib.hid HV.out.2.2
      replace HV := Lib.hid (HV.out.trans hkz)
      obtain ⟨g, hbz⟩ : ∃ b, (World.heap wd).size = b := ⟨_, rfl⟩
      obtain ⟨yva1, hwz⟩ : ∃ u, World.alloc wd (.cells #[.slice none 0 0] 24) = u := ⟨_, rfl⟩
      rw [hwz] at HBX HV ⊢
      rw [hbz] at HBX HLX ⊢
      clear hkz hbz hwz
      refine soloP HV.out ?_
      rw [wpPlan_one]
      simp only [pA, pB, pC, pD, pE]
      go_wp2_with (go_at_call 27; refine (frename_any _ _ _).mono ?_; rintro e yva2 ⟨rfl, hkz⟩)
      replace HBX := Lib.hid (HBX.out.kept hkz)
      replace HV := Lib.hid (HV.out.trans hkz)
      clear hkz
      refine soloP HV.out ?_
      rw [wpPlan_one]
      simp only [pA, pB, pC, pD, pE]
      go_wp2_with (go_at_call 8; refine (c_ck1 (HS.out.kept HV.out)).mono ?_; rintro e yva3 ⟨B, d, rfl, hf, hkz⟩)
      replace HBX := Lib.hid (HBX.out.kept hkz)
      have HFL := Lib.hid hf
      clear hf
      replace HV := Lib.hid (HV.out.trans hkz)
      clear hkz
      refine soloP HV.out ?_
      rw [wpPlan_read]
      simp only [pA, pB, pC, pD, pE]
      repeat (go_big_quiet_step (fail))
      refine wpQuiet_nil ?_
      rw [wpPlan_one]
      simp only [pA, pB, pC, pD, pE]
      have hl := HLX.out
      have e0 := HBX.out.c0; have ef := HBX.out.f 0
      go_wp2_with fail
      clear e0 ef
      replace HFL := Lib.hid (HBX.out.fl (.slice B 4 d) HFL.out)
      replace HBX := Lib.hid (HBX.out.put (.slice B 4 d))
      replace HV := Lib.hid (HV.out.setCell (a := ⟨g, 0, none⟩) hl (.slice B 4 d))
      obtain ⟨yva4, hwz⟩ : ∃ u, World.setCell yva3 ⟨g, 0, none⟩ (.slice B 4 d) = u := ⟨_, rfl⟩
      rw [hwz] at HV HBX HFL ⊢
      clear hl hwz
      refine soloP HV.out ?_
      rw [wpPlan_read]
      simp only [pA, pB, pC, pD, pE]
      repeat (go_big_quiet_step (fail))
      refine wpQuiet_nil ?_
      have HF := Lib.hid (show OneB va M1 (.pointer (some ⟨g, 0, none⟩)) (.int .i64 0) _ from ⟨g, B, d, rfl, rfl, HV.out, HBX.out, HFL.out⟩)
      refine wpPlan_stop ?_
      go_wp2_with fail
      go_meet
      exact HF.out
  case rest =>
    clear X0
    obtain ⟨g2, B2, d2, rfl, rfl, hk2, hb2, hf2⟩ := hcut
    have HB2 := Lib.hid hb2; have HF2 := Lib.hid hf2
    replace HW := Lib.hid (HW.out.trans hk2)
    replace HS := Lib.hid (HS.out.kept hk2)
    replace HB := Lib.hid (HB.out.kept hk2)
    clear hk2 hb2 hf2
    have d0 := HB.out.c0
    go_wp2_with (fail)
    go_at_call 8
    refine (c_ck2 HS.out).mono ?_
    rintro e z3 ⟨B4, d4, rfl, hf, hk⟩
    have hka := (Kept.refl z3).alloc #[.slice B4 4 d4] 24
    replace HW := Lib.hid (HW.out.trans (hk.trans hka))
    replace HS := Lib.hid (HS.out.kept (hk.trans hka))
    replace HB := Lib.hid (HB.out.kept (hk.trans hka))
    replace HB2 := Lib.hid (HB2.out.kept (hk.trans hka))
    replace HF2 := Lib.hid (HF2.out.kept (hk.trans hka))
    have HF4 := Lib.hid (hf.kept hka); have HB4 := Lib.hid (Box1.new z3 (.slice B4 4 d4) 24)
    clear hf
    clear hk hka d0
    have d0 := HB.out.c0
    go_wp2_with (fail)
    go_at_call 8
    refine (c_ck3 HS.out).mono ?_
    rintro e z4 ⟨B6, d6, rfl, hf, hk⟩
    have hka := (Kept.refl z4).alloc #[.slice B6 4 d6] 24
    replace HW := Lib.hid (HW.out.trans (hk.trans hka))
    replace HS := Lib.hid (HS.out.kept (hk.trans hka))
    replace HB := Lib.hid (HB.out.kept (hk.trans hka))
    replace HB2 := Lib.hid (HB2.out.kept (hk.trans hka))
    replace HF2 := Lib.hid (HF2.out.kept (hk.trans hka))
    replace HF4 := Lib.hid (HF4.out.kept (hk.trans hka))
    replace HB4 := Lib.hid (HB4.out.kept (hk.trans hka))
    have HF6 := Lib.hid (hf.kept hka); have HB6 := Lib.hid (Box1.new z4 (.slice B6 4 d6) 24)
    clear hf
    clear hk hka d0
    have d0 := HB.out.c0
    go_wp2_with (fail)
    go_at_call 8
    refine (c_ck4 HS.out).mono ?_
    rintro e z5 ⟨B8, d8, rfl, hf, hk⟩
    have hka := (Kept.refl z5).alloc #[.slice B8 4 d8] 24
    replace HW := Lib.hid (HW.out.trans (hk.trans hka))
    replace HS := Lib.hid (HS.out.kept (hk.trans hka))
    replace HB := Lib.hid (HB.out.kept (hk.trans hka))
    replace HB2 := Lib.hid (HB2.out.kept (hk.trans hka))
    replace HF2 := Lib.hid (HF2.out.kept (hk.trans hka))
    replace HF4 := Lib.hid (HF4.out.kept (hk.trans hka))
    replace HB4 := Lib.hid (HB4.out.kept (hk.trans hka))
    replace HF6 := Lib.hid (HF6.out.kept (hk.trans hka))
    replace HB6 := Lib.hid (HB6.out.kept (hk.trans hka))
    have HF8 := Lib.hid (hf.kept hka); have HB8 := Lib.hid (Box1.new z5 (.slice B8 4 d8) 24)
    clear hf
    clear hk hka d0
    have d0 := HB8.out.c0
    go_wp2_with (fail)
    go_at_call 8
    refine (c_ck5 HF8.out).mono ?_
    rintro e z6 ⟨B10, d10, rfl, hf, hk⟩
    have hka := (Kept.refl z6).alloc #[.slice B10 4 d10] 24
    replace HW := Lib.hid (HW.out.trans (hk.trans hka))
    replace HS := Lib.hid (HS.out.kept (hk.trans hka))
    replace HB := Lib.hid (HB.out.kept (hk.trans hka))
    replace HB2 := Lib.hid (HB2.out.kept (hk.trans hka))
    replace HF2 := Lib.hid (HF2.out.kept (hk.trans hka))
    replace HF4 := Lib.hid (HF4.out.kept (hk.trans hka))
    replace HB4 := Lib.hid (HB4.out.kept (hk.trans hka))
    replace HF6 := Lib.hid (HF6.out.kept (hk.trans hka))
    replace HB6 := Lib.hid (HB6.out.kept (hk.trans hka))
    replace HF8 := Lib.hid (HF8.out.kept (hk.trans hka))
    replace HB8 := Lib.hid (HB8.out.kept (hk.trans hka))
    have HF10 := Lib.hid (hf.kept hka); have HB10 := Lib.hid (Box1.new z6 (.slice B10 4 d10) 24)
    clear hf
    clear hk hka d0
    have d0 := HB.out.c0
    go_wp2_with (fail)
    go_at_call 8
    refine (c_ck6 HS.out).mono ?_
    rintro e z7 ⟨rfl, hk⟩
    have hka := (Kept.refl z7).alloc #[.slice none 0 0] 24
    replace HW := Lib.hid (HW.out.trans (hk.trans hka))
    replace HS := Lib.hid (HS.out.kept (hk.trans hka))
    replace HB := Lib.hid (HB.out.kept (hk.trans hka))
    replace HB2 := Lib.hid (HB2.out.kept (hk.trans hka))
    replace HF2 := Lib.hid (HF2.out.kept (hk.trans hka))
    replace HF4 := Lib.hid (HF4.out.kept (hk.trans hka))
    replace HB4 := Lib.hid (HB4.out.kept (hk.trans hka))
    replace HF6 := Lib.hid (HF6.out.kept (hk.trans hka))
    replace HB6 := Lib.hid (HB6.out.kept (hk.trans hka))
    replace HF8 := Lib.hid (HF8.out.kept (hk.trans hka))
    replace HB8 := Lib.hid (HB8.out.kept (hk.trans hka))
    replace HF10 := Lib.hid (HF10.out.kept (hk.trans hka))
    replace HB10 := Lib.hid (HB10.out.kept (hk.trans hka))
    clear hk hka d0
    obtain ⟨vb, hvb⟩ : ∃ u, z7.alloc (.cells #[.slice none 0 0] 24) = u := ⟨_, rfl⟩
    rw [hvb] at HW HS HB HB2 HF2 HF4 HB4 HF6 HB6 HF8 HB8 HF10 HB10
    have HVB := Lib.hid hvb
    clear hvb
    go_wp2_with fail
    rw [HVB.out]
    have X0 := KExt.cell HB.out.c0
    go_cut [15] (fun u wx => u = .int .i64 10 ∧ Kept vb wx)
    case first =>
      refine region_plan vb 9 (.read [0] (.two 1 (.two 2 (.read [3, 4, 5] (.one 6 (.one 7 (.read [8] .stop)))) 6 (.one 2 (.read [3, 4, 5] (.one 7 (.read [8] .stop))))) 6 (.one 1 (.one 2 (.read [3, 4, 5] (.one 7 (.read [8] .stop))))))) (by kernel_rfl) (by kernel_rfl) (by kernel_rfl) (by kernel_rfl) (by kernel_rfl) (fun _ d _ _ _ h => by cases d <;> exact h) (Kept.refl _) ?_
      intro wd hwd
      have HV := Lib.hid hwd
      clear hwd
      rw [wpPlan_read]
      simp only [pA, pB, pC, pD]
      repeat (go_big_quiet_step (fail))
      refine wpQuiet_nil ?_
      clear X0
      rw [wpPlan_two]
      simp only [pA, pB, pC, pD, pE]
      constructor
      · go_wp2_with (go_at_call 27; refine (frename_any _ _ _).mono ?_; rintro e yvb1 ⟨rfl, hkz⟩)
        replace HV := Lib.hid (HV.out.trans hkz)
        clear hkz
        refine soloP HV.out ?_
        rw [wpPlan_two]
        simp only [pA, pB, pC, pD, pE]
        constructor
        · go_wp2_with (go_at_call 8; refine (c_ck7 (HS.out.kept HV.out)).mono ?_; rintro e yvb2 ⟨rfl, hkz⟩)
          replace HV := Lib.hid (HV.out.trans hkz)
          clear hkz
          refine soloP HV.out ?_
          rw [wpPlan_read]
          simp only [pA, pB, pC, pD, pE]
          repeat (go_big_quiet_step (fail))
          refine wpQuiet_nil ?_
          rw [wpPlan_one]
          simp only [pA, pB, pC, pD, pE]
          go_wp2_with fail
          have hkz := (Kept.refl yvb2).alloc #[.slice none 0 0] 24
          have HBX := Lib.hid (Box1.new yvb2 (.slice none 0 0) 24)
          have HLX := Lib.hid HV.out.2.2
          replace HV := Lib.hid (HV.out.trans hkz)
          obtain ⟨g, hbz⟩ : ∃ b, (World.heap yvb2).size = b := ⟨_, rfl⟩
          obtain ⟨yvb3, hwz⟩ : ∃ u, World.alloc yvb2 (.cells #[.slice none 0 0] 24) = u := ⟨_, rfl⟩
          rw [hwz] at HBX HV ⊢
          rw [hbz] at HBX HLX ⊢
          clear hkz hbz hwz
          refine soloP HV.out ?_
          rw [wpPlan_one]
          simp only [pA, pB, pC, pD, pE]
          have hl := HLX.out
          have e0 := HBX.out.c0; have ef := HBX.out.f 0
          go_wp2_with fail
          clear e0 ef
          replace HBX := Lib.hid (HBX.out.put (.slice none 0 0))
          replace HV := Lib.hid (HV.out.setCell (a := ⟨g, 0, none⟩) hl (.slice none 0 0))
          obtain ⟨yvb4, hwz⟩ : ∃ u, World.setCell yvb3 ⟨g, 0, none⟩ (.slice none 0 0) = u := ⟨_, rfl⟩
          rw [hwz] at HV HBX ⊢
          clear hl hwz
          refine soloP HV.out ?_
          rw [wpPlan_read]
          simp only [pA, pB, pC, pD, pE]
          repeat (go_big_quiet_step (fail))
          refine wpQuiet_nil ?_
          have HF := Lib.hid HV.out
          refine wpPlan_stop ?_
          go_wp2_with fail
          go_meet
          exact ⟨rfl, HF.out⟩
        · go_wp2_with fail
          have hkz := (Kept.refl yvb1).alloc #[.slice none 0 0] 24
          have HBX := Lib.hid (Box1.new yvb1 (.slice none 0 0) 24)
          have HLX := Lib.hid HV.out.2.2
          replace HV := Lib.hid (HV.out.trans hkz)
          obtain ⟨g, hbz⟩ : ∃ b, (World.heap yvb1).size = b := ⟨_, rfl⟩
          obtain ⟨yvb2, hwz⟩ : ∃ u, World.alloc yvb1 (.cells #[.slice none 0 0] 24) = u := ⟨_, rfl⟩
          rw [hwz] at HBX HV ⊢
          rw [hbz] at HBX HLX ⊢
          clear hkz hbz hwz
          refine soloP HV.out ?_
          rw [wpPlan_one]
          simp only [pA, pB, pC, pD, pE]
          go_wp2_with (go_at_call 8; refine (c_ck7 (HS.out.kept HV.out)).mono ?_; rintro e yvb3 ⟨rfl, hkz⟩)
          replace HBX := Lib.hid (HBX.out.kept hkz)
          replace HV := Lib.hid (HV.out.trans hkz)
          clear hkz
          refine soloP HV.out ?_
          rw [wpPlan_read]
          simp only [pA, pB, pC, pD, pE]
          repeat (go_big_quiet_step (fail))
          refine wpQuiet_nil ?_
          rw [wpPlan_one]
          simp only [pA, pB, pC, pD, pE]
          have hl := HLX.out
          have e0 := HBX.out.c0; have ef := HBX.out.f 0
          go_wp2_with fail
          clear e0 ef
          replace HBX := Lib.hid (HBX.out.put (.slice none 0 0))
          replace HV := Lib.hid (HV.out.setCell (a := ⟨g, 0, none⟩) hl (.slice none 0 0))
          obtain ⟨yvb4, hwz⟩ : ∃ u, World.setCell yvb3 ⟨g, 0, none⟩ (.slice none 0 0) = u := ⟨_, rfl⟩
          rw [hwz] at HV HBX ⊢
          clear hl hwz
          refine soloP HV.out ?_
          rw [wpPlan_read]
          simp only [pA, pB, pC, pD, pE]
          repeat (go_big_quiet_step (fail))
          refine wpQuiet_nil ?_
          have HF := Lib.hid HV.out
          refine wpPlan_stop ?_
          go_wp2_with fail
          go_meet
          exact ⟨rfl, HF.out⟩
      · go_wp2_with fail
        have hkz := (Kept.refl wd).alloc #[.slice none 0 0] 24
        have HBX := Lib.hid (Box1.new wd (.slice none 0 0) 24)
        have HLX := Lib.hid HV.out.2.2
        replace HV := Lib.hid (HV.out.trans hkz)
        obtain ⟨g, hbz⟩ : ∃ b, (World.heap wd).size = b := ⟨_, rfl⟩
        obtain ⟨yvb1, hwz⟩ : ∃ u, World.alloc wd (.cells #[.slice none 0 0] 24) = u := ⟨_, rfl⟩
        rw [hwz] at HBX HV ⊢
        rw [hbz] at HBX HLX ⊢
        clear hkz hbz hwz
        refine soloP HV.out ?_
        rw [wpPlan_one]
        simp only [pA, pB, pC, pD, pE]
        go_wp2_with (go_at_call 27; refine (frename_any _ _ _).mono ?_; rintro e yvb2 ⟨rfl, hkz⟩)
        replace HBX := Lib.hid (HBX.out.kept hkz)
        replace HV := Lib.hid (HV.out.trans hkz)
        clear hkz
        refine soloP HV.out ?_
        rw [wpPlan_one]
        simp only [pA, pB, pC, pD, pE]
        go_wp2_with (go_at_call 8; refine (c_ck7 (HS.out.kept HV.out)).mono ?_; rintro e yvb3 ⟨rfl, hkz⟩)
        replace HBX := Lib.hid (HBX.out.kept hkz)
        replace HV := Lib.hid (HV.out.trans hkz)
        clear hkz
        refine soloP HV.out ?_
        rw [wpPlan_read]
        simp only [pA, pB, pC, pD, pE]
        repeat (go_big_quiet_step (fail))
        refine wpQuiet_nil ?_
        rw [wpPlan_one]
        simp only [pA, pB, pC, pD, pE]
        have hl := HLX.out
        have e0 := HBX.out.c0; have ef := HBX.out.f 0
        go_wp2_with fail
        clear e0 ef
        replace HBX := Lib.hid (HBX.out.put (.slice none 0 0))
        replace HV := Lib.hid (HV.out.setCell (a := ⟨g, 0, none⟩) hl (.slice none 0 0))
        obtain ⟨yvb4, hwz⟩ : ∃ u, World.setCell yvb3 ⟨g, 0, none⟩ (.slice none 0 0) = u := ⟨_, rfl⟩
        rw [hwz] at HV HBX ⊢
        clear hl hwz
        refine soloP HV.out ?_
        rw [wpPlan_read]
        simp only [pA, pB, pC, pD, pE]
        repeat (go_big_quiet_step (fail))
        refine wpQuiet_nil ?_
        have HF := Lib.hid HV.out
        refine wpPlan_stop ?_
        go_wp2_with fail
        go_meet
        exact ⟨rfl, HF.out⟩
    case rest =>
      clear X0
      obtain ⟨rfl, hk⟩ := hcut
      replace HW := Lib.hid (HW.out.trans hk)
      replace HS := Lib.hid (HS.out.kept hk)
      replace HB := Lib.hid (HB.out.kept hk)
      replace HB2 := Lib.hid (HB2.out.kept hk)
      replace HF2 := Lib.hid (HF2.out.kept hk)
      replace HF4 := Lib.hid (HF4.out.kept hk)
      replace HB4 := Lib.hid (HB4.out.kept hk)
      replace HF6 := Lib.hid (HF6.out.kept hk)
      replace HB6 := Lib.hid (HB6.out.kept hk)
      replace HF8 := Lib.hid (HF8.out.kept hk)
      replace HB8 := Lib.hid (HB8.out.kept hk)
      replace HF10 := Lib.hid (HF10.out.kept hk)
      replace HB10 := Lib.hid (HB10.out.kept hk)
      clear hk
      go_wp2_with fail
      have X0 := KExt.cell HB.out.c0
      go_cut [17] (fun u wx => u = .int .i64 10 ∧ Kept wc wx)
      case first =>
        refine region_plan wc 10 (.read [0] (.two 1 (.read [2] (.two 3 (.read [4, 5, 6] (.one 7 (.one 8 (.read [9] .stop)))) 7 (.one 3 (.read [4, 5, 6] (.one 8 (.read [9] .stop)))))) 7 (.one 1 (.read [2] (.one 3 (.read [4, 5, 6] (.one 8 (.read [9] .stop)))))))) (by kernel_rfl) (by kernel_rfl) (by kernel_rfl) (by kernel_rfl) (by kernel_rfl) (fun _ d _ _ _ h => by cases d <;> exact h) (Kept.refl _) ?_
        intro wd hwd
        have HV := Lib.hid hwd
        clear hwd
        rw [wpPlan_read]
        simp only [pA, pB, pC, pD]
        repeat (go_big_quiet_step (fail))
        refine wpQuiet_nil ?_
        clear X0
        rw [wpPlan_two]
        simp only [pA, pB, pC, pD, pE]
        constructor
        · go_wp2_with (go_at_call 28; refine (fctr_any _ _).mono ?_; rintro e yc1 ⟨rfl, hkz⟩)
          replace HV := Lib.hid (HV.out.trans hkz)
          clear hkz
          refine soloP HV.out ?_
          rw [wpPlan_read]
          simp only [pA, pB, pC, pD, pE]
          repeat (go_big_quiet_step (fail))
          refine wpQuiet_nil ?_
          rw [wpPlan_two]
          simp only [pA, pB, pC, pD, pE]
          constructor
          · go_wp2_with (go_at_call 8; refine (c_ck8 (HS.out.kept HV.out)).mono ?_; rintro e yc2 ⟨rfl, hkz⟩)
            replace HV := Lib.hid (HV.out.trans hkz)
            clear hkz
            refine soloP HV.out ?_
            rw [wpPlan_read]
            simp only [pA, pB, pC, pD, pE]
            repeat (go_big_quiet_step (fail))
            refine wpQuiet_nil ?_
            rw [wpPlan_one]
            simp only [pA, pB, pC, pD, pE]
            go_wp2_with fail
            have hkz := (Kept.refl yc2).alloc #[.slice none 0 0] 24
            have HBX := Lib.hid (Box1.new yc2 (.slice none 0 0) 24)
            have HLX := Lib.hid HV.out.2.2
            replace HV := Lib.hid (HV.out.trans hkz)
            obtain ⟨g, hbz⟩ : ∃ b, (World.heap yc2).size = b := ⟨_, rfl⟩
            obtain ⟨yc3, hwz⟩ : ∃ u, World.alloc yc2 (.cells #[.slice none 0 0] 24) = u := ⟨_, rfl⟩
            rw [hwz] at HBX HV ⊢
            rw [hbz] at HBX HLX ⊢
            clear hkz hbz hwz
            refine soloP HV.out ?_
            rw [wpPlan_one]
            simp only [pA, pB, pC, pD, pE]
            have hl := HLX.out
            have e0 := HBX.out.c0; have ef := HBX.out.f 0
            go_wp2_with fail
            clear e0 ef
            replace HBX := Lib.hid (HBX.out.put (.slice none 0 0))
            replace HV := Lib.hid (HV.out.setCell (a := ⟨g, 0, none⟩) hl (.slice none 0 0))
            obtain ⟨yc4, hwz⟩ : ∃ u, World.setCell yc3 ⟨g, 0, none⟩ (.slice none 0 0) = u := ⟨_, rfl⟩
            rw [hwz] at HV HBX ⊢
            clear hl hwz
            refine soloP HV.out ?_
            rw [wpPlan_read]
            simp only [pA, pB, pC, pD, pE]
            repeat (go_big_quiet_step (fail))
            refine wpQuiet_nil ?_
            have HF := Lib.hid HV.out
            refine wpPlan_stop ?_
            go_wp2_with fail
            go_meet
            exact ⟨rfl, HF.out⟩
          · go_wp2_with fail
            have hkz := (Kept.refl yc1).alloc #[.slice none 0 0] 24
            have HBX := Lib.hid (Box1.new yc1 (.slice none 0 0) 24)
            have HLX := Lib.hid HV.out.2.2
            replace HV := Lib.hid (HV.out.trans hkz)
            obtain ⟨g, hbz⟩ : ∃ b, (World.heap yc1).size = b := ⟨_, rfl⟩
            obtain ⟨yc2, hwz⟩ : ∃ u, World.alloc yc1 (.cells #[.slice none 0 0] 24) = u := ⟨_, rfl⟩
            rw [hwz] at HBX HV ⊢
            rw [hbz] at HBX HLX ⊢
            clear hkz hbz hwz
            refine soloP HV.out ?_
            rw [wpPlan_one]
            simp only [pA, pB, pC, pD, pE]
            go_wp2_with (go_at_call 8; refine (c_ck8 (HS.out.kept HV.out)).mono ?_; rintro e yc3 ⟨rfl, hkz⟩)
            replace HBX := Lib.hid (HBX.out.kept hkz)
            replace HV := Lib.hid (HV.out.trans hkz)
            clear hkz
            refine soloP HV.out ?_
            rw [wpPlan_read]
            simp only [pA, pB, pC, pD, pE]
            repeat (go_big_quiet_step (fail))
            refine wpQuiet_nil ?_
            rw [wpPlan_one]
            simp only [pA, pB, pC, pD, pE]
            have hl := HLX.out
            have e0 := HBX.out.c0; have ef := HBX.out.f 0
            go_wp2_with fail
            clear e0 ef
            replace HBX := Lib.hid (HBX.out.put (.slice none 0 0))
            replace HV := Lib.hid (HV.out.setCell (a := ⟨g, 0, none⟩) hl (.slice none 0 0))
            obtain ⟨yc4, hwz⟩ : ∃ u, World.setCell yc3 ⟨g, 0, none⟩ (.slice none 0 0) = u := ⟨_, rfl⟩
            rw [hwz] at HV HBX ⊢
            clear hl hwz
            refine soloP HV.out ?_
            rw [wpPlan_read]
            simp only [pA, pB, pC, pD, pE]
            repeat (go_big_quiet_step (fail))
            refine wpQuiet_nil ?_
            have HF := Lib.hid HV.out
            refine wpPlan_stop ?_
            go_wp2_with fail
            go_meet
            exact ⟨rfl, HF.out⟩
        · go_wp2_with fail
          have hkz := (Kept.refl wd).alloc #[.slice none 0 0] 24
          have HBX := Lib.hid (Box1.new wd (.slice none 0 0) 24)
          have HLX := Lib.hid HV.out.2.2
          replace HV := Lib.hid (HV.out.trans hkz)
          obtain ⟨g, hbz⟩ : ∃ b, (World.heap wd).size = b := ⟨_, rfl⟩
          obtain ⟨yc1, hwz⟩ : ∃ u, World.alloc wd (.cells #[.slice none 0 0] 24) = u := ⟨_, rfl⟩
          rw [hwz] at HBX HV ⊢
          rw [hbz] at HBX HLX ⊢
          clear hkz hbz hwz
          refine soloP HV.out ?_
          rw [wpPlan_one]
          simp only [pA, pB, pC, pD, pE]
          go_wp2_with (go_at_call 28; refine (fctr_any _ _).mono ?_; rintro e yc2 ⟨rfl, hkz⟩)
          replace HBX := Lib.hid (HBX.out.kept hkz)
          replace HV := Lib.hid (HV.out.trans hkz)
          clear hkz
          refine soloP HV.out ?_
          rw [wpPlan_read]
          simp only [pA, pB, pC, pD, pE]
          repeat (go_big_quiet_step (fail))
          refine wpQuiet_nil ?_
          rw [wpPlan_one]
          simp only [pA, pB, pC, pD, pE]
          go_wp2_with (go_at_call 8; refine (c_ck8 (HS.out.kept HV.out)).mono ?_; rintro e yc3 ⟨rfl, hkz⟩)
          replace HBX := Lib.hid (HBX.out.kept hkz)
          replace HV := Lib.hid (HV.out.trans hkz)
          clear hkz
          refine soloP HV.out ?_
          rw [wpPlan_read]
          simp only [pA, pB, pC, pD, pE]
          repeat (go_big_quiet_step (fail))
          refine wpQuiet_nil ?_
          rw [wpPlan_one]
          simp only [pA, pB, pC, pD, pE]
          have hl := HLX.out
          have e0 := HBX.out.c0; have ef := HBX.out.f 0
          go_wp2_with fail
          clear e0 ef
          replace HBX := Lib.hid (HBX.out.put (.slice none 0 0))
          replace HV := Lib.hid (HV.out.setCell (a := ⟨g, 0, none⟩) hl (.slice none 0 0))
          obtain ⟨yc4, hwz⟩ : ∃ u, World.setCell yc3 ⟨g, 0, none⟩ (.slice none 0 0) = u := ⟨_, rfl⟩
          rw [hwz] at HV HBX ⊢
          clear hl hwz
          refine soloP HV.out ?_
          rw [wpPlan_read]
          simp only [pA, pB, pC, pD, pE]
          repeat (go_big_quiet_step (fail))
          refine wpQuiet_nil ?_
          have HF := Lib.hid HV.out
          refine wpPlan_stop ?_
          go_wp2_with fail
          go_meet
          exact ⟨rfl, HF.out⟩
      case rest =>
        clear X0
        obtain ⟨rfl, hk⟩ := hcut
        replace HW := Lib.hid (HW.out.trans hk)
        replace HS := Lib.hid (HS.out.kept hk)
        replace HB := Lib.hid (HB.out.kept hk)
        replace HB2 := Lib.hid (HB2.out.kept hk)
        replace HF2 := Lib.hid (HF2.out.kept hk)
        replace HF4 := Lib.hid (HF4.out.kept hk)
        replace HB4 := Lib.hid (HB4.out.kept hk)
        replace HF6 := Lib.hid (HF6.out.kept hk)
        replace HB6 := Lib.hid (HB6.out.kept hk)
        replace HF8 := Lib.hid (HF8.out.kept hk)
        replace HB8 := Lib.hid (HB8.out.kept hk)
        replace HF10 := Lib.hid (HF10.out.kept hk)
        replace HB10 := Lib.hid (HB10.out.kept hk)
        clear hk
        have hka := (Kept.refl wc).alloc #[.int .i64 0, .string ⟨#[]⟩, .string ⟨#[]⟩, .string ⟨#[]⟩, .int .i64 0, .int .i64 0, .int .i64 0, .int .i64 0, .string ⟨#[]⟩, .int .i64 0, .int .i64 0, .string ⟨#[]⟩, .int .i64 0, .int .i64 0, .slice none 0 0, .bool false, .int .i64 0, .int .i64 0, .string ⟨#[]⟩, .int .i64 0, .int .i64 0, .string ⟨#[]⟩, .bool false] 33
        have hq := StB.zero wc 33
        obtain ⟨UQ, hUQ⟩ : ∃ u, World.alloc wc (.cells #[.int .i64 0, .string ⟨#[]⟩, .string ⟨#[]⟩, .string ⟨#[]⟩, .int .i64 0, .int .i64 0, .int .i64 0, .int .i64 0, .string ⟨#[]⟩, .int .i64 0, .int .i64 0, .string ⟨#[]⟩, .int .i64 0, .int .i64 0, .slice none 0 0, .bool false, .int .i64 0, .int .i64 0, .string ⟨#[]⟩, .int .i64 0, .int .i64 0, .string ⟨#[]⟩, .bool false] 33) = u := ⟨_, rfl⟩
        rw [hUQ] at hka hq
        have HUQ := Lib.hid hUQ
        have hqx := hq.over none 0 0 q9
        have HTHQ := Lib.hid (hq.there none 0 0 q9)
        have hkx := Kept.setCells (b := (World.heap wc).size) (Nat.le_refl _) (cellS none 0 0 q9).toArray.toList 0 _ hka
        obtain ⟨WQ, hWQ⟩ : ∃ u, World.setCells UQ (World.heap wc).size 0 (cellS none 0 0 q9).toArray.toList = u := ⟨_, rfl⟩
        rw [hWQ] at hqx hkx
        have HWQ := Lib.hid hWQ
        replace HW := Lib.hid (HW.out.trans hkx)
        replace HS := Lib.hid (HS.out.kept hkx)
        replace HB := Lib.hid (HB.out.kept hkx)
        replace HB2 := Lib.hid (HB2.out.kept hkx)
        replace HF2 := Lib.hid (HF2.out.kept hkx)
        replace HF4 := Lib.hid (HF4.out.kept hkx)
        replace HB4 := Lib.hid (HB4.out.kept hkx)
        replace HF6 := Lib.hid (HF6.out.kept hkx)
        replace HB6 := Lib.hid (HB6.out.kept hkx)
        replace HF8 := Lib.hid (HF8.out.kept hkx)
        replace HB8 := Lib.hid (HB8.out.kept hkx)
        replace HF10 := Lib.hid (HF10.out.kept hkx)
        replace HB10 := Lib.hid (HB10.out.kept hkx)
        have HQQ := Lib.hid hqx
        clear hka hq hUQ hqx hkx hWQ
        have d0 := HB.out.c0
        go_wp2_with (first | rw [HUQ.out] | (refine wpList_store_mid rfl 33 _ _ rfl (World.heap wc).size 0 (cellS none 0 0 q9).toArray rfl rfl HTHQ.out (step_sizeA none 0 0 q9) (cellS_one none 0 0 q9) ?_; rw [HWQ.out]) | (refine wpList_load_mid rfl 33 _ rfl (World.heap wc).size 0 rfl _ _ HQQ.out.r Tryz.underlying33 rfl (step_size none 0 0 q9) ?_))
        go_at_call 8
        refine (c_ck9 HS.out).mono ?_
        rintro e z8 ⟨B19, d19, rfl, hf, hk⟩
        have hka := (Kept.refl z8).alloc #[.slice B19 4 d19] 24
        replace HW := Lib.hid (HW.out.trans (hk.trans hka))
        replace HS := Lib.hid (HS.out.kept (hk.trans hka))
        replace HB := Lib.hid (HB.out.kept (hk.trans hka))
        replace HB2 := Lib.hid (HB2.out.kept (hk.trans hka))
        replace HF2 := Lib.hid (HF2.out.kept (hk.trans hka))
        replace HF4 := Lib.hid (HF4.out.kept (hk.trans hka))
        replace HB4 := Lib.hid (HB4.out.kept (hk.trans hka))
        replace HF6 := Lib.hid (HF6.out.kept (hk.trans hka))
        replace HB6 := Lib.hid (HB6.out.kept (hk.trans hka))
        replace HF8 := Lib.hid (HF8.out.kept (hk.trans hka))
        replace HB8 := Lib.hid (HB8.out.kept (hk.trans hka))
        replace HF10 := Lib.hid (HF10.out.kept (hk.trans hka))
        replace HB10 := Lib.hid (HB10.out.kept (hk.trans hka))
        replace HQQ := Lib.hid (HQQ.out.kept (hk.trans hka))
        have HF19 := Lib.hid (hf.kept hka); have HB19 := Lib.hid (Box1.new z8 (.slice B19 4 d19) 24)
        clear hf
        clear hk hka d0 HUQ HWQ HTHQ
        go_wp2_with ((refine wpList_load_mid rfl 33 _ rfl (World.heap wc).size 0 rfl _ _ HQQ.out.r Tryz.underlying33 rfl (step_size none 0 0 q9) ?_))
        go_at_call 20
        refine (c_putQ _).mono ?_
        rintro e p1 ⟨rfl, hk⟩
        replace HW := Lib.hid (HW.out.trans hk)
        replace HS := Lib.hid (HS.out.kept hk)
        replace HB := Lib.hid (HB.out.kept hk)
        replace HB2 := Lib.hid (HB2.out.kept hk)
        replace HF2 := Lib.hid (HF2.out.kept hk)
        replace HF4 := Lib.hid (HF4.out.kept hk)
        replace HB4 := Lib.hid (HB4.out.kept hk)
        replace HF6 := Lib.hid (HF6.out.kept hk)
        replace HB6 := Lib.hid (HB6.out.kept hk)
        replace HF8 := Lib.hid (HF8.out.kept hk)
        replace HB8 := Lib.hid (HB8.out.kept hk)
        replace HF10 := Lib.hid (HF10.out.kept hk)
        replace HB10 := Lib.hid (HB10.out.kept hk)
        replace HQQ := Lib.hid (HQQ.out.kept hk)
        replace HF19 := Lib.hid (HF19.out.kept hk)
        replace HB19 := Lib.hid (HB19.out.kept hk)
        clear hk
        go_wp2_with fail
        go_at_call 10
        refine (c_takeQ _).mono ?_
        rintro e p2 ⟨A21, c21, rfl, hp, hk⟩
        have HP21 := Lib.hid hp
        replace HW := Lib.hid (HW.out.trans hk)
        replace HS := Lib.hid (HS.out.kept hk)
        replace HB := Lib.hid (HB.out.kept hk)
        replace HB2 := Lib.hid (HB2.out.kept hk)
        replace HF2 := Lib.hid (HF2.out.kept hk)
        replace HF4 := Lib.hid (HF4.out.kept hk)
        replace HB4 := Lib.hid (HB4.out.kept hk)
        replace HF6 := Lib.hid (HF6.out.kept hk)
        replace HB6 := Lib.hid (HB6.out.kept hk)
        replace HF8 := Lib.hid (HF8.out.kept hk)
        replace HB8 := Lib.hid (HB8.out.kept hk)
        replace HF10 := Lib.hid (HF10.out.kept hk)
        replace HB10 := Lib.hid (HB10.out.kept hk)
        replace HQQ := Lib.hid (HQQ.out.kept hk)
        replace HF19 := Lib.hid (HF19.out.kept hk)
        replace HB19 := Lib.hid (HB19.out.kept hk)
        clear hk hp
        have hka := (Kept.refl p2).alloc #[.int .i64 0, .string ⟨#[]⟩, .string ⟨#[]⟩, .string ⟨#[]⟩, .int .i64 0, .int .i64 0, .int .i64 0, .int .i64 0, .string ⟨#[]⟩, .int .i64 0, .int .i64 0, .string ⟨#[]⟩, .int .i64 0, .int .i64 0, .slice none 0 0, .bool false, .int .i64 0, .int .i64 0, .string ⟨#[]⟩, .int .i64 0, .int .i64 0, .string ⟨#[]⟩, .bool false] 33
        have hq := StB.zero p2 33
        obtain ⟨UR, hUR⟩ : ∃ u, World.alloc p2 (.cells #[.int .i64 0, .string ⟨#[]⟩, .string ⟨#[]⟩, .string ⟨#[]⟩, .int .i64 0, .int .i64 0, .int .i64 0, .int .i64 0, .string ⟨#[]⟩, .int .i64 0, .int .i64 0, .string ⟨#[]⟩, .int .i64 0, .int .i64 0, .slice none 0 0, .bool false, .int .i64 0, .int .i64 0, .string ⟨#[]⟩, .int .i64 0, .int .i64 0, .string ⟨#[]⟩, .bool false] 33) = u := ⟨_, rfl⟩
        rw [hUR] at hka hq
        have HUR := Lib.hid hUR
        have hqx := hq.over A21 0 c21 q9
        have HTHR := Lib.hid (hq.there A21 0 c21 q9)
        have hkx := Kept.setCells (b := (World.heap p2).size) (Nat.le_refl _) (cellS A21 0 c21 q9).toArray.toList 0 _ hka
        obtain ⟨WR, hWR⟩ : ∃ u, World.setCells UR (World.heap p2).size 0 (cellS A21 0 c21 q9).toArray.toList = u := ⟨_, rfl⟩
        rw [hWR] at hqx hkx
        have HWR := Lib.hid hWR
        replace HW := Lib.hid (HW.out.trans hkx)
        replace HS := Lib.hid (HS.out.kept hkx)
        replace HB := Lib.hid (HB.out.kept hkx)
        replace HB2 := Lib.hid (HB2.out.kept hkx)
        replace HF2 := Lib.hid (HF2.out.kept hkx)
        replace HF4 := Lib.hid (HF4.out.kept hkx)
        replace HB4 := Lib.hid (HB4.out.kept hkx)
        replace HF6 := Lib.hid (HF6.out.kept hkx)
        replace HB6 := Lib.hid (HB6.out.kept hkx)
        replace HF8 := Lib.hid (HF8.out.kept hkx)
        replace HB8 := Lib.hid (HB8.out.kept hkx)
        replace HF10 := Lib.hid (HF10.out.kept hkx)
        replace HB10 := Lib.hid (HB10.out.kept hkx)
        replace HQQ := Lib.hid (HQQ.out.kept hkx)
        replace HF19 := Lib.hid (HF19.out.kept hkx)
        replace HB19 := Lib.hid (HB19.out.kept hkx)
        replace HP21 := Lib.hid (HP21.out.kept hkx)
        have HQR := Lib.hid hqx
        clear hka hq hUR hqx hkx hWR
        have d0 := HB2.out.c0
        go_wp2_with (first | rw [HUR.out] | (refine wpList_store_mid rfl 33 _ _ rfl (World.heap p2).size 0 (cellS A21 0 c21 q9).toArray rfl rfl HTHR.out (step_sizeA A21 0 c21 q9) (cellS_one A21 0 c21 q9) ?_; rw [HWR.out]))
        go_at_call 29
        refine (sfind_any _ _ _ M1 ⟨#[110, 47, 107, 47, 116]⟩ _ HF2.out M1_w (by decide) n4 true aw_n1).mono ?_
        rintro e p3 ⟨rfl, hk⟩
        have hka := (Kept.refl p3).alloc #[.string n4.p, .int .i64 n4.k, .int .i64 n4.t, .int .i64 n4.vk, .int .i64 n4.vn, .string n4.vt] 28
        replace HW := Lib.hid (HW.out.trans (hk.trans hka))
        replace HS := Lib.hid (HS.out.kept (hk.trans hka))
        replace HB := Lib.hid (HB.out.kept (hk.trans hka))
        replace HB2 := Lib.hid (HB2.out.kept (hk.trans hka))
        replace HF2 := Lib.hid (HF2.out.kept (hk.trans hka))
        replace HF4 := Lib.hid (HF4.out.kept (hk.trans hka))
        replace HB4 := Lib.hid (HB4.out.kept (hk.trans hka))
        replace HF6 := Lib.hid (HF6.out.kept (hk.trans hka))
        replace HB6 := Lib.hid (HB6.out.kept (hk.trans hka))
        replace HF8 := Lib.hid (HF8.out.kept (hk.trans hka))
        replace HB8 := Lib.hid (HB8.out.kept (hk.trans hka))
        replace HF10 := Lib.hid (HF10.out.kept (hk.trans hka))
        replace HB10 := Lib.hid (HB10.out.kept (hk.trans hka))
        replace HQQ := Lib.hid (HQQ.out.kept (hk.trans hka))
        replace HF19 := Lib.hid (HF19.out.kept (hk.trans hka))
        replace HB19 := Lib.hid (HB19.out.kept (hk.trans hka))
        replace HP21 := Lib.hid (HP21.out.kept (hk.trans hka))
        replace HQR := Lib.hid (HQR.out.kept (hk.trans hka))
        clear hk hka d0
        clear HUR HWR HTHR
        have d0 := HB4.out.c0
        go_wp2_with (fail)
        go_at_call 29
        refine (sfind_any _ _ _ M2 ⟨#[120]⟩ _ HF4.out M2_w (by decide) h1 true aw_n2).mono ?_
        rintro e p4 ⟨rfl, hk⟩
        have hka := (Kept.refl p4).alloc #[.string h1.p, .int .i64 h1.k, .int .i64 h1.t, .int .i64 h1.vk, .int .i64 h1.vn, .string h1.vt] 28
        replace HW := Lib.hid (HW.out.trans (hk.trans hka))
        replace HS := Lib.hid (HS.out.kept (hk.trans hka))
        replace HB := Lib.hid (HB.out.kept (hk.trans hka))
        replace HB2 := Lib.hid (HB2.out.kept (hk.trans hka))
        replace HF2 := Lib.hid (HF2.out.kept (hk.trans hka))
        replace HF4 := Lib.hid (HF4.out.kept (hk.trans hka))
        replace HB4 := Lib.hid (HB4.out.kept (hk.trans hka))
        replace HF6 := Lib.hid (HF6.out.kept (hk.trans hka))
        replace HB6 := Lib.hid (HB6.out.kept (hk.trans hka))
        replace HF8 := Lib.hid (HF8.out.kept (hk.trans hka))
        replace HB8 := Lib.hid (HB8.out.kept (hk.trans hka))
        replace HF10 := Lib.hid (HF10.out.kept (hk.trans hka))
        replace HB10 := Lib.hid (HB10.out.kept (hk.trans hka))
        replace HQQ := Lib.hid (HQQ.out.kept (hk.trans hka))
        replace HF19 := Lib.hid (HF19.out.kept (hk.trans hka))
        replace HB19 := Lib.hid (HB19.out.kept (hk.trans hka))
        replace HP21 := Lib.hid (HP21.out.kept (hk.trans hka))
        replace HQR := Lib.hid (HQR.out.kept (hk.trans hka))
        clear hk hka d0
        have d0 := HB6.out.c0
        go_wp2_with (fail)
        go_at_call 29
        refine (sfind_any _ _ _ M3 ⟨#[100, 47, 99]⟩ _ HF6.out M3_w (by decide) d3 true aw_n3).mono ?_
        rintro e p5 ⟨rfl, hk⟩
        have hka := (Kept.refl p5).alloc #[.string d3.p, .int .i64 d3.k, .int .i64 d3.t, .int .i64 d3.vk, .int .i64 d3.vn, .string d3.vt] 28
        replace HW := Lib.hid (HW.out.trans (hk.trans hka))
        replace HS := Lib.hid (HS.out.kept (hk.trans hka))
        replace HB := Lib.hid (HB.out.kept (hk.trans hka))
        replace HB2 := Lib.hid (HB2.out.kept (hk.trans hka))
        replace HF2 := Lib.hid (HF2.out.kept (hk.trans hka))
        replace HF4 := Lib.hid (HF4.out.kept (hk.trans hka))
        replace HB4 := Lib.hid (HB4.out.kept (hk.trans hka))
        replace HF6 := Lib.hid (HF6.out.kept (hk.trans hka))
        replace HB6 := Lib.hid (HB6.out.kept (hk.trans hka))
        replace HF8 := Lib.hid (HF8.out.kept (hk.trans hka))
        replace HB8 := Lib.hid (HB8.out.kept (hk.trans hka))
        replace HF10 := Lib.hid (HF10.out.kept (hk.trans hka))
        replace HB10 := Lib.hid (HB10.out.kept (hk.trans hka))
        replace HQQ := Lib.hid (HQQ.out.kept (hk.trans hka))
        replace HF19 := Lib.hid (HF19.out.kept (hk.trans hka))
        replace HB19 := Lib.hid (HB19.out.kept (hk.trans hka))
        replace HP21 := Lib.hid (HP21.out.kept (hk.trans hka))
        replace HQR := Lib.hid (HQR.out.kept (hk.trans hka))
        clear hk hka d0
        have d0 := HB19.out.c0
        go_wp2_with (fail)
        go_at_call 29
        refine (sfind_any _ _ _ M9 ⟨#[109, 47, 49, 47, 116]⟩ _ HF19.out M9_w (by decide) t4 true aw_n9).mono ?_
        rintro e p6 ⟨rfl, hk⟩
        have hka := (Kept.refl p6).alloc #[.string t4.p, .int .i64 t4.k, .int .i64 t4.t, .int .i64 t4.vk, .int .i64 t4.vn, .string t4.vt] 28
        replace HW := Lib.hid (HW.out.trans (hk.trans hka))
        replace HS := Lib.hid (HS.out.kept (hk.trans hka))
        replace HB := Lib.hid (HB.out.kept (hk.trans hka))
        replace HB2 := Lib.hid (HB2.out.kept (hk.trans hka))
        replace HF2 := Lib.hid (HF2.out.kept (hk.trans hka))
        replace HF4 := Lib.hid (HF4.out.kept (hk.trans hka))
        replace HB4 := Lib.hid (HB4.out.kept (hk.trans hka))
        replace HF6 := Lib.hid (HF6.out.kept (hk.trans hka))
        replace HB6 := Lib.hid (HB6.out.kept (hk.trans hka))
        replace HF8 := Lib.hid (HF8.out.kept (hk.trans hka))
        replace HB8 := Lib.hid (HB8.out.kept (hk.trans hka))
        replace HF10 := Lib.hid (HF10.out.kept (hk.trans hka))
        replace HB10 := Lib.hid (HB10.out.kept (hk.trans hka))
        replace HQQ := Lib.hid (HQQ.out.kept (hk.trans hka))
        replace HF19 := Lib.hid (HF19.out.kept (hk.trans hka))
        replace HB19 := Lib.hid (HB19.out.kept (hk.trans hka))
        replace HP21 := Lib.hid (HP21.out.kept (hk.trans hka))
        replace HQR := Lib.hid (HQR.out.kept (hk.trans hka))
        have HFD := Lib.hid (FdB.new p6 t4 28)
        clear hk hka d0
        have d0 := HB.out.c0; have d10 := HB10.out.c0; have k1 := HFD.out.c1
        simp only [t4] at k1
        go_wp2_with fail
        go_at_call 24
        refine (ssame_any _ 4 _ smL _ 4 _ smL _ HF10.out HS.out true (by simp)).mono ?_
        rintro e p7 ⟨rfl, hk⟩
        replace HW := Lib.hid (HW.out.trans hk)
        replace HS := Lib.hid (HS.out.kept hk)
        replace HB := Lib.hid (HB.out.kept hk)
        replace HB2 := Lib.hid (HB2.out.kept hk)
        replace HF2 := Lib.hid (HF2.out.kept hk)
        replace HF4 := Lib.hid (HF4.out.kept hk)
        replace HB4 := Lib.hid (HB4.out.kept hk)
        replace HF6 := Lib.hid (HF6.out.kept hk)
        replace HB6 := Lib.hid (HB6.out.kept hk)
        replace HF8 := Lib.hid (HF8.out.kept hk)
        replace HB8 := Lib.hid (HB8.out.kept hk)
        replace HF10 := Lib.hid (HF10.out.kept hk)
        replace HB10 := Lib.hid (HB10.out.kept hk)
        replace HQQ := Lib.hid (HQQ.out.kept hk)
        replace HF19 := Lib.hid (HF19.out.kept hk)
        replace HB19 := Lib.hid (HB19.out.kept hk)
        replace HP21 := Lib.hid (HP21.out.kept hk)
        replace HQR := Lib.hid (HQR.out.kept hk)
        replace HFD := Lib.hid (HFD.out.kept hk)
        clear hk d0 d10 k1
        have k1 := HFD.out.c1
        simp only [t4] at k1
        go_wp2_with (first | (refine wpList_load_on rfl 33 _ rfl (World.heap wc).size 0 rfl _ _ HQQ.out.r Tryz.underlying33 rfl (step_size none 0 0 q9) ?_) | (refine wpList_load_on rfl 33 _ rfl (World.heap p2).size 0 rfl _ _ HQR.out.r Tryz.underlying33 rfl (step_size A21 0 c21 q9) ?_))
        go_at_call 22
        refine (c_sameQ _ _ _ HP21.out).mono ?_
        rintro e p8 ⟨rfl, hk⟩
        replace HW := Lib.hid (HW.out.trans hk)
        replace HS := Lib.hid (HS.out.kept hk)
        replace HB := Lib.hid (HB.out.kept hk)
        replace HB2 := Lib.hid (HB2.out.kept hk)
        replace HF2 := Lib.hid (HF2.out.kept hk)
        replace HF4 := Lib.hid (HF4.out.kept hk)
        replace HB4 := Lib.hid (HB4.out.kept hk)
        replace HF6 := Lib.hid (HF6.out.kept hk)
        replace HB6 := Lib.hid (HB6.out.kept hk)
        replace HF8 := Lib.hid (HF8.out.kept hk)
        replace HB8 := Lib.hid (HB8.out.kept hk)
        replace HF10 := Lib.hid (HF10.out.kept hk)
        replace HB10 := Lib.hid (HB10.out.kept hk)
        replace HQQ := Lib.hid (HQQ.out.kept hk)
        replace HF19 := Lib.hid (HF19.out.kept hk)
        replace HB19 := Lib.hid (HB19.out.kept hk)
        replace HP21 := Lib.hid (HP21.out.kept hk)
        replace HQR := Lib.hid (HQR.out.kept hk)
        replace HFD := Lib.hid (HFD.out.kept hk)
        clear k1
        clear hk
        go_wp2_with (fail)
        go_at_call 27
        refine (frename_any _ _ _).mono ?_
        rintro e p9 ⟨rfl, hk⟩
        replace HW := Lib.hid (HW.out.trans hk)
        replace HS := Lib.hid (HS.out.kept hk)
        replace HB := Lib.hid (HB.out.kept hk)
        replace HB2 := Lib.hid (HB2.out.kept hk)
        replace HF2 := Lib.hid (HF2.out.kept hk)
        replace HF4 := Lib.hid (HF4.out.kept hk)
        replace HB4 := Lib.hid (HB4.out.kept hk)
        replace HF6 := Lib.hid (HF6.out.kept hk)
        replace HB6 := Lib.hid (HB6.out.kept hk)
        replace HF8 := Lib.hid (HF8.out.kept hk)
        replace HB8 := Lib.hid (HB8.out.kept hk)
        replace HF10 := Lib.hid (HF10.out.kept hk)
        replace HB10 := Lib.hid (HB10.out.kept hk)
        replace HQQ := Lib.hid (HQQ.out.kept hk)
        replace HF19 := Lib.hid (HF19.out.kept hk)
        replace HB19 := Lib.hid (HB19.out.kept hk)
        replace HP21 := Lib.hid (HP21.out.kept hk)
        replace HQR := Lib.hid (HQR.out.kept hk)
        replace HFD := Lib.hid (HFD.out.kept hk)
        clear hk
        go_wp2_with (fail)
        go_at_call 18
        refine (c_turnT _).mono ?_
        rintro e p10 ⟨A31, c31, rfl, hp, hk⟩
        replace HW := Lib.hid (HW.out.trans hk)
        replace HS := Lib.hid (HS.out.kept hk)
        replace HB := Lib.hid (HB.out.kept hk)
        replace HB2 := Lib.hid (HB2.out.kept hk)
        replace HF2 := Lib.hid (HF2.out.kept hk)
        replace HF4 := Lib.hid (HF4.out.kept hk)
        replace HB4 := Lib.hid (HB4.out.kept hk)
        replace HF6 := Lib.hid (HF6.out.kept hk)
        replace HB6 := Lib.hid (HB6.out.kept hk)
        replace HF8 := Lib.hid (HF8.out.kept hk)
        replace HB8 := Lib.hid (HB8.out.kept hk)
        replace HF10 := Lib.hid (HF10.out.kept hk)
        replace HB10 := Lib.hid (HB10.out.kept hk)
        replace HQQ := Lib.hid (HQQ.out.kept hk)
        replace HF19 := Lib.hid (HF19.out.kept hk)
        replace HB19 := Lib.hid (HB19.out.kept hk)
        replace HP21 := Lib.hid (HP21.out.kept hk)
        replace HQR := Lib.hid (HQR.out.kept hk)
        replace HFD := Lib.hid (HFD.out.kept hk)
        have HP31 := Lib.hid hp
        clear hp
        clear hk
        go_wp2_with (fail)
        go_at_call 18
        refine (c_turnU _ _ _ HP31.out).mono ?_
        rintro e p11 ⟨A32, c32, rfl, hp, hk⟩
        replace HW := Lib.hid (HW.out.trans hk)
        replace HS := Lib.hid (HS.out.kept hk)
        replace HB := Lib.hid (HB.out.kept hk)
        replace HB2 := Lib.hid (HB2.out.kept hk)
        replace HF2 := Lib.hid (HF2.out.kept hk)
        replace HF4 := Lib.hid (HF4.out.kept hk)
        replace HB4 := Lib.hid (HB4.out.kept hk)
        replace HF6 := Lib.hid (HF6.out.kept hk)
        replace HB6 := Lib.hid (HB6.out.kept hk)
        replace HF8 := Lib.hid (HF8.out.kept hk)
        replace HB8 := Lib.hid (HB8.out.kept hk)
        replace HF10 := Lib.hid (HF10.out.kept hk)
        replace HB10 := Lib.hid (HB10.out.kept hk)
        replace HQQ := Lib.hid (HQQ.out.kept hk)
        replace HF19 := Lib.hid (HF19.out.kept hk)
        replace HB19 := Lib.hid (HB19.out.kept hk)
        replace HP21 := Lib.hid (HP21.out.kept hk)
        replace HQR := Lib.hid (HQR.out.kept hk)
        replace HFD := Lib.hid (HFD.out.kept hk)
        have HP32 := Lib.hid hp
        clear hp
        clear hk
        go_wp2_with (fail)
        go_at_call 27
        refine (frename_any _ _ _).mono ?_
        rintro e p12 ⟨rfl, hk⟩
        replace HW := Lib.hid (HW.out.trans hk)
        replace HS := Lib.hid (HS.out.kept hk)
        replace HB := Lib.hid (HB.out.kept hk)
        replace HB2 := Lib.hid (HB2.out.kept hk)
        replace HF2 := Lib.hid (HF2.out.kept hk)
        replace HF4 := Lib.hid (HF4.out.kept hk)
        replace HB4 := Lib.hid (HB4.out.kept hk)
        replace HF6 := Lib.hid (HF6.out.kept hk)
        replace HB6 := Lib.hid (HB6.out.kept hk)
        replace HF8 := Lib.hid (HF8.out.kept hk)
        replace HB8 := Lib.hid (HB8.out.kept hk)
        replace HF10 := Lib.hid (HF10.out.kept hk)
        replace HB10 := Lib.hid (HB10.out.kept hk)
        replace HQQ := Lib.hid (HQQ.out.kept hk)
        replace HF19 := Lib.hid (HF19.out.kept hk)
        replace HB19 := Lib.hid (HB19.out.kept hk)
        replace HP21 := Lib.hid (HP21.out.kept hk)
        replace HQR := Lib.hid (HQR.out.kept hk)
        replace HFD := Lib.hid (HFD.out.kept hk)
        replace HP32 := Lib.hid (HP32.out.kept hk)
        clear hk
        go_wp2_with (fail)
        go_at_call 22
        refine (c_sameT _ _ _ HP32.out).mono ?_
        rintro e p13 ⟨rfl, hk⟩
        replace HW := Lib.hid (HW.out.trans hk)
        replace HS := Lib.hid (HS.out.kept hk)
        replace HB := Lib.hid (HB.out.kept hk)
        replace HB2 := Lib.hid (HB2.out.kept hk)
        replace HF2 := Lib.hid (HF2.out.kept hk)
        replace HF4 := Lib.hid (HF4.out.kept hk)
        replace HB4 := Lib.hid (HB4.out.kept hk)
        replace HF6 := Lib.hid (HF6.out.kept hk)
        replace HB6 := Lib.hid (HB6.out.kept hk)
        replace HF8 := Lib.hid (HF8.out.kept hk)
        replace HB8 := Lib.hid (HB8.out.kept hk)
        replace HF10 := Lib.hid (HF10.out.kept hk)
        replace HB10 := Lib.hid (HB10.out.kept hk)
        replace HQQ := Lib.hid (HQQ.out.kept hk)
        replace HF19 := Lib.hid (HF19.out.kept hk)
        replace HB19 := Lib.hid (HB19.out.kept hk)
        replace HP21 := Lib.hid (HP21.out.kept hk)
        replace HQR := Lib.hid (HQR.out.kept hk)
        replace HFD := Lib.hid (HFD.out.kept hk)
        replace HP32 := Lib.hid (HP32.out.kept hk)
        clear hk
        go_wp2_with (fail)
        go_at_call 27
        refine (frename_any _ _ _).mono ?_
        rintro e p14 ⟨rfl, hk⟩
        replace HW := Lib.hid (HW.out.trans hk)
        replace HS := Lib.hid (HS.out.kept hk)
        replace HB := Lib.hid (HB.out.kept hk)
        replace HB2 := Lib.hid (HB2.out.kept hk)
        replace HF2 := Lib.hid (HF2.out.kept hk)
        replace HF4 := Lib.hid (HF4.out.kept hk)
        replace HB4 := Lib.hid (HB4.out.kept hk)
        replace HF6 := Lib.hid (HF6.out.kept hk)
        replace HB6 := Lib.hid (HB6.out.kept hk)
        replace HF8 := Lib.hid (HF8.out.kept hk)
        replace HB8 := Lib.hid (HB8.out.kept hk)
        replace HF10 := Lib.hid (HF10.out.kept hk)
        replace HB10 := Lib.hid (HB10.out.kept hk)
        replace HQQ := Lib.hid (HQQ.out.kept hk)
        replace HF19 := Lib.hid (HF19.out.kept hk)
        replace HB19 := Lib.hid (HB19.out.kept hk)
        replace HP21 := Lib.hid (HP21.out.kept hk)
        replace HQR := Lib.hid (HQR.out.kept hk)
        replace HFD := Lib.hid (HFD.out.kept hk)
        replace HP32 := Lib.hid (HP32.out.kept hk)
        clear hk
        go_wp2_with (fail)
        go_at_call 12
        refine (c_moveQ _).mono ?_
        rintro e p15 ⟨rfl, hk⟩
        replace HW := Lib.hid (HW.out.trans hk)
        replace HS := Lib.hid (HS.out.kept hk)
        replace HB := Lib.hid (HB.out.kept hk)
        replace HB2 := Lib.hid (HB2.out.kept hk)
        replace HF2 := Lib.hid (HF2.out.kept hk)
        replace HF4 := Lib.hid (HF4.out.kept hk)
        replace HB4 := Lib.hid (HB4.out.kept hk)
        replace HF6 := Lib.hid (HF6.out.kept hk)
        replace HB6 := Lib.hid (HB6.out.kept hk)
        replace HF8 := Lib.hid (HF8.out.kept hk)
        replace HB8 := Lib.hid (HB8.out.kept hk)
        replace HF10 := Lib.hid (HF10.out.kept hk)
        replace HB10 := Lib.hid (HB10.out.kept hk)
        replace HQQ := Lib.hid (HQQ.out.kept hk)
        replace HF19 := Lib.hid (HF19.out.kept hk)
        replace HB19 := Lib.hid (HB19.out.kept hk)
        replace HP21 := Lib.hid (HP21.out.kept hk)
        replace HQR := Lib.hid (HQR.out.kept hk)
        replace HFD := Lib.hid (HFD.out.kept hk)
        replace HP32 := Lib.hid (HP32.out.kept hk)
        clear hk
        go_wp2_with fail
        go_at_call 14
        refine (c_pre1 _).mono ?_
        rintro e p16 ⟨rfl, rfl⟩
        go_wp2_with fail
        go_at_call 14
        refine (c_pre2 _).mono ?_
        rintro e p17 ⟨rfl, rfl⟩
        go_wp2_with fail
        go_ret
        exact ⟨rfl, HW.out⟩
end Go.Proofs.YtofnpifooaijcaaGreat
