/-
  What is proved: the law StepBack of layer 14, called with any schema and any step, returns true; the world has new blocks at most.
-/
import Derived.Test.YtofnpifooaijcaaGreatM43
import Derived.Test.YtofnpifooaijcaaGreatM10
import Derived.Test.YtofnpifooaijcaaGreatKAwake
import Derived.Test.YtofnpifooaijcaaGreatM20
namespace Go.Proofs.YtofnpifooaijcaaGreat
open Go.RowKit
set_option linter.unusedVariables false
def OneC (V : World) (k : Nat) (M : List Fd) (v u : Value) (w : World) : Prop :=
  ∃ g B d, v = .pointer (some ⟨g, 0, none⟩) ∧ u = .int .i64 0 ∧ Kept V w ∧ Box1 w g (.slice B k d) ∧ Fl w B k d M
theorem ShortS.stS {x : St} (h : ShortS x) : StS x := by
  have h1 := h.pn; have h2 := h.vd; have h3 := h.T.szT
  exact ⟨by omega, by omega, by omega, by omega, by omega, h3.L, h3.d, h3.b⟩
set_option maxRecDepth 100000 in
set_option maxHeartbeats 64000000 in
theorem kback_any (AL : Option Addr) (m cL : Nat) (L : List Fd) (A : Option Addr) (n c : Nat) (x : St) (w : World) (hl : Fl w AL m cL L) (hp : Pal w A n c x.T.L) (hL : ∀ f ∈ L, f.p.size ≤ 9223372036854775807 ∧ f.vt.size ≤ 9223372036854775807) (hz : HoldS x) :
    Calls Tryz.prog 4 #[.agg #[.slice AL m cL], .agg (cellS A n c x).toArray] w fun e w' => e = .returned (.bool true) ∧ Kept w w' := by
  have hk := ((Kept.refl w).alloc #[.slice AL m cL] 24).alloc (cellS A n c x).toArray 33
  have hb := (Box1.new w (.slice AL m cL) 24).kept ((Kept.refl _).alloc (cellS A n c x).toArray 33)
  have hs := StB.new (w.alloc (.cells #[.slice AL m cL] 24)) A n c x 33
  rw [show (w.alloc (.cells #[.slice AL m cL] 24)).heap.size = w.heap.size + 1 by simp] at hs
  obtain ⟨U, hU⟩ : ∃ U, (w.alloc (.cells #[.slice AL m cL] 24)).alloc (.cells (cellS A n c x).toArray 33) = U := ⟨_, rfl⟩
  rw [hU] at hk hb hs
  have HK := Lib.hid hk; have HB := Lib.hid hb; have HSX := Lib.hid hs; have HH := Lib.hid (hl.kept hk); have HP := Lib.hid (hp.kept hk); have HUU := Lib.hid hU; have HLZ := Lib.hid hL; have HZ := Lib.hid hz
  clear hk hb hs hU hl hp hL hz
  have d0 := HB.out.c0
  by_cases hS : ShortF L m
  rotate_left
  · have AL1 := Lib.hid (fun w h => flong_any AL m cL L w h HLZ.out true ⟨fun _ => hS, fun _ => rfl⟩)
    clear hS
    go_enter Tryz.func4, Tryz.ntmps4
    go_wp2_with (rw [HUU.out])
    go_at_call 5
    refine (AL1.out _ HH.out).mono ?_
    rintro e v1 ⟨rfl, hk⟩
    replace HK := Lib.hid (HK.out.trans hk)
    replace HB := Lib.hid (HB.out.kept hk)
    replace HSX := Lib.hid (HSX.out.kept hk)
    replace HH := Lib.hid (HH.out.kept hk)
    replace HP := Lib.hid (HP.out.kept hk)
    clear hk d0
    go_wp2_with fail
    go_at_call 7
    refine (kawake_any _).mono ?_
    rintro e v9 ⟨rfl, hk⟩
    replace HK := Lib.hid (HK.out.trans hk)
    clear hk
    go_wp2_with fail
    go_ret
    exact ⟨rfl, HK.out⟩
  have AL1 := Lib.hid (fun w h => flong_any AL m cL L w h HLZ.out false ⟨(fun h => by cases h), fun h => absurd hS h⟩)
  by_cases hX : ShortS x
  rotate_left
  · have AL2 := Lib.hid (fun w h => klong_any A n c x w h HZ.out true ⟨fun _ => hX, fun _ => rfl⟩)
    clear hS hX
    go_enter Tryz.func4, Tryz.ntmps4
    go_wp2_with (rw [HUU.out])
    go_at_call 5
    refine (AL1.out _ HH.out).mono ?_
    rintro e v1 ⟨rfl, hk⟩
    replace HK := Lib.hid (HK.out.trans hk)
    replace HB := Lib.hid (HB.out.kept hk)
    replace HSX := Lib.hid (HSX.out.kept hk)
    replace HH := Lib.hid (HH.out.kept hk)
    replace HP := Lib.hid (HP.out.kept hk)
    clear hk d0
    go_wp2_with (refine wpList_load_on rfl 33 _ rfl (w.heap.size + 1) 0 rfl _ _ HSX.out.r Tryz.underlying33 rfl (step_size A n c x) ?_)
    go_at_call 6
    refine (AL2.out _ HP.out).mono ?_
    rintro e v2 ⟨rfl, hk⟩
    replace HK := Lib.hid (HK.out.trans hk)
    replace HB := Lib.hid (HB.out.kept hk)
    replace HSX := Lib.hid (HSX.out.kept hk)
    replace HH := Lib.hid (HH.out.kept hk)
    replace HP := Lib.hid (HP.out.kept hk)
    clear hk
    go_wp2_with fail
    go_at_call 7
    refine (kawake_any _).mono ?_
    rintro e v9 ⟨rfl, hk⟩
    replace HK := Lib.hid (HK.out.trans hk)
    clear hk
    go_wp2_with fail
    go_ret
    exact ⟨rfl, HK.out⟩
  have AL2 := Lib.hid (fun w h => klong_any A n c x w h HZ.out false ⟨(fun h => by cases h), fun h => absurd hX h⟩)
  have hm40 := hS.2
  have hSS := hX.stS; have hST := hX.T.szT
  have AC := Lib.hid (fun w h k => scheck_any AL m cL L A n c x w h k hSS hST (fun f hf => by have := hS.1 f hf; omega) hm40)
  have HSS := Lib.hid hSS; have HST := Lib.hid hST
  clear hS hX hSS hST hm40
  go_enter Tryz.func4, Tryz.ntmps4
  go_wp2_with (rw [HUU.out])
  go_at_call 5
  refine (AL1.out _ HH.out).mono ?_
  rintro e v1 ⟨rfl, hk⟩
  replace HK := Lib.hid (HK.out.trans hk)
  replace HB := Lib.hid (HB.out.kept hk)
  replace HSX := Lib.hid (HSX.out.kept hk)
  replace HH := Lib.hid (HH.out.kept hk)
  replace HP := Lib.hid (HP.out.kept hk)
  clear hk d0
  go_wp2_with (refine wpList_load_on rfl 33 _ rfl (w.heap.size + 1) 0 rfl _ _ HSX.out.r Tryz.underlying33 rfl (step_size A n c x) ?_)
  go_at_call 6
  refine (AL2.out _ HP.out).mono ?_
  rintro e v2 ⟨rfl, hk⟩
  replace HK := Lib.hid (HK.out.trans hk)
  replace HB := Lib.hid (HB.out.kept hk)
  replace HSX := Lib.hid (HSX.out.kept hk)
  replace HH := Lib.hid (HH.out.kept hk)
  replace HP := Lib.hid (HP.out.kept hk)
  clear hk
  have d0 := HB.out.c0
  go_wp2_with (refine wpList_load_mid rfl 33 _ rfl (w.heap.size + 1) 0 rfl _ _ HSX.out.r Tryz.underlying33 rfl (step_size A n c x) ?_)
  go_at_call 8
  refine (AC.out _ HH.out HP.out).mono ?_
  rintro e v3 ⟨B0, k0, d5, er, rfl, hk, hor⟩
  replace HK := Lib.hid (HK.out.trans hk)
  replace HB := Lib.hid (HB.out.kept hk)
  replace HSX := Lib.hid (HSX.out.kept hk)
  replace HH := Lib.hid (HH.out.kept hk)
  replace HP := Lib.hid (HP.out.kept hk)
  clear hk d0 AC AL1 AL2
  rcases hor with ⟨rfl, M, hM, hf⟩ | ⟨rfl, rfl, rfl, rfl, _⟩
  rotate_left
  · have hka := (Kept.refl v3).alloc #[.slice none 0 0] 24
    have HB5 := Lib.hid (Box1.new v3 (.slice none 0 0) 24)
    replace HK := Lib.hid (HK.out.trans hka)
    replace HB := Lib.hid (HB.out.kept hka)
    replace HSX := Lib.hid (HSX.out.kept hka)
    replace HH := Lib.hid (HH.out.kept hka)
    replace HP := Lib.hid (HP.out.kept hka)
    clear hka
    have d5 := HB5.out.c0
    go_wp2_with fail
    go_at_call 7
    refine (kawake_any _).mono ?_
    rintro e v9 ⟨rfl, hk⟩
    replace HK := Lib.hid (HK.out.trans hk)
    clear hk
    go_wp2_with fail
    go_ret
    exact ⟨rfl, HK.out⟩
  obtain ⟨y, hy⟩ : ∃ y, turnSt x = y := ⟨_, rfl⟩
  obtain ⟨hc2, hc3⟩ := step_back hM
  obtain ⟨hs2, ht2⟩ := turn_sizes hM.1 HSS.out HST.out
  rw [hy] at hc2 hc3 hs2 ht2
  obtain ⟨hs3, ht3⟩ := turn_sizes hc2.1 hs2 ht2
  obtain ⟨y2, hy2⟩ : ∃ y2, turnSt y = y2 := ⟨_, rfl⟩
  rw [hy2] at hc3 hs3 ht3
  have hLm : L.length = m := HH.out.1.symm
  have hMk : M.length = k0 := hf.1.symm
  have AT1 := Lib.hid (show ∀ w, Pal w A n c x.T.L → Calls Tryz.prog 18 #[.agg (cellS A n c x).toArray] w fun e w' => ∃ A n c, e = .returned (.agg (cellS A n c y).toArray) ∧ Pal w' A n c y.T.L ∧ Kept w w' from fun w h => (sturn_any A n c x w h HSS.out.p HSS.out.nm HST.out).mono fun e w' h => by unfold TurnE at h; rw [hy] at h; exact h)
  have AT2 := Lib.hid (show ∀ A n c w, Pal w A n c y.T.L → Calls Tryz.prog 18 #[.agg (cellS A n c y).toArray] w fun e w' => ∃ A n c, e = .returned (.agg (cellS A n c y2).toArray) ∧ Pal w' A n c y2.T.L ∧ Kept w w' from fun A n c w h => (sturn_any A n c y w h hs2.p hs2.nm ht2).mono fun e w' h => by unfold TurnE at h; rw [hy2] at h; exact h)
  have C2 := Lib.hid (fun A5 c5 A n c w (h : Fl w A5 k0 c5 M) (hp : Pal w A n c y.T.L) => check_to h hp hc2 hs2 ht2 m hLm)
  have C3 := Lib.hid (fun A n c w (h : Fl w AL m cL L) (hp : Pal w A n c y2.T.L) => check_to h hp hc3 hs3 ht3 k0 hMk)
  have HMO := Lib.hid hM.2.2.2
  have hka := (Kept.refl v3).alloc #[.slice B0 k0 d5] 24
  have HF5 := Lib.hid (hf.kept hka); have HB5 := Lib.hid (Box1.new v3 (.slice B0 k0 d5) 24)
  replace HK := Lib.hid (HK.out.trans hka)
  replace HB := Lib.hid (HB.out.kept hka)
  replace HSX := Lib.hid (HSX.out.kept hka)
  replace HH := Lib.hid (HH.out.kept hka)
  replace HP := Lib.hid (HP.out.kept hka)
  clear hka hf hM hc2 hc3 hs2 hs3 ht2 ht3 hy hy2 hLm hMk
  obtain ⟨va, hva⟩ : ∃ u, v3.alloc (.cells #[.slice B0 k0 d5] 24) = u := ⟨_, rfl⟩
  rw [hva] at HK HF5 HB5 HB HSX HH HP
  have HVA := Lib.hid hva
  clear hva
  go_wp2_with fail
  rw [HVA.out]
  have X0 := KExt.cell HB5.out.c0
  go_cut [7, 8] (fun v u wx => OneC va m L v u wx)
  case first =>
    refine region_plan va 10 (.read [0, 1] (.two 2 (.two 3 (.read [4, 5, 6] (.one 7 (.one 8 (.read [9] .stop)))) 7 (.one 3 (.read [4, 5, 6] (.one 8 (.read [9] .stop))))) 7 (.one 2 (.one 3 (.read [4, 5, 6] (.one 8 (.read [9] .stop))))))) (by kernel_rfl) (by kernel_rfl) (by kernel_rfl) (by kernel_rfl) (by kernel_rfl) (fun _ d _ _ _ h => by cases d <;> exact h) (Kept.refl _) ?_
    intro wd hwd
    have HV := Lib.hid hwd
    clear hwd
    rw [wpPlan_read]
    simp only [pA, pB, pC, pD, pE]
    repeat (first | (refine quiet_load rfl 33 _ rfl (w.heap.size + 1) 0 rfl _ _ HSX.out.ext Tryz.underlying33 rfl (step_size A n c x) ?_; simp only [Act.put, List.setIfInBounds_toArray, List.set_cons_succ, List.set_cons_zero]) | go_big_quiet_step (fail))
    refine wpQuiet_nil ?_
    clear X0
    rw [wpPlan_two]
    simp only [pA, pB, pC, pD, pE]
    constructor
    · go_wp2_with (go_at_call 18; refine (AT1.out _ (HP.out.kept HV.out)).mono ?_; rintro e yva1 ⟨A1, n1, c1, rfl, hp1, hkz⟩)
      have HT1 := Lib.hid hp1
      replace HV := Lib.hid (HV.out.trans hkz)
      clear hkz hp1
      refine soloP HV.out ?_
      rw [wpPlan_two]
      simp only [pA, pB, pC, pD, pE]
      constructor
      · go_wp2_with (go_at_call 8; refine (C2.out _ _ _ _ _ _ (HF5.out.kept HV.out) HT1.out).mono ?_; rintro e yva2 ⟨B, d, rfl, hf, hkz⟩)
        replace HT1 := Lib.hid (HT1.out.kept hkz)
        have HFL := Lib.hid hf
        clear hf
        replace HV := Lib.hid (HV.out.trans hkz)
        clear hkz
        refine soloP HV.out ?_
        rw [wpPlan_read]
        simp only [pA, pB, pC, pD, pE]
        repeat (go_big_quiet_step (fail))
        refine wpQuiet_nil ?_
        rw [wpPlan_one]
        simp only [pA, pB, pC, pD, pE]
        go_wp2_with fail
        have hkz := (Kept.refl yva2).alloc #[.slice none 0 0] 24
        replace HFL := Lib.hid (HFL.out.kept hkz)
        replace HT1 := Lib.hid (HT1.out.kept hkz)
        have HBX := Lib.hid (Box1.new yva2 (.slice none 0 0) 24)
        have HLX := Lib.hid HV.out.2.2
        replace HV := Lib.hid (HV.out.trans hkz)
        obtain ⟨g, hbz⟩ : ∃ b, (World.heap yva2).size = b := ⟨_, rfl⟩
        obtain ⟨yva3, hwz⟩ : ∃ u, World.alloc yva2 (.cells #[.slice none 0 0] 24) = u := ⟨_, rfl⟩
        rw [hwz] at HBX HV HFL HT1 ⊢
        rw [hbz] at HBX HLX ⊢
        clear hkz hbz hwz
        refine soloP HV.out ?_
        rw [wpPlan_one]
        simp only [pA, pB, pC, pD, pE]
        have hl := HLX.out
        have e0 := HBX.out.c0; have ef := HBX.out.f 0
        go_wp2_with fail
        clear e0 ef
        replace HFL := Lib.hid (HBX.out.fl (.slice B m d) HFL.out)
        replace HBX := Lib.hid (HBX.out.put (.slice B m d))
        replace HV := Lib.hid (HV.out.setCell (a := ⟨g, 0, none⟩) hl (.slice B m d))
        obtain ⟨yva4, hwz⟩ : ∃ u, World.setCell yva3 ⟨g, 0, none⟩ (.slice B m d) = u := ⟨_, rfl⟩
        rw [hwz] at HV HBX HFL ⊢
        clear hl hwz
        refine soloP HV.out ?_
        rw [wpPlan_read]
        simp only [pA, pB, pC, pD, pE]
        repeat (go_big_quiet_step (fail))
        refine wpQuiet_nil ?_
        have HF := Lib.hid (show OneC va m L (.pointer (some ⟨g, 0, none⟩)) (.int .i64 0) _ from ⟨g, B, d, rfl, rfl, HV.out, HBX.out, HFL.out⟩)
        refine wpPlan_stop ?_
        go_wp2_with fail
        go_meet
        exact HF.out
      · go_wp2_with fail
        have hkz := (Kept.refl yva1).alloc #[.slice none 0 0] 24
        replace HT1 := Lib.hid (HT1.out.kept hkz)
        have HBX := Lib.hid (Box1.new yva1 (.slice none 0 0) 24)
        have HLX := Lib.hid HV.out.2.2
        replace HV := Lib.hid (HV.out.trans hkz)
        obtain ⟨g, hbz⟩ : ∃ b, (World.heap yva1).size = b := ⟨_, rfl⟩
        obtain ⟨yva2, hwz⟩ : ∃ u, World.alloc yva1 (.cells #[.slice none 0 0] 24) = u := ⟨_, rfl⟩
        rw [hwz] at HBX HV HT1 ⊢
        rw [hbz] at HBX HLX ⊢
        clear hkz hbz hwz
        refine soloP HV.out ?_
        rw [wpPlan_one]
        simp only [pA, pB, pC, pD, pE]
        go_wp2_with (go_at_call 8; refine (C2.out _ _ _ _ _ _ (HF5.out.kept HV.out) HT1.out).mono ?_; rintro e yva3 ⟨B, d, rfl, hf, hkz⟩)
        replace HBX := Lib.hid (HBX.out.kept hkz)
        replace HT1 := Lib.hid (HT1.out.kept hkz)
        have HFL := Lib.hid hf
        clear hf
        replace HV := Lib.hid (HV.out.trans hkz)
        clear hkz
        refine soloP HV.out ?_
        rw [wpPlan_read]
        simp only [pA, pB, pC, pD, pE]
        repeat (go_big_quiet_step (fail))
        refine wpQuiet_nil ?_
        rw [wpPlan_one]
        simp only [pA, pB, pC, pD, pE]
        have hl := HLX.out
        have e0 := HBX.out.c0; have ef := HBX.out.f 0
        go_wp2_with fail
        clear e0 ef
        replace HFL := Lib.hid (HBX.out.fl (.slice B m d) HFL.out)
        replace HBX := Lib.hid (HBX.out.put (.slice B m d))
        replace HV := Lib.hid (HV.out.setCell (a := ⟨g, 0, none⟩) hl (.slice B m d))
        obtain ⟨yva4, hwz⟩ : ∃ u, World.setCell yva3 ⟨g, 0, none⟩ (.slice B m d) = u := ⟨_, rfl⟩
        rw [hwz] at HV HBX HFL ⊢
        clear hl hwz
        refine soloP HV.out ?_
        rw [wpPlan_read]
        simp only [pA, pB, pC, pD, pE]
        repeat (go_big_quiet_step (fail))
        refine wpQuiet_nil ?_
        have HF := Lib.hid (show OneC va m L (.pointer (some ⟨g, 0, none⟩)) (.int .i64 0) _ from ⟨g, B, d, rfl, rfl, HV.out, HBX.out, HFL.out⟩)
        refine wpPlan_stop ?_
        go_wp2_with fail
        go_meet
        exact HF.out
    · go_wp2_with fail
      have hkz := (Kept.refl wd).alloc #[.slice none 0 0] 24
      have HBX := Lib.hid (Box1.new wd (.slice none 0 0) 24)
      have HLX := Lib.hid HV.out.2.2
      replace HV := Lib.hid (HV.out.trans hkz)
      obtain ⟨g, hbz⟩ : ∃ b, (World.heap wd).size = b := ⟨_, rfl⟩
      obtain ⟨yva1, hwz⟩ : ∃ u, World.alloc wd (.cells #[.slice none 0 0] 24) = u := ⟨_, rfl⟩
      rw [hwz] at HBX HV ⊢
      rw [hbz] at HBX HLX ⊢
      clear hkz hbz hwz
      refine soloP HV.out ?_
      rw [wpPlan_one]
      simp only [pA, pB, pC, pD, pE]
      go_wp2_with (go_at_call 18; refine (AT1.out _ (HP.out.kept HV.out)).mono ?_; rintro e yva2 ⟨A1, n1, c1, rfl, hp1, hkz⟩)
      replace HBX := Lib.hid (HBX.out.kept hkz)
      have HT1 := Lib.hid hp1
      replace HV := Lib.hid (HV.out.trans hkz)
      clear hkz hp1
      refine soloP HV.out ?_
      rw [wpPlan_one]
      simp only [pA, pB, pC, pD, pE]
      go_wp2_with (go_at_call 8; refine (C2.out _ _ _ _ _ _ (HF5.out.kept HV.out) HT1.out).mono ?_; rintro e yva3 ⟨B, d, rfl, hf, hkz⟩)
      replace HBX := Lib.hid (HBX.out.kept hkz)
      replace HT1 := Lib.hid (HT1.out.kept hkz)
      have HFL := Lib.hid hf
      clear hf
      replace HV := Lib.hid (HV.out.trans hkz)
      clear hkz
      refine soloP HV.out ?_
      rw [wpPlan_read]
      simp only [pA, pB, pC, pD, pE]
      repeat (go_big_quiet_step (fail))
      refine wpQuiet_nil ?_
      rw [wpPlan_one]
      simp only [pA, pB, pC, pD, pE]
      have hl := HLX.out
      have e0 := HBX.out.c0; have ef := HBX.out.f 0
      go_wp2_with fail
      clear e0 ef
      replace HFL := Lib.hid (HBX.out.fl (.slice B m d) HFL.out)
      replace HBX := Lib.hid (HBX.out.put (.slice B m d))
      replace HV := Lib.hid (HV.out.setCell (a := ⟨g, 0, none⟩) hl (.slice B m d))
      obtain ⟨yva4, hwz⟩ : ∃ u, World.setCell yva3 ⟨g, 0, none⟩ (.slice B m d) = u := ⟨_, rfl⟩
      rw [hwz] at HV HBX HFL ⊢
      clear hl hwz
      refine soloP HV.out ?_
      rw [wpPlan_read]
      simp only [pA, pB, pC, pD, pE]
      repeat (go_big_quiet_step (fail))
      refine wpQuiet_nil ?_
      have HF := Lib.hid (show OneC va m L (.pointer (some ⟨g, 0, none⟩)) (.int .i64 0) _ from ⟨g, B, d, rfl, rfl, HV.out, HBX.out, HFL.out⟩)
      refine wpPlan_stop ?_
      go_wp2_with fail
      go_meet
      exact HF.out
  case rest =>
    clear X0
    obtain ⟨g7, B7, d7, rfl, rfl, hk7, hb7, hf7⟩ := hcut
    have HB7 := Lib.hid hb7; have HF7 := Lib.hid hf7
    replace HK := Lib.hid (HK.out.trans hk7)
    replace HB := Lib.hid (HB.out.kept hk7)
    replace HSX := Lib.hid (HSX.out.kept hk7)
    replace HH := Lib.hid (HH.out.kept hk7)
    replace HP := Lib.hid (HP.out.kept hk7)
    replace HF5 := Lib.hid (HF5.out.kept hk7)
    replace HB5 := Lib.hid (HB5.out.kept hk7)
    clear hk7 hb7 hf7
    go_wp2_with fail
    have X0 := KExt.cell HB.out.c0
    go_cut [9, 10] (fun v u wx => OneC wc k0 M v u wx)
    case first =>
      refine region_plan wc 11 (.read [0, 1] (.two 2 (.two 3 (.two 4 (.read [5, 6, 7] (.one 8 (.one 9 (.read [10] .stop)))) 8 (.one 4 (.read [5, 6, 7] (.one 9 (.read [10] .stop))))) 8 (.one 3 (.one 4 (.read [5, 6, 7] (.one 9 (.read [10] .stop)))))) 8 (.one 2 (.one 3 (.one 4 (.read [5, 6, 7] (.one 9 (.read [10] .stop)))))))) (by kernel_rfl) (by kernel_rfl) (by kernel_rfl) (by kernel_rfl) (by kernel_rfl) (fun _ d _ _ _ h => by cases d <;> exact h) (Kept.refl _) ?_
      intro wd hwd
      have HV := Lib.hid hwd
      clear hwd
      rw [wpPlan_read]
      simp only [pA, pB, pC, pD, pE]
      repeat (first | (refine quiet_load rfl 33 _ rfl (w.heap.size + 1) 0 rfl _ _ HSX.out.ext Tryz.underlying33 rfl (step_size A n c x) ?_; simp only [Act.put, List.setIfInBounds_toArray, List.set_cons_succ, List.set_cons_zero]) | go_big_quiet_step (fail))
      refine wpQuiet_nil ?_
      clear X0
      rw [wpPlan_two]
      simp only [pA, pB, pC, pD, pE]
      constructor
      · go_wp2_with (go_at_call 18; refine (AT1.out _ (HP.out.kept HV.out)).mono ?_; rintro e ywc1 ⟨A1, n1, c1, rfl, hp1, hkz⟩)
        have HT1 := Lib.hid hp1
        replace HV := Lib.hid (HV.out.trans hkz)
        clear hkz hp1
        refine soloP HV.out ?_
        rw [wpPlan_two]
        simp only [pA, pB, pC, pD, pE]
        constructor
        · go_wp2_with (go_at_call 18; refine (AT2.out _ _ _ _ HT1.out).mono ?_; rintro e ywc2 ⟨A2, n2, c2, rfl, hp2, hkz⟩)
          replace HT1 := Lib.hid (HT1.out.kept hkz)
          have HT2 := Lib.hid hp2
          replace HV := Lib.hid (HV.out.trans hkz)
          clear hkz hp2
          refine soloP HV.out ?_
          rw [wpPlan_two]
          simp only [pA, pB, pC, pD, pE]
          constructor
          · go_wp2_with (go_at_call 8; refine (C3.out _ _ _ _ (HH.out.kept HV.out) HT2.out).mono ?_; rintro e ywc3 ⟨B, d, rfl, hf, hkz⟩)
            replace HT1 := Lib.hid (HT1.out.kept hkz)
            replace HT2 := Lib.hid (HT2.out.kept hkz)
            have HFL := Lib.hid hf
            clear hf
            replace HV := Lib.hid (HV.out.trans hkz)
            clear hkz
            refine soloP HV.out ?_
            rw [wpPlan_read]
            simp only [pA, pB, pC, pD, pE]
            repeat (go_big_quiet_step (fail))
            refine wpQuiet_nil ?_
            rw [wpPlan_one]
            simp only [pA, pB, pC, pD, pE]
            go_wp2_with fail
            have hkz := (Kept.refl ywc3).alloc #[.slice none 0 0] 24
            replace HFL := Lib.hid (HFL.out.kept hkz)
            replace HT1 := Lib.hid (HT1.out.kept hkz)
            replace HT2 := Lib.hid (HT2.out.kept hkz)
            have HBX := Lib.hid (Box1.new ywc3 (.slice none 0 0) 24)
            have HLX := Lib.hid HV.out.2.2
            replace HV := Lib.hid (HV.out.trans hkz)
            obtain ⟨g, hbz⟩ : ∃ b, (World.heap ywc3).size = b := ⟨_, rfl⟩
            obtain ⟨ywc4, hwz⟩ : ∃ u, World.alloc ywc3 (.cells #[.slice none 0 0] 24) = u := ⟨_, rfl⟩
            rw [hwz] at HBX HV HFL HT1 HT2 ⊢
            rw [hbz] at HBX HLX ⊢
            clear hkz hbz hwz
            refine soloP HV.out ?_
            rw [wpPlan_one]
            simp only [pA, pB, pC, pD, pE]
            have hl := HLX.out
            have e0 := HBX.out.c0; have ef := HBX.out.f 0
            go_wp2_with fail
            clear e0 ef
            replace HFL := Lib.hid (HBX.out.fl (.slice B k0 d) HFL.out)
            replace HBX := Lib.hid (HBX.out.put (.slice B k0 d))
            replace HV := Lib.hid (HV.out.setCell (a := ⟨g, 0, none⟩) hl (.slice B k0 d))
            obtain ⟨ywc5, hwz⟩ : ∃ u, World.setCell ywc4 ⟨g, 0, none⟩ (.slice B k0 d) = u := ⟨_, rfl⟩
            rw [hwz] at HV HBX HFL ⊢
            clear hl hwz
            refine soloP HV.out ?_
            rw [wpPlan_read]
            simp only [pA, pB, pC, pD, pE]
            repeat (go_big_quiet_step (fail))
            refine wpQuiet_nil ?_
            have HF := Lib.hid (show OneC wc k0 M (.pointer (some ⟨g, 0, none⟩)) (.int .i64 0) _ from ⟨g, B, d, rfl, rfl, HV.out, HBX.out, HFL.out⟩)
            refine wpPlan_stop ?_
            go_wp2_with fail
            go_meet
            exact HF.out
          · go_wp2_with fail
            have hkz := (Kept.refl ywc2).alloc #[.slice none 0 0] 24
            replace HT1 := Lib.hid (HT1.out.kept hkz)
            replace HT2 := Lib.hid (HT2.out.kept hkz)
            have HBX := Lib.hid (Box1.new ywc2 (.slice none 0 0) 24)
            have HLX := Lib.hid HV.out.2.2
            replace HV := Lib.hid (HV.out.trans hkz)
            obtain ⟨g, hbz⟩ : ∃ b, (World.heap ywc2).size = b := ⟨_, rfl⟩
            obtain ⟨ywc3, hwz⟩ : ∃ u, World.alloc ywc2 (.cells #[.slice none 0 0] 24) = u := ⟨_, rfl⟩
            rw [hwz] at HBX HV HT1 HT2 ⊢
            rw [hbz] at HBX HLX ⊢
            clear hkz hbz hwz
            refine soloP HV.out ?_
            rw [wpPlan_one]
            simp only [pA, pB, pC, pD, pE]
            go_wp2_with (go_at_call 8; refine (C3.out _ _ _ _ (HH.out.kept HV.out) HT2.out).mono ?_; rintro e ywc4 ⟨B, d, rfl, hf, hkz⟩)
            replace HBX := Lib.hid (HBX.out.kept hkz)
            replace HT1 := Lib.hid (HT1.out.kept hkz)
            replace HT2 := Lib.hid (HT2.out.kept hkz)
            have HFL := Lib.hid hf
            clear hf
            replace HV := Lib.hid (HV.out.trans hkz)
            clear hkz
            refine soloP HV.out ?_
            rw [wpPlan_read]
            simp only [pA, pB, pC, pD, pE]
            repeat (go_big_quiet_step (fail))
            refine wpQuiet_nil ?_
            rw [wpPlan_one]
            simp only [pA, pB, pC, pD, pE]
            have hl := HLX.out
            have e0 := HBX.out.c0; have ef := HBX.out.f 0
            go_wp2_with fail
            clear e0 ef
            replace HFL := Lib.hid (HBX.out.fl (.slice B k0 d) HFL.out)
            replace HBX := Lib.hid (HBX.out.put (.slice B k0 d))
            replace HV := Lib.hid (HV.out.setCell (a := ⟨g, 0, none⟩) hl (.slice B k0 d))
            obtain ⟨ywc5, hwz⟩ : ∃ u, World.setCell ywc4 ⟨g, 0, none⟩ (.slice B k0 d) = u := ⟨_, rfl⟩
            rw [hwz] at HV HBX HFL ⊢
            clear hl hwz
            refine soloP HV.out ?_
            rw [wpPlan_read]
            simp only [pA, pB, pC, pD, pE]
            repeat (go_big_quiet_step (fail))
            refine wpQuiet_nil ?_
            have HF := Lib.hid (show OneC wc k0 M (.pointer (some ⟨g, 0, none⟩)) (.int .i64 0) _ from ⟨g, B, d, rfl, rfl, HV.out, HBX.out, HFL.out⟩)
            refine wpPlan_stop ?_
            go_wp2_with fail
            go_meet
            exact HF.out
        · go_wp2_with fail
          have hkz := (Kept.refl ywc1).alloc #[.slice none 0 0] 24
          replace HT1 := Lib.hid (HT1.out.kept hkz)
          have HBX := Lib.hid (Box1.new ywc1 (.slice none 0 0) 24)
          have HLX := Lib.hid HV.out.2.2
          replace HV := Lib.hid (HV.out.trans hkz)
          obtain ⟨g, hbz⟩ : ∃ b, (World.heap ywc1).size = b := ⟨_, rfl⟩
          obtain ⟨ywc2, hwz⟩ : ∃ u, World.alloc ywc1 (.cells #[.slice none 0 0] 24) = u := ⟨_, rfl⟩
          rw [hwz] at HBX HV HT1 ⊢
          rw [hbz] at HBX HLX ⊢
          clear hkz hbz hwz
          refine soloP HV.out ?_
          rw [wpPlan_one]
          simp only [pA, pB, pC, pD, pE]
          go_wp2_with (go_at_call 18; refine (AT2.out _ _ _ _ HT1.out).mono ?_; rintro e ywc3 ⟨A2, n2, c2, rfl, hp2, hkz⟩)
          replace HBX := Lib.hid (HBX.out.kept hkz)
          replace HT1 := Lib.hid (HT1.out.kept hkz)
          have HT2 := Lib.hid hp2
          replace HV := Lib.hid (HV.out.trans hkz)
          clear hkz hp2
          refine soloP HV.out ?_
          rw [wpPlan_one]
          simp only [pA, pB, pC, pD, pE]
          go_wp2_with (go_at_call 8; refine (C3.out _ _ _ _ (HH.out.kept HV.out) HT2.out).mono ?_; rintro e ywc4 ⟨B, d, rfl, hf, hkz⟩)
          replace HBX := Lib.hid (HBX.out.kept hkz)
          replace HT1 := Lib.hid (HT1.out.kept hkz)
          replace HT2 := Lib.hid (HT2.out.kept hkz)
          have HFL := Lib.hid hf
          clear hf
          replace HV := Lib.hid (HV.out.trans hkz)
          clear hkz
          refine soloP HV.out ?_
          rw [wpPlan_read]
          simp only [pA, pB, pC, pD, pE]
          repeat (go_big_quiet_step (fail))
          refine wpQuiet_nil ?_
          rw [wpPlan_one]
          simp only [pA, pB, pC, pD, pE]
          have hl := HLX.out
          have e0 := HBX.out.c0; have ef := HBX.out.f 0
          go_wp2_with fail
          clear e0 ef
          replace HFL := Lib.hid (HBX.out.fl (.slice B k0 d) HFL.out)
          replace HBX := Lib.hid (HBX.out.put (.slice B k0 d))
          replace HV := Lib.hid (HV.out.setCell (a := ⟨g, 0, none⟩) hl (.slice B k0 d))
          obtain ⟨ywc5, hwz⟩ : ∃ u, World.setCell ywc4 ⟨g, 0, none⟩ (.slice B k0 d) = u := ⟨_, rfl⟩
          rw [hwz] at HV HBX HFL ⊢
          clear hl hwz
          refine soloP HV.out ?_
          rw [wpPlan_read]
          simp only [pA, pB, pC, pD, pE]
          repeat (go_big_quiet_step (fail))
          refine wpQuiet_nil ?_
          have HF := Lib.hid (show OneC wc k0 M (.pointer (some ⟨g, 0, none⟩)) (.int .i64 0) _ from ⟨g, B, d, rfl, rfl, HV.out, HBX.out, HFL.out⟩)
          refine wpPlan_stop ?_
          go_wp2_with fail
          go_meet
          exact HF.out
      · go_wp2_with fail
        have hkz := (Kept.refl wd).alloc #[.slice none 0 0] 24
        have HBX := Lib.hid (Box1.new wd (.slice none 0 0) 24)
        have HLX := Lib.hid HV.out.2.2
        replace HV := Lib.hid (HV.out.trans hkz)
        obtain ⟨g, hbz⟩ : ∃ b, (World.heap wd).size = b := ⟨_, rfl⟩
        obtain ⟨ywc1, hwz⟩ : ∃ u, World.alloc wd (.cells #[.slice none 0 0] 24) = u := ⟨_, rfl⟩
        rw [hwz] at HBX HV ⊢
        rw [hbz] at HBX HLX ⊢
        clear hkz hbz hwz
        refine soloP HV.out ?_
        rw [wpPlan_one]
        simp only [pA, pB, pC, pD, pE]
        go_wp2_with (go_at_call 18; refine (AT1.out _ (HP.out.kept HV.out)).mono ?_; rintro e ywc2 ⟨A1, n1, c1, rfl, hp1, hkz⟩)
        replace HBX := Lib.hid (HBX.out.kept hkz)
        have HT1 := Lib.hid hp1
        replace HV := Lib.hid (HV.out.trans hkz)
        clear hkz hp1
        refine soloP HV.out ?_
        rw [wpPlan_one]
        simp only [pA, pB, pC, pD, pE]
        go_wp2_with (go_at_call 18; refine (AT2.out _ _ _ _ HT1.out).mono ?_; rintro e ywc3 ⟨A2, n2, c2, rfl, hp2, hkz⟩)
        replace HBX := Lib.hid (HBX.out.kept hkz)
        replace HT1 := Lib.hid (HT1.out.kept hkz)
        have HT2 := Lib.hid hp2
        replace HV := Lib.hid (HV.out.trans hkz)
        clear hkz hp2
        refine soloP HV.out ?_
        rw [wpPlan_one]
        simp only [pA, pB, pC, pD, pE]
        go_wp2_with (go_at_call 8; refine (C3.out _ _ _ _ (HH.out.kept HV.out) HT2.out).mono ?_; rintro e ywc4 ⟨B, d, rfl, hf, hkz⟩)
        replace HBX := Lib.hid (HBX.out.kept hkz)
        replace HT1 := Lib.hid (HT1.out.kept hkz)
        replace HT2 := Lib.hid (HT2.out.kept hkz)
        have HFL := Lib.hid hf
        clear hf
        replace HV := Lib.hid (HV.out.trans hkz)
        clear hkz
        refine soloP HV.out ?_
        rw [wpPlan_read]
        simp only [pA, pB, pC, pD, pE]
        repeat (go_big_quiet_step (fail))
        refine wpQuiet_nil ?_
        rw [wpPlan_one]
        simp only [pA, pB, pC, pD, pE]
        have hl := HLX.out
        have e0 := HBX.out.c0; have ef := HBX.out.f 0
        go_wp2_with fail
        clear e0 ef
        replace HFL := Lib.hid (HBX.out.fl (.slice B k0 d) HFL.out)
        replace HBX := Lib.hid (HBX.out.put (.slice B k0 d))
        replace HV := Lib.hid (HV.out.setCell (a := ⟨g, 0, none⟩) hl (.slice B k0 d))
        obtain ⟨ywc5, hwz⟩ : ∃ u, World.setCell ywc4 ⟨g, 0, none⟩ (.slice B k0 d) = u := ⟨_, rfl⟩
        rw [hwz] at HV HBX HFL ⊢
        clear hl hwz
        refine soloP HV.out ?_
        rw [wpPlan_read]
        simp only [pA, pB, pC, pD, pE]
        repeat (go_big_quiet_step (fail))
        refine wpQuiet_nil ?_
        have HF := Lib.hid (show OneC wc k0 M (.pointer (some ⟨g, 0, none⟩)) (.int .i64 0) _ from ⟨g, B, d, rfl, rfl, HV.out, HBX.out, HFL.out⟩)
        refine wpPlan_stop ?_
        go_wp2_with fail
        go_meet
        exact HF.out
    case rest =>
      clear X0
      obtain ⟨g9, B9, d9, rfl, rfl, hk9, hb9, hf9⟩ := hcut
      have HB9 := Lib.hid hb9; have HF9 := Lib.hid hf9
      replace HK := Lib.hid (HK.out.trans hk9)
      replace HB := Lib.hid (HB.out.kept hk9)
      replace HSX := Lib.hid (HSX.out.kept hk9)
      replace HH := Lib.hid (HH.out.kept hk9)
      replace HP := Lib.hid (HP.out.kept hk9)
      replace HF5 := Lib.hid (HF5.out.kept hk9)
      replace HB5 := Lib.hid (HB5.out.kept hk9)
      replace HB7 := Lib.hid (HB7.out.kept hk9)
      replace HF7 := Lib.hid (HF7.out.kept hk9)
      clear hk9 hb9 hf9
      have d0 := HB.out.c0; have e5 := HB5.out.c0; have e7 := HB7.out.c0; have e9 := HB9.out.c0
      go_wp2_with fail
      go_at_call 23
      refine (ssc_any _ _ _ M _ HF5.out (fun f hf => by have := HMO.out.sz f hf; omega) true ⟨fun _ => HMO.out, fun _ => rfl⟩).mono ?_
      rintro e q1 ⟨rfl, hk⟩
      replace HK := Lib.hid (HK.out.trans hk)
      replace HB := Lib.hid (HB.out.kept hk)
      replace HSX := Lib.hid (HSX.out.kept hk)
      replace HH := Lib.hid (HH.out.kept hk)
      replace HP := Lib.hid (HP.out.kept hk)
      replace HF5 := Lib.hid (HF5.out.kept hk)
      replace HB5 := Lib.hid (HB5.out.kept hk)
      replace HB7 := Lib.hid (HB7.out.kept hk)
      replace HF7 := Lib.hid (HF7.out.kept hk)
      replace HB9 := Lib.hid (HB9.out.kept hk)
      replace HF9 := Lib.hid (HF9.out.kept hk)
      clear hk
      clear d0 e5 e7 e9
      have d0 := HB.out.c0; have e5 := HB5.out.c0; have e7 := HB7.out.c0; have e9 := HB9.out.c0
      go_wp2_with fail
      go_at_call 24
      refine (ssame_any _ _ _ L _ _ _ L _ HF7.out HH.out true (by simp)).mono ?_
      rintro e q2 ⟨rfl, hk⟩
      replace HK := Lib.hid (HK.out.trans hk)
      replace HB := Lib.hid (HB.out.kept hk)
      replace HSX := Lib.hid (HSX.out.kept hk)
      replace HH := Lib.hid (HH.out.kept hk)
      replace HP := Lib.hid (HP.out.kept hk)
      replace HF5 := Lib.hid (HF5.out.kept hk)
      replace HB5 := Lib.hid (HB5.out.kept hk)
      replace HB7 := Lib.hid (HB7.out.kept hk)
      replace HF7 := Lib.hid (HF7.out.kept hk)
      replace HB9 := Lib.hid (HB9.out.kept hk)
      replace HF9 := Lib.hid (HF9.out.kept hk)
      clear hk
      clear d0 e5 e7 e9
      have d0 := HB.out.c0; have e5 := HB5.out.c0; have e7 := HB7.out.c0; have e9 := HB9.out.c0
      go_wp2_with fail
      go_at_call 24
      refine (ssame_any _ _ _ M _ _ _ M _ HF9.out HF5.out true (by simp)).mono ?_
      rintro e q3 ⟨rfl, hk⟩
      replace HK := Lib.hid (HK.out.trans hk)
      replace HB := Lib.hid (HB.out.kept hk)
      replace HSX := Lib.hid (HSX.out.kept hk)
      replace HH := Lib.hid (HH.out.kept hk)
      replace HP := Lib.hid (HP.out.kept hk)
      replace HF5 := Lib.hid (HF5.out.kept hk)
      replace HB5 := Lib.hid (HB5.out.kept hk)
      replace HB7 := Lib.hid (HB7.out.kept hk)
      replace HF7 := Lib.hid (HF7.out.kept hk)
      replace HB9 := Lib.hid (HB9.out.kept hk)
      replace HF9 := Lib.hid (HF9.out.kept hk)
      clear hk
      clear d0 e5 e7 e9
      go_wp2_with fail
      go_at_call 7
      refine (kawake_any _).mono ?_
      rintro e q4 ⟨rfl, hk⟩
      replace HK := Lib.hid (HK.out.trans hk)
      clear hk
      go_wp2_with fail
      go_ret
      exact ⟨rfl, HK.out⟩
end Go.Proofs.YtofnpifooaijcaaGreat
