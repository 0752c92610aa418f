/-
  What is proved: package step's behind (P14.3), called with the fields of a right schema and a step that moves fields, returns the fields that the step makes, and whether it fits; the world has new blocks at most.
  package step's behind (P14.3), called with the fields of a right schema and a step that adds a field, returns the fields that the step makes, and whether it fits; the world has new blocks at most.
  package step's behind (P14.3), called with the fields of a right schema and a step that takes a field away, returns the fields that the step makes, and whether it fits; the world has new blocks at most.
-/
import Derived.Test.YtofnpifooaijcaaGreatM33
import Derived.Test.YtofnpifooaijcaaGreatM37
namespace Go.Proofs.YtofnpifooaijcaaGreat
open Go.RowKit
set_option linter.unusedVariables false
set_option maxRecDepth 100000 in
set_option maxHeartbeats 16000000 in
theorem sbeh_Mv (AL : Option Addr) (m cL : Nat) (L : List Fd) (A : Option Addr) (n c : Nat) (x : St) (w : World) (hl : Fl w AL m cL L) (h : Pal w A n c x.T.L) (hS : StS x) (hT : SzT x.T) (hok : ScOk L) (hL : ∀ f ∈ L, f.p.size ≤ 2000 ∧ f.vt.size ≤ 1000000000) (hm : m ≤ 24) (hmv : Mv x) :
    Calls Tryz.prog 30 #[.slice AL m cL, .agg (cellS A n c x).toArray] w (BehE L x w) := by
  have hcap := hl.cap.1; have hcap2 := hl.cap.2
  have hk := (Kept.refl w).alloc (cellS A n c x).toArray 33
  have hs := StB.new w A n c x 33
  have hln := hl.1
  obtain ⟨U, hU⟩ : ∃ U, w.alloc (.cells (cellS A n c x).toArray 33) = U := ⟨_, rfl⟩
  rw [hU] at hk hs
  have A0 := Lib.hid (clf_any AL m cL L U (hl.kept hk) (by omega))
  have KWU := Lib.hid hk; have HSU := Lib.hid hs
  have HK := Lib.hid hk; have HS := Lib.hid hs; have HUU := Lib.hid hU; have HH := Lib.hid (h.kept hk); have HLN := Lib.hid hln; have HSZ := Lib.hid hS; have HTZ := Lib.hid hT; have HOK := Lib.hid hok; have HLZ := Lib.hid hL
  clear hk hs hU hl h hln hS hT hok hL
  go_enter Tryz.func30, Tryz.ntmps30
  go_wp2_with (rw [HUU.out])
  go_at_call 83
  refine A0.out.mono ?_
  rintro e u1 ⟨v7, rfl, ho7⟩
  obtain ⟨A7, c7, rfl, hf7, hA7, _, _⟩ := ho7.form
  rw [← HLN.out] at ho7 hf7 ⊢
  have h71 := hf7.cap.1; have h72 := hf7.cap.2
  have HO7 := Lib.hid ho7; have HF7 := Lib.hid hf7; have HA7 := Lib.hid hA7
  replace HK := Lib.hid (HK.out.trans ho7.ke); replace HS := Lib.hid (HS.out.kept ho7.ke); replace HH := Lib.hid (HH.out.kept ho7.ke)
  clear ho7 hf7 hA7 A0
  have c0 := HS.out.c0
  have HM := Lib.hid hmv
  have k0 : (x.k == 1) = true ∨ ((x.k == 1) = false ∧ (x.k == 2) = true) ∨ ((x.k == 1) = false ∧ (x.k == 2) = false ∧ (x.k == 3) = true) := by
    rcases hmv with q | q | q <;> simp [q]
  clear hmv
  obtain ⟨z1, hz1⟩ := bool_of (LeadR x)
  obtain ⟨z2, hz2⟩ := bool_of (AloneR L x)
  have A1 := Lib.hid (fun w => sleads_any A n c x w HSZ.out.p HSZ.out.nm HM.out z1 hz1)
  have A2 := Lib.hid (fun w hl => salone_any A7 m c7 L A n c x w hl HSZ.out.p HSZ.out.nm (fun f hf => (HLZ.out f hf).1) z2 hz2)
  have HZ := Lib.hid (show (z1 && z2) = true ↔ LeadR x ∧ AloneR L x by rw [Bool.and_eq_true, hz1, hz2])
  clear hz1 hz2
  rcases k0 with d1 | ⟨d1, d2⟩ | ⟨d1, d2, d3⟩
  all_goals
    go_wp2_with (refine wpList_load_mid rfl 33 _ rfl w.heap.size 0 rfl _ _ HS.out.r Tryz.underlying33 rfl (step_size A n c x) ?_)
    go_at_call 84
    refine (A1.out _).mono ?_
    rintro e u2 ⟨rfl, hk2⟩
    have HK2 := Lib.hid (HK.out.trans hk2); have HS2 := Lib.hid (HS.out.kept hk2); have HO2 := Lib.hid (HO7.out.kept hk2); have HF2 := Lib.hid (HF7.out.kept hk2)
    clear hk2 c0
    cases z1 with
    | false =>
      rw [Bool.false_and] at HZ
      go_wp2_with fail
      go_loopw [29] (fun i wr => ∃ t : Nat, t ≤ m ∧ i = .int .i64 t ∧ OutF U wr (.slice A7 m c7) (rowW L x t)) (fun i _ => m - (intOf i).toNat)
      case atStart => exact ⟨0, Nat.zero_le _, rfl, by rw [rowW_zero]; exact HO2.out⟩
      case round =>
        obtain ⟨t, ht, rfl, hor⟩ := hrel
        have HOR := Lib.hid hor
        clear hor
        by_cases hlt : t < m
        · obtain ⟨f, hf⟩ : ∃ f, L[t]? = some f := ⟨_, List.getElem?_eq_getElem (by rw [← HLN.out]; exact hlt)⟩
          obtain ⟨h1, h2⟩ := HOR.out.own
          rcases h2 with ⟨h', _⟩ | ⟨g', cap', cur, h', hgb, hg, hnc, hcm, hcs, htk⟩
          · simp at h'; omega
          simp only [Value.slice.injEq] at h'
          obtain ⟨rfl, hml, rfl⟩ := h'
          clear hml hnc h1 hgb hg hcm hcs htk
          have HF := Lib.hid hf
          have HFM := Lib.hid (List.mem_of_getElem? hf)
          clear hf
          have HORR := Lib.hid (show OutF U wr (.slice (some ⟨g', 0, none⟩) (rowW L x t).length c7) (rowW L x t) by rw [rowW_len, ← HLN.out]; exact HOR.out)
          have HSR := Lib.hid (HSU.out.kept HOR.out.ke)
          have HR0 := Lib.hid (show wr.cell? ⟨g', t * 6, none⟩ = some (.string f.p) from (HORR.out.cell (rowW_at HF.out) (i := 0) rfl).1)
          obtain ⟨pf, hpf⟩ : ∃ p, moveS x f.p = p := ⟨_, rfl⟩
          have AM := Lib.hid (fun w => smove_any f.p A n c x w (HLZ.out f HFM.out).1 HSZ.out.p HSZ.out.nm pf hpf)
          have HPF := Lib.hid hpf
          have hix : ((t : Nat) : Int).toNat = t := by omega
          clear hpf
          go_wp2_with fail
          have hne : w.heap.size ≠ g' := by have h1 := (HORR.out.own.lt g' rfl).1; have h2 := HSU.out.lt; omega
          have HNE := Lib.hid hne
          clear hne
          refine region_planE g' wr 12 (.read [0, 1, 2, 3, 4, 5, 6] (.one 7 (.one 8 (.read [9, 10] (.one 11 .stop))))) (by kernel_rfl) (by kernel_rfl) (by kernel_rfl) (by kernel_rfl) (by kernel_rfl) (fun _ d _ _ _ h => by cases d <;> exact h) (Kept.refl _) ?_
          intro wd hwd
          have HV := Lib.hid hwd
          clear hwd
          rw [wpPlan_read]
          simp only [pA, pB, pC, pD, pE]
          repeat (first | (refine quiet_load rfl 33 _ rfl w.heap.size 0 rfl _ _ (HSR.out.extE HNE.out) Tryz.underlying33 rfl (step_size A n c x) ?_; simp only [Act.put, List.setIfInBounds_toArray, List.set_cons_succ, List.set_cons_zero]) | go_big_quiet_step (fail))
          refine wpQuiet_nil ?_
          have r0 := HV.out.cell HR0.out
          rw [wpPlan_one]
          simp only [pA, pB, pC, pD, pE]
          go_wp2_with fail
          clear r0
          refine soloE (KeptE.of HV.out) ?_
          rw [wpPlan_one]
          simp only [pA, pB, pC, pD, pE]
          go_wp2_with (go_at_call 12; refine (AM.out _).mono ?_; rintro e u6 ⟨rfl, hkz⟩)
          replace HV := Lib.hid (HV.out.trans hkz)
          clear hkz
          refine soloE (KeptE.of HV.out) ?_
          rw [wpPlan_read]
          simp only [pA, pB, pC, pD, pE]
          repeat (go_big_quiet_step (fail))
          refine wpQuiet_nil ?_
          have HO6 := Lib.hid (show OutF U u6 (.slice (some ⟨g', 0, none⟩) (rowW L x t).length c7) (rowW L x t) from HORR.out.kept HV.out)
          have HOX := Lib.hid (show OutF U (World.setCell u6 ⟨g', t * 6, none⟩ (.string pf)) (.slice (some ⟨g', 0, none⟩) m c7) (rowW L x (t + 1)) by
            have h := HO6.out.setP (rowW_at HF.out) pf
            rw [rowW_len, ← HLN.out, ← HPF.out, rowW_set HF.out] at h
            rw [← HPF.out]
            exact h)
          have r0 : u6.cell? ⟨g', t * 6, none⟩ = some (.string f.p) := (HO6.out.cell (rowW_at HF.out) (i := 0) rfl).1
          have rf := HO6.out.own.frozenAt (t * 6)
          rw [wpPlan_one]
          simp only [pA, pB, pC, pD, pE]
          go_wp2_with fail
          clear r0 rf
          refine soloE ((KeptE.of HV.out).set (a := ⟨g', t * 6, none⟩) (.inl rfl) _) ?_
          refine wpPlan_stop ?_
          go_wp2_with fail
          go_roundw
          case rel => exact ⟨t + 1, hlt, by go_num, HOX.out⟩
          case measure => simp [intOf]; omega
        · obtain rfl : t = m := by omega
          have HE := Lib.hid (show OutF U wr (.slice A7 t c7) (L.map fun f => f.withP (moveS x f.p)) by
            have := HOR.out
            rw [show rowW L x t = rowW L x L.length by rw [HLN.out], rowW_end] at this
            exact this)
          obtain ⟨A8, c8, he8, hf8, _, _, _⟩ := HE.out.form
          rw [List.length_map, ← HLN.out] at he8 hf8
          simp only [Value.slice.injEq, true_and] at he8
          obtain ⟨rfl, rfl⟩ := he8
          have HFIN := Lib.hid (show BehE L x w (.returned (.tuple #[.slice A7 t c7, .bool false])) wr from
            ⟨_, _, _, _, false, rfl, hf8, by omega, map_big HSZ.out.p HSZ.out.nm HLZ.out, KWU.out.trans HE.out.ke, fun h => (by cases h), fun _ M hM => by have := HZ.out.2 ((beh_mv HOK.out HM.out).2 M hM); first | cases this | exact this⟩)
          clear hf8
          go_wp2_with fail
          exact bodyPost_ret (by simp [results, Tryz.results30, go_sem, *]) rfl HFIN.out
    | true =>
      rw [Bool.true_and] at HZ
      go_wp2_with (first | refine wpList_load_mid rfl 33 _ rfl w.heap.size 0 rfl _ _ HS2.out.r Tryz.underlying33 rfl (step_size A n c x) ?_ | refine wpList_load_on rfl 33 _ rfl w.heap.size 0 rfl _ _ HS2.out.r Tryz.underlying33 rfl (step_size A n c x) ?_)
      go_at_call 85
      refine (A2.out _ HF2.out).mono ?_
      rintro e u3 ⟨rfl, hk3⟩
      replace HK2 := Lib.hid (HK2.out.trans hk3); replace HS2 := Lib.hid (HS2.out.kept hk3); replace HO2 := Lib.hid (HO2.out.kept hk3)
      clear hk3
      go_wp2_with fail
      cases z2 with
      | false =>
        go_loopw [29] (fun i wr => ∃ t : Nat, t ≤ m ∧ i = .int .i64 t ∧ OutF U wr (.slice A7 m c7) (rowW L x t)) (fun i _ => m - (intOf i).toNat)
        case atStart => exact ⟨0, Nat.zero_le _, rfl, by rw [rowW_zero]; exact HO2.out⟩
        case round =>
          obtain ⟨t, ht, rfl, hor⟩ := hrel
          have HOR := Lib.hid hor
          clear hor
          by_cases hlt : t < m
          · obtain ⟨f, hf⟩ : ∃ f, L[t]? = some f := ⟨_, List.getElem?_eq_getElem (by rw [← HLN.out]; exact hlt)⟩
            obtain ⟨h1, h2⟩ := HOR.out.own
            rcases h2 with ⟨h', _⟩ | ⟨g', cap', cur, h', hgb, hg, hnc, hcm, hcs, htk⟩
            · simp at h'; omega
            simp only [Value.slice.injEq] at h'
            obtain ⟨rfl, hml, rfl⟩ := h'
            clear hml hnc h1 hgb hg hcm hcs htk
            have HF := Lib.hid hf
            have HFM := Lib.hid (List.mem_of_getElem? hf)
            clear hf
            have HORR := Lib.hid (show OutF U wr (.slice (some ⟨g', 0, none⟩) (rowW L x t).length c7) (rowW L x t) by rw [rowW_len, ← HLN.out]; exact HOR.out)
            have HSR := Lib.hid (HSU.out.kept HOR.out.ke)
            have HR0 := Lib.hid (show wr.cell? ⟨g', t * 6, none⟩ = some (.string f.p) from (HORR.out.cell (rowW_at HF.out) (i := 0) rfl).1)
            obtain ⟨pf, hpf⟩ : ∃ p, moveS x f.p = p := ⟨_, rfl⟩
            have AM := Lib.hid (fun w => smove_any f.p A n c x w (HLZ.out f HFM.out).1 HSZ.out.p HSZ.out.nm pf hpf)
            have HPF := Lib.hid hpf
            have hix : ((t : Nat) : Int).toNat = t := by omega
            clear hpf
            go_wp2_with fail
            have hne : w.heap.size ≠ g' := by have h1 := (HORR.out.own.lt g' rfl).1; have h2 := HSU.out.lt; omega
            have HNE := Lib.hid hne
            clear hne
            refine region_planE g' wr 12 (.read [0, 1, 2, 3, 4, 5, 6] (.one 7 (.one 8 (.read [9, 10] (.one 11 .stop))))) (by kernel_rfl) (by kernel_rfl) (by kernel_rfl) (by kernel_rfl) (by kernel_rfl) (fun _ d _ _ _ h => by cases d <;> exact h) (Kept.refl _) ?_
            intro wd hwd
            have HV := Lib.hid hwd
            clear hwd
            rw [wpPlan_read]
            simp only [pA, pB, pC, pD, pE]
            repeat (first | (refine quiet_load rfl 33 _ rfl w.heap.size 0 rfl _ _ (HSR.out.extE HNE.out) Tryz.underlying33 rfl (step_size A n c x) ?_; simp only [Act.put, List.setIfInBounds_toArray, List.set_cons_succ, List.set_cons_zero]) | go_big_quiet_step (fail))
            refine wpQuiet_nil ?_
            have r0 := HV.out.cell HR0.out
            rw [wpPlan_one]
            simp only [pA, pB, pC, pD, pE]
            go_wp2_with fail
            clear r0
            refine soloE (KeptE.of HV.out) ?_
            rw [wpPlan_one]
            simp only [pA, pB, pC, pD, pE]
            go_wp2_with (go_at_call 12; refine (AM.out _).mono ?_; rintro e u6 ⟨rfl, hkz⟩)
            replace HV := Lib.hid (HV.out.trans hkz)
            clear hkz
            refine soloE (KeptE.of HV.out) ?_
            rw [wpPlan_read]
            simp only [pA, pB, pC, pD, pE]
            repeat (go_big_quiet_step (fail))
            refine wpQuiet_nil ?_
            have HO6 := Lib.hid (show OutF U u6 (.slice (some ⟨g', 0, none⟩) (rowW L x t).length c7) (rowW L x t) from HORR.out.kept HV.out)
            have HOX := Lib.hid (show OutF U (World.setCell u6 ⟨g', t * 6, none⟩ (.string pf)) (.slice (some ⟨g', 0, none⟩) m c7) (rowW L x (t + 1)) by
              have h := HO6.out.setP (rowW_at HF.out) pf
              rw [rowW_len, ← HLN.out, ← HPF.out, rowW_set HF.out] at h
              rw [← HPF.out]
              exact h)
            have r0 : u6.cell? ⟨g', t * 6, none⟩ = some (.string f.p) := (HO6.out.cell (rowW_at HF.out) (i := 0) rfl).1
            have rf := HO6.out.own.frozenAt (t * 6)
            rw [wpPlan_one]
            simp only [pA, pB, pC, pD, pE]
            go_wp2_with fail
            clear r0 rf
            refine soloE ((KeptE.of HV.out).set (a := ⟨g', t * 6, none⟩) (.inl rfl) _) ?_
            refine wpPlan_stop ?_
            go_wp2_with fail
            go_roundw
            case rel => exact ⟨t + 1, hlt, by go_num, HOX.out⟩
            case measure => simp [intOf]; omega
          · obtain rfl : t = m := by omega
            have HE := Lib.hid (show OutF U wr (.slice A7 t c7) (L.map fun f => f.withP (moveS x f.p)) by
              have := HOR.out
              rw [show rowW L x t = rowW L x L.length by rw [HLN.out], rowW_end] at this
              exact this)
            obtain ⟨A8, c8, he8, hf8, _, _, _⟩ := HE.out.form
            rw [List.length_map, ← HLN.out] at he8 hf8
            simp only [Value.slice.injEq, true_and] at he8
            obtain ⟨rfl, rfl⟩ := he8
            have HFIN := Lib.hid (show BehE L x w (.returned (.tuple #[.slice A7 t c7, .bool false])) wr from
              ⟨_, _, _, _, false, rfl, hf8, by omega, map_big HSZ.out.p HSZ.out.nm HLZ.out, KWU.out.trans HE.out.ke, fun h => (by cases h), fun _ M hM => by have := HZ.out.2 ((beh_mv HOK.out HM.out).2 M hM); first | cases this | exact this⟩)
            clear hf8
            go_wp2_with fail
            exact bodyPost_ret (by simp [results, Tryz.results30, go_sem, *]) rfl HFIN.out
      | true =>
        go_loopw [29] (fun i wr => ∃ t : Nat, t ≤ m ∧ i = .int .i64 t ∧ OutF U wr (.slice A7 m c7) (rowW L x t)) (fun i _ => m - (intOf i).toNat)
        case atStart => exact ⟨0, Nat.zero_le _, rfl, by rw [rowW_zero]; exact HO2.out⟩
        case round =>
          obtain ⟨t, ht, rfl, hor⟩ := hrel
          have HOR := Lib.hid hor
          clear hor
          by_cases hlt : t < m
          · obtain ⟨f, hf⟩ : ∃ f, L[t]? = some f := ⟨_, List.getElem?_eq_getElem (by rw [← HLN.out]; exact hlt)⟩
            obtain ⟨h1, h2⟩ := HOR.out.own
            rcases h2 with ⟨h', _⟩ | ⟨g', cap', cur, h', hgb, hg, hnc, hcm, hcs, htk⟩
            · simp at h'; omega
            simp only [Value.slice.injEq] at h'
            obtain ⟨rfl, hml, rfl⟩ := h'
            clear hml hnc h1 hgb hg hcm hcs htk
            have HF := Lib.hid hf
            have HFM := Lib.hid (List.mem_of_getElem? hf)
            clear hf
            have HORR := Lib.hid (show OutF U wr (.slice (some ⟨g', 0, none⟩) (rowW L x t).length c7) (rowW L x t) by rw [rowW_len, ← HLN.out]; exact HOR.out)
            have HSR := Lib.hid (HSU.out.kept HOR.out.ke)
            have HR0 := Lib.hid (show wr.cell? ⟨g', t * 6, none⟩ = some (.string f.p) from (HORR.out.cell (rowW_at HF.out) (i := 0) rfl).1)
            obtain ⟨pf, hpf⟩ : ∃ p, moveS x f.p = p := ⟨_, rfl⟩
            have AM := Lib.hid (fun w => smove_any f.p A n c x w (HLZ.out f HFM.out).1 HSZ.out.p HSZ.out.nm pf hpf)
            have HPF := Lib.hid hpf
            have hix : ((t : Nat) : Int).toNat = t := by omega
            clear hpf
            go_wp2_with fail
            have hne : w.heap.size ≠ g' := by have h1 := (HORR.out.own.lt g' rfl).1; have h2 := HSU.out.lt; omega
            have HNE := Lib.hid hne
            clear hne
            refine region_planE g' wr 12 (.read [0, 1, 2, 3, 4, 5, 6] (.one 7 (.one 8 (.read [9, 10] (.one 11 .stop))))) (by kernel_rfl) (by kernel_rfl) (by kernel_rfl) (by kernel_rfl) (by kernel_rfl) (fun _ d _ _ _ h => by cases d <;> exact h) (Kept.refl _) ?_
            intro wd hwd
            have HV := Lib.hid hwd
            clear hwd
            rw [wpPlan_read]
            simp only [pA, pB, pC, pD, pE]
            repeat (first | (refine quiet_load rfl 33 _ rfl w.heap.size 0 rfl _ _ (HSR.out.extE HNE.out) Tryz.underlying33 rfl (step_size A n c x) ?_; simp only [Act.put, List.setIfInBounds_toArray, List.set_cons_succ, List.set_cons_zero]) | go_big_quiet_step (fail))
            refine wpQuiet_nil ?_
            have r0 := HV.out.cell HR0.out
            rw [wpPlan_one]
            simp only [pA, pB, pC, pD, pE]
            go_wp2_with fail
            clear r0
            refine soloE (KeptE.of HV.out) ?_
            rw [wpPlan_one]
            simp only [pA, pB, pC, pD, pE]
            go_wp2_with (go_at_call 12; refine (AM.out _).mono ?_; rintro e u6 ⟨rfl, hkz⟩)
            replace HV := Lib.hid (HV.out.trans hkz)
            clear hkz
            refine soloE (KeptE.of HV.out) ?_
            rw [wpPlan_read]
            simp only [pA, pB, pC, pD, pE]
            repeat (go_big_quiet_step (fail))
            refine wpQuiet_nil ?_
            have HO6 := Lib.hid (show OutF U u6 (.slice (some ⟨g', 0, none⟩) (rowW L x t).length c7) (rowW L x t) from HORR.out.kept HV.out)
            have HOX := Lib.hid (show OutF U (World.setCell u6 ⟨g', t * 6, none⟩ (.string pf)) (.slice (some ⟨g', 0, none⟩) m c7) (rowW L x (t + 1)) by
              have h := HO6.out.setP (rowW_at HF.out) pf
              rw [rowW_len, ← HLN.out, ← HPF.out, rowW_set HF.out] at h
              rw [← HPF.out]
              exact h)
            have r0 : u6.cell? ⟨g', t * 6, none⟩ = some (.string f.p) := (HO6.out.cell (rowW_at HF.out) (i := 0) rfl).1
            have rf := HO6.out.own.frozenAt (t * 6)
            rw [wpPlan_one]
            simp only [pA, pB, pC, pD, pE]
            go_wp2_with fail
            clear r0 rf
            refine soloE ((KeptE.of HV.out).set (a := ⟨g', t * 6, none⟩) (.inl rfl) _) ?_
            refine wpPlan_stop ?_
            go_wp2_with fail
            go_roundw
            case rel => exact ⟨t + 1, hlt, by go_num, HOX.out⟩
            case measure => simp [intOf]; omega
          · obtain rfl : t = m := by omega
            have HE := Lib.hid (show OutF U wr (.slice A7 t c7) (L.map fun f => f.withP (moveS x f.p)) by
              have := HOR.out
              rw [show rowW L x t = rowW L x L.length by rw [HLN.out], rowW_end] at this
              exact this)
            obtain ⟨A8, c8, he8, hf8, _, _, _⟩ := HE.out.form
            rw [List.length_map, ← HLN.out] at he8 hf8
            simp only [Value.slice.injEq, true_and] at he8
            obtain ⟨rfl, rfl⟩ := he8
            have HFIN := Lib.hid (show BehE L x w (.returned (.tuple #[.slice A7 t c7, .bool true])) wr from
              ⟨_, _, _, _, true, rfl, hf8, by omega, map_big HSZ.out.p HSZ.out.nm HLZ.out, KWU.out.trans HE.out.ke, fun _ => (beh_mv HOK.out HM.out).1 (HZ.out.1 (by first | rfl | trivial)), fun h => by cases h⟩)
            clear hf8
            go_wp2_with fail
            exact bodyPost_ret (by simp [results, Tryz.results30, go_sem, *]) rfl HFIN.out
set_option maxRecDepth 100000 in
set_option maxHeartbeats 16000000 in
theorem sbeh_4 (AL : Option Addr) (m cL : Nat) (L : List Fd) (A : Option Addr) (n c : Nat) (x : St) (w : World) (hl : Fl w AL m cL L) (h : Pal w A n c x.T.L) (hS : StS x) (hT : SzT x.T) (hok : ScOk L) (hL : ∀ f ∈ L, f.p.size ≤ 2000 ∧ f.vt.size ≤ 1000000000) (hm : m ≤ 24) (q : x.k = 4) :
    Calls Tryz.prog 30 #[.slice AL m cL, .agg (cellS A n c x).toArray] w (BehE L x w) := by
  have hcap := hl.cap.1; have hcap2 := hl.cap.2
  have hk := (Kept.refl w).alloc (cellS A n c x).toArray 33
  have hs := StB.new w A n c x 33
  have hln := hl.1
  obtain ⟨U, hU⟩ : ∃ U, w.alloc (.cells (cellS A n c x).toArray 33) = U := ⟨_, rfl⟩
  rw [hU] at hk hs
  have A0 := Lib.hid (clf_any AL m cL L U (hl.kept hk) (by omega))
  have KWU := Lib.hid hk
  have HK := Lib.hid hk; have HS := Lib.hid hs; have HUU := Lib.hid hU; have HH := Lib.hid (h.kept hk); have HLN := Lib.hid hln; have HSZ := Lib.hid hS; have HTZ := Lib.hid hT; have HOK := Lib.hid hok; have HLZ := Lib.hid hL
  clear hk hs hU hl h hln hS hT hok hL
  go_enter Tryz.func30, Tryz.ntmps30
  go_wp2_with (rw [HUU.out])
  go_at_call 83
  refine A0.out.mono ?_
  rintro e u1 ⟨v7, rfl, ho7⟩
  obtain ⟨A7, c7, rfl, hf7, hA7, _, _⟩ := ho7.form
  rw [← HLN.out] at ho7 hf7 ⊢
  have h71 := hf7.cap.1; have h72 := hf7.cap.2
  have HO7 := Lib.hid ho7; have HF7 := Lib.hid hf7; have HA7 := Lib.hid hA7
  replace HK := Lib.hid (HK.out.trans ho7.ke); replace HS := Lib.hid (HS.out.kept ho7.ke); replace HH := Lib.hid (HH.out.kept ho7.ke)
  clear ho7 hf7 hA7 A0
  have c0 := HS.out.c0
  have n11 : (x.k == 1) = false := by simp; omega
  have n12 : decide (x.k = 1) = false := decide_eq_false (by omega)
  have n21 : (x.k == 2) = false := by simp; omega
  have n22 : decide (x.k = 2) = false := decide_eq_false (by omega)
  have n31 : (x.k == 3) = false := by simp; omega
  have n32 : decide (x.k = 3) = false := decide_eq_false (by omega)
  have e41 : (x.k == 4) = true := by rw [q]; rfl
  have e42 : decide (x.k = 4) = true := decide_eq_true q
  have HQ := Lib.hid q
  clear q
  have hk8 := (Kept.refl u1).alloc #[.string x.f.p, .int .i64 x.f.k, .int .i64 x.f.t, .int .i64 x.f.vk, .int .i64 x.f.vn, .string x.f.vt] 28
  obtain ⟨v8, w8, hr8, ho8⟩ := (HO7.out.kept hk8).app _ _ _ _ (fl_one (FdB.new u1 x.f 28)) (by rw [← HLN.out]; omega)
  obtain ⟨A8, c8, he8, hf8, _, _, _⟩ := ho8.form
  subst he8
  have hle : (L ++ [x.f]).length ≤ 40 := by rw [List.length_append, ← HLN.out]; simp; omega
  have HFIN := Lib.hid (show BehE L x w (.returned (.tuple #[.slice A8 (L ++ [x.f]).length c8, .bool true])) w8 from
    ⟨A8, _, c8, L ++ [x.f], true, rfl, hf8, hle, fun f hf => by
      rcases List.mem_append.1 hf with hf | hf
      · have := HLZ.out f hf; omega
      · rw [List.mem_singleton] at hf; subst hf; have := HSZ.out.fp; have := HSZ.out.ft; omega, (show Kept w w8 from KWU.out.trans ho8.ke), fun _ => beh_4 HQ.out, fun h => by cases h⟩)
  have HR8 := Lib.hid hr8
  clear hk8 hr8 ho8 hf8 hle
  obtain ⟨l8, hl8⟩ : ∃ l, (L ++ [x.f]).length = l := ⟨_, rfl⟩
  rw [hl8] at HFIN HR8
  clear hl8
  have s3 := HS.out.c3; have s4 := HS.out.c4; have s5 := HS.out.c5; have s6 := HS.out.c6; have s7 := HS.out.c7; have s8 := HS.out.c8
  go_wp2_with (at_builtin; refine Lib.wpList_append_run _ rfl (.tmp 48) (.tmp 51) _ _ rfl _ _ rfl rfl _ _ HR8.out ?_)
  exact bodyPost_ret (by simp [results, Tryz.results30, go_sem, *]) rfl HFIN.out
set_option maxRecDepth 100000 in
set_option maxHeartbeats 16000000 in
theorem sbeh_5 (AL : Option Addr) (m cL : Nat) (L : List Fd) (A : Option Addr) (n c : Nat) (x : St) (w : World) (hl : Fl w AL m cL L) (h : Pal w A n c x.T.L) (hS : StS x) (hT : SzT x.T) (hok : ScOk L) (hL : ∀ f ∈ L, f.p.size ≤ 2000 ∧ f.vt.size ≤ 1000000000) (hm : m ≤ 24) (q : x.k = 5) :
    Calls Tryz.prog 30 #[.slice AL m cL, .agg (cellS A n c x).toArray] w (BehE L x w) := by
  have hcap := hl.cap.1; have hcap2 := hl.cap.2
  have hk := (Kept.refl w).alloc (cellS A n c x).toArray 33
  have hs := StB.new w A n c x 33
  have hln := hl.1
  obtain ⟨U, hU⟩ : ∃ U, w.alloc (.cells (cellS A n c x).toArray 33) = U := ⟨_, rfl⟩
  rw [hU] at hk hs
  have A0 := Lib.hid (clf_any AL m cL L U (hl.kept hk) (by omega))
  have KWU := Lib.hid hk
  have HK := Lib.hid hk; have HS := Lib.hid hs; have HUU := Lib.hid hU; have HH := Lib.hid (h.kept hk); have HLN := Lib.hid hln; have HSZ := Lib.hid hS; have HTZ := Lib.hid hT; have HOK := Lib.hid hok; have HLZ := Lib.hid hL
  clear hk hs hU hl h hln hS hT hok hL
  go_enter Tryz.func30, Tryz.ntmps30
  go_wp2_with (rw [HUU.out])
  go_at_call 83
  refine A0.out.mono ?_
  rintro e u1 ⟨v7, rfl, ho7⟩
  obtain ⟨A7, c7, rfl, hf7, hA7, _, _⟩ := ho7.form
  rw [← HLN.out] at ho7 hf7 ⊢
  have h71 := hf7.cap.1; have h72 := hf7.cap.2
  have HO7 := Lib.hid ho7; have HF7 := Lib.hid hf7; have HA7 := Lib.hid hA7
  replace HK := Lib.hid (HK.out.trans ho7.ke); replace HS := Lib.hid (HS.out.kept ho7.ke); replace HH := Lib.hid (HH.out.kept ho7.ke)
  clear ho7 hf7 hA7 A0
  have c0 := HS.out.c0
  have n11 : (x.k == 1) = false := by simp; omega
  have n12 : decide (x.k = 1) = false := decide_eq_false (by omega)
  have n21 : (x.k == 2) = false := by simp; omega
  have n22 : decide (x.k = 2) = false := decide_eq_false (by omega)
  have n31 : (x.k == 3) = false := by simp; omega
  have n32 : decide (x.k = 3) = false := decide_eq_false (by omega)
  have n41 : (x.k == 4) = false := by simp; omega
  have n42 : decide (x.k = 4) = false := decide_eq_false (by omega)
  have e51 : (x.k == 5) = true := by rw [q]; rfl
  have e52 : decide (x.k = 5) = true := decide_eq_true q
  have HQ := Lib.hid q
  clear q
  have s3 := HS.out.c3; have s4 := HS.out.c4; have s5 := HS.out.c5; have s6 := HS.out.c6; have s7 := HS.out.c7; have s8 := HS.out.c8
  have AI := Lib.hid (sidx_any A7 m c7 L x.f u1 HF7.out)
  go_wp2_with fail
  go_at_call 86
  refine AI.out.mono ?_
  rintro e u2 ⟨r, rfl, hr, hk2⟩
  replace HK := Lib.hid (HK.out.trans hk2)
  have HO2 := Lib.hid (HO7.out.kept hk2)
  have HR := Lib.hid hr
  clear hr hk2 c0 s3 s4 s5 s6 s7 s8
  rcases HR.out with ⟨t, rfl, ht, _⟩ | ⟨rfl, hno⟩
  · have htn : t < m := by rw [HLN.out]; exact (List.getElem?_eq_some_iff.1 ht).1
    have HT := Lib.hid ht
    clear ht
    obtain ⟨h1, h2⟩ := HO2.out.own
    rcases h2 with ⟨h', _⟩ | ⟨g', cap', cur, h', hb, hg, hnc, hcm, hcs, htk⟩
    · simp at h'; omega
    simp only [Value.slice.injEq] at h'
    obtain ⟨rfl, hml, rfl⟩ := h'
    clear hml hnc h1 hb hg hcm hcs htk
    have hneg : decide (((t : Nat) : Int) < 0) = false := decide_eq_false (by omega)
    have w1 : IntKind.i64.wrap (((t : Nat) : Int) + 1) = ((t + 1 : Nat) : Int) := by rw [IntWalk.i64_in _ (by omega)]; omega
    have AD := Lib.hid (sdel_any U u2 g' m c7 t L HO2.out HLN.out.symm htn h71 h72)
    go_wp2_with fail
    go_at_call 87
    refine AD.out.mono ?_
    rintro e u3 ⟨rfl, ho3⟩
    obtain ⟨A8, c8, he8, hf8, _, _, _⟩ := ho3.form
    have hlen : (L.take t ++ L.drop (t + 1)).length = m - 1 := by rw [List.length_append, List.length_take, List.length_drop, ← HLN.out]; omega
    rw [hlen] at he8 hf8
    simp only [Value.slice.injEq, true_and] at he8
    obtain ⟨rfl, rfl⟩ := he8
    have HFIN := Lib.hid (show BehE L x w (.returned (.tuple #[.slice (some ⟨g', 0, none⟩) (m - 1) c7, .bool true])) u3 from
      ⟨_, _, _, _, true, rfl, hf8, by omega, fun f hf => by
        have : f ∈ L := by
          rcases List.mem_append.1 hf with hf | hf
          · exact List.take_subset _ _ hf
          · exact List.drop_subset _ _ hf
        have := HLZ.out f this; omega, KWU.out.trans ho3.ke, fun _ => beh_5 HOK.out HQ.out HT.out, fun h => by cases h⟩)
    clear ho3 hf8 hlen hneg w1
    go_wp2_with fail
    exact bodyPost_ret (by simp [results, Tryz.results30, go_sem, *]) rfl HFIN.out
  · have HFIN := Lib.hid (show ∀ W, Kept w W → BehE L x w (.returned (.tuple #[.slice none 0 0, .bool false])) W from fun W hk => ⟨none, 0, 0, [], false, rfl, ⟨rfl, Nat.le_refl _, Nat.zero_le _, fun _ => rfl, .inl rfl⟩, Nat.zero_le _, fun f hf => (by cases hf), hk, fun h => (by cases h), fun _ => beh_5no HQ.out hno⟩)
    clear hno
    have hneg : decide ((-1 : Int) < 0) = true := by decide
    go_wp2_with fail
    exact bodyPost_ret (by simp [results, Tryz.results30, go_sem, *]) rfl (HFIN.out _ HK.out)
end Go.Proofs.YtofnpifooaijcaaGreat
