/-
  What is proved: package step's Turn (P14.4), at a step of the kind 10
-/
import Derived.Test.YtofnpifooaijcaaGreatM16
namespace Go.Proofs.YtofnpifooaijcaaGreat
open Go.RowKit
set_option linter.unusedVariables false
set_option maxRecDepth 100000 in
set_option maxHeartbeats 16000000 in
theorem sturn10 (A : Option Addr) (n c : Nat) (x : St) (w : World) (h : Pal w A n c x.T.L) (hxp : x.p.size ≤ 2000) (hnm : x.nm.size ≤ 2000) (hT : SzT x.T) (q : x.k = 10) :
    Calls Tryz.prog 18 #[.agg (cellS A n c x).toArray] w (TurnE x w) := by
  have hk := ((Kept.refl w).alloc (cellS A n c x).toArray 33).alloc #[.int .i64 0, .string ⟨#[]⟩, .string ⟨#[]⟩, .string ⟨#[]⟩, .int .i64 0, .int .i64 0, .int .i64 0, .int .i64 0, .string ⟨#[]⟩, .int .i64 0, .int .i64 0, .string ⟨#[]⟩, .int .i64 0, .int .i64 0, .slice none 0 0, .bool false, .int .i64 0, .int .i64 0, .string ⟨#[]⟩, .int .i64 0, .int .i64 0, .string ⟨#[]⟩, .bool false] 33
  have hs := (StB.new w A n c x 33).kept ((Kept.refl _).alloc #[.int .i64 0, .string ⟨#[]⟩, .string ⟨#[]⟩, .string ⟨#[]⟩, .int .i64 0, .int .i64 0, .int .i64 0, .int .i64 0, .string ⟨#[]⟩, .int .i64 0, .int .i64 0, .string ⟨#[]⟩, .int .i64 0, .int .i64 0, .slice none 0 0, .bool false, .int .i64 0, .int .i64 0, .string ⟨#[]⟩, .int .i64 0, .int .i64 0, .string ⟨#[]⟩, .bool false] 33)
  have hr := StB.zero (w.alloc (.cells (cellS A n c x).toArray 33)) 33
  rw [show (w.alloc (.cells (cellS A n c x).toArray 33)).heap.size = w.heap.size + 1 by simp] at hr
  obtain ⟨U, hU⟩ : ∃ U, (w.alloc (.cells (cellS A n c x).toArray 33)).alloc (.cells #[.int .i64 0, .string ⟨#[]⟩, .string ⟨#[]⟩, .string ⟨#[]⟩, .int .i64 0, .int .i64 0, .int .i64 0, .int .i64 0, .string ⟨#[]⟩, .int .i64 0, .int .i64 0, .string ⟨#[]⟩, .int .i64 0, .int .i64 0, .slice none 0 0, .bool false, .int .i64 0, .int .i64 0, .string ⟨#[]⟩, .int .i64 0, .int .i64 0, .string ⟨#[]⟩, .bool false] 33) = U := ⟨_, rfl⟩
  rw [hU] at hk hs hr
  obtain ⟨m, hm⟩ : ∃ m, (L4.splS x.p).length = m := ⟨_, rfl⟩
  obtain ⟨pt, hto⟩ : ∃ p, moveS x x.p = p := ⟨_, rfl⟩
  have A1 := Lib.hid (fun w => spl_n x.p m hm (by omega) w)
  have A2 := Lib.hid (fun w => smove_any x.p A n c x w hxp hxp hnm pt hto)
  have hmm : m ≤ 2001 := by rw [← hm]; have := L4.splS_le x.p; omega
  have hm1 : 1 ≤ m := by rw [← hm]; exact L4.splS_pos x.p
  have HM := Lib.hid hm; have HTO := Lib.hid hto
  have HK := Lib.hid hk; have HS := Lib.hid hs; have HR := Lib.hid hr; have HUU := Lib.hid hU; have HPW := Lib.hid h; have HP := Lib.hid (h.kept hk); have HTZ := Lib.hid hT
  have N1 := Lib.hid (show w.heap.size ≠ w.heap.size + 1 by omega)
  clear hk hs hr hU hm hto hxp hnm h hT
  have c1 := HS.out.c1
  go_enter Tryz.func18, Tryz.ntmps18
  go_wp2_with (rw [HUU.out])
  go_at_call 51
  refine (A1.out _).mono ?_
  rintro e u1 ⟨b1, c3, rfl, hs1, hk⟩
  have HSL := Lib.hid hs1
  have hc1 := hs1.2.1; have hc2 := hs1.2.2.1
  replace HK := Lib.hid (HK.out.trans hk); replace HS := Lib.hid (HS.out.kept hk); replace HR := Lib.hid (HR.out.kept hk); replace HP := Lib.hid (HP.out.kept hk)
  clear hs1 hk c1
  have c1 := HS.out.c1
  go_wp2_with (refine wpList_load_mid rfl 33 _ rfl w.heap.size 0 rfl _ _ HS.out.r Tryz.underlying33 rfl (step_size A n c x) ?_)
  go_at_call 12
  refine (A2.out _).mono ?_
  rintro e u2 ⟨rfl, hk⟩
  replace HK := Lib.hid (HK.out.trans hk); replace HS := Lib.hid (HS.out.kept hk); replace HR := Lib.hid (HR.out.kept hk); replace HP := Lib.hid (HP.out.kept hk)
  replace HSL := Lib.hid (sl_kept HSL.out hk)
  clear hk c1
  have c0 := HS.out.c0
  have HTS := Lib.hid (St.turn10 q)
  have AT := Lib.hid (fun w h => htturnB_any A n c x.T w h HTZ.out)
  have n11 : (x.k == 1) = false := by simp; omega
  have n12 : decide (x.k = 1) = false := decide_eq_false (by omega)
  have n21 : (x.k == 2) = false := by simp; omega
  have n22 : decide (x.k = 2) = false := decide_eq_false (by omega)
  have n31 : (x.k == 3) = false := by simp; omega
  have n32 : decide (x.k = 3) = false := decide_eq_false (by omega)
  have e101 : (x.k == 10) = true := by rw [q]; rfl
  have e102 : decide (x.k = 10) = true := decide_eq_true q
  clear q
  go_wp2_with fail
  clear c0
  refine region_planE w.heap.size u2 13 (.read [0, 2, 4] (.three 1 (.two 3 (.one 5 (.read [7] (.one 6 (.one 8 (.read [9] (.one 10 (.read [11] (.one 12 .stop)))))))) 5 (.two 3 (.read [7] (.one 6 (.one 8 (.read [9] (.one 10 (.read [11] (.one 12 .stop))))))) 6 (.one 3 (.read [7] (.one 8 (.read [9] (.one 10 (.read [11] (.one 12 .stop))))))))) 3 (.two 1 (.one 5 (.read [7] (.one 6 (.one 8 (.read [9] (.one 10 (.read [11] (.one 12 .stop)))))))) 5 (.two 1 (.read [7] (.one 6 (.one 8 (.read [9] (.one 10 (.read [11] (.one 12 .stop))))))) 6 (.one 1 (.read [7] (.one 8 (.read [9] (.one 10 (.read [11] (.one 12 .stop))))))))) 5 (.three 1 (.two 3 (.read [7] (.one 6 (.one 8 (.read [9] (.one 10 (.read [11] (.one 12 .stop))))))) 6 (.one 3 (.read [7] (.one 8 (.read [9] (.one 10 (.read [11] (.one 12 .stop)))))))) 3 (.two 1 (.read [7] (.one 6 (.one 8 (.read [9] (.one 10 (.read [11] (.one 12 .stop))))))) 6 (.one 1 (.read [7] (.one 8 (.read [9] (.one 10 (.read [11] (.one 12 .stop)))))))) 6 (.two 1 (.one 3 (.read [7] (.one 8 (.read [9] (.one 10 (.read [11] (.one 12 .stop))))))) 3 (.one 1 (.read [7] (.one 8 (.read [9] (.one 10 (.read [11] (.one 12 .stop))))))))))) (by kernel_rfl) (by kernel_rfl) (by kernel_rfl) (by kernel_rfl) (by kernel_rfl) (fun _ d _ _ _ h => by cases d <;> exact h) (Kept.refl _) ?_
  intro wd hwd
  have HE := Lib.hid (KeptE.of (G := w.heap.size) hwd)
  replace HS := Lib.hid (HS.out.kept hwd); replace HR := Lib.hid (HR.out.kept hwd); replace HK := Lib.hid (HK.out.trans hwd); replace HP := Lib.hid (HP.out.kept hwd)
  clear hwd
  rw [wpPlan_read]
  simp only [pA, pB, pC, pD, pE]
  repeat (go_big_quiet_step (fail))
  refine wpQuiet_nil ?_
  rw [wpPlan_three]
  simp only [pA, pB, pC, pD, pE]
  refine ⟨?_, ?_, ?_⟩
  · have c13 := HS.out.c13
    go_wp2_with fail
    clear c13
    refine soloE HE.out ?_
    rw [wpPlan_two]
    simp only [pA, pB, pC, pD, pE]
    refine ⟨?_, ?_⟩
    · have c12 := HS.out.c12
      go_wp2_with fail
      clear c12
      refine soloE HE.out ?_
      rw [wpPlan_one]
      simp only [pA, pB, pC, pD, pE]
      have c14 := HS.out.c14; have c15 := HS.out.c15; have c16 := HS.out.c16; have c17 := HS.out.c17; have c18 := HS.out.c18; have c19 := HS.out.c19; have c20 := HS.out.c20; have c21 := HS.out.c21; have c22 := HS.out.c22
      go_wp2_with fail
      clear c14 c15 c16 c17 c18 c19 c20 c21 c22
      refine soloE HE.out ?_
      rw [wpPlan_read]
      simp only [pA, pB, pC, pD, pE]
      repeat (go_big_quiet_step (fail))
      refine wpQuiet_nil ?_
      rw [wpPlan_one]
      simp only [pA, pB, pC, pD, pE]
      go_wp2_with (go_at_call 60; refine (AT.out _ HP.out).mono ?_; rintro e u6 ⟨A1, c1, rfl, hp1, hkz, hb1⟩)
      have HB1 := Lib.hid (show ∀ ad, A1 = some ad → w.heap.size + 2 ≤ ad.block from fun ad e => by have := hb1 ad e; have := HR.out.lt; omega)
      have HP1 := Lib.hid hp1
      replace HE := Lib.hid (HE.out.trans hkz); replace HS := Lib.hid (HS.out.kept hkz); replace HR := Lib.hid (HR.out.kept hkz); replace HK := Lib.hid (HK.out.trans hkz); replace HP := Lib.hid (HP.out.kept hkz)
      clear hp1 hkz hb1
      obtain ⟨wd, hwd⟩ : ∃ u, u6 = u := ⟨_, rfl⟩
      rw [hwd] at HE HS HR HK HP HP1 ⊢
      clear hwd
      refine soloE HE.out ?_
      rw [wpPlan_one]
      simp only [pA, pB, pC, pD, pE]
      have c12 := HS.out.c12; have cf := HS.out.f
      go_wp2_with fail
      clear cf c12
      have hs9 := HS.out.setF x.b
      replace HR := Lib.hid (HR.out.far (g := w.heap.size) (i := 12) N1.out (.int .i64 x.b))
      replace HK := Lib.hid (HK.out.setCell (a := ⟨w.heap.size, 12, none⟩) (Nat.le_refl _) (.int .i64 x.b))
      replace HE := Lib.hid (HE.out.set (a := ⟨w.heap.size, 12, none⟩) (.inl rfl) (.int .i64 x.b))
      replace HP1 := Lib.hid (HP1.out.setLow HB1.out w.heap.size 12 (by omega) (.int .i64 x.b))
      obtain ⟨v0, hv0⟩ : ∃ u, (World.setCell wd ⟨w.heap.size, 12, none⟩ (.int .i64 x.b)) = u := ⟨_, rfl⟩
      rw [hv0] at hs9 HR HK HE HP1 ⊢
      have HV0 := Lib.hid hv0
      replace HS := Lib.hid hs9
      clear hv0 hs9
      refine soloE HE.out ?_
      rw [wpPlan_read]
      simp only [pA, pB, pC, pD, pE]
      repeat (go_big_quiet_step (fail))
      refine wpQuiet_nil ?_
      rw [wpPlan_one]
      simp only [pA, pB, pC, pD, pE]
      have c13 := HS.out.c13; have cf := HS.out.f
      go_wp2_with fail
      clear cf c13
      have hs9 := HS.out.setG x.a
      replace HR := Lib.hid (HR.out.far (g := w.heap.size) (i := 13) N1.out (.int .i64 x.a))
      replace HK := Lib.hid (HK.out.setCell (a := ⟨w.heap.size, 13, none⟩) (Nat.le_refl _) (.int .i64 x.a))
      replace HE := Lib.hid (HE.out.set (a := ⟨w.heap.size, 13, none⟩) (.inl rfl) (.int .i64 x.a))
      replace HP1 := Lib.hid (HP1.out.setLow HB1.out w.heap.size 13 (by omega) (.int .i64 x.a))
      obtain ⟨v1, hv1⟩ : ∃ u, (World.setCell v0 ⟨w.heap.size, 13, none⟩ (.int .i64 x.a)) = u := ⟨_, rfl⟩
      rw [hv1] at hs9 HR HK HE HP1 ⊢
      have HV1 := Lib.hid hv1
      replace HS := Lib.hid hs9
      clear hv1 hs9
      refine soloE HE.out ?_
      rw [wpPlan_read]
      simp only [pA, pB, pC, pD, pE]
      repeat (go_big_quiet_step (fail))
      refine wpQuiet_nil ?_
      rw [wpPlan_one]
      simp only [pA, pB, pC, pD, pE]
      have c14 := HS.out.c14; have c15 := HS.out.c15; have c16 := HS.out.c16; have c17 := HS.out.c17; have c18 := HS.out.c18; have c19 := HS.out.c19; have c20 := HS.out.c20; have c21 := HS.out.c21; have c22 := HS.out.c22; have cf := HS.out.f
      go_wp2_with fail
      clear cf c14 c15 c16 c17 c18 c19 c20 c21 c22
      have hs9 := HS.out.setTT A1 n c1 ⟨x.T.L, x.T.keep, x.T.d, x.T.b, !x.T.tu⟩
      replace HR := Lib.hid (HR.out.farT N1.out A1 n c1 ⟨x.T.L, x.T.keep, x.T.d, x.T.b, !x.T.tu⟩)
      replace HK := Lib.hid (HK.out.setTT (Nat.le_refl _) A1 n c1 ⟨x.T.L, x.T.keep, x.T.d, x.T.b, !x.T.tu⟩)
      replace HE := Lib.hid (HE.out.setTT A1 n c1 ⟨x.T.L, x.T.keep, x.T.d, x.T.b, !x.T.tu⟩)
      replace HP1 := Lib.hid (HP1.out.setTT (g := w.heap.size) HB1.out (by omega) A1 n c1 ⟨x.T.L, x.T.keep, x.T.d, x.T.b, !x.T.tu⟩)
      obtain ⟨u9, hu9⟩ : ∃ u, stT v1 w.heap.size A1 n c1 ⟨x.T.L, x.T.keep, x.T.d, x.T.b, !x.T.tu⟩ = u := ⟨_, rfl⟩
      simp only at hs9
      rw [hu9] at hs9 HR HK HE HP1
      simp only [stT] at hu9
      rw [hu9]
      have HU9 := Lib.hid hu9
      replace HS := Lib.hid hs9
      clear hu9 hs9
      refine soloE HE.out ?_
      refine wpPlan_stop ?_
      obtain ⟨y, hy⟩ : ∃ y : St, ({ x with a := x.b, b := x.a, T := ⟨x.T.L, x.T.keep, x.T.d, x.T.b, !x.T.tu⟩ } : St) = y := ⟨_, rfl⟩
      have HY := Lib.hid (show turnSt x = y by rw [← hy]; exact HTS.out)
      rw [hy] at HS
      have HYL := Lib.hid (show y.T.L = x.T.L by rw [← hy])
      clear hy
      have hrx := HR.out.over A1 n c1 y
      have hkx := Kept.setCells (b := w.heap.size + 1) (by omega) (cellS A1 n c1 y).toArray.toList 0 _ HK.out
      have HTH := Lib.hid (HR.out.there A1 n c1 y)
      have HPX := Lib.hid (Pal.setLows HB1.out (b := w.heap.size + 1) (by omega) (cellS A1 n c1 y).toArray.toList 0 u9 HP1.out)
      obtain ⟨w9, hw9⟩ : ∃ u, World.setCells u9 (w.heap.size + 1) 0 (cellS A1 n c1 y).toArray.toList = u := ⟨_, rfl⟩
      rw [hw9] at hrx hkx HPX
      have HRX := Lib.hid hrx; have HKX := Lib.hid hkx; have HW9 := Lib.hid hw9
      clear hrx hkx hw9 HR HK HUU
      go_wp2_with (first | rw [HU9.out] | (refine wpList_load_mid rfl 33 _ rfl w.heap.size 0 rfl _ _ HS.out.r Tryz.underlying33 rfl (step_size A1 n c1 _) ?_) | (refine wpList_store_mid rfl 33 _ _ rfl (w.heap.size + 1) 0 _ rfl rfl HTH.out (step_sizeA A1 n c1 _) (cellS_one A1 n c1 _) ?_; rw [HW9.out]))
      try simp only [Exit.inBlock, Exit.then]
      exact bodyPost_ret (results_step rfl _ rfl HRX.out) rfl ⟨A1, n, c1, by rw [HY.out], by rw [HY.out, HYL.out]; exact HPX.out, HKX.out⟩
    · have c14 := HS.out.c14; have c15 := HS.out.c15; have c16 := HS.out.c16; have c17 := HS.out.c17; have c18 := HS.out.c18; have c19 := HS.out.c19; have c20 := HS.out.c20; have c21 := HS.out.c21; have c22 := HS.out.c22
      go_wp2_with fail
      clear c14 c15 c16 c17 c18 c19 c20 c21 c22
      refine soloE HE.out ?_
      rw [wpPlan_two]
      simp only [pA, pB, pC, pD, pE]
      refine ⟨?_, ?_⟩
      · have c12 := HS.out.c12
        go_wp2_with fail
        clear c12
        refine soloE HE.out ?_
        rw [wpPlan_read]
        simp only [pA, pB, pC, pD, pE]
        repeat (go_big_quiet_step (fail))
        refine wpQuiet_nil ?_
        rw [wpPlan_one]
        simp only [pA, pB, pC, pD, pE]
        go_wp2_with (go_at_call 60; refine (AT.out _ HP.out).mono ?_; rintro e u6 ⟨A1, c1, rfl, hp1, hkz, hb1⟩)
        have HB1 := Lib.hid (show ∀ ad, A1 = some ad → w.heap.size + 2 ≤ ad.block from fun ad e => by have := hb1 ad e; have := HR.out.lt; omega)
        have HP1 := Lib.hid hp1
        replace HE := Lib.hid (HE.out.trans hkz); replace HS := Lib.hid (HS.out.kept hkz); replace HR := Lib.hid (HR.out.kept hkz); replace HK := Lib.hid (HK.out.trans hkz); replace HP := Lib.hid (HP.out.kept hkz)
        clear hp1 hkz hb1
        obtain ⟨wd, hwd⟩ : ∃ u, u6 = u := ⟨_, rfl⟩
        rw [hwd] at HE HS HR HK HP HP1 ⊢
        clear hwd
        refine soloE HE.out ?_
        rw [wpPlan_one]
        simp only [pA, pB, pC, pD, pE]
        have c12 := HS.out.c12; have cf := HS.out.f
        go_wp2_with fail
        clear cf c12
        have hs9 := HS.out.setF x.b
        replace HR := Lib.hid (HR.out.far (g := w.heap.size) (i := 12) N1.out (.int .i64 x.b))
        replace HK := Lib.hid (HK.out.setCell (a := ⟨w.heap.size, 12, none⟩) (Nat.le_refl _) (.int .i64 x.b))
        replace HE := Lib.hid (HE.out.set (a := ⟨w.heap.size, 12, none⟩) (.inl rfl) (.int .i64 x.b))
        replace HP1 := Lib.hid (HP1.out.setLow HB1.out w.heap.size 12 (by omega) (.int .i64 x.b))
        obtain ⟨v0, hv0⟩ : ∃ u, (World.setCell wd ⟨w.heap.size, 12, none⟩ (.int .i64 x.b)) = u := ⟨_, rfl⟩
        rw [hv0] at hs9 HR HK HE HP1 ⊢
        have HV0 := Lib.hid hv0
        replace HS := Lib.hid hs9
        clear hv0 hs9
        refine soloE HE.out ?_
        rw [wpPlan_read]
        simp only [pA, pB, pC, pD, pE]
        repeat (go_big_quiet_step (fail))
        refine wpQuiet_nil ?_
        rw [wpPlan_one]
        simp only [pA, pB, pC, pD, pE]
        have c13 := HS.out.c13; have cf := HS.out.f
        go_wp2_with fail
        clear cf c13
        have hs9 := HS.out.setG x.a
        replace HR := Lib.hid (HR.out.far (g := w.heap.size) (i := 13) N1.out (.int .i64 x.a))
        replace HK := Lib.hid (HK.out.setCell (a := ⟨w.heap.size, 13, none⟩) (Nat.le_refl _) (.int .i64 x.a))
        replace HE := Lib.hid (HE.out.set (a := ⟨w.heap.size, 13, none⟩) (.inl rfl) (.int .i64 x.a))
        replace HP1 := Lib.hid (HP1.out.setLow HB1.out w.heap.size 13 (by omega) (.int .i64 x.a))
        obtain ⟨v1, hv1⟩ : ∃ u, (World.setCell v0 ⟨w.heap.size, 13, none⟩ (.int .i64 x.a)) = u := ⟨_, rfl⟩
        rw [hv1] at hs9 HR HK HE HP1 ⊢
        have HV1 := Lib.hid hv1
        replace HS := Lib.hid hs9
        clear hv1 hs9
        refine soloE HE.out ?_
        rw [wpPlan_read]
        simp only [pA, pB, pC, pD, pE]
        repeat (go_big_quiet_step (fail))
        refine wpQuiet_nil ?_
        rw [wpPlan_one]
        simp only [pA, pB, pC, pD, pE]
        have c14 := HS.out.c14; have c15 := HS.out.c15; have c16 := HS.out.c16; have c17 := HS.out.c17; have c18 := HS.out.c18; have c19 := HS.out.c19; have c20 := HS.out.c20; have c21 := HS.out.c21; have c22 := HS.out.c22; have cf := HS.out.f
        go_wp2_with fail
        clear cf c14 c15 c16 c17 c18 c19 c20 c21 c22
        have hs9 := HS.out.setTT A1 n c1 ⟨x.T.L, x.T.keep, x.T.d, x.T.b, !x.T.tu⟩
        replace HR := Lib.hid (HR.out.farT N1.out A1 n c1 ⟨x.T.L, x.T.keep, x.T.d, x.T.b, !x.T.tu⟩)
        replace HK := Lib.hid (HK.out.setTT (Nat.le_refl _) A1 n c1 ⟨x.T.L, x.T.keep, x.T.d, x.T.b, !x.T.tu⟩)
        replace HE := Lib.hid (HE.out.setTT A1 n c1 ⟨x.T.L, x.T.keep, x.T.d, x.T.b, !x.T.tu⟩)
        replace HP1 := Lib.hid (HP1.out.setTT (g := w.heap.size) HB1.out (by omega) A1 n c1 ⟨x.T.L, x.T.keep, x.T.d, x.T.b, !x.T.tu⟩)
        obtain ⟨u9, hu9⟩ : ∃ u, stT v1 w.heap.size A1 n c1 ⟨x.T.L, x.T.keep, x.T.d, x.T.b, !x.T.tu⟩ = u := ⟨_, rfl⟩
        simp only at hs9
        rw [hu9] at hs9 HR HK HE HP1
        simp only [stT] at hu9
        rw [hu9]
        have HU9 := Lib.hid hu9
        replace HS := Lib.hid hs9
        clear hu9 hs9
        refine soloE HE.out ?_
        refine wpPlan_stop ?_
        obtain ⟨y, hy⟩ : ∃ y : St, ({ x with a := x.b, b := x.a, T := ⟨x.T.L, x.T.keep, x.T.d, x.T.b, !x.T.tu⟩ } : St) = y := ⟨_, rfl⟩
        have HY := Lib.hid (show turnSt x = y by rw [← hy]; exact HTS.out)
        rw [hy] at HS
        have HYL := Lib.hid (show y.T.L = x.T.L by rw [← hy])
        clear hy
        have hrx := HR.out.over A1 n c1 y
        have hkx := Kept.setCells (b := w.heap.size + 1) (by omega) (cellS A1 n c1 y).toArray.toList 0 _ HK.out
        have HTH := Lib.hid (HR.out.there A1 n c1 y)
        have HPX := Lib.hid (Pal.setLows HB1.out (b := w.heap.size + 1) (by omega) (cellS A1 n c1 y).toArray.toList 0 u9 HP1.out)
        obtain ⟨w9, hw9⟩ : ∃ u, World.setCells u9 (w.heap.size + 1) 0 (cellS A1 n c1 y).toArray.toList = u := ⟨_, rfl⟩
        rw [hw9] at hrx hkx HPX
        have HRX := Lib.hid hrx; have HKX := Lib.hid hkx; have HW9 := Lib.hid hw9
        clear hrx hkx hw9 HR HK HUU
        go_wp2_with (first | rw [HU9.out] | (refine wpList_load_mid rfl 33 _ rfl w.heap.size 0 rfl _ _ HS.out.r Tryz.underlying33 rfl (step_size A1 n c1 _) ?_) | (refine wpList_store_mid rfl 33 _ _ rfl (w.heap.size + 1) 0 _ rfl rfl HTH.out (step_sizeA A1 n c1 _) (cellS_one A1 n c1 _) ?_; rw [HW9.out]))
        try simp only [Exit.inBlock, Exit.then]
        exact bodyPost_ret (results_step rfl _ rfl HRX.out) rfl ⟨A1, n, c1, by rw [HY.out], by rw [HY.out, HYL.out]; exact HPX.out, HKX.out⟩
      · go_wp2_with (go_at_call 60; refine (AT.out _ HP.out).mono ?_; rintro e u6 ⟨A1, c1, rfl, hp1, hkz, hb1⟩)
        have HB1 := Lib.hid (show ∀ ad, A1 = some ad → w.heap.size + 2 ≤ ad.block from fun ad e => by have := hb1 ad e; have := HR.out.lt; omega)
        have HP1 := Lib.hid hp1
        replace HE := Lib.hid (HE.out.trans hkz); replace HS := Lib.hid (HS.out.kept hkz); replace HR := Lib.hid (HR.out.kept hkz); replace HK := Lib.hid (HK.out.trans hkz); replace HP := Lib.hid (HP.out.kept hkz)
        clear hp1 hkz hb1
        obtain ⟨wd, hwd⟩ : ∃ u, u6 = u := ⟨_, rfl⟩
        rw [hwd] at HE HS HR HK HP HP1 ⊢
        clear hwd
        refine soloE HE.out ?_
        rw [wpPlan_one]
        simp only [pA, pB, pC, pD, pE]
        have c12 := HS.out.c12
        go_wp2_with fail
        clear c12
        refine soloE HE.out ?_
        rw [wpPlan_read]
        simp only [pA, pB, pC, pD, pE]
        repeat (go_big_quiet_step (fail))
        refine wpQuiet_nil ?_
        rw [wpPlan_one]
        simp only [pA, pB, pC, pD, pE]
        have c12 := HS.out.c12; have cf := HS.out.f
        go_wp2_with fail
        clear cf c12
        have hs9 := HS.out.setF x.b
        replace HR := Lib.hid (HR.out.far (g := w.heap.size) (i := 12) N1.out (.int .i64 x.b))
        replace HK := Lib.hid (HK.out.setCell (a := ⟨w.heap.size, 12, none⟩) (Nat.le_refl _) (.int .i64 x.b))
        replace HE := Lib.hid (HE.out.set (a := ⟨w.heap.size, 12, none⟩) (.inl rfl) (.int .i64 x.b))
        replace HP1 := Lib.hid (HP1.out.setLow HB1.out w.heap.size 12 (by omega) (.int .i64 x.b))
        obtain ⟨v0, hv0⟩ : ∃ u, (World.setCell wd ⟨w.heap.size, 12, none⟩ (.int .i64 x.b)) = u := ⟨_, rfl⟩
        rw [hv0] at hs9 HR HK HE HP1 ⊢
        have HV0 := Lib.hid hv0
        replace HS := Lib.hid hs9
        clear hv0 hs9
        refine soloE HE.out ?_
        rw [wpPlan_read]
        simp only [pA, pB, pC, pD, pE]
        repeat (go_big_quiet_step (fail))
        refine wpQuiet_nil ?_
        rw [wpPlan_one]
        simp only [pA, pB, pC, pD, pE]
        have c13 := HS.out.c13; have cf := HS.out.f
        go_wp2_with fail
        clear cf c13
        have hs9 := HS.out.setG x.a
        replace HR := Lib.hid (HR.out.far (g := w.heap.size) (i := 13) N1.out (.int .i64 x.a))
        replace HK := Lib.hid (HK.out.setCell (a := ⟨w.heap.size, 13, none⟩) (Nat.le_refl _) (.int .i64 x.a))
        replace HE := Lib.hid (HE.out.set (a := ⟨w.heap.size, 13, none⟩) (.inl rfl) (.int .i64 x.a))
        replace HP1 := Lib.hid (HP1.out.setLow HB1.out w.heap.size 13 (by omega) (.int .i64 x.a))
        obtain ⟨v1, hv1⟩ : ∃ u, (World.setCell v0 ⟨w.heap.size, 13, none⟩ (.int .i64 x.a)) = u := ⟨_, rfl⟩
        rw [hv1] at hs9 HR HK HE HP1 ⊢
        have HV1 := Lib.hid hv1
        replace HS := Lib.hid hs9
        clear hv1 hs9
        refine soloE HE.out ?_
        rw [wpPlan_read]
        simp only [pA, pB, pC, pD, pE]
        repeat (go_big_quiet_step (fail))
        refine wpQuiet_nil ?_
        rw [wpPlan_one]
        simp only [pA, pB, pC, pD, pE]
        have c14 := HS.out.c14; have c15 := HS.out.c15; have c16 := HS.out.c16; have c17 := HS.out.c17; have c18 := HS.out.c18; have c19 := HS.out.c19; have c20 := HS.out.c20; have c21 := HS.out.c21; have c22 := HS.out.c22; have cf := HS.out.f
        go_wp2_with fail
        clear cf c14 c15 c16 c17 c18 c19 c20 c21 c22
        have hs9 := HS.out.setTT A1 n c1 ⟨x.T.L, x.T.keep, x.T.d, x.T.b, !x.T.tu⟩
        replace HR := Lib.hid (HR.out.farT N1.out A1 n c1 ⟨x.T.L, x.T.keep, x.T.d, x.T.b, !x.T.tu⟩)
        replace HK := Lib.hid (HK.out.setTT (Nat.le_refl _) A1 n c1 ⟨x.T.L, x.T.keep, x.T.d, x.T.b, !x.T.tu⟩)
        replace HE := Lib.hid (HE.out.setTT A1 n c1 ⟨x.T.L, x.T.keep, x.T.d, x.T.b, !x.T.tu⟩)
        replace HP1 := Lib.hid (HP1.out.setTT (g := w.heap.size) HB1.out (by omega) A1 n c1 ⟨x.T.L, x.T.keep, x.T.d, x.T.b, !x.T.tu⟩)
        obtain ⟨u9, hu9⟩ : ∃ u, stT v1 w.heap.size A1 n c1 ⟨x.T.L, x.T.keep, x.T.d, x.T.b, !x.T.tu⟩ = u := ⟨_, rfl⟩
        simp only at hs9
        rw [hu9] at hs9 HR HK HE HP1
        simp only [stT] at hu9
        rw [hu9]
        have HU9 := Lib.hid hu9
        replace HS := Lib.hid hs9
        clear hu9 hs9
        refine soloE HE.out ?_
        refine wpPlan_stop ?_
        obtain ⟨y, hy⟩ : ∃ y : St, ({ x with a := x.b, b := x.a, T := ⟨x.T.L, x.T.keep, x.T.d, x.T.b, !x.T.tu⟩ } : St) = y := ⟨_, rfl⟩
        have HY := Lib.hid (show turnSt x = y by rw [← hy]; exact HTS.out)
        rw [hy] at HS
        have HYL := Lib.hid (show y.T.L = x.T.L by rw [← hy])
        clear hy
        have hrx := HR.out.over A1 n c1 y
        have hkx := Kept.setCells (b := w.heap.size + 1) (by omega) (cellS A1 n c1 y).toArray.toList 0 _ HK.out
        have HTH := Lib.hid (HR.out.there A1 n c1 y)
        have HPX := Lib.hid (Pal.setLows HB1.out (b := w.heap.size + 1) (by omega) (cellS A1 n c1 y).toArray.toList 0 u9 HP1.out)
        obtain ⟨w9, hw9⟩ : ∃ u, World.setCells u9 (w.heap.size + 1) 0 (cellS A1 n c1 y).toArray.toList = u := ⟨_, rfl⟩
        rw [hw9] at hrx hkx HPX
        have HRX := Lib.hid hrx; have HKX := Lib.hid hkx; have HW9 := Lib.hid hw9
        clear hrx hkx hw9 HR HK HUU
        go_wp2_with (first | rw [HU9.out] | (refine wpList_load_mid rfl 33 _ rfl w.heap.size 0 rfl _ _ HS.out.r Tryz.underlying33 rfl (step_size A1 n c1 _) ?_) | (refine wpList_store_mid rfl 33 _ _ rfl (w.heap.size + 1) 0 _ rfl rfl HTH.out (step_sizeA A1 n c1 _) (cellS_one A1 n c1 _) ?_; rw [HW9.out]))
        try simp only [Exit.inBlock, Exit.then]
        exact bodyPost_ret (results_step rfl _ rfl HRX.out) rfl ⟨A1, n, c1, by rw [HY.out], by rw [HY.out, HYL.out]; exact HPX.out, HKX.out⟩
  · have c12 := HS.out.c12
    go_wp2_with fail
    clear c12
    refine soloE HE.out ?_
    rw [wpPlan_two]
    simp only [pA, pB, pC, pD, pE]
    refine ⟨?_, ?_⟩
    · have c13 := HS.out.c13
      go_wp2_with fail
      clear c13
      refine soloE HE.out ?_
      rw [wpPlan_one]
      simp only [pA, pB, pC, pD, pE]
      have c14 := HS.out.c14; have c15 := HS.out.c15; have c16 := HS.out.c16; have c17 := HS.out.c17; have c18 := HS.out.c18; have c19 := HS.out.c19; have c20 := HS.out.c20; have c21 := HS.out.c21; have c22 := HS.out.c22
      go_wp2_with fail
      clear c14 c15 c16 c17 c18 c19 c20 c21 c22
      refine soloE HE.out ?_
      rw [wpPlan_read]
      simp only [pA, pB, pC, pD, pE]
      repeat (go_big_quiet_step (fail))
      refine wpQuiet_nil ?_
      rw [wpPlan_one]
      simp only [pA, pB, pC, pD, pE]
      go_wp2_with (go_at_call 60; refine (AT.out _ HP.out).mono ?_; rintro e u6 ⟨A1, c1, rfl, hp1, hkz, hb1⟩)
      have HB1 := Lib.hid (show ∀ ad, A1 = some ad → w.heap.size + 2 ≤ ad.block from fun ad e => by have := hb1 ad e; have := HR.out.lt; omega)
      have HP1 := Lib.hid hp1
      replace HE := Lib.hid (HE.out.trans hkz); replace HS := Lib.hid (HS.out.kept hkz); replace HR := Lib.hid (HR.out.kept hkz); replace HK := Lib.hid (HK.out.trans hkz); replace HP := Lib.hid (HP.out.kept hkz)
      clear hp1 hkz hb1
      obtain ⟨wd, hwd⟩ : ∃ u, u6 = u := ⟨_, rfl⟩
      rw [hwd] at HE HS HR HK HP HP1 ⊢
      clear hwd
      refine soloE HE.out ?_
      rw [wpPlan_one]
      simp only [pA, pB, pC, pD, pE]
      have c12 := HS.out.c12; have cf := HS.out.f
      go_wp2_with fail
      clear cf c12
      have hs9 := HS.out.setF x.b
      replace HR := Lib.hid (HR.out.far (g := w.heap.size) (i := 12) N1.out (.int .i64 x.b))
      replace HK := Lib.hid (HK.out.setCell (a := ⟨w.heap.size, 12, none⟩) (Nat.le_refl _) (.int .i64 x.b))
      replace HE := Lib.hid (HE.out.set (a := ⟨w.heap.size, 12, none⟩) (.inl rfl) (.int .i64 x.b))
      replace HP1 := Lib.hid (HP1.out.setLow HB1.out w.heap.size 12 (by omega) (.int .i64 x.b))
      obtain ⟨v0, hv0⟩ : ∃ u, (World.setCell wd ⟨w.heap.size, 12, none⟩ (.int .i64 x.b)) = u := ⟨_, rfl⟩
      rw [hv0] at hs9 HR HK HE HP1 ⊢
      have HV0 := Lib.hid hv0
      replace HS := Lib.hid hs9
      clear hv0 hs9
      refine soloE HE.out ?_
      rw [wpPlan_read]
      simp only [pA, pB, pC, pD, pE]
      repeat (go_big_quiet_step (fail))
      refine wpQuiet_nil ?_
      rw [wpPlan_one]
      simp only [pA, pB, pC, pD, pE]
      have c13 := HS.out.c13; have cf := HS.out.f
      go_wp2_with fail
      clear cf c13
      have hs9 := HS.out.setG x.a
      replace HR := Lib.hid (HR.out.far (g := w.heap.size) (i := 13) N1.out (.int .i64 x.a))
      replace HK := Lib.hid (HK.out.setCell (a := ⟨w.heap.size, 13, none⟩) (Nat.le_refl _) (.int .i64 x.a))
      replace HE := Lib.hid (HE.out.set (a := ⟨w.heap.size, 13, none⟩) (.inl rfl) (.int .i64 x.a))
      replace HP1 := Lib.hid (HP1.out.setLow HB1.out w.heap.size 13 (by omega) (.int .i64 x.a))
      obtain ⟨v1, hv1⟩ : ∃ u, (World.setCell v0 ⟨w.heap.size, 13, none⟩ (.int .i64 x.a)) = u := ⟨_, rfl⟩
      rw [hv1] at hs9 HR HK HE HP1 ⊢
      have HV1 := Lib.hid hv1
      replace HS := Lib.hid hs9
      clear hv1 hs9
      refine soloE HE.out ?_
      rw [wpPlan_read]
      simp only [pA, pB, pC, pD, pE]
      repeat (go_big_quiet_step (fail))
      refine wpQuiet_nil ?_
      rw [wpPlan_one]
      simp only [pA, pB, pC, pD, pE]
      have c14 := HS.out.c14; have c15 := HS.out.c15; have c16 := HS.out.c16; have c17 := HS.out.c17; have c18 := HS.out.c18; have c19 := HS.out.c19; have c20 := HS.out.c20; have c21 := HS.out.c21; have c22 := HS.out.c22; have cf := HS.out.f
      go_wp2_with fail
      clear cf c14 c15 c16 c17 c18 c19 c20 c21 c22
      have hs9 := HS.out.setTT A1 n c1 ⟨x.T.L, x.T.keep, x.T.d, x.T.b, !x.T.tu⟩
      replace HR := Lib.hid (HR.out.farT N1.out A1 n c1 ⟨x.T.L, x.T.keep, x.T.d, x.T.b, !x.T.tu⟩)
      replace HK := Lib.hid (HK.out.setTT (Nat.le_refl _) A1 n c1 ⟨x.T.L, x.T.keep, x.T.d, x.T.b, !x.T.tu⟩)
      replace HE := Lib.hid (HE.out.setTT A1 n c1 ⟨x.T.L, x.T.keep, x.T.d, x.T.b, !x.T.tu⟩)
      replace HP1 := Lib.hid (HP1.out.setTT (g := w.heap.size) HB1.out (by omega) A1 n c1 ⟨x.T.L, x.T.keep, x.T.d, x.T.b, !x.T.tu⟩)
      obtain ⟨u9, hu9⟩ : ∃ u, stT v1 w.heap.size A1 n c1 ⟨x.T.L, x.T.keep, x.T.d, x.T.b, !x.T.tu⟩ = u := ⟨_, rfl⟩
      simp only at hs9
      rw [hu9] at hs9 HR HK HE HP1
      simp only [stT] at hu9
      rw [hu9]
      have HU9 := Lib.hid hu9
      replace HS := Lib.hid hs9
      clear hu9 hs9
      refine soloE HE.out ?_
      refine wpPlan_stop ?_
      obtain ⟨y, hy⟩ : ∃ y : St, ({ x with a := x.b, b := x.a, T := ⟨x.T.L, x.T.keep, x.T.d, x.T.b, !x.T.tu⟩ } : St) = y := ⟨_, rfl⟩
      have HY := Lib.hid (show turnSt x = y by rw [← hy]; exact HTS.out)
      rw [hy] at HS
      have HYL := Lib.hid (show y.T.L = x.T.L by rw [← hy])
      clear hy
      have hrx := HR.out.over A1 n c1 y
      have hkx := Kept.setCells (b := w.heap.size + 1) (by omega) (cellS A1 n c1 y).toArray.toList 0 _ HK.out
      have HTH := Lib.hid (HR.out.there A1 n c1 y)
      have HPX := Lib.hid (Pal.setLows HB1.out (b := w.heap.size + 1) (by omega) (cellS A1 n c1 y).toArray.toList 0 u9 HP1.out)
      obtain ⟨w9, hw9⟩ : ∃ u, World.setCells u9 (w.heap.size + 1) 0 (cellS A1 n c1 y).toArray.toList = u := ⟨_, rfl⟩
      rw [hw9] at hrx hkx HPX
      have HRX := Lib.hid hrx; have HKX := Lib.hid hkx; have HW9 := Lib.hid hw9
      clear hrx hkx hw9 HR HK HUU
      go_wp2_with (first | rw [HU9.out] | (refine wpList_load_mid rfl 33 _ rfl w.heap.size 0 rfl _ _ HS.out.r Tryz.underlying33 rfl (step_size A1 n c1 _) ?_) | (refine wpList_store_mid rfl 33 _ _ rfl (w.heap.size + 1) 0 _ rfl rfl HTH.out (step_sizeA A1 n c1 _) (cellS_one A1 n c1 _) ?_; rw [HW9.out]))
      try simp only [Exit.inBlock, Exit.then]
      exact bodyPost_ret (results_step rfl _ rfl HRX.out) rfl ⟨A1, n, c1, by rw [HY.out], by rw [HY.out, HYL.out]; exact HPX.out, HKX.out⟩
    · have c14 := HS.out.c14; have c15 := HS.out.c15; have c16 := HS.out.c16; have c17 := HS.out.c17; have c18 := HS.out.c18; have c19 := HS.out.c19; have c20 := HS.out.c20; have c21 := HS.out.c21; have c22 := HS.out.c22
      go_wp2_with fail
      clear c14 c15 c16 c17 c18 c19 c20 c21 c22
      refine soloE HE.out ?_
      rw [wpPlan_two]
      simp only [pA, pB, pC, pD, pE]
      refine ⟨?_, ?_⟩
      · have c13 := HS.out.c13
        go_wp2_with fail
        clear c13
        refine soloE HE.out ?_
        rw [wpPlan_read]
        simp only [pA, pB, pC, pD, pE]
        repeat (go_big_quiet_step (fail))
        refine wpQuiet_nil ?_
        rw [wpPlan_one]
        simp only [pA, pB, pC, pD, pE]
        go_wp2_with (go_at_call 60; refine (AT.out _ HP.out).mono ?_; rintro e u6 ⟨A1, c1, rfl, hp1, hkz, hb1⟩)
        have HB1 := Lib.hid (show ∀ ad, A1 = some ad → w.heap.size + 2 ≤ ad.block from fun ad e => by have := hb1 ad e; have := HR.out.lt; omega)
        have HP1 := Lib.hid hp1
        replace HE := Lib.hid (HE.out.trans hkz); replace HS := Lib.hid (HS.out.kept hkz); replace HR := Lib.hid (HR.out.kept hkz); replace HK := Lib.hid (HK.out.trans hkz); replace HP := Lib.hid (HP.out.kept hkz)
        clear hp1 hkz hb1
        obtain ⟨wd, hwd⟩ : ∃ u, u6 = u := ⟨_, rfl⟩
        rw [hwd] at HE HS HR HK HP HP1 ⊢
        clear hwd
        refine soloE HE.out ?_
        rw [wpPlan_one]
        simp only [pA, pB, pC, pD, pE]
        have c12 := HS.out.c12; have cf := HS.out.f
        go_wp2_with fail
        clear cf c12
        have hs9 := HS.out.setF x.b
        replace HR := Lib.hid (HR.out.far (g := w.heap.size) (i := 12) N1.out (.int .i64 x.b))
        replace HK := Lib.hid (HK.out.setCell (a := ⟨w.heap.size, 12, none⟩) (Nat.le_refl _) (.int .i64 x.b))
        replace HE := Lib.hid (HE.out.set (a := ⟨w.heap.size, 12, none⟩) (.inl rfl) (.int .i64 x.b))
        replace HP1 := Lib.hid (HP1.out.setLow HB1.out w.heap.size 12 (by omega) (.int .i64 x.b))
        obtain ⟨v0, hv0⟩ : ∃ u, (World.setCell wd ⟨w.heap.size, 12, none⟩ (.int .i64 x.b)) = u := ⟨_, rfl⟩
        rw [hv0] at hs9 HR HK HE HP1 ⊢
        have HV0 := Lib.hid hv0
        replace HS := Lib.hid hs9
        clear hv0 hs9
        refine soloE HE.out ?_
        rw [wpPlan_read]
        simp only [pA, pB, pC, pD, pE]
        repeat (go_big_quiet_step (fail))
        refine wpQuiet_nil ?_
        rw [wpPlan_one]
        simp only [pA, pB, pC, pD, pE]
        have c13 := HS.out.c13; have cf := HS.out.f
        go_wp2_with fail
        clear cf c13
        have hs9 := HS.out.setG x.a
        replace HR := Lib.hid (HR.out.far (g := w.heap.size) (i := 13) N1.out (.int .i64 x.a))
        replace HK := Lib.hid (HK.out.setCell (a := ⟨w.heap.size, 13, none⟩) (Nat.le_refl _) (.int .i64 x.a))
        replace HE := Lib.hid (HE.out.set (a := ⟨w.heap.size, 13, none⟩) (.inl rfl) (.int .i64 x.a))
        replace HP1 := Lib.hid (HP1.out.setLow HB1.out w.heap.size 13 (by omega) (.int .i64 x.a))
        obtain ⟨v1, hv1⟩ : ∃ u, (World.setCell v0 ⟨w.heap.size, 13, none⟩ (.int .i64 x.a)) = u := ⟨_, rfl⟩
        rw [hv1] at hs9 HR HK HE HP1 ⊢
        have HV1 := Lib.hid hv1
        replace HS := Lib.hid hs9
        clear hv1 hs9
        refine soloE HE.out ?_
        rw [wpPlan_read]
        simp only [pA, pB, pC, pD, pE]
        repeat (go_big_quiet_step (fail))
        refine wpQuiet_nil ?_
        rw [wpPlan_one]
        simp only [pA, pB, pC, pD, pE]
        have c14 := HS.out.c14; have c15 := HS.out.c15; have c16 := HS.out.c16; have c17 := HS.out.c17; have c18 := HS.out.c18; have c19 := HS.out.c19; have c20 := HS.out.c20; have c21 := HS.out.c21; have c22 := HS.out.c22; have cf := HS.out.f
        go_wp2_with fail
        clear cf c14 c15 c16 c17 c18 c19 c20 c21 c22
        have hs9 := HS.out.setTT A1 n c1 ⟨x.T.L, x.T.keep, x.T.d, x.T.b, !x.T.tu⟩
        replace HR := Lib.hid (HR.out.farT N1.out A1 n c1 ⟨x.T.L, x.T.keep, x.T.d, x.T.b, !x.T.tu⟩)
        replace HK := Lib.hid (HK.out.setTT (Nat.le_refl _) A1 n c1 ⟨x.T.L, x.T.keep, x.T.d, x.T.b, !x.T.tu⟩)
        replace HE := Lib.hid (HE.out.setTT A1 n c1 ⟨x.T.L, x.T.keep, x.T.d, x.T.b, !x.T.tu⟩)
        replace HP1 := Lib.hid (HP1.out.setTT (g := w.heap.size) HB1.out (by omega) A1 n c1 ⟨x.T.L, x.T.keep, x.T.d, x.T.b, !x.T.tu⟩)
        obtain ⟨u9, hu9⟩ : ∃ u, stT v1 w.heap.size A1 n c1 ⟨x.T.L, x.T.keep, x.T.d, x.T.b, !x.T.tu⟩ = u := ⟨_, rfl⟩
        simp only at hs9
        rw [hu9] at hs9 HR HK HE HP1
        simp only [stT] at hu9
        rw [hu9]
        have HU9 := Lib.hid hu9
        replace HS := Lib.hid hs9
        clear hu9 hs9
        refine soloE HE.out ?_
        refine wpPlan_stop ?_
        obtain ⟨y, hy⟩ : ∃ y : St, ({ x with a := x.b, b := x.a, T := ⟨x.T.L, x.T.keep, x.T.d, x.T.b, !x.T.tu⟩ } : St) = y := ⟨_, rfl⟩
        have HY := Lib.hid (show turnSt x = y by rw [← hy]; exact HTS.out)
        rw [hy] at HS
        have HYL := Lib.hid (show y.T.L = x.T.L by rw [← hy])
        clear hy
        have hrx := HR.out.over A1 n c1 y
        have hkx := Kept.setCells (b := w.heap.size + 1) (by omega) (cellS A1 n c1 y).toArray.toList 0 _ HK.out
        have HTH := Lib.hid (HR.out.there A1 n c1 y)
        have HPX := Lib.hid (Pal.setLows HB1.out (b := w.heap.size + 1) (by omega) (cellS A1 n c1 y).toArray.toList 0 u9 HP1.out)
        obtain ⟨w9, hw9⟩ : ∃ u, World.setCells u9 (w.heap.size + 1) 0 (cellS A1 n c1 y).toArray.toList = u := ⟨_, rfl⟩
        rw [hw9] at hrx hkx HPX
        have HRX := Lib.hid hrx; have HKX := Lib.hid hkx; have HW9 := Lib.hid hw9
        clear hrx hkx hw9 HR HK HUU
        go_wp2_with (first | rw [HU9.out] | (refine wpList_load_mid rfl 33 _ rfl w.heap.size 0 rfl _ _ HS.out.r Tryz.underlying33 rfl (step_size A1 n c1 _) ?_) | (refine wpList_store_mid rfl 33 _ _ rfl (w.heap.size + 1) 0 _ rfl rfl HTH.out (step_sizeA A1 n c1 _) (cellS_one A1 n c1 _) ?_; rw [HW9.out]))
        try simp only [Exit.inBlock, Exit.then]
        exact bodyPost_ret (results_step rfl _ rfl HRX.out) rfl ⟨A1, n, c1, by rw [HY.out], by rw [HY.out, HYL.out]; exact HPX.out, HKX.out⟩
      · go_wp2_with (go_at_call 60; refine (AT.out _ HP.out).mono ?_; rintro e u6 ⟨A1, c1, rfl, hp1, hkz, hb1⟩)
        have HB1 := Lib.hid (show ∀ ad, A1 = some ad → w.heap.size + 2 ≤ ad.block from fun ad e => by have := hb1 ad e; have := HR.out.lt; omega)
        have HP1 := Lib.hid hp1
        replace HE := Lib.hid (HE.out.trans hkz); replace HS := Lib.hid (HS.out.kept hkz); replace HR := Lib.hid (HR.out.kept hkz); replace HK := Lib.hid (HK.out.trans hkz); replace HP := Lib.hid (HP.out.kept hkz)
        clear hp1 hkz hb1
        obtain ⟨wd, hwd⟩ : ∃ u, u6 = u := ⟨_, rfl⟩
        rw [hwd] at HE HS HR HK HP HP1 ⊢
        clear hwd
        refine soloE HE.out ?_
        rw [wpPlan_one]
        simp only [pA, pB, pC, pD, pE]
        have c13 := HS.out.c13
        go_wp2_with fail
        clear c13
        refine soloE HE.out ?_
        rw [wpPlan_read]
        simp only [pA, pB, pC, pD, pE]
        repeat (go_big_quiet_step (fail))
        refine wpQuiet_nil ?_
        rw [wpPlan_one]
        simp only [pA, pB, pC, pD, pE]
        have c12 := HS.out.c12; have cf := HS.out.f
        go_wp2_with fail
        clear cf c12
        have hs9 := HS.out.setF x.b
        replace HR := Lib.hid (HR.out.far (g := w.heap.size) (i := 12) N1.out (.int .i64 x.b))
        replace HK := Lib.hid (HK.out.setCell (a := ⟨w.heap.size, 12, none⟩) (Nat.le_refl _) (.int .i64 x.b))
        replace HE := Lib.hid (HE.out.set (a := ⟨w.heap.size, 12, none⟩) (.inl rfl) (.int .i64 x.b))
        replace HP1 := Lib.hid (HP1.out.setLow HB1.out w.heap.size 12 (by omega) (.int .i64 x.b))
        obtain ⟨v0, hv0⟩ : ∃ u, (World.setCell wd ⟨w.heap.size, 12, none⟩ (.int .i64 x.b)) = u := ⟨_, rfl⟩
        rw [hv0] at hs9 HR HK HE HP1 ⊢
        have HV0 := Lib.hid hv0
        replace HS := Lib.hid hs9
        clear hv0 hs9
        refine soloE HE.out ?_
        rw [wpPlan_read]
        simp only [pA, pB, pC, pD, pE]
        repeat (go_big_quiet_step (fail))
        refine wpQuiet_nil ?_
        rw [wpPlan_one]
        simp only [pA, pB, pC, pD, pE]
        have c13 := HS.out.c13; have cf := HS.out.f
        go_wp2_with fail
        clear cf c13
        have hs9 := HS.out.setG x.a
        replace HR := Lib.hid (HR.out.far (g := w.heap.size) (i := 13) N1.out (.int .i64 x.a))
        replace HK := Lib.hid (HK.out.setCell (a := ⟨w.heap.size, 13, none⟩) (Nat.le_refl _) (.int .i64 x.a))
        replace HE := Lib.hid (HE.out.set (a := ⟨w.heap.size, 13, none⟩) (.inl rfl) (.int .i64 x.a))
        replace HP1 := Lib.hid (HP1.out.setLow HB1.out w.heap.size 13 (by omega) (.int .i64 x.a))
        obtain ⟨v1, hv1⟩ : ∃ u, (World.setCell v0 ⟨w.heap.size, 13, none⟩ (.int .i64 x.a)) = u := ⟨_, rfl⟩
        rw [hv1] at hs9 HR HK HE HP1 ⊢
        have HV1 := Lib.hid hv1
        replace HS := Lib.hid hs9
        clear hv1 hs9
        refine soloE HE.out ?_
        rw [wpPlan_read]
        simp only [pA, pB, pC, pD, pE]
        repeat (go_big_quiet_step (fail))
        refine wpQuiet_nil ?_
        rw [wpPlan_one]
        simp only [pA, pB, pC, pD, pE]
        have c14 := HS.out.c14; have c15 := HS.out.c15; have c16 := HS.out.c16; have c17 := HS.out.c17; have c18 := HS.out.c18; have c19 := HS.out.c19; have c20 := HS.out.c20; have c21 := HS.out.c21; have c22 := HS.out.c22; have cf := HS.out.f
        go_wp2_with fail
        clear cf c14 c15 c16 c17 c18 c19 c20 c21 c22
        have hs9 := HS.out.setTT A1 n c1 ⟨x.T.L, x.T.keep, x.T.d, x.T.b, !x.T.tu⟩
        replace HR := Lib.hid (HR.out.farT N1.out A1 n c1 ⟨x.T.L, x.T.keep, x.T.d, x.T.b, !x.T.tu⟩)
        replace HK := Lib.hid (HK.out.setTT (Nat.le_refl _) A1 n c1 ⟨x.T.L, x.T.keep, x.T.d, x.T.b, !x.T.tu⟩)
        replace HE := Lib.hid (HE.out.setTT A1 n c1 ⟨x.T.L, x.T.keep, x.T.d, x.T.b, !x.T.tu⟩)
        replace HP1 := Lib.hid (HP1.out.setTT (g := w.heap.size) HB1.out (by omega) A1 n c1 ⟨x.T.L, x.T.keep, x.T.d, x.T.b, !x.T.tu⟩)
        obtain ⟨u9, hu9⟩ : ∃ u, stT v1 w.heap.size A1 n c1 ⟨x.T.L, x.T.keep, x.T.d, x.T.b, !x.T.tu⟩ = u := ⟨_, rfl⟩
        simp only at hs9
        rw [hu9] at hs9 HR HK HE HP1
        simp only [stT] at hu9
        rw [hu9]
        have HU9 := Lib.hid hu9
        replace HS := Lib.hid hs9
        clear hu9 hs9
        refine soloE HE.out ?_
        refine wpPlan_stop ?_
        obtain ⟨y, hy⟩ : ∃ y : St, ({ x with a := x.b, b := x.a, T := ⟨x.T.L, x.T.keep, x.T.d, x.T.b, !x.T.tu⟩ } : St) = y := ⟨_, rfl⟩
        have HY := Lib.hid (show turnSt x = y by rw [← hy]; exact HTS.out)
        rw [hy] at HS
        have HYL := Lib.hid (show y.T.L = x.T.L by rw [← hy])
        clear hy
        have hrx := HR.out.over A1 n c1 y
        have hkx := Kept.setCells (b := w.heap.size + 1) (by omega) (cellS A1 n c1 y).toArray.toList 0 _ HK.out
        have HTH := Lib.hid (HR.out.there A1 n c1 y)
        have HPX := Lib.hid (Pal.setLows HB1.out (b := w.heap.size + 1) (by omega) (cellS A1 n c1 y).toArray.toList 0 u9 HP1.out)
        obtain ⟨w9, hw9⟩ : ∃ u, World.setCells u9 (w.heap.size + 1) 0 (cellS A1 n c1 y).toArray.toList = u := ⟨_, rfl⟩
        rw [hw9] at hrx hkx HPX
        have HRX := Lib.hid hrx; have HKX := Lib.hid hkx; have HW9 := Lib.hid hw9
        clear hrx hkx hw9 HR HK HUU
        go_wp2_with (first | rw [HU9.out] | (refine wpList_load_mid rfl 33 _ rfl w.heap.size 0 rfl _ _ HS.out.r Tryz.underlying33 rfl (step_size A1 n c1 _) ?_) | (refine wpList_store_mid rfl 33 _ _ rfl (w.heap.size + 1) 0 _ rfl rfl HTH.out (step_sizeA A1 n c1 _) (cellS_one A1 n c1 _) ?_; rw [HW9.out]))
        try simp only [Exit.inBlock, Exit.then]
        exact bodyPost_ret (results_step rfl _ rfl HRX.out) rfl ⟨A1, n, c1, by rw [HY.out], by rw [HY.out, HYL.out]; exact HPX.out, HKX.out⟩
  · have c14 := HS.out.c14; have c15 := HS.out.c15; have c16 := HS.out.c16; have c17 := HS.out.c17; have c18 := HS.out.c18; have c19 := HS.out.c19; have c20 := HS.out.c20; have c21 := HS.out.c21; have c22 := HS.out.c22
    go_wp2_with fail
    clear c14 c15 c16 c17 c18 c19 c20 c21 c22
    refine soloE HE.out ?_
    rw [wpPlan_three]
    simp only [pA, pB, pC, pD, pE]
    refine ⟨?_, ?_, ?_⟩
    · have c13 := HS.out.c13
      go_wp2_with fail
      clear c13
      refine soloE HE.out ?_
      rw [wpPlan_two]
      simp only [pA, pB, pC, pD, pE]
      refine ⟨?_, ?_⟩
      · have c12 := HS.out.c12
        go_wp2_with fail
        clear c12
        refine soloE HE.out ?_
        rw [wpPlan_read]
        simp only [pA, pB, pC, pD, pE]
        repeat (go_big_quiet_step (fail))
        refine wpQuiet_nil ?_
        rw [wpPlan_one]
        simp only [pA, pB, pC, pD, pE]
        go_wp2_with (go_at_call 60; refine (AT.out _ HP.out).mono ?_; rintro e u6 ⟨A1, c1, rfl, hp1, hkz, hb1⟩)
        have HB1 := Lib.hid (show ∀ ad, A1 = some ad → w.heap.size + 2 ≤ ad.block from fun ad e => by have := hb1 ad e; have := HR.out.lt; omega)
        have HP1 := Lib.hid hp1
        replace HE := Lib.hid (HE.out.trans hkz); replace HS := Lib.hid (HS.out.kept hkz); replace HR := Lib.hid (HR.out.kept hkz); replace HK := Lib.hid (HK.out.trans hkz); replace HP := Lib.hid (HP.out.kept hkz)
        clear hp1 hkz hb1
        obtain ⟨wd, hwd⟩ : ∃ u, u6 = u := ⟨_, rfl⟩
        rw [hwd] at HE HS HR HK HP HP1 ⊢
        clear hwd
        refine soloE HE.out ?_
        rw [wpPlan_one]
        simp only [pA, pB, pC, pD, pE]
        have c12 := HS.out.c12; have cf := HS.out.f
        go_wp2_with fail
        clear cf c12
        have hs9 := HS.out.setF x.b
        replace HR := Lib.hid (HR.out.far (g := w.heap.size) (i := 12) N1.out (.int .i64 x.b))
        replace HK := Lib.hid (HK.out.setCell (a := ⟨w.heap.size, 12, none⟩) (Nat.le_refl _) (.int .i64 x.b))
        replace HE := Lib.hid (HE.out.set (a := ⟨w.heap.size, 12, none⟩) (.inl rfl) (.int .i64 x.b))
        replace HP1 := Lib.hid (HP1.out.setLow HB1.out w.heap.size 12 (by omega) (.int .i64 x.b))
        obtain ⟨v0, hv0⟩ : ∃ u, (World.setCell wd ⟨w.heap.size, 12, none⟩ (.int .i64 x.b)) = u := ⟨_, rfl⟩
        rw [hv0] at hs9 HR HK HE HP1 ⊢
        have HV0 := Lib.hid hv0
        replace HS := Lib.hid hs9
        clear hv0 hs9
        refine soloE HE.out ?_
        rw [wpPlan_read]
        simp only [pA, pB, pC, pD, pE]
        repeat (go_big_quiet_step (fail))
        refine wpQuiet_nil ?_
        rw [wpPlan_one]
        simp only [pA, pB, pC, pD, pE]
        have c13 := HS.out.c13; have cf := HS.out.f
        go_wp2_with fail
        clear cf c13
        have hs9 := HS.out.setG x.a
        replace HR := Lib.hid (HR.out.far (g := w.heap.size) (i := 13) N1.out (.int .i64 x.a))
        replace HK := Lib.hid (HK.out.setCell (a := ⟨w.heap.size, 13, none⟩) (Nat.le_refl _) (.int .i64 x.a))
        replace HE := Lib.hid (HE.out.set (a := ⟨w.heap.size, 13, none⟩) (.inl rfl) (.int .i64 x.a))
        replace HP1 := Lib.hid (HP1.out.setLow HB1.out w.heap.size 13 (by omega) (.int .i64 x.a))
        obtain ⟨v1, hv1⟩ : ∃ u, (World.setCell v0 ⟨w.heap.size, 13, none⟩ (.int .i64 x.a)) = u := ⟨_, rfl⟩
        rw [hv1] at hs9 HR HK HE HP1 ⊢
        have HV1 := Lib.hid hv1
        replace HS := Lib.hid hs9
        clear hv1 hs9
        refine soloE HE.out ?_
        rw [wpPlan_read]
        simp only [pA, pB, pC, pD, pE]
        repeat (go_big_quiet_step (fail))
        refine wpQuiet_nil ?_
        rw [wpPlan_one]
        simp only [pA, pB, pC, pD, pE]
        have c14 := HS.out.c14; have c15 := HS.out.c15; have c16 := HS.out.c16; have c17 := HS.out.c17; have c18 := HS.out.c18; have c19 := HS.out.c19; have c20 := HS.out.c20; have c21 := HS.out.c21; have c22 := HS.out.c22; have cf := HS.out.f
        go_wp2_with fail
        clear cf c14 c15 c16 c17 c18 c19 c20 c21 c22
        have hs9 := HS.out.setTT A1 n c1 ⟨x.T.L, x.T.keep, x.T.d, x.T.b, !x.T.tu⟩
        replace HR := Lib.hid (HR.out.farT N1.out A1 n c1 ⟨x.T.L, x.T.keep, x.T.d, x.T.b, !x.T.tu⟩)
        replace HK := Lib.hid (HK.out.setTT (Nat.le_refl _) A1 n c1 ⟨x.T.L, x.T.keep, x.T.d, x.T.b, !x.T.tu⟩)
        replace HE := Lib.hid (HE.out.setTT A1 n c1 ⟨x.T.L, x.T.keep, x.T.d, x.T.b, !x.T.tu⟩)
        replace HP1 := Lib.hid (HP1.out.setTT (g := w.heap.size) HB1.out (by omega) A1 n c1 ⟨x.T.L, x.T.keep, x.T.d, x.T.b, !x.T.tu⟩)
        obtain ⟨u9, hu9⟩ : ∃ u, stT v1 w.heap.size A1 n c1 ⟨x.T.L, x.T.keep, x.T.d, x.T.b, !x.T.tu⟩ = u := ⟨_, rfl⟩
        simp only at hs9
        rw [hu9] at hs9 HR HK HE HP1
        simp only [stT] at hu9
        rw [hu9]
        have HU9 := Lib.hid hu9
        replace HS := Lib.hid hs9
        clear hu9 hs9
        refine soloE HE.out ?_
        refine wpPlan_stop ?_
        obtain ⟨y, hy⟩ : ∃ y : St, ({ x with a := x.b, b := x.a, T := ⟨x.T.L, x.T.keep, x.T.d, x.T.b, !x.T.tu⟩ } : St) = y := ⟨_, rfl⟩
        have HY := Lib.hid (show turnSt x = y by rw [← hy]; exact HTS.out)
        rw [hy] at HS
        have HYL := Lib.hid (show y.T.L = x.T.L by rw [← hy])
        clear hy
        have hrx := HR.out.over A1 n c1 y
        have hkx := Kept.setCells (b := w.heap.size + 1) (by omega) (cellS A1 n c1 y).toArray.toList 0 _ HK.out
        have HTH := Lib.hid (HR.out.there A1 n c1 y)
        have HPX := Lib.hid (Pal.setLows HB1.out (b := w.heap.size + 1) (by omega) (cellS A1 n c1 y).toArray.toList 0 u9 HP1.out)
        obtain ⟨w9, hw9⟩ : ∃ u, World.setCells u9 (w.heap.size + 1) 0 (cellS A1 n c1 y).toArray.toList = u := ⟨_, rfl⟩
        rw [hw9] at hrx hkx HPX
        have HRX := Lib.hid hrx; have HKX := Lib.hid hkx; have HW9 := Lib.hid hw9
        clear hrx hkx hw9 HR HK HUU
        go_wp2_with (first | rw [HU9.out] | (refine wpList_load_mid rfl 33 _ rfl w.heap.size 0 rfl _ _ HS.out.r Tryz.underlying33 rfl (step_size A1 n c1 _) ?_) | (refine wpList_store_mid rfl 33 _ _ rfl (w.heap.size + 1) 0 _ rfl rfl HTH.out (step_sizeA A1 n c1 _) (cellS_one A1 n c1 _) ?_; rw [HW9.out]))
        try simp only [Exit.inBlock, Exit.then]
        exact bodyPost_ret (results_step rfl _ rfl HRX.out) rfl ⟨A1, n, c1, by rw [HY.out], by rw [HY.out, HYL.out]; exact HPX.out, HKX.out⟩
      · go_wp2_with (go_at_call 60; refine (AT.out _ HP.out).mono ?_; rintro e u6 ⟨A1, c1, rfl, hp1, hkz, hb1⟩)
        have HB1 := Lib.hid (show ∀ ad, A1 = some ad → w.heap.size + 2 ≤ ad.block from fun ad e => by have := hb1 ad e; have := HR.out.lt; omega)
        have HP1 := Lib.hid hp1
        replace HE := Lib.hid (HE.out.trans hkz); replace HS := Lib.hid (HS.out.kept hkz); replace HR := Lib.hid (HR.out.kept hkz); replace HK := Lib.hid (HK.out.trans hkz); replace HP := Lib.hid (HP.out.kept hkz)
        clear hp1 hkz hb1
        obtain ⟨wd, hwd⟩ : ∃ u, u6 = u := ⟨_, rfl⟩
        rw [hwd] at HE HS HR HK HP HP1 ⊢
        clear hwd
        refine soloE HE.out ?_
        rw [wpPlan_one]
        simp only [pA, pB, pC, pD, pE]
        have c12 := HS.out.c12
        go_wp2_with fail
        clear c12
        refine soloE HE.out ?_
        rw [wpPlan_read]
        simp only [pA, pB, pC, pD, pE]
        repeat (go_big_quiet_step (fail))
        refine wpQuiet_nil ?_
        rw [wpPlan_one]
        simp only [pA, pB, pC, pD, pE]
        have c12 := HS.out.c12; have cf := HS.out.f
        go_wp2_with fail
        clear cf c12
        have hs9 := HS.out.setF x.b
        replace HR := Lib.hid (HR.out.far (g := w.heap.size) (i := 12) N1.out (.int .i64 x.b))
        replace HK := Lib.hid (HK.out.setCell (a := ⟨w.heap.size, 12, none⟩) (Nat.le_refl _) (.int .i64 x.b))
        replace HE := Lib.hid (HE.out.set (a := ⟨w.heap.size, 12, none⟩) (.inl rfl) (.int .i64 x.b))
        replace HP1 := Lib.hid (HP1.out.setLow HB1.out w.heap.size 12 (by omega) (.int .i64 x.b))
        obtain ⟨v0, hv0⟩ : ∃ u, (World.setCell wd ⟨w.heap.size, 12, none⟩ (.int .i64 x.b)) = u := ⟨_, rfl⟩
        rw [hv0] at hs9 HR HK HE HP1 ⊢
        have HV0 := Lib.hid hv0
        replace HS := Lib.hid hs9
        clear hv0 hs9
        refine soloE HE.out ?_
        rw [wpPlan_read]
        simp only [pA, pB, pC, pD, pE]
        repeat (go_big_quiet_step (fail))
        refine wpQuiet_nil ?_
        rw [wpPlan_one]
        simp only [pA, pB, pC, pD, pE]
        have c13 := HS.out.c13; have cf := HS.out.f
        go_wp2_with fail
        clear cf c13
        have hs9 := HS.out.setG x.a
        replace HR := Lib.hid (HR.out.far (g := w.heap.size) (i := 13) N1.out (.int .i64 x.a))
        replace HK := Lib.hid (HK.out.setCell (a := ⟨w.heap.size, 13, none⟩) (Nat.le_refl _) (.int .i64 x.a))
        replace HE := Lib.hid (HE.out.set (a := ⟨w.heap.size, 13, none⟩) (.inl rfl) (.int .i64 x.a))
        replace HP1 := Lib.hid (HP1.out.setLow HB1.out w.heap.size 13 (by omega) (.int .i64 x.a))
        obtain ⟨v1, hv1⟩ : ∃ u, (World.setCell v0 ⟨w.heap.size, 13, none⟩ (.int .i64 x.a)) = u := ⟨_, rfl⟩
        rw [hv1] at hs9 HR HK HE HP1 ⊢
        have HV1 := Lib.hid hv1
        replace HS := Lib.hid hs9
        clear hv1 hs9
        refine soloE HE.out ?_
        rw [wpPlan_read]
        simp only [pA, pB, pC, pD, pE]
        repeat (go_big_quiet_step (fail))
        refine wpQuiet_nil ?_
        rw [wpPlan_one]
        simp only [pA, pB, pC, pD, pE]
        have c14 := HS.out.c14; have c15 := HS.out.c15; have c16 := HS.out.c16; have c17 := HS.out.c17; have c18 := HS.out.c18; have c19 := HS.out.c19; have c20 := HS.out.c20; have c21 := HS.out.c21; have c22 := HS.out.c22; have cf := HS.out.f
        go_wp2_with fail
        clear cf c14 c15 c16 c17 c18 c19 c20 c21 c22
        have hs9 := HS.out.setTT A1 n c1 ⟨x.T.L, x.T.keep, x.T.d, x.T.b, !x.T.tu⟩
        replace HR := Lib.hid (HR.out.farT N1.out A1 n c1 ⟨x.T.L, x.T.keep, x.T.d, x.T.b, !x.T.tu⟩)
        replace HK := Lib.hid (HK.out.setTT (Nat.le_refl _) A1 n c1 ⟨x.T.L, x.T.keep, x.T.d, x.T.b, !x.T.tu⟩)
        replace HE := Lib.hid (HE.out.setTT A1 n c1 ⟨x.T.L, x.T.keep, x.T.d, x.T.b, !x.T.tu⟩)
        replace HP1 := Lib.hid (HP1.out.setTT (g := w.heap.size) HB1.out (by omega) A1 n c1 ⟨x.T.L, x.T.keep, x.T.d, x.T.b, !x.T.tu⟩)
        obtain ⟨u9, hu9⟩ : ∃ u, stT v1 w.heap.size A1 n c1 ⟨x.T.L, x.T.keep, x.T.d, x.T.b, !x.T.tu⟩ = u := ⟨_, rfl⟩
        simp only at hs9
        rw [hu9] at hs9 HR HK HE HP1
        simp only [stT] at hu9
        rw [hu9]
        have HU9 := Lib.hid hu9
        replace HS := Lib.hid hs9
        clear hu9 hs9
        refine soloE HE.out ?_
        refine wpPlan_stop ?_
        obtain ⟨y, hy⟩ : ∃ y : St, ({ x with a := x.b, b := x.a, T := ⟨x.T.L, x.T.keep, x.T.d, x.T.b, !x.T.tu⟩ } : St) = y := ⟨_, rfl⟩
        have HY := Lib.hid (show turnSt x = y by rw [← hy]; exact HTS.out)
        rw [hy] at HS
        have HYL := Lib.hid (show y.T.L = x.T.L by rw [← hy])
        clear hy
        have hrx := HR.out.over A1 n c1 y
        have hkx := Kept.setCells (b := w.heap.size + 1) (by omega) (cellS A1 n c1 y).toArray.toList 0 _ HK.out
        have HTH := Lib.hid (HR.out.there A1 n c1 y)
        have HPX := Lib.hid (Pal.setLows HB1.out (b := w.heap.size + 1) (by omega) (cellS A1 n c1 y).toArray.toList 0 u9 HP1.out)
        obtain ⟨w9, hw9⟩ : ∃ u, World.setCells u9 (w.heap.size + 1) 0 (cellS A1 n c1 y).toArray.toList = u := ⟨_, rfl⟩
        rw [hw9] at hrx hkx HPX
        have HRX := Lib.hid hrx; have HKX := Lib.hid hkx; have HW9 := Lib.hid hw9
        clear hrx hkx hw9 HR HK HUU
        go_wp2_with (first | rw [HU9.out] | (refine wpList_load_mid rfl 33 _ rfl w.heap.size 0 rfl _ _ HS.out.r Tryz.underlying33 rfl (step_size A1 n c1 _) ?_) | (refine wpList_store_mid rfl 33 _ _ rfl (w.heap.size + 1) 0 _ rfl rfl HTH.out (step_sizeA A1 n c1 _) (cellS_one A1 n c1 _) ?_; rw [HW9.out]))
        try simp only [Exit.inBlock, Exit.then]
        exact bodyPost_ret (results_step rfl _ rfl HRX.out) rfl ⟨A1, n, c1, by rw [HY.out], by rw [HY.out, HYL.out]; exact HPX.out, HKX.out⟩
    · have c12 := HS.out.c12
      go_wp2_with fail
      clear c12
      refine soloE HE.out ?_
      rw [wpPlan_two]
      simp only [pA, pB, pC, pD, pE]
      refine ⟨?_, ?_⟩
      · have c13 := HS.out.c13
        go_wp2_with fail
        clear c13
        refine soloE HE.out ?_
        rw [wpPlan_read]
        simp only [pA, pB, pC, pD, pE]
        repeat (go_big_quiet_step (fail))
        refine wpQuiet_nil ?_
        rw [wpPlan_one]
        simp only [pA, pB, pC, pD, pE]
        go_wp2_with (go_at_call 60; refine (AT.out _ HP.out).mono ?_; rintro e u6 ⟨A1, c1, rfl, hp1, hkz, hb1⟩)
        have HB1 := Lib.hid (show ∀ ad, A1 = some ad → w.heap.size + 2 ≤ ad.block from fun ad e => by have := hb1 ad e; have := HR.out.lt; omega)
        have HP1 := Lib.hid hp1
        replace HE := Lib.hid (HE.out.trans hkz); replace HS := Lib.hid (HS.out.kept hkz); replace HR := Lib.hid (HR.out.kept hkz); replace HK := Lib.hid (HK.out.trans hkz); replace HP := Lib.hid (HP.out.kept hkz)
        clear hp1 hkz hb1
        obtain ⟨wd, hwd⟩ : ∃ u, u6 = u := ⟨_, rfl⟩
        rw [hwd] at HE HS HR HK HP HP1 ⊢
        clear hwd
        refine soloE HE.out ?_
        rw [wpPlan_one]
        simp only [pA, pB, pC, pD, pE]
        have c12 := HS.out.c12; have cf := HS.out.f
        go_wp2_with fail
        clear cf c12
        have hs9 := HS.out.setF x.b
        replace HR := Lib.hid (HR.out.far (g := w.heap.size) (i := 12) N1.out (.int .i64 x.b))
        replace HK := Lib.hid (HK.out.setCell (a := ⟨w.heap.size, 12, none⟩) (Nat.le_refl _) (.int .i64 x.b))
        replace HE := Lib.hid (HE.out.set (a := ⟨w.heap.size, 12, none⟩) (.inl rfl) (.int .i64 x.b))
        replace HP1 := Lib.hid (HP1.out.setLow HB1.out w.heap.size 12 (by omega) (.int .i64 x.b))
        obtain ⟨v0, hv0⟩ : ∃ u, (World.setCell wd ⟨w.heap.size, 12, none⟩ (.int .i64 x.b)) = u := ⟨_, rfl⟩
        rw [hv0] at hs9 HR HK HE HP1 ⊢
        have HV0 := Lib.hid hv0
        replace HS := Lib.hid hs9
        clear hv0 hs9
        refine soloE HE.out ?_
        rw [wpPlan_read]
        simp only [pA, pB, pC, pD, pE]
        repeat (go_big_quiet_step (fail))
        refine wpQuiet_nil ?_
        rw [wpPlan_one]
        simp only [pA, pB, pC, pD, pE]
        have c13 := HS.out.c13; have cf := HS.out.f
        go_wp2_with fail
        clear cf c13
        have hs9 := HS.out.setG x.a
        replace HR := Lib.hid (HR.out.far (g := w.heap.size) (i := 13) N1.out (.int .i64 x.a))
        replace HK := Lib.hid (HK.out.setCell (a := ⟨w.heap.size, 13, none⟩) (Nat.le_refl _) (.int .i64 x.a))
        replace HE := Lib.hid (HE.out.set (a := ⟨w.heap.size, 13, none⟩) (.inl rfl) (.int .i64 x.a))
        replace HP1 := Lib.hid (HP1.out.setLow HB1.out w.heap.size 13 (by omega) (.int .i64 x.a))
        obtain ⟨v1, hv1⟩ : ∃ u, (World.setCell v0 ⟨w.heap.size, 13, none⟩ (.int .i64 x.a)) = u := ⟨_, rfl⟩
        rw [hv1] at hs9 HR HK HE HP1 ⊢
        have HV1 := Lib.hid hv1
        replace HS := Lib.hid hs9
        clear hv1 hs9
        refine soloE HE.out ?_
        rw [wpPlan_read]
        simp only [pA, pB, pC, pD, pE]
        repeat (go_big_quiet_step (fail))
        refine wpQuiet_nil ?_
        rw [wpPlan_one]
        simp only [pA, pB, pC, pD, pE]
        have c14 := HS.out.c14; have c15 := HS.out.c15; have c16 := HS.out.c16; have c17 := HS.out.c17; have c18 := HS.out.c18; have c19 := HS.out.c19; have c20 := HS.out.c20; have c21 := HS.out.c21; have c22 := HS.out.c22; have cf := HS.out.f
        go_wp2_with fail
        clear cf c14 c15 c16 c17 c18 c19 c20 c21 c22
        have hs9 := HS.out.setTT A1 n c1 ⟨x.T.L, x.T.keep, x.T.d, x.T.b, !x.T.tu⟩
        replace HR := Lib.hid (HR.out.farT N1.out A1 n c1 ⟨x.T.L, x.T.keep, x.T.d, x.T.b, !x.T.tu⟩)
        replace HK := Lib.hid (HK.out.setTT (Nat.le_refl _) A1 n c1 ⟨x.T.L, x.T.keep, x.T.d, x.T.b, !x.T.tu⟩)
        replace HE := Lib.hid (HE.out.setTT A1 n c1 ⟨x.T.L, x.T.keep, x.T.d, x.T.b, !x.T.tu⟩)
        replace HP1 := Lib.hid (HP1.out.setTT (g := w.heap.size) HB1.out (by omega) A1 n c1 ⟨x.T.L, x.T.keep, x.T.d, x.T.b, !x.T.tu⟩)
        obtain ⟨u9, hu9⟩ : ∃ u, stT v1 w.heap.size A1 n c1 ⟨x.T.L, x.T.keep, x.T.d, x.T.b, !x.T.tu⟩ = u := ⟨_, rfl⟩
        simp only at hs9
        rw [hu9] at hs9 HR HK HE HP1
        simp only [stT] at hu9
        rw [hu9]
        have HU9 := Lib.hid hu9
        replace HS := Lib.hid hs9
        clear hu9 hs9
        refine soloE HE.out ?_
        refine wpPlan_stop ?_
        obtain ⟨y, hy⟩ : ∃ y : St, ({ x with a := x.b, b := x.a, T := ⟨x.T.L, x.T.keep, x.T.d, x.T.b, !x.T.tu⟩ } : St) = y := ⟨_, rfl⟩
        have HY := Lib.hid (show turnSt x = y by rw [← hy]; exact HTS.out)
        rw [hy] at HS
        have HYL := Lib.hid (show y.T.L = x.T.L by rw [← hy])
        clear hy
        have hrx := HR.out.over A1 n c1 y
        have hkx := Kept.setCells (b := w.heap.size + 1) (by omega) (cellS A1 n c1 y).toArray.toList 0 _ HK.out
        have HTH := Lib.hid (HR.out.there A1 n c1 y)
        have HPX := Lib.hid (Pal.setLows HB1.out (b := w.heap.size + 1) (by omega) (cellS A1 n c1 y).toArray.toList 0 u9 HP1.out)
        obtain ⟨w9, hw9⟩ : ∃ u, World.setCells u9 (w.heap.size + 1) 0 (cellS A1 n c1 y).toArray.toList = u := ⟨_, rfl⟩
        rw [hw9] at hrx hkx HPX
        have HRX := Lib.hid hrx; have HKX := Lib.hid hkx; have HW9 := Lib.hid hw9
        clear hrx hkx hw9 HR HK HUU
        go_wp2_with (first | rw [HU9.out] | (refine wpList_load_mid rfl 33 _ rfl w.heap.size 0 rfl _ _ HS.out.r Tryz.underlying33 rfl (step_size A1 n c1 _) ?_) | (refine wpList_store_mid rfl 33 _ _ rfl (w.heap.size + 1) 0 _ rfl rfl HTH.out (step_sizeA A1 n c1 _) (cellS_one A1 n c1 _) ?_; rw [HW9.out]))
        try simp only [Exit.inBlock, Exit.then]
        exact bodyPost_ret (results_step rfl _ rfl HRX.out) rfl ⟨A1, n, c1, by rw [HY.out], by rw [HY.out, HYL.out]; exact HPX.out, HKX.out⟩
      · go_wp2_with (go_at_call 60; refine (AT.out _ HP.out).mono ?_; rintro e u6 ⟨A1, c1, rfl, hp1, hkz, hb1⟩)
        have HB1 := Lib.hid (show ∀ ad, A1 = some ad → w.heap.size + 2 ≤ ad.block from fun ad e => by have := hb1 ad e; have := HR.out.lt; omega)
        have HP1 := Lib.hid hp1
        replace HE := Lib.hid (HE.out.trans hkz); replace HS := Lib.hid (HS.out.kept hkz); replace HR := Lib.hid (HR.out.kept hkz); replace HK := Lib.hid (HK.out.trans hkz); replace HP := Lib.hid (HP.out.kept hkz)
        clear hp1 hkz hb1
        obtain ⟨wd, hwd⟩ : ∃ u, u6 = u := ⟨_, rfl⟩
        rw [hwd] at HE HS HR HK HP HP1 ⊢
        clear hwd
        refine soloE HE.out ?_
        rw [wpPlan_one]
        simp only [pA, pB, pC, pD, pE]
        have c13 := HS.out.c13
        go_wp2_with fail
        clear c13
        refine soloE HE.out ?_
        rw [wpPlan_read]
        simp only [pA, pB, pC, pD, pE]
        repeat (go_big_quiet_step (fail))
        refine wpQuiet_nil ?_
        rw [wpPlan_one]
        simp only [pA, pB, pC, pD, pE]
        have c12 := HS.out.c12; have cf := HS.out.f
        go_wp2_with fail
        clear cf c12
        have hs9 := HS.out.setF x.b
        replace HR := Lib.hid (HR.out.far (g := w.heap.size) (i := 12) N1.out (.int .i64 x.b))
        replace HK := Lib.hid (HK.out.setCell (a := ⟨w.heap.size, 12, none⟩) (Nat.le_refl _) (.int .i64 x.b))
        replace HE := Lib.hid (HE.out.set (a := ⟨w.heap.size, 12, none⟩) (.inl rfl) (.int .i64 x.b))
        replace HP1 := Lib.hid (HP1.out.setLow HB1.out w.heap.size 12 (by omega) (.int .i64 x.b))
        obtain ⟨v0, hv0⟩ : ∃ u, (World.setCell wd ⟨w.heap.size, 12, none⟩ (.int .i64 x.b)) = u := ⟨_, rfl⟩
        rw [hv0] at hs9 HR HK HE HP1 ⊢
        have HV0 := Lib.hid hv0
        replace HS := Lib.hid hs9
        clear hv0 hs9
        refine soloE HE.out ?_
        rw [wpPlan_read]
        simp only [pA, pB, pC, pD, pE]
        repeat (go_big_quiet_step (fail))
        refine wpQuiet_nil ?_
        rw [wpPlan_one]
        simp only [pA, pB, pC, pD, pE]
        have c13 := HS.out.c13; have cf := HS.out.f
        go_wp2_with fail
        clear cf c13
        have hs9 := HS.out.setG x.a
        replace HR := Lib.hid (HR.out.far (g := w.heap.size) (i := 13) N1.out (.int .i64 x.a))
        replace HK := Lib.hid (HK.out.setCell (a := ⟨w.heap.size, 13, none⟩) (Nat.le_refl _) (.int .i64 x.a))
        replace HE := Lib.hid (HE.out.set (a := ⟨w.heap.size, 13, none⟩) (.inl rfl) (.int .i64 x.a))
        replace HP1 := Lib.hid (HP1.out.setLow HB1.out w.heap.size 13 (by omega) (.int .i64 x.a))
        obtain ⟨v1, hv1⟩ : ∃ u, (World.setCell v0 ⟨w.heap.size, 13, none⟩ (.int .i64 x.a)) = u := ⟨_, rfl⟩
        rw [hv1] at hs9 HR HK HE HP1 ⊢
        have HV1 := Lib.hid hv1
        replace HS := Lib.hid hs9
        clear hv1 hs9
        refine soloE HE.out ?_
        rw [wpPlan_read]
        simp only [pA, pB, pC, pD, pE]
        repeat (go_big_quiet_step (fail))
        refine wpQuiet_nil ?_
        rw [wpPlan_one]
        simp only [pA, pB, pC, pD, pE]
        have c14 := HS.out.c14; have c15 := HS.out.c15; have c16 := HS.out.c16; have c17 := HS.out.c17; have c18 := HS.out.c18; have c19 := HS.out.c19; have c20 := HS.out.c20; have c21 := HS.out.c21; have c22 := HS.out.c22; have cf := HS.out.f
        go_wp2_with fail
        clear cf c14 c15 c16 c17 c18 c19 c20 c21 c22
        have hs9 := HS.out.setTT A1 n c1 ⟨x.T.L, x.T.keep, x.T.d, x.T.b, !x.T.tu⟩
        replace HR := Lib.hid (HR.out.farT N1.out A1 n c1 ⟨x.T.L, x.T.keep, x.T.d, x.T.b, !x.T.tu⟩)
        replace HK := Lib.hid (HK.out.setTT (Nat.le_refl _) A1 n c1 ⟨x.T.L, x.T.keep, x.T.d, x.T.b, !x.T.tu⟩)
        replace HE := Lib.hid (HE.out.setTT A1 n c1 ⟨x.T.L, x.T.keep, x.T.d, x.T.b, !x.T.tu⟩)
        replace HP1 := Lib.hid (HP1.out.setTT (g := w.heap.size) HB1.out (by omega) A1 n c1 ⟨x.T.L, x.T.keep, x.T.d, x.T.b, !x.T.tu⟩)
        obtain ⟨u9, hu9⟩ : ∃ u, stT v1 w.heap.size A1 n c1 ⟨x.T.L, x.T.keep, x.T.d, x.T.b, !x.T.tu⟩ = u := ⟨_, rfl⟩
        simp only at hs9
        rw [hu9] at hs9 HR HK HE HP1
        simp only [stT] at hu9
        rw [hu9]
        have HU9 := Lib.hid hu9
        replace HS := Lib.hid hs9
        clear hu9 hs9
        refine soloE HE.out ?_
        refine wpPlan_stop ?_
        obtain ⟨y, hy⟩ : ∃ y : St, ({ x with a := x.b, b := x.a, T := ⟨x.T.L, x.T.keep, x.T.d, x.T.b, !x.T.tu⟩ } : St) = y := ⟨_, rfl⟩
        have HY := Lib.hid (show turnSt x = y by rw [← hy]; exact HTS.out)
        rw [hy] at HS
        have HYL := Lib.hid (show y.T.L = x.T.L by rw [← hy])
        clear hy
        have hrx := HR.out.over A1 n c1 y
        have hkx := Kept.setCells (b := w.heap.size + 1) (by omega) (cellS A1 n c1 y).toArray.toList 0 _ HK.out
        have HTH := Lib.hid (HR.out.there A1 n c1 y)
        have HPX := Lib.hid (Pal.setLows HB1.out (b := w.heap.size + 1) (by omega) (cellS A1 n c1 y).toArray.toList 0 u9 HP1.out)
        obtain ⟨w9, hw9⟩ : ∃ u, World.setCells u9 (w.heap.size + 1) 0 (cellS A1 n c1 y).toArray.toList = u := ⟨_, rfl⟩
        rw [hw9] at hrx hkx HPX
        have HRX := Lib.hid hrx; have HKX := Lib.hid hkx; have HW9 := Lib.hid hw9
        clear hrx hkx hw9 HR HK HUU
        go_wp2_with (first | rw [HU9.out] | (refine wpList_load_mid rfl 33 _ rfl w.heap.size 0 rfl _ _ HS.out.r Tryz.underlying33 rfl (step_size A1 n c1 _) ?_) | (refine wpList_store_mid rfl 33 _ _ rfl (w.heap.size + 1) 0 _ rfl rfl HTH.out (step_sizeA A1 n c1 _) (cellS_one A1 n c1 _) ?_; rw [HW9.out]))
        try simp only [Exit.inBlock, Exit.then]
        exact bodyPost_ret (results_step rfl _ rfl HRX.out) rfl ⟨A1, n, c1, by rw [HY.out], by rw [HY.out, HYL.out]; exact HPX.out, HKX.out⟩
    · go_wp2_with (go_at_call 60; refine (AT.out _ HP.out).mono ?_; rintro e u6 ⟨A1, c1, rfl, hp1, hkz, hb1⟩)
      have HB1 := Lib.hid (show ∀ ad, A1 = some ad → w.heap.size + 2 ≤ ad.block from fun ad e => by have := hb1 ad e; have := HR.out.lt; omega)
      have HP1 := Lib.hid hp1
      replace HE := Lib.hid (HE.out.trans hkz); replace HS := Lib.hid (HS.out.kept hkz); replace HR := Lib.hid (HR.out.kept hkz); replace HK := Lib.hid (HK.out.trans hkz); replace HP := Lib.hid (HP.out.kept hkz)
      clear hp1 hkz hb1
      obtain ⟨wd, hwd⟩ : ∃ u, u6 = u := ⟨_, rfl⟩
      rw [hwd] at HE HS HR HK HP HP1 ⊢
      clear hwd
      refine soloE HE.out ?_
      rw [wpPlan_two]
      simp only [pA, pB, pC, pD, pE]
      refine ⟨?_, ?_⟩
      · have c13 := HS.out.c13
        go_wp2_with fail
        clear c13
        refine soloE HE.out ?_
        rw [wpPlan_one]
        simp only [pA, pB, pC, pD, pE]
        have c12 := HS.out.c12
        go_wp2_with fail
        clear c12
        refine soloE HE.out ?_
        rw [wpPlan_read]
        simp only [pA, pB, pC, pD, pE]
        repeat (go_big_quiet_step (fail))
        refine wpQuiet_nil ?_
        rw [wpPlan_one]
        simp only [pA, pB, pC, pD, pE]
        have c12 := HS.out.c12; have cf := HS.out.f
        go_wp2_with fail
        clear cf c12
        have hs9 := HS.out.setF x.b
        replace HR := Lib.hid (HR.out.far (g := w.heap.size) (i := 12) N1.out (.int .i64 x.b))
        replace HK := Lib.hid (HK.out.setCell (a := ⟨w.heap.size, 12, none⟩) (Nat.le_refl _) (.int .i64 x.b))
        replace HE := Lib.hid (HE.out.set (a := ⟨w.heap.size, 12, none⟩) (.inl rfl) (.int .i64 x.b))
        replace HP1 := Lib.hid (HP1.out.setLow HB1.out w.heap.size 12 (by omega) (.int .i64 x.b))
        obtain ⟨v0, hv0⟩ : ∃ u, (World.setCell wd ⟨w.heap.size, 12, none⟩ (.int .i64 x.b)) = u := ⟨_, rfl⟩
        rw [hv0] at hs9 HR HK HE HP1 ⊢
        have HV0 := Lib.hid hv0
        replace HS := Lib.hid hs9
        clear hv0 hs9
        refine soloE HE.out ?_
        rw [wpPlan_read]
        simp only [pA, pB, pC, pD, pE]
        repeat (go_big_quiet_step (fail))
        refine wpQuiet_nil ?_
        rw [wpPlan_one]
        simp only [pA, pB, pC, pD, pE]
        have c13 := HS.out.c13; have cf := HS.out.f
        go_wp2_with fail
        clear cf c13
        have hs9 := HS.out.setG x.a
        replace HR := Lib.hid (HR.out.far (g := w.heap.size) (i := 13) N1.out (.int .i64 x.a))
        replace HK := Lib.hid (HK.out.setCell (a := ⟨w.heap.size, 13, none⟩) (Nat.le_refl _) (.int .i64 x.a))
        replace HE := Lib.hid (HE.out.set (a := ⟨w.heap.size, 13, none⟩) (.inl rfl) (.int .i64 x.a))
        replace HP1 := Lib.hid (HP1.out.setLow HB1.out w.heap.size 13 (by omega) (.int .i64 x.a))
        obtain ⟨v1, hv1⟩ : ∃ u, (World.setCell v0 ⟨w.heap.size, 13, none⟩ (.int .i64 x.a)) = u := ⟨_, rfl⟩
        rw [hv1] at hs9 HR HK HE HP1 ⊢
        have HV1 := Lib.hid hv1
        replace HS := Lib.hid hs9
        clear hv1 hs9
        refine soloE HE.out ?_
        rw [wpPlan_read]
        simp only [pA, pB, pC, pD, pE]
        repeat (go_big_quiet_step (fail))
        refine wpQuiet_nil ?_
        rw [wpPlan_one]
        simp only [pA, pB, pC, pD, pE]
        have c14 := HS.out.c14; have c15 := HS.out.c15; have c16 := HS.out.c16; have c17 := HS.out.c17; have c18 := HS.out.c18; have c19 := HS.out.c19; have c20 := HS.out.c20; have c21 := HS.out.c21; have c22 := HS.out.c22; have cf := HS.out.f
        go_wp2_with fail
        clear cf c14 c15 c16 c17 c18 c19 c20 c21 c22
        have hs9 := HS.out.setTT A1 n c1 ⟨x.T.L, x.T.keep, x.T.d, x.T.b, !x.T.tu⟩
        replace HR := Lib.hid (HR.out.farT N1.out A1 n c1 ⟨x.T.L, x.T.keep, x.T.d, x.T.b, !x.T.tu⟩)
        replace HK := Lib.hid (HK.out.setTT (Nat.le_refl _) A1 n c1 ⟨x.T.L, x.T.keep, x.T.d, x.T.b, !x.T.tu⟩)
        replace HE := Lib.hid (HE.out.setTT A1 n c1 ⟨x.T.L, x.T.keep, x.T.d, x.T.b, !x.T.tu⟩)
        replace HP1 := Lib.hid (HP1.out.setTT (g := w.heap.size) HB1.out (by omega) A1 n c1 ⟨x.T.L, x.T.keep, x.T.d, x.T.b, !x.T.tu⟩)
        obtain ⟨u9, hu9⟩ : ∃ u, stT v1 w.heap.size A1 n c1 ⟨x.T.L, x.T.keep, x.T.d, x.T.b, !x.T.tu⟩ = u := ⟨_, rfl⟩
        simp only at hs9
        rw [hu9] at hs9 HR HK HE HP1
        simp only [stT] at hu9
        rw [hu9]
        have HU9 := Lib.hid hu9
        replace HS := Lib.hid hs9
        clear hu9 hs9
        refine soloE HE.out ?_
        refine wpPlan_stop ?_
        obtain ⟨y, hy⟩ : ∃ y : St, ({ x with a := x.b, b := x.a, T := ⟨x.T.L, x.T.keep, x.T.d, x.T.b, !x.T.tu⟩ } : St) = y := ⟨_, rfl⟩
        have HY := Lib.hid (show turnSt x = y by rw [← hy]; exact HTS.out)
        rw [hy] at HS
        have HYL := Lib.hid (show y.T.L = x.T.L by rw [← hy])
        clear hy
        have hrx := HR.out.over A1 n c1 y
        have hkx := Kept.setCells (b := w.heap.size + 1) (by omega) (cellS A1 n c1 y).toArray.toList 0 _ HK.out
        have HTH := Lib.hid (HR.out.there A1 n c1 y)
        have HPX := Lib.hid (Pal.setLows HB1.out (b := w.heap.size + 1) (by omega) (cellS A1 n c1 y).toArray.toList 0 u9 HP1.out)
        obtain ⟨w9, hw9⟩ : ∃ u, World.setCells u9 (w.heap.size + 1) 0 (cellS A1 n c1 y).toArray.toList = u := ⟨_, rfl⟩
        rw [hw9] at hrx hkx HPX
        have HRX := Lib.hid hrx; have HKX := Lib.hid hkx; have HW9 := Lib.hid hw9
        clear hrx hkx hw9 HR HK HUU
        go_wp2_with (first | rw [HU9.out] | (refine wpList_load_mid rfl 33 _ rfl w.heap.size 0 rfl _ _ HS.out.r Tryz.underlying33 rfl (step_size A1 n c1 _) ?_) | (refine wpList_store_mid rfl 33 _ _ rfl (w.heap.size + 1) 0 _ rfl rfl HTH.out (step_sizeA A1 n c1 _) (cellS_one A1 n c1 _) ?_; rw [HW9.out]))
        try simp only [Exit.inBlock, Exit.then]
        exact bodyPost_ret (results_step rfl _ rfl HRX.out) rfl ⟨A1, n, c1, by rw [HY.out], by rw [HY.out, HYL.out]; exact HPX.out, HKX.out⟩
      · have c12 := HS.out.c12
        go_wp2_with fail
        clear c12
        refine soloE HE.out ?_
        rw [wpPlan_one]
        simp only [pA, pB, pC, pD, pE]
        have c13 := HS.out.c13
        go_wp2_with fail
        clear c13
        refine soloE HE.out ?_
        rw [wpPlan_read]
        simp only [pA, pB, pC, pD, pE]
        repeat (go_big_quiet_step (fail))
        refine wpQuiet_nil ?_
        rw [wpPlan_one]
        simp only [pA, pB, pC, pD, pE]
        have c12 := HS.out.c12; have cf := HS.out.f
        go_wp2_with fail
        clear cf c12
        have hs9 := HS.out.setF x.b
        replace HR := Lib.hid (HR.out.far (g := w.heap.size) (i := 12) N1.out (.int .i64 x.b))
        replace HK := Lib.hid (HK.out.setCell (a := ⟨w.heap.size, 12, none⟩) (Nat.le_refl _) (.int .i64 x.b))
        replace HE := Lib.hid (HE.out.set (a := ⟨w.heap.size, 12, none⟩) (.inl rfl) (.int .i64 x.b))
        replace HP1 := Lib.hid (HP1.out.setLow HB1.out w.heap.size 12 (by omega) (.int .i64 x.b))
        obtain ⟨v0, hv0⟩ : ∃ u, (World.setCell wd ⟨w.heap.size, 12, none⟩ (.int .i64 x.b)) = u := ⟨_, rfl⟩
        rw [hv0] at hs9 HR HK HE HP1 ⊢
        have HV0 := Lib.hid hv0
        replace HS := Lib.hid hs9
        clear hv0 hs9
        refine soloE HE.out ?_
        rw [wpPlan_read]
        simp only [pA, pB, pC, pD, pE]
        repeat (go_big_quiet_step (fail))
        refine wpQuiet_nil ?_
        rw [wpPlan_one]
        simp only [pA, pB, pC, pD, pE]
        have c13 := HS.out.c13; have cf := HS.out.f
        go_wp2_with fail
        clear cf c13
        have hs9 := HS.out.setG x.a
        replace HR := Lib.hid (HR.out.far (g := w.heap.size) (i := 13) N1.out (.int .i64 x.a))
        replace HK := Lib.hid (HK.out.setCell (a := ⟨w.heap.size, 13, none⟩) (Nat.le_refl _) (.int .i64 x.a))
        replace HE := Lib.hid (HE.out.set (a := ⟨w.heap.size, 13, none⟩) (.inl rfl) (.int .i64 x.a))
        replace HP1 := Lib.hid (HP1.out.setLow HB1.out w.heap.size 13 (by omega) (.int .i64 x.a))
        obtain ⟨v1, hv1⟩ : ∃ u, (World.setCell v0 ⟨w.heap.size, 13, none⟩ (.int .i64 x.a)) = u := ⟨_, rfl⟩
        rw [hv1] at hs9 HR HK HE HP1 ⊢
        have HV1 := Lib.hid hv1
        replace HS := Lib.hid hs9
        clear hv1 hs9
        refine soloE HE.out ?_
        rw [wpPlan_read]
        simp only [pA, pB, pC, pD, pE]
        repeat (go_big_quiet_step (fail))
        refine wpQuiet_nil ?_
        rw [wpPlan_one]
        simp only [pA, pB, pC, pD, pE]
        have c14 := HS.out.c14; have c15 := HS.out.c15; have c16 := HS.out.c16; have c17 := HS.out.c17; have c18 := HS.out.c18; have c19 := HS.out.c19; have c20 := HS.out.c20; have c21 := HS.out.c21; have c22 := HS.out.c22; have cf := HS.out.f
        go_wp2_with fail
        clear cf c14 c15 c16 c17 c18 c19 c20 c21 c22
        have hs9 := HS.out.setTT A1 n c1 ⟨x.T.L, x.T.keep, x.T.d, x.T.b, !x.T.tu⟩
        replace HR := Lib.hid (HR.out.farT N1.out A1 n c1 ⟨x.T.L, x.T.keep, x.T.d, x.T.b, !x.T.tu⟩)
        replace HK := Lib.hid (HK.out.setTT (Nat.le_refl _) A1 n c1 ⟨x.T.L, x.T.keep, x.T.d, x.T.b, !x.T.tu⟩)
        replace HE := Lib.hid (HE.out.setTT A1 n c1 ⟨x.T.L, x.T.keep, x.T.d, x.T.b, !x.T.tu⟩)
        replace HP1 := Lib.hid (HP1.out.setTT (g := w.heap.size) HB1.out (by omega) A1 n c1 ⟨x.T.L, x.T.keep, x.T.d, x.T.b, !x.T.tu⟩)
        obtain ⟨u9, hu9⟩ : ∃ u, stT v1 w.heap.size A1 n c1 ⟨x.T.L, x.T.keep, x.T.d, x.T.b, !x.T.tu⟩ = u := ⟨_, rfl⟩
        simp only at hs9
        rw [hu9] at hs9 HR HK HE HP1
        simp only [stT] at hu9
        rw [hu9]
        have HU9 := Lib.hid hu9
        replace HS := Lib.hid hs9
        clear hu9 hs9
        refine soloE HE.out ?_
        refine wpPlan_stop ?_
        obtain ⟨y, hy⟩ : ∃ y : St, ({ x with a := x.b, b := x.a, T := ⟨x.T.L, x.T.keep, x.T.d, x.T.b, !x.T.tu⟩ } : St) = y := ⟨_, rfl⟩
        have HY := Lib.hid (show turnSt x = y by rw [← hy]; exact HTS.out)
        rw [hy] at HS
        have HYL := Lib.hid (show y.T.L = x.T.L by rw [← hy])
        clear hy
        have hrx := HR.out.over A1 n c1 y
        have hkx := Kept.setCells (b := w.heap.size + 1) (by omega) (cellS A1 n c1 y).toArray.toList 0 _ HK.out
        have HTH := Lib.hid (HR.out.there A1 n c1 y)
        have HPX := Lib.hid (Pal.setLows HB1.out (b := w.heap.size + 1) (by omega) (cellS A1 n c1 y).toArray.toList 0 u9 HP1.out)
        obtain ⟨w9, hw9⟩ : ∃ u, World.setCells u9 (w.heap.size + 1) 0 (cellS A1 n c1 y).toArray.toList = u := ⟨_, rfl⟩
        rw [hw9] at hrx hkx HPX
        have HRX := Lib.hid hrx; have HKX := Lib.hid hkx; have HW9 := Lib.hid hw9
        clear hrx hkx hw9 HR HK HUU
        go_wp2_with (first | rw [HU9.out] | (refine wpList_load_mid rfl 33 _ rfl w.heap.size 0 rfl _ _ HS.out.r Tryz.underlying33 rfl (step_size A1 n c1 _) ?_) | (refine wpList_store_mid rfl 33 _ _ rfl (w.heap.size + 1) 0 _ rfl rfl HTH.out (step_sizeA A1 n c1 _) (cellS_one A1 n c1 _) ?_; rw [HW9.out]))
        try simp only [Exit.inBlock, Exit.then]
        exact bodyPost_ret (results_step rfl _ rfl HRX.out) rfl ⟨A1, n, c1, by rw [HY.out], by rw [HY.out, HYL.out]; exact HPX.out, HKX.out⟩
end Go.Proofs.YtofnpifooaijcaaGreat
