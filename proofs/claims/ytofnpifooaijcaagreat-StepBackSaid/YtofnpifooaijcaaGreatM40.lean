/-
  What is proved: package step's Turn (P14.4), at a step of the kind 2
  package step's Turn (P14.4), at a step of the kind 3
-/
import Derived.Test.YtofnpifooaijcaaGreatM16
namespace Go.Proofs.YtofnpifooaijcaaGreat
open Go.RowKit
set_option linter.unusedVariables false
set_option maxRecDepth 100000 in
set_option maxHeartbeats 16000000 in
theorem sturn2 (A : Option Addr) (n c : Nat) (x : St) (w : World) (h : Pal w A n c x.T.L) (hxp : x.p.size ≤ 2000) (hnm : x.nm.size ≤ 2000) (hT : SzT x.T) (q : x.k = 2) :
    Calls Tryz.prog 18 #[.agg (cellS A n c x).toArray] w (TurnE x w) := by
  have hk := ((Kept.refl w).alloc (cellS A n c x).toArray 33).alloc #[.int .i64 0, .string ⟨#[]⟩, .string ⟨#[]⟩, .string ⟨#[]⟩, .int .i64 0, .int .i64 0, .int .i64 0, .int .i64 0, .string ⟨#[]⟩, .int .i64 0, .int .i64 0, .string ⟨#[]⟩, .int .i64 0, .int .i64 0, .slice none 0 0, .bool false, .int .i64 0, .int .i64 0, .string ⟨#[]⟩, .int .i64 0, .int .i64 0, .string ⟨#[]⟩, .bool false] 33
  have hs := (StB.new w A n c x 33).kept ((Kept.refl _).alloc #[.int .i64 0, .string ⟨#[]⟩, .string ⟨#[]⟩, .string ⟨#[]⟩, .int .i64 0, .int .i64 0, .int .i64 0, .int .i64 0, .string ⟨#[]⟩, .int .i64 0, .int .i64 0, .string ⟨#[]⟩, .int .i64 0, .int .i64 0, .slice none 0 0, .bool false, .int .i64 0, .int .i64 0, .string ⟨#[]⟩, .int .i64 0, .int .i64 0, .string ⟨#[]⟩, .bool false] 33)
  have hr := StB.zero (w.alloc (.cells (cellS A n c x).toArray 33)) 33
  rw [show (w.alloc (.cells (cellS A n c x).toArray 33)).heap.size = w.heap.size + 1 by simp] at hr
  obtain ⟨U, hU⟩ : ∃ U, (w.alloc (.cells (cellS A n c x).toArray 33)).alloc (.cells #[.int .i64 0, .string ⟨#[]⟩, .string ⟨#[]⟩, .string ⟨#[]⟩, .int .i64 0, .int .i64 0, .int .i64 0, .int .i64 0, .string ⟨#[]⟩, .int .i64 0, .int .i64 0, .string ⟨#[]⟩, .int .i64 0, .int .i64 0, .slice none 0 0, .bool false, .int .i64 0, .int .i64 0, .string ⟨#[]⟩, .int .i64 0, .int .i64 0, .string ⟨#[]⟩, .bool false] 33) = U := ⟨_, rfl⟩
  rw [hU] at hk hs hr
  obtain ⟨m, hm⟩ : ∃ m, (L4.splS x.p).length = m := ⟨_, rfl⟩
  obtain ⟨pt, hto⟩ : ∃ p, moveS x x.p = p := ⟨_, rfl⟩
  have A1 := Lib.hid (fun w => spl_n x.p m hm (by omega) w)
  have A2 := Lib.hid (fun w => smove_any x.p A n c x w hxp hxp hnm pt hto)
  have hmm : m ≤ 2001 := by rw [← hm]; have := L4.splS_le x.p; omega
  have hm1 : 1 ≤ m := by rw [← hm]; exact L4.splS_pos x.p
  have HM := Lib.hid hm; have HTO := Lib.hid hto
  have HK := Lib.hid hk; have HS := Lib.hid hs; have HR := Lib.hid hr; have HUU := Lib.hid hU; have HPW := Lib.hid h; have HP := Lib.hid (h.kept hk); have HTZ := Lib.hid hT
  have N1 := Lib.hid (show w.heap.size ≠ w.heap.size + 1 by omega)
  clear hk hs hr hU hm hto hxp hnm h hT
  have c1 := HS.out.c1
  go_enter Tryz.func18, Tryz.ntmps18
  go_wp2_with (rw [HUU.out])
  go_at_call 51
  refine (A1.out _).mono ?_
  rintro e u1 ⟨b1, c3, rfl, hs1, hk⟩
  have HSL := Lib.hid hs1
  have hc1 := hs1.2.1; have hc2 := hs1.2.2.1
  replace HK := Lib.hid (HK.out.trans hk); replace HS := Lib.hid (HS.out.kept hk); replace HR := Lib.hid (HR.out.kept hk); replace HP := Lib.hid (HP.out.kept hk)
  clear hs1 hk c1
  have c1 := HS.out.c1
  go_wp2_with (refine wpList_load_mid rfl 33 _ rfl w.heap.size 0 rfl _ _ HS.out.r Tryz.underlying33 rfl (step_size A n c x) ?_)
  go_at_call 12
  refine (A2.out _).mono ?_
  rintro e u2 ⟨rfl, hk⟩
  replace HK := Lib.hid (HK.out.trans hk); replace HS := Lib.hid (HS.out.kept hk); replace HR := Lib.hid (HR.out.kept hk); replace HP := Lib.hid (HP.out.kept hk)
  replace HSL := Lib.hid (sl_kept HSL.out hk)
  clear hk c1
  have c0 := HS.out.c0
  by_cases h2 : 2 ≤ m
  · have HTS := Lib.hid (St.turn2 q HM.out h2)
    rw [HTO.out] at HTS
    obtain ⟨g, hg⟩ : ∃ g, L4.sg x.p (m - 2) = g := ⟨_, rfl⟩
    rw [hg] at HTS
    have hcell : u2.cell? ⟨b1, m - 2, none⟩ = some (.string g) := by have := HSL.out.get (k := m - 2) (by omega); rw [Nat.zero_add] at this; rw [this, ← hg]; rfl
    have hnb : b1 ≠ w.heap.size := fun e => by
      have h1 := HSL.out.get (k := 0) (by omega)
      rw [Nat.zero_add, e] at h1
      have h2 := HS.out.c0
      rw [h1] at h2
      cases h2
    have C5 := KExtE.cell (b := w.heap.size) hnb hcell
    have w1 : IntKind.i64.wrap ((m : Int) - 2) = ((m - 2 : Nat) : Int) := by rw [IntWalk.i64_in _ (by omega)]; omega
    have hix : ((m : Int) - 2).toNat = m - 2 := by omega
    have hin : m - 2 < m := by omega
    have n11 : (x.k == 1) = false := by simp; omega
    have n12 : decide (x.k = 1) = false := decide_eq_false (by omega)
    have e21 : (x.k == 2) = true := by rw [q]; rfl
    have e22 : decide (x.k = 2) = true := decide_eq_true q
    have t1 : decide ((2 : Int) ≤ (m : Int)) = true := decide_eq_true (by omega)
    have t2 : decide (2 ≤ m) = true := decide_eq_true h2
    clear q hg hcell hnb
    go_wp2_with fail
    clear c0
    refine region_planE w.heap.size u2 12 (.read [0, 1, 2, 3, 4, 5, 6] (.one 7 (.read [8] (.one 9 (.read [10] (.one 11 .stop)))))) (by kernel_rfl) (by kernel_rfl) (by kernel_rfl) (by kernel_rfl) (by kernel_rfl) (fun _ d _ _ _ h => by cases d <;> exact h) (Kept.refl _) ?_
    intro wd hwd
    have HE := Lib.hid (KeptE.of (G := w.heap.size) hwd)
    replace HS := Lib.hid (HS.out.kept hwd); replace HR := Lib.hid (HR.out.kept hwd); replace HK := Lib.hid (HK.out.trans hwd)
    clear hwd
    rw [wpPlan_read]
    simp only [pA, pB, pC, pD, pE]
    repeat (go_big_quiet_step (fail))
    refine wpQuiet_nil ?_
    clear C5
    rw [wpPlan_one]
    simp only [pA, pB, pC, pD, pE]
    have ci := HS.out.c0; have cf := HS.out.f
    go_wp2_with fail
    clear ci cf
    replace HE := Lib.hid (HE.out.set (a := ⟨w.heap.size, 0, none⟩) (.inl rfl) (.int .i64 3))
    replace HS := Lib.hid (HS.out.setK 3)
    replace HR := Lib.hid (HR.out.far (g := w.heap.size) (i := 0) N1.out (.int .i64 3))
    replace HK := Lib.hid (HK.out.setCell (a := ⟨w.heap.size, 0, none⟩) (Nat.le_refl _) (.int .i64 3))
    obtain ⟨v0, hv0⟩ : ∃ u, (World.setCell wd ⟨w.heap.size, 0, none⟩ (.int .i64 3)) = u := ⟨_, rfl⟩
    rw [hv0] at HS HR HK HE ⊢
    have HV0 := Lib.hid hv0
    clear hv0
    refine soloE HE.out ?_
    rw [wpPlan_read]
    simp only [pA, pB, pC, pD, pE]
    repeat (go_big_quiet_step (fail))
    refine wpQuiet_nil ?_
    rw [wpPlan_one]
    simp only [pA, pB, pC, pD, pE]
    have ci := HS.out.c1; have cf := HS.out.f
    go_wp2_with fail
    clear ci cf
    replace HE := Lib.hid (HE.out.set (a := ⟨w.heap.size, 1, none⟩) (.inl rfl) (.string pt))
    replace HS := Lib.hid (HS.out.setP pt)
    replace HR := Lib.hid (HR.out.far (g := w.heap.size) (i := 1) N1.out (.string pt))
    replace HK := Lib.hid (HK.out.setCell (a := ⟨w.heap.size, 1, none⟩) (Nat.le_refl _) (.string pt))
    obtain ⟨v1, hv1⟩ : ∃ u, (World.setCell v0 ⟨w.heap.size, 1, none⟩ (.string pt)) = u := ⟨_, rfl⟩
    rw [hv1] at HS HR HK HE ⊢
    have HV1 := Lib.hid hv1
    clear hv1
    refine soloE HE.out ?_
    rw [wpPlan_read]
    simp only [pA, pB, pC, pD, pE]
    repeat (go_big_quiet_step (fail))
    refine wpQuiet_nil ?_
    rw [wpPlan_one]
    simp only [pA, pB, pC, pD, pE]
    have ci := HS.out.c2; have cf := HS.out.f
    go_wp2_with fail
    clear ci cf
    replace HE := Lib.hid (HE.out.set (a := ⟨w.heap.size, 2, none⟩) (.inl rfl) (.string g))
    replace HS := Lib.hid (HS.out.setN g)
    replace HR := Lib.hid (HR.out.far (g := w.heap.size) (i := 2) N1.out (.string g))
    replace HK := Lib.hid (HK.out.setCell (a := ⟨w.heap.size, 2, none⟩) (Nat.le_refl _) (.string g))
    obtain ⟨u9, hu9⟩ : ∃ u, (World.setCell v1 ⟨w.heap.size, 2, none⟩ (.string g)) = u := ⟨_, rfl⟩
    rw [hu9] at HS HR HK HE ⊢
    have HU9 := Lib.hid hu9
    clear hu9
    refine soloE HE.out ?_
    refine wpPlan_stop ?_
    obtain ⟨y, hy⟩ : ∃ y : St, { x with k := 3, p := pt, nm := g } = y := ⟨_, rfl⟩
    have HY := Lib.hid (show turnSt x = y by rw [← hy]; exact HTS.out)
    rw [hy] at HS
    have HYL := Lib.hid (show y.T.L = x.T.L by rw [← hy])
    clear hy
    have hrx := HR.out.over A n c y
    have hkx := Kept.setCells (b := w.heap.size + 1) (by omega) (cellS A n c y).toArray.toList 0 _ HK.out
    have HTH := Lib.hid (HR.out.there A n c y)
    have HPX := Lib.hid (HPW.out.kept hkx)
    obtain ⟨w9, hw9⟩ : ∃ u, World.setCells u9 (w.heap.size + 1) 0 (cellS A n c y).toArray.toList = u := ⟨_, rfl⟩
    rw [hw9] at hrx hkx HPX
    have HRX := Lib.hid hrx; have HKX := Lib.hid hkx; have HW9 := Lib.hid hw9
    clear hrx hkx hw9 HR HK HUU
    go_wp2_with (first | rw [HU9.out] | (refine wpList_load_mid rfl 33 _ rfl w.heap.size 0 rfl _ _ HS.out.r Tryz.underlying33 rfl (step_size A n c _) ?_) | (refine wpList_store_mid rfl 33 _ _ rfl (w.heap.size + 1) 0 _ rfl rfl HTH.out (step_sizeA A n c _) (cellS_one A n c _) ?_; rw [HW9.out]))
    try simp only [Exit.inBlock, Exit.then]
    exact bodyPost_ret (results_step rfl _ rfl HRX.out) rfl ⟨A, n, c, by rw [HY.out], by rw [HY.out, HYL.out]; exact HPX.out, HKX.out⟩
  · have HTS := Lib.hid (St.turn2n q HM.out h2)
    have n11 : (x.k == 1) = false := by simp; omega
    have n12 : decide (x.k = 1) = false := decide_eq_false (by omega)
    have e21 : (x.k == 2) = true := by rw [q]; rfl
    have e22 : decide (x.k = 2) = true := decide_eq_true q
    have t1 : decide ((2 : Int) ≤ (m : Int)) = false := decide_eq_false (by omega)
    have t2 : decide (2 ≤ m) = false := decide_eq_false h2
    clear q h2
    have hrx := HR.out.over A n c x
    have hkx := Kept.setCells (b := w.heap.size + 1) (by omega) (cellS A n c x).toArray.toList 0 _ HK.out
    have HTH := Lib.hid (HR.out.there A n c x)
    have HPX := Lib.hid (HPW.out.kept hkx)
    obtain ⟨w9, hw9⟩ : ∃ u, World.setCells u2 (w.heap.size + 1) 0 (cellS A n c x).toArray.toList = u := ⟨_, rfl⟩
    rw [hw9] at hrx hkx HPX
    have HRX := Lib.hid hrx; have HKX := Lib.hid hkx; have HW9 := Lib.hid hw9
    clear hrx hkx hw9 HR HK HUU
    go_wp2_with (first | (refine wpList_load_mid rfl 33 _ rfl w.heap.size 0 rfl _ _ HS.out.r Tryz.underlying33 rfl (step_size A n c _) ?_) | (refine wpList_store_mid rfl 33 _ _ rfl (w.heap.size + 1) 0 _ rfl rfl HTH.out (step_sizeA A n c _) (cellS_one A n c _) ?_; rw [HW9.out]))
    try simp only [Exit.inBlock, Exit.then]
    exact bodyPost_ret (results_step rfl _ rfl HRX.out) rfl ⟨A, n, c, by rw [HTS.out], by rw [HTS.out]; exact HPX.out, HKX.out⟩
set_option maxRecDepth 100000 in
set_option maxHeartbeats 16000000 in
theorem sturn3 (A : Option Addr) (n c : Nat) (x : St) (w : World) (h : Pal w A n c x.T.L) (hxp : x.p.size ≤ 2000) (hnm : x.nm.size ≤ 2000) (hT : SzT x.T) (q : x.k = 3) :
    Calls Tryz.prog 18 #[.agg (cellS A n c x).toArray] w (TurnE x w) := by
  have hk := ((Kept.refl w).alloc (cellS A n c x).toArray 33).alloc #[.int .i64 0, .string ⟨#[]⟩, .string ⟨#[]⟩, .string ⟨#[]⟩, .int .i64 0, .int .i64 0, .int .i64 0, .int .i64 0, .string ⟨#[]⟩, .int .i64 0, .int .i64 0, .string ⟨#[]⟩, .int .i64 0, .int .i64 0, .slice none 0 0, .bool false, .int .i64 0, .int .i64 0, .string ⟨#[]⟩, .int .i64 0, .int .i64 0, .string ⟨#[]⟩, .bool false] 33
  have hs := (StB.new w A n c x 33).kept ((Kept.refl _).alloc #[.int .i64 0, .string ⟨#[]⟩, .string ⟨#[]⟩, .string ⟨#[]⟩, .int .i64 0, .int .i64 0, .int .i64 0, .int .i64 0, .string ⟨#[]⟩, .int .i64 0, .int .i64 0, .string ⟨#[]⟩, .int .i64 0, .int .i64 0, .slice none 0 0, .bool false, .int .i64 0, .int .i64 0, .string ⟨#[]⟩, .int .i64 0, .int .i64 0, .string ⟨#[]⟩, .bool false] 33)
  have hr := StB.zero (w.alloc (.cells (cellS A n c x).toArray 33)) 33
  rw [show (w.alloc (.cells (cellS A n c x).toArray 33)).heap.size = w.heap.size + 1 by simp] at hr
  obtain ⟨U, hU⟩ : ∃ U, (w.alloc (.cells (cellS A n c x).toArray 33)).alloc (.cells #[.int .i64 0, .string ⟨#[]⟩, .string ⟨#[]⟩, .string ⟨#[]⟩, .int .i64 0, .int .i64 0, .int .i64 0, .int .i64 0, .string ⟨#[]⟩, .int .i64 0, .int .i64 0, .string ⟨#[]⟩, .int .i64 0, .int .i64 0, .slice none 0 0, .bool false, .int .i64 0, .int .i64 0, .string ⟨#[]⟩, .int .i64 0, .int .i64 0, .string ⟨#[]⟩, .bool false] 33) = U := ⟨_, rfl⟩
  rw [hU] at hk hs hr
  obtain ⟨m, hm⟩ : ∃ m, (L4.splS x.p).length = m := ⟨_, rfl⟩
  obtain ⟨pt, hto⟩ : ∃ p, moveS x x.p = p := ⟨_, rfl⟩
  have A1 := Lib.hid (fun w => spl_n x.p m hm (by omega) w)
  have A2 := Lib.hid (fun w => smove_any x.p A n c x w hxp hxp hnm pt hto)
  have hmm : m ≤ 2001 := by rw [← hm]; have := L4.splS_le x.p; omega
  have hm1 : 1 ≤ m := by rw [← hm]; exact L4.splS_pos x.p
  have HM := Lib.hid hm; have HTO := Lib.hid hto
  have HK := Lib.hid hk; have HS := Lib.hid hs; have HR := Lib.hid hr; have HUU := Lib.hid hU; have HPW := Lib.hid h; have HP := Lib.hid (h.kept hk); have HTZ := Lib.hid hT
  have N1 := Lib.hid (show w.heap.size ≠ w.heap.size + 1 by omega)
  clear hk hs hr hU hm hto hxp hnm h hT
  have c1 := HS.out.c1
  go_enter Tryz.func18, Tryz.ntmps18
  go_wp2_with (rw [HUU.out])
  go_at_call 51
  refine (A1.out _).mono ?_
  rintro e u1 ⟨b1, c3, rfl, hs1, hk⟩
  have HSL := Lib.hid hs1
  have hc1 := hs1.2.1; have hc2 := hs1.2.2.1
  replace HK := Lib.hid (HK.out.trans hk); replace HS := Lib.hid (HS.out.kept hk); replace HR := Lib.hid (HR.out.kept hk); replace HP := Lib.hid (HP.out.kept hk)
  clear hs1 hk c1
  have c1 := HS.out.c1
  go_wp2_with (refine wpList_load_mid rfl 33 _ rfl w.heap.size 0 rfl _ _ HS.out.r Tryz.underlying33 rfl (step_size A n c x) ?_)
  go_at_call 12
  refine (A2.out _).mono ?_
  rintro e u2 ⟨rfl, hk⟩
  replace HK := Lib.hid (HK.out.trans hk); replace HS := Lib.hid (HS.out.kept hk); replace HR := Lib.hid (HR.out.kept hk); replace HP := Lib.hid (HP.out.kept hk)
  replace HSL := Lib.hid (sl_kept HSL.out hk)
  clear hk c1
  have c0 := HS.out.c0
  have n11 : (x.k == 1) = false := by simp; omega
  have n12 : decide (x.k = 1) = false := decide_eq_false (by omega)
  have n21 : (x.k == 2) = false := by simp; omega
  have n22 : decide (x.k = 2) = false := decide_eq_false (by omega)
  have e31 : (x.k == 3) = true := by rw [q]; rfl
  have e32 : decide (x.k = 3) = true := decide_eq_true q
  have HTS := Lib.hid (St.turn3 q)
  rw [HTO.out] at HTS
  clear q
  have cf := HS.out.f; have c1 := HS.out.c1; have c2 := HS.out.c2
  replace HS := Lib.hid (((HS.out.setK 2).setP pt).setN ⟨#[]⟩)
  replace HR := Lib.hid (((HR.out.far (g := w.heap.size) (i := 0) N1.out (.int .i64 2)).far (g := w.heap.size) (i := 1) N1.out (.string pt)).far (g := w.heap.size) (i := 2) N1.out (.string ⟨#[]⟩))
  replace HK := Lib.hid (((HK.out.setCell (a := ⟨w.heap.size, 0, none⟩) (Nat.le_refl _) (.int .i64 2)).setCell (a := ⟨w.heap.size, 1, none⟩) (Nat.le_refl _) (.string pt)).setCell (a := ⟨w.heap.size, 2, none⟩) (Nat.le_refl _) (.string ⟨#[]⟩))
  obtain ⟨u9, hu9⟩ : ∃ u, (World.setCell (World.setCell (World.setCell u2 ⟨w.heap.size, 0, none⟩ (.int .i64 2)) ⟨w.heap.size, 1, none⟩ (.string pt)) ⟨w.heap.size, 2, none⟩ (.string ⟨#[]⟩)) = u := ⟨_, rfl⟩
  rw [hu9] at HS HR HK
  have HU9 := Lib.hid hu9
  clear hu9
  obtain ⟨y, hy⟩ : ∃ y : St, { x with k := 2, p := pt, nm := ⟨#[]⟩ } = y := ⟨_, rfl⟩
  have HY := Lib.hid (show turnSt x = y by rw [← hy]; exact HTS.out)
  rw [hy] at HS
  have HYL := Lib.hid (show y.T.L = x.T.L by rw [← hy])
  clear hy
  have hrx := HR.out.over A n c y
  have hkx := Kept.setCells (b := w.heap.size + 1) (by omega) (cellS A n c y).toArray.toList 0 _ HK.out
  have HTH := Lib.hid (HR.out.there A n c y)
  have HPX := Lib.hid (HPW.out.kept hkx)
  obtain ⟨w9, hw9⟩ : ∃ u, World.setCells u9 (w.heap.size + 1) 0 (cellS A n c y).toArray.toList = u := ⟨_, rfl⟩
  rw [hw9] at hrx hkx HPX
  have HRX := Lib.hid hrx; have HKX := Lib.hid hkx; have HW9 := Lib.hid hw9
  clear hrx hkx hw9 HR HK HUU
  go_wp2_with (first | rw [HU9.out] | (refine wpList_load_mid rfl 33 _ rfl w.heap.size 0 rfl _ _ HS.out.r Tryz.underlying33 rfl (step_size A n c _) ?_) | (refine wpList_store_mid rfl 33 _ _ rfl (w.heap.size + 1) 0 _ rfl rfl HTH.out (step_sizeA A n c _) (cellS_one A n c _) ?_; rw [HW9.out]))
  try simp only [Exit.inBlock, Exit.then]
  exact bodyPost_ret (results_step rfl _ rfl HRX.out) rfl ⟨A, n, c, by rw [HY.out], by rw [HY.out, HYL.out]; exact HPX.out, HKX.out⟩
end Go.Proofs.YtofnpifooaijcaaGreat
