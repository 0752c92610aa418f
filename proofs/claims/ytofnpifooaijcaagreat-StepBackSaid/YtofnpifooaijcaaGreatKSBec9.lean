/-
  What is proved: package step's become (a part of P14.3), called with any field and a step of the kind 9 of bounded lengths, returns the field turned and whether it fits; the world has new blocks at most.
-/
import Derived.Test.YtofnpifooaijcaaGreatM16
import Derived.Test.YtofnpifooaijcaaGreatM12
namespace Go.Proofs.YtofnpifooaijcaaGreat
open Go.RowKit
set_option linter.unusedVariables false
set_option maxRecDepth 100000 in
set_option maxHeartbeats 16000000 in
theorem sbec_9 (A : Option Addr) (n c : Nat) (x : St) (f : Fd) (w : World) (hp : f.p.size ≤ 2000) (hxp : x.p.size ≤ 2000) (hnm : x.nm.size ≤ 2000) (g : Fd) (z : Bool) (q : x.k = 9) (hg : f.withD 1 f.t x.d = g) (hz : z = true ↔ f.k = 2) :
    Calls Tryz.prog 89 #[.agg #[.string f.p, .int .i64 f.k, .int .i64 f.t, .int .i64 f.vk, .int .i64 f.vn, .string f.vt], .agg (cellS A n c x).toArray] w fun e w' => e = .returned (.tuple #[.agg #[.string g.p, .int .i64 g.k, .int .i64 g.t, .int .i64 g.vk, .int .i64 g.vn, .string g.vt], .bool z]) ∧ Kept w w' := by
  have hk := ((((Kept.refl w).alloc #[.string f.p, .int .i64 f.k, .int .i64 f.t, .int .i64 f.vk, .int .i64 f.vn, .string f.vt] 28).alloc (cellS A n c x).toArray 33).alloc #[.string ⟨#[]⟩, .int .i64 0, .int .i64 0, .int .i64 0, .int .i64 0, .string ⟨#[]⟩] 28).alloc #[.string f.p, .int .i64 f.k, .int .i64 f.t, .int .i64 f.vk, .int .i64 f.vn, .string f.vt] 28
  have hf := (((FdB.new w f 28).kept ((Kept.refl _).alloc (cellS A n c x).toArray 33)).kept ((Kept.refl _).alloc #[.string ⟨#[]⟩, .int .i64 0, .int .i64 0, .int .i64 0, .int .i64 0, .string ⟨#[]⟩] 28)).kept ((Kept.refl _).alloc #[.string f.p, .int .i64 f.k, .int .i64 f.t, .int .i64 f.vk, .int .i64 f.vn, .string f.vt] 28)
  have hs := ((StB.new (w.alloc (.cells #[.string f.p, .int .i64 f.k, .int .i64 f.t, .int .i64 f.vk, .int .i64 f.vn, .string f.vt] 28)) A n c x 33).kept ((Kept.refl _).alloc #[.string ⟨#[]⟩, .int .i64 0, .int .i64 0, .int .i64 0, .int .i64 0, .string ⟨#[]⟩] 28)).kept ((Kept.refl _).alloc #[.string f.p, .int .i64 f.k, .int .i64 f.t, .int .i64 f.vk, .int .i64 f.vn, .string f.vt] 28)
  have hr := (FdB.new ((w.alloc (.cells #[.string f.p, .int .i64 f.k, .int .i64 f.t, .int .i64 f.vk, .int .i64 f.vn, .string f.vt] 28)).alloc (.cells (cellS A n c x).toArray 33)) .none 28).kept ((Kept.refl _).alloc #[.string f.p, .int .i64 f.k, .int .i64 f.t, .int .i64 f.vk, .int .i64 f.vn, .string f.vt] 28)
  have ho := FdB.new (((w.alloc (.cells #[.string f.p, .int .i64 f.k, .int .i64 f.t, .int .i64 f.vk, .int .i64 f.vn, .string f.vt] 28)).alloc (.cells (cellS A n c x).toArray 33)).alloc (.cells #[.string ⟨#[]⟩, .int .i64 0, .int .i64 0, .int .i64 0, .int .i64 0, .string ⟨#[]⟩] 28)) f 28
  have hf0 := ((FdB.new w f 28).kept ((Kept.refl _).alloc (cellS A n c x).toArray 33)).kept ((Kept.refl _).alloc #[.string ⟨#[]⟩, .int .i64 0, .int .i64 0, .int .i64 0, .int .i64 0, .string ⟨#[]⟩] 28)
  simp only [Fd.none] at hr
  rw [show (w.alloc (.cells #[.string f.p, .int .i64 f.k, .int .i64 f.t, .int .i64 f.vk, .int .i64 f.vn, .string f.vt] 28)).heap.size = w.heap.size + 1 by simp] at hs
  rw [show ((w.alloc (.cells #[.string f.p, .int .i64 f.k, .int .i64 f.t, .int .i64 f.vk, .int .i64 f.vn, .string f.vt] 28)).alloc (.cells (cellS A n c x).toArray 33)).heap.size = w.heap.size + 2 by simp] at hr
  rw [show (((w.alloc (.cells #[.string f.p, .int .i64 f.k, .int .i64 f.t, .int .i64 f.vk, .int .i64 f.vn, .string f.vt] 28)).alloc (.cells (cellS A n c x).toArray 33)).alloc (.cells #[.string ⟨#[]⟩, .int .i64 0, .int .i64 0, .int .i64 0, .int .i64 0, .string ⟨#[]⟩] 28)).heap.size = w.heap.size + 3 by simp] at ho
  obtain ⟨U, hU⟩ : ∃ U, ((w.alloc (.cells #[.string f.p, .int .i64 f.k, .int .i64 f.t, .int .i64 f.vk, .int .i64 f.vn, .string f.vt] 28)).alloc (.cells (cellS A n c x).toArray 33)).alloc (.cells #[.string ⟨#[]⟩, .int .i64 0, .int .i64 0, .int .i64 0, .int .i64 0, .string ⟨#[]⟩] 28) = U := ⟨_, rfl⟩
  rw [hU] at hk hf hs hr ho hf0
  have hz3 : w.heap.size + 3 = U.heap.size := by rw [← hU]; simp
  have HZ3 := Lib.hid hz3
  clear hz3
  obtain ⟨V, hV⟩ : ∃ V, U.alloc (.cells #[.string f.p, .int .i64 f.k, .int .i64 f.t, .int .i64 f.vk, .int .i64 f.vn, .string f.vt] 28) = V := ⟨_, rfl⟩
  rw [hV] at hk hf hs hr ho
  have HK := Lib.hid hk; have HF := Lib.hid hf; have HS := Lib.hid hs; have HRB := Lib.hid hr; have HO := Lib.hid ho; have HUU := Lib.hid hU; have HVV := Lib.hid hV
  have HPZ := Lib.hid hp; have HXZ := Lib.hid hxp; have HNZ := Lib.hid hnm
  have HG0 := Lib.hid hf0
  have n1 : w.heap.size ≠ w.heap.size + 1 := by omega
  have n2 : w.heap.size ≠ w.heap.size + 2 := by omega
  have n3 : w.heap.size ≠ w.heap.size + 3 := by omega
  have n4 : w.heap.size + 2 ≠ w.heap.size + 3 := by omega
  have N1 := Lib.hid n1; have N2 := Lib.hid n2; have N3 := Lib.hid n3; have N4 := Lib.hid n4
  clear hk hf hs hr ho hU hV hp hxp hnm n1 n2 n3 n4 hf0
  have c0 := HS.out.c0
  have g0 := HG0.out.c0; have g1 := HG0.out.c1; have g2 := HG0.out.c2; have g3 := HG0.out.c3; have g4 := HG0.out.c4; have g5 := HG0.out.c5
  have HGG := Lib.hid hg
  have HZL := Lib.hid hz
  have n61 : (x.k == 6) = false := by rw [q]; rfl
  have n62 : decide (x.k = 6) = false := by rw [q]; rfl
  have n71 : (x.k == 7) = false := by rw [q]; rfl
  have n72 : decide (x.k = 7) = false := by rw [q]; rfl
  have n81 : (x.k == 8) = false := by rw [q]; rfl
  have n82 : decide (x.k = 8) = false := by rw [q]; rfl
  have e91 : (x.k == 9) = true := by rw [q]; rfl
  have e92 : decide (x.k = 9) = true := decide_eq_true q
  clear q hg hz
  have f0 := HF.out.c0; have f1 := HF.out.c1; have f2 := HF.out.c2; have f3 := HF.out.c3; have f4 := HF.out.c4; have f5 := HF.out.c5; have ff := HF.out.f
  by_cases q1 : f.k = 2
  · have HZZ := Lib.hid (show true = z from (HZL.out.2 q1).symm)
    have HFIN := Lib.hid (show Ending.returned (.tuple #[.agg #[.string f.p, .int .i64 1, .int .i64 f.t, .int .i64 x.d.k, .int .i64 x.d.n, .string x.d.t], .bool true]) = Ending.returned (.tuple #[.agg #[.string g.p, .int .i64 g.k, .int .i64 g.t, .int .i64 g.vk, .int .i64 g.vn, .string g.vt], .bool z]) by rw [← HGG.out, ← HZZ.out]; rfl)
    have q11 : (f.k == 2) = true := by rw [q1]; simp
    have q12 : (f.k != 2) = false := by rw [q1]; simp
    have q13 : decide (f.k = 2) = true := decide_eq_true q1
    clear q1
    go_enter Tryz.func89, Tryz.ntmps89
    go_wp2_with (first | rw [HUU.out] | rw [HVV.out])
    rw [← HZ3.out]
    clear c0
    clear g0 g1 g2 g3 g4 g5
    clear f0 f1 f2 f3 f4 f5 ff
    have hn1 := N1.out.symm
    have S9 := KExtE.cell (b := w.heap.size) hn1 HS.out.c9; have S10 := KExtE.cell (b := w.heap.size) hn1 HS.out.c10; have S11 := KExtE.cell (b := w.heap.size) hn1 HS.out.c11
    clear hn1
    refine region_planE w.heap.size V 6 (.read [0, 1, 2] (.one 3 (.read [4] (.one 5 .stop)))) (by kernel_rfl) (by kernel_rfl) (by kernel_rfl) (by kernel_rfl) (by kernel_rfl) (fun _ d _ _ _ h => by cases d <;> exact h) (Kept.refl _) ?_
    intro wd hwd
    have HV := Lib.hid (KeptE.of (G := w.heap.size) hwd)
    replace HF := Lib.hid (HF.out.kept hwd); replace HS := Lib.hid (HS.out.kept hwd); replace HRB := Lib.hid (HRB.out.kept hwd); replace HO := Lib.hid (HO.out.kept hwd); replace HK := Lib.hid (HK.out.trans hwd)
    clear hwd
    rw [wpPlan_read]
    simp only [pA, pB, pC, pD, pE]
    repeat (go_big_quiet_step (fail))
    refine wpQuiet_nil ?_
    clear S9 S10 S11
    rw [wpPlan_one]
    simp only [pA, pB, pC, pD, pE]
    have f1 := HF.out.c1; have ff := HF.out.f
    go_wp2_with fail
    clear f1 ff
    replace HV := Lib.hid (HV.out.set (a := ⟨w.heap.size, 1, none⟩) (.inl rfl) (.int .i64 1))
    replace HF := Lib.hid (HF.out.setKi 1)
    replace HS := Lib.hid ((HS.out).far (i := 1) N1.out (.int .i64 1))
    replace HRB := Lib.hid ((HRB.out).far (i := 1) N2.out (.int .i64 1))
    replace HO := Lib.hid ((HO.out).far (i := 1) N3.out (.int .i64 1))
    replace HK := Lib.hid ((HK.out).setCell (a := ⟨w.heap.size, 1, none⟩) (Nat.le_refl _) (.int .i64 1))
    obtain ⟨u3, hu3⟩ : ∃ u, (World.setCell wd ⟨w.heap.size, 1, none⟩ (.int .i64 1)) = u := ⟨_, rfl⟩
    rw [hu3] at HF HS HRB HO HK
    have HU3 := Lib.hid hu3
    clear hu3
    rw [HU3.out] at HV ⊢
    refine soloE HV.out ?_
    rw [wpPlan_read]
    simp only [pA, pB, pC, pD, pE]
    repeat (go_big_quiet_step (fail))
    refine wpQuiet_nil ?_
    rw [wpPlan_one]
    simp only [pA, pB, pC, pD, pE]
    have f3 := HF.out.c3; have f4 := HF.out.c4; have f5 := HF.out.c5; have ff := HF.out.f
    go_wp2_with fail
    clear f3 f4 f5 ff
    replace HV := Lib.hid (((HV.out.set (a := ⟨w.heap.size, 3, none⟩) (.inl rfl) (.int .i64 x.d.k)).set (a := ⟨w.heap.size, 4, none⟩) (.inl rfl) (.int .i64 x.d.n)).set (a := ⟨w.heap.size, 5, none⟩) (.inl rfl) (.string x.d.t))
    replace HF := Lib.hid (HF.out.setDef x.d)
    replace HS := Lib.hid ((((((HS.out).far (i := 3) N1.out (.int .i64 x.d.k))).far (i := 4) N1.out (.int .i64 x.d.n))).far (i := 5) N1.out (.string x.d.t))
    replace HRB := Lib.hid ((((((HRB.out).far (i := 3) N2.out (.int .i64 x.d.k))).far (i := 4) N2.out (.int .i64 x.d.n))).far (i := 5) N2.out (.string x.d.t))
    replace HO := Lib.hid ((((((HO.out).far (i := 3) N3.out (.int .i64 x.d.k))).far (i := 4) N3.out (.int .i64 x.d.n))).far (i := 5) N3.out (.string x.d.t))
    replace HK := Lib.hid ((((((HK.out).setCell (a := ⟨w.heap.size, 3, none⟩) (Nat.le_refl _) (.int .i64 x.d.k))).setCell (a := ⟨w.heap.size, 4, none⟩) (Nat.le_refl _) (.int .i64 x.d.n))).setCell (a := ⟨w.heap.size, 5, none⟩) (Nat.le_refl _) (.string x.d.t))
    obtain ⟨u4, hu4⟩ : ∃ u, (World.setCell (World.setCell (World.setCell u3 ⟨w.heap.size, 3, none⟩ (.int .i64 x.d.k)) ⟨w.heap.size, 4, none⟩ (.int .i64 x.d.n)) ⟨w.heap.size, 5, none⟩ (.string x.d.t)) = u := ⟨_, rfl⟩
    rw [hu4] at HF HS HRB HO HK
    have HU4 := Lib.hid hu4
    clear hu4
    simp only [Fd.withD] at HF
    rw [HU4.out] at HV ⊢
    refine soloE HV.out ?_
    refine wpPlan_stop ?_
    clear HV
    go_wp2_with fail
    have hn2 := N2.out
    have hn4 := N4.out.symm
    have E0 := KExtE.cell (b := w.heap.size + 2) hn2 HF.out.c0
    have E1 := KExtE.cell (b := w.heap.size + 2) hn2 HF.out.c1
    have E2 := KExtE.cell (b := w.heap.size + 2) hn2 HF.out.c2
    have E3 := KExtE.cell (b := w.heap.size + 2) hn2 HF.out.c3
    have E4 := KExtE.cell (b := w.heap.size + 2) hn2 HF.out.c4
    have E5 := KExtE.cell (b := w.heap.size + 2) hn2 HF.out.c5
    have O0 := KExtE.cell (b := w.heap.size + 2) hn4 HO.out.c0
    have O1 := KExtE.cell (b := w.heap.size + 2) hn4 HO.out.c1
    have O2 := KExtE.cell (b := w.heap.size + 2) hn4 HO.out.c2
    have O3 := KExtE.cell (b := w.heap.size + 2) hn4 HO.out.c3
    have O4 := KExtE.cell (b := w.heap.size + 2) hn4 HO.out.c4
    have O5 := KExtE.cell (b := w.heap.size + 2) hn4 HO.out.c5
    clear hn2 hn4
    refine region_planE (w.heap.size + 2) u4 6 (.read [0, 1, 2, 3] (.one 4 (.read [5] .stop))) (by kernel_rfl) (by kernel_rfl) (by kernel_rfl) (by kernel_rfl) (by kernel_rfl) (fun _ d _ _ _ h => by cases d <;> exact h) (Kept.refl _) ?_
    intro wd hwd
    have HV := Lib.hid hwd
    clear hwd
    rw [wpPlan_read]
    simp only [pA, pB, pC, pD, pE]
    repeat (go_big_quiet_step (fail))
    refine wpQuiet_nil ?_
    clear E0 E1 E2 E3 E4 E5 O0 O1 O2 O3 O4 O5
    replace HRB := Lib.hid (HRB.out.kept HV.out)
    have r0 := HRB.out.c0; have r1 := HRB.out.c1; have r2 := HRB.out.c2; have r3 := HRB.out.c3; have r4 := HRB.out.c4; have r5 := HRB.out.c5; have rf := HRB.out.f
    rw [wpPlan_one]
    simp only [pA, pB, pC, pD, pE]
    go_wp2_with fail
    clear r0 r1 r2 r3 r4 r5 rf
    have HE := Lib.hid (((((((KeptE.of (G := w.heap.size + 2) HV.out).set (a := ⟨w.heap.size + 2, 0, none⟩) (.inl rfl) (.string f.p)).set (a := ⟨w.heap.size + 2, 1, none⟩) (.inl rfl) (.int .i64 1)).set (a := ⟨w.heap.size + 2, 2, none⟩) (.inl rfl) (.int .i64 f.t)).set (a := ⟨w.heap.size + 2, 3, none⟩) (.inl rfl) (.int .i64 x.d.k)).set (a := ⟨w.heap.size + 2, 4, none⟩) (.inl rfl) (.int .i64 x.d.n)).set (a := ⟨w.heap.size + 2, 5, none⟩) (.inl rfl) (.string x.d.t))
    have HKF := Lib.hid (((((((HK.out.trans HV.out).setCell (a := ⟨w.heap.size + 2, 0, none⟩) (Nat.le_add_right _ 2) (.string f.p)).setCell (a := ⟨w.heap.size + 2, 1, none⟩) (Nat.le_add_right _ 2) (.int .i64 1)).setCell (a := ⟨w.heap.size + 2, 2, none⟩) (Nat.le_add_right _ 2) (.int .i64 f.t)).setCell (a := ⟨w.heap.size + 2, 3, none⟩) (Nat.le_add_right _ 2) (.int .i64 x.d.k)).setCell (a := ⟨w.heap.size + 2, 4, none⟩) (Nat.le_add_right _ 2) (.int .i64 x.d.n)).setCell (a := ⟨w.heap.size + 2, 5, none⟩) (Nat.le_add_right _ 2) (.string x.d.t))
    have HRF := Lib.hid (HRB.out.setAll ⟨f.p, 1, f.t, x.d.k, x.d.n, x.d.t⟩)
    obtain ⟨w9, hw9⟩ : ∃ u, (World.setCell (World.setCell (World.setCell (World.setCell (World.setCell (World.setCell wd ⟨w.heap.size + 2, 0, none⟩ (.string f.p)) ⟨w.heap.size + 2, 1, none⟩ (.int .i64 1)) ⟨w.heap.size + 2, 2, none⟩ (.int .i64 f.t)) ⟨w.heap.size + 2, 3, none⟩ (.int .i64 x.d.k)) ⟨w.heap.size + 2, 4, none⟩ (.int .i64 x.d.n)) ⟨w.heap.size + 2, 5, none⟩ (.string x.d.t)) = u := ⟨_, rfl⟩
    simp only at HRF
    rw [hw9] at HE HKF HRF ⊢
    clear hw9
    refine soloE HE.out ?_
    rw [wpPlan_read]
    simp only [pA, pB, pC, pD, pE]
    repeat (go_big_quiet_step (fail))
    refine wpQuiet_nil ?_
    refine wpPlan_stop ?_
    have r0 := HRF.out.c0; have r1 := HRF.out.c1; have r2 := HRF.out.c2; have r3 := HRF.out.c3; have r4 := HRF.out.c4; have r5 := HRF.out.c5
    go_wp2_with fail
    exact bodyPost_ret (by simp [results, Tryz.results89, go_sem, *]) rfl ⟨HFIN.out, HKF.out⟩
  · have HZZ := Lib.hid (show false = z by rw [eq_comm, ← Bool.not_eq_true, HZL.out]; exact q1)
    have HFIN := Lib.hid (show Ending.returned (.tuple #[.agg #[.string f.p, .int .i64 1, .int .i64 f.t, .int .i64 x.d.k, .int .i64 x.d.n, .string x.d.t], .bool false]) = Ending.returned (.tuple #[.agg #[.string g.p, .int .i64 g.k, .int .i64 g.t, .int .i64 g.vk, .int .i64 g.vn, .string g.vt], .bool z]) by rw [← HGG.out, ← HZZ.out]; rfl)
    have q11 : (f.k == 2) = false := by simpa using q1
    have q12 : (f.k != 2) = true := by simpa using q1
    have q13 : decide (f.k = 2) = false := decide_eq_false q1
    clear q1
    go_enter Tryz.func89, Tryz.ntmps89
    go_wp2_with (first | rw [HUU.out] | rw [HVV.out])
    rw [← HZ3.out]
    clear c0
    clear g0 g1 g2 g3 g4 g5
    clear f0 f1 f2 f3 f4 f5 ff
    have hn1 := N1.out.symm
    have S9 := KExtE.cell (b := w.heap.size) hn1 HS.out.c9; have S10 := KExtE.cell (b := w.heap.size) hn1 HS.out.c10; have S11 := KExtE.cell (b := w.heap.size) hn1 HS.out.c11
    clear hn1
    refine region_planE w.heap.size V 6 (.read [0, 1, 2] (.one 3 (.read [4] (.one 5 .stop)))) (by kernel_rfl) (by kernel_rfl) (by kernel_rfl) (by kernel_rfl) (by kernel_rfl) (fun _ d _ _ _ h => by cases d <;> exact h) (Kept.refl _) ?_
    intro wd hwd
    have HV := Lib.hid (KeptE.of (G := w.heap.size) hwd)
    replace HF := Lib.hid (HF.out.kept hwd); replace HS := Lib.hid (HS.out.kept hwd); replace HRB := Lib.hid (HRB.out.kept hwd); replace HO := Lib.hid (HO.out.kept hwd); replace HK := Lib.hid (HK.out.trans hwd)
    clear hwd
    rw [wpPlan_read]
    simp only [pA, pB, pC, pD, pE]
    repeat (go_big_quiet_step (fail))
    refine wpQuiet_nil ?_
    clear S9 S10 S11
    rw [wpPlan_one]
    simp only [pA, pB, pC, pD, pE]
    have f1 := HF.out.c1; have ff := HF.out.f
    go_wp2_with fail
    clear f1 ff
    replace HV := Lib.hid (HV.out.set (a := ⟨w.heap.size, 1, none⟩) (.inl rfl) (.int .i64 1))
    replace HF := Lib.hid (HF.out.setKi 1)
    replace HS := Lib.hid ((HS.out).far (i := 1) N1.out (.int .i64 1))
    replace HRB := Lib.hid ((HRB.out).far (i := 1) N2.out (.int .i64 1))
    replace HO := Lib.hid ((HO.out).far (i := 1) N3.out (.int .i64 1))
    replace HK := Lib.hid ((HK.out).setCell (a := ⟨w.heap.size, 1, none⟩) (Nat.le_refl _) (.int .i64 1))
    obtain ⟨u3, hu3⟩ : ∃ u, (World.setCell wd ⟨w.heap.size, 1, none⟩ (.int .i64 1)) = u := ⟨_, rfl⟩
    rw [hu3] at HF HS HRB HO HK
    have HU3 := Lib.hid hu3
    clear hu3
    rw [HU3.out] at HV ⊢
    refine soloE HV.out ?_
    rw [wpPlan_read]
    simp only [pA, pB, pC, pD, pE]
    repeat (go_big_quiet_step (fail))
    refine wpQuiet_nil ?_
    rw [wpPlan_one]
    simp only [pA, pB, pC, pD, pE]
    have f3 := HF.out.c3; have f4 := HF.out.c4; have f5 := HF.out.c5; have ff := HF.out.f
    go_wp2_with fail
    clear f3 f4 f5 ff
    replace HV := Lib.hid (((HV.out.set (a := ⟨w.heap.size, 3, none⟩) (.inl rfl) (.int .i64 x.d.k)).set (a := ⟨w.heap.size, 4, none⟩) (.inl rfl) (.int .i64 x.d.n)).set (a := ⟨w.heap.size, 5, none⟩) (.inl rfl) (.string x.d.t))
    replace HF := Lib.hid (HF.out.setDef x.d)
    replace HS := Lib.hid ((((((HS.out).far (i := 3) N1.out (.int .i64 x.d.k))).far (i := 4) N1.out (.int .i64 x.d.n))).far (i := 5) N1.out (.string x.d.t))
    replace HRB := Lib.hid ((((((HRB.out).far (i := 3) N2.out (.int .i64 x.d.k))).far (i := 4) N2.out (.int .i64 x.d.n))).far (i := 5) N2.out (.string x.d.t))
    replace HO := Lib.hid ((((((HO.out).far (i := 3) N3.out (.int .i64 x.d.k))).far (i := 4) N3.out (.int .i64 x.d.n))).far (i := 5) N3.out (.string x.d.t))
    replace HK := Lib.hid ((((((HK.out).setCell (a := ⟨w.heap.size, 3, none⟩) (Nat.le_refl _) (.int .i64 x.d.k))).setCell (a := ⟨w.heap.size, 4, none⟩) (Nat.le_refl _) (.int .i64 x.d.n))).setCell (a := ⟨w.heap.size, 5, none⟩) (Nat.le_refl _) (.string x.d.t))
    obtain ⟨u4, hu4⟩ : ∃ u, (World.setCell (World.setCell (World.setCell u3 ⟨w.heap.size, 3, none⟩ (.int .i64 x.d.k)) ⟨w.heap.size, 4, none⟩ (.int .i64 x.d.n)) ⟨w.heap.size, 5, none⟩ (.string x.d.t)) = u := ⟨_, rfl⟩
    rw [hu4] at HF HS HRB HO HK
    have HU4 := Lib.hid hu4
    clear hu4
    simp only [Fd.withD] at HF
    rw [HU4.out] at HV ⊢
    refine soloE HV.out ?_
    refine wpPlan_stop ?_
    clear HV
    go_wp2_with fail
    have hn2 := N2.out
    have hn4 := N4.out.symm
    have E0 := KExtE.cell (b := w.heap.size + 2) hn2 HF.out.c0
    have E1 := KExtE.cell (b := w.heap.size + 2) hn2 HF.out.c1
    have E2 := KExtE.cell (b := w.heap.size + 2) hn2 HF.out.c2
    have E3 := KExtE.cell (b := w.heap.size + 2) hn2 HF.out.c3
    have E4 := KExtE.cell (b := w.heap.size + 2) hn2 HF.out.c4
    have E5 := KExtE.cell (b := w.heap.size + 2) hn2 HF.out.c5
    have O0 := KExtE.cell (b := w.heap.size + 2) hn4 HO.out.c0
    have O1 := KExtE.cell (b := w.heap.size + 2) hn4 HO.out.c1
    have O2 := KExtE.cell (b := w.heap.size + 2) hn4 HO.out.c2
    have O3 := KExtE.cell (b := w.heap.size + 2) hn4 HO.out.c3
    have O4 := KExtE.cell (b := w.heap.size + 2) hn4 HO.out.c4
    have O5 := KExtE.cell (b := w.heap.size + 2) hn4 HO.out.c5
    clear hn2 hn4
    refine region_planE (w.heap.size + 2) u4 6 (.read [0, 1, 2, 3] (.one 4 (.read [5] .stop))) (by kernel_rfl) (by kernel_rfl) (by kernel_rfl) (by kernel_rfl) (by kernel_rfl) (fun _ d _ _ _ h => by cases d <;> exact h) (Kept.refl _) ?_
    intro wd hwd
    have HV := Lib.hid hwd
    clear hwd
    rw [wpPlan_read]
    simp only [pA, pB, pC, pD, pE]
    repeat (go_big_quiet_step (fail))
    refine wpQuiet_nil ?_
    clear E0 E1 E2 E3 E4 E5 O0 O1 O2 O3 O4 O5
    replace HRB := Lib.hid (HRB.out.kept HV.out)
    have r0 := HRB.out.c0; have r1 := HRB.out.c1; have r2 := HRB.out.c2; have r3 := HRB.out.c3; have r4 := HRB.out.c4; have r5 := HRB.out.c5; have rf := HRB.out.f
    rw [wpPlan_one]
    simp only [pA, pB, pC, pD, pE]
    go_wp2_with fail
    clear r0 r1 r2 r3 r4 r5 rf
    have HE := Lib.hid (((((((KeptE.of (G := w.heap.size + 2) HV.out).set (a := ⟨w.heap.size + 2, 0, none⟩) (.inl rfl) (.string f.p)).set (a := ⟨w.heap.size + 2, 1, none⟩) (.inl rfl) (.int .i64 1)).set (a := ⟨w.heap.size + 2, 2, none⟩) (.inl rfl) (.int .i64 f.t)).set (a := ⟨w.heap.size + 2, 3, none⟩) (.inl rfl) (.int .i64 x.d.k)).set (a := ⟨w.heap.size + 2, 4, none⟩) (.inl rfl) (.int .i64 x.d.n)).set (a := ⟨w.heap.size + 2, 5, none⟩) (.inl rfl) (.string x.d.t))
    have HKF := Lib.hid (((((((HK.out.trans HV.out).setCell (a := ⟨w.heap.size + 2, 0, none⟩) (Nat.le_add_right _ 2) (.string f.p)).setCell (a := ⟨w.heap.size + 2, 1, none⟩) (Nat.le_add_right _ 2) (.int .i64 1)).setCell (a := ⟨w.heap.size + 2, 2, none⟩) (Nat.le_add_right _ 2) (.int .i64 f.t)).setCell (a := ⟨w.heap.size + 2, 3, none⟩) (Nat.le_add_right _ 2) (.int .i64 x.d.k)).setCell (a := ⟨w.heap.size + 2, 4, none⟩) (Nat.le_add_right _ 2) (.int .i64 x.d.n)).setCell (a := ⟨w.heap.size + 2, 5, none⟩) (Nat.le_add_right _ 2) (.string x.d.t))
    have HRF := Lib.hid (HRB.out.setAll ⟨f.p, 1, f.t, x.d.k, x.d.n, x.d.t⟩)
    obtain ⟨w9, hw9⟩ : ∃ u, (World.setCell (World.setCell (World.setCell (World.setCell (World.setCell (World.setCell wd ⟨w.heap.size + 2, 0, none⟩ (.string f.p)) ⟨w.heap.size + 2, 1, none⟩ (.int .i64 1)) ⟨w.heap.size + 2, 2, none⟩ (.int .i64 f.t)) ⟨w.heap.size + 2, 3, none⟩ (.int .i64 x.d.k)) ⟨w.heap.size + 2, 4, none⟩ (.int .i64 x.d.n)) ⟨w.heap.size + 2, 5, none⟩ (.string x.d.t)) = u := ⟨_, rfl⟩
    simp only at HRF
    rw [hw9] at HE HKF HRF ⊢
    clear hw9
    refine soloE HE.out ?_
    rw [wpPlan_read]
    simp only [pA, pB, pC, pD, pE]
    repeat (go_big_quiet_step (fail))
    refine wpQuiet_nil ?_
    refine wpPlan_stop ?_
    have r0 := HRF.out.c0; have r1 := HRF.out.c1; have r2 := HRF.out.c2; have r3 := HRF.out.c3; have r4 := HRF.out.c4; have r5 := HRF.out.c5
    go_wp2_with fail
    exact bodyPost_ret (by simp [results, Tryz.results89, go_sem, *]) rfl ⟨HFIN.out, HKF.out⟩
end Go.Proofs.YtofnpifooaijcaaGreat
