/-
  What is proved: the Go function CtxSets of layer 6's laws, called with any slices of dots that lie in memory, returns true, if package ctx keeps the contracts and the laws' helper 'awake' returns true; the world has new blocks at most.
-/
import Derived.Test.YtgofecnpmohmgaaCtxC
import Derived.Test.YtgofecnpmohmgaaPlanE
import Derived.Test.YtgofecnpmohmgaaCBackWalk
namespace Go.Proofs.Ytgofecnpmohmgaa
open Go.RowKit

/-- An append whose run is known, for an operation that stands under a guard that is met. -/
theorem append_met {P : Program} (w : World) {ops : Array Oper} {rest : List Oper} {o : Oper} {a : Act} {Q : Exit → Act → World → Prop} (hw : Region.wanted o (yielded ops a.tmps) = true) (s x : Operand) (t tn : TypeId)
    (ho : o.op = .call { callee := .builtin .append, args := #[s, x], argTypes := #[t, tn] }) (vs vx : Value) (hs : a.eval s = vs) (hx : a.eval x = vx)
    (v' : Value) (w' : World) (hr : (Builtin.append_ #[t, tn] o.type #[vs, vx]).run P w = .ok v' w') (h : wpList P ops Q rest (a.put o.dst v') w') : wpList P ops Q (o :: rest) a w :=
  wpList_step fun K hK => by rw [if_pos hw]; exact Lib.wp_append_run w s x t tn ho vs vx hs hx v' w' hr (hK _ _ h)

theorem appJ3 (wd : World) (B : Option Addr) (m k : Nat) (C : List (Int × Int)) (B' : Option Addr) (m' k' : Nat) (C' : List (Int × Int)) (B'' : Option Addr) (m'' k'' : Nat) (C'' : List (Int × Int)) (M : Nat) (hd : Dl wd B m k C) (hd' : Dl wd B' m' k' C') (hd'' : Dl wd B'' m'' k'' C'') (hm : m + m' + m'' = M) (hM : M ≤ 999990) :
    ∃ v5 w5 v7 w7 v9 w9, (Builtin.append_ #[23, 23] 23 #[.slice (some ⟨wd.heap.size, 0, none⟩) 0 0, .slice B m k]).run Try.prog (wd.alloc (.cells #[] 36)) = .ok v5 w5 ∧
      (Builtin.append_ #[23, 23] 23 #[v5, .slice B' m' k']).run Try.prog w5 = .ok v7 w7 ∧
      (Builtin.append_ #[23, 23] 23 #[v7, .slice B'' m'' k'']).run Try.prog w7 = .ok v9 w9 ∧ w9.ownsRow wd.heap.size 36 2 v9 M (flatD (C ++ C' ++ C'')) ∧ Kept wd w9 := by
  obtain ⟨v5, w5, v7, w7, hr5, hr7, ho7, hk5, hk7⟩ := appJ wd B m k C B' m' k' C' hd hd' (by omega)
  obtain ⟨v9, w9, hr9, ho9, hg9⟩ := app_dots _ _ _ _ _ ho7 B'' m'' k'' C'' (hd''.kept hk7) (by omega) hk7.2.2
  refine ⟨v5, w5, v7, w7, v9, w9, hr5, hr7, hr9, ?_, kept_grown hk7 hg9 fun g hg => (ho7.lt g hg).1⟩
  rw [hm, ← flatD_app] at ho9
  exact ho9

theorem sets_eq {S S' : Int × Int → Prop} {V V' : List Int} {C C' : List (Int × Int)} (h : SetC S V C) (h' : SetC S' V' C') (he : ∀ d, S d ↔ S' d) : decide (V = V' ∧ C = C') = true := decide_eq_true (h.same h' he)

set_option maxRecDepth 100000 in
set_option maxHeartbeats 8000000 in
theorem csets_small (K : CtxC) (HA : AwakeC) (Aa : Option Addr) (na ca : Nat) (La : List (Int × Int)) (Ab : Option Addr) (nb cb : Nat) (Lb : List (Int × Int)) (Ac : Option Addr) (nc cc : Nat) (Lc : List (Int × Int)) (w : World) (ha : Dl w Aa na ca La) (hb : Dl w Ab nb cb Lb) (hc : Dl w Ac nc cc Lc) (hna : na ≤ 40) (hnb : nb ≤ 40) (hnc : nc ≤ 40) :
    Calls Try.prog 4 #[.slice Aa na ca, .slice Ab nb cb, .slice Ac nc cc] w fun e w' => e = .returned (.bool true) ∧ Kept w w' := by
  have q1 : decide ((40 : Int) < na) = false := decide_eq_false (by omega)
  have q2 : decide (40 < na) = false := decide_eq_false (by omega)
  have q3 : decide ((40 : Int) < nb) = false := decide_eq_false (by omega)
  have q4 : decide (40 < nb) = false := decide_eq_false (by omega)
  have q5 : decide ((40 : Int) < nc) = false := decide_eq_false (by omega)
  have q6 : decide (40 < nc) = false := decide_eq_false (by omega)
  have ha1 := ha.cap.1; have ha2 := ha.cap.2; have hb1 := hb.cap.1; have hb2 := hb.cap.2; have hc1 := hc.cap.1; have hc2 := hc.cap.2
  have HLA := Lib.hid ha; have HLB := Lib.hid hb; have HLC := Lib.hid hc
  have HK := Lib.hid K
  have HAW := Lib.hid HA
  clear ha hb hc K HA
  go_enter Try.func4, Try.ntmps4
  go_wp2_with fail
  go_at_call 11
  refine (HK.out.of_ Aa na ca La _ HLA.out (by omega)).mono ?_
  rintro e wx ⟨Ax, nx, cx, Bx, mx, kx, Vx, Cx, rfl, hi, hd, hs, hm, hk⟩
  have hmx9 : mx ≤ 40 := by omega
  have HSx := Lib.hid hs
  have HIx := Lib.hid hi
  have HDx := Lib.hid hd
  have HW := Lib.hid hk
  clear hi hd hs hm hk
  go_wp2_with fail
  go_at_call 11
  refine (HK.out.of_ Ab nb cb Lb _ (HLB.out.kept HW.out) (by omega)).mono ?_
  rintro e wy ⟨Ay, ny, cy, By, my, ky, Vy, Cy, rfl, hi, hd, hs, hm, hk⟩
  have hmy9 : my ≤ 40 := by omega
  have HSy := Lib.hid hs
  have HIy := Lib.hid hi
  have HDy := Lib.hid hd
  replace HIx := Lib.hid (HIx.out.kept hk)
  replace HDx := Lib.hid (HDx.out.kept hk)
  replace HW := Lib.hid (HW.out.trans hk)
  clear hi hd hs hm hk
  go_wp2_with fail
  go_at_call 11
  refine (HK.out.of_ Ac nc cc Lc _ (HLC.out.kept HW.out) (by omega)).mono ?_
  rintro e wz ⟨Az, nz, cz, Bz, mz, kz, Vz, Cz, rfl, hi, hd, hs, hm, hk⟩
  have hmz9 : mz ≤ 40 := by omega
  have HSz := Lib.hid hs
  have HIz := Lib.hid hi
  have HDz := Lib.hid hd
  replace HIx := Lib.hid (HIx.out.kept hk)
  replace HDx := Lib.hid (HDx.out.kept hk)
  replace HIy := Lib.hid (HIy.out.kept hk)
  replace HDy := Lib.hid (HDy.out.kept hk)
  replace HW := Lib.hid (HW.out.trans hk)
  clear hi hd hs hm hk
  have hbx := Box2.new wz (.slice Ax nx cx) (.slice Bx mx kx) 25 |>.kept (((Kept.refl _).alloc #[.slice Ay ny cy, .slice By my ky] 25).alloc #[.slice Az nz cz, .slice Bz mz kz] 25)
  have hby := Box2.new (wz.alloc (.cells #[.slice Ax nx cx, .slice Bx mx kx] 25)) (.slice Ay ny cy) (.slice By my ky) 25 |>.kept ((Kept.refl _).alloc #[.slice Az nz cz, .slice Bz mz kz] 25)
  have hbz := Box2.new ((wz.alloc (.cells #[.slice Ax nx cx, .slice Bx mx kx] 25)).alloc (.cells #[.slice Ay ny cy, .slice By my ky] 25)) (.slice Az nz cz) (.slice Bz mz kz) 25
  rw [show (wz.alloc (.cells #[.slice Ax nx cx, .slice Bx mx kx] 25)).heap.size = wz.heap.size + 1 by simp] at hby
  rw [show ((wz.alloc (.cells #[.slice Ax nx cx, .slice Bx mx kx] 25)).alloc (.cells #[.slice Ay ny cy, .slice By my ky] 25)).heap.size = wz.heap.size + 2 by simp] at hbz
  have hku := (((Kept.refl wz).alloc #[.slice Ax nx cx, .slice Bx mx kx] 25).alloc #[.slice Ay ny cy, .slice By my ky] 25).alloc #[.slice Az nz cz, .slice Bz mz kz] 25
  have HJ := Lib.hid (HK.out.join Ax nx cx Vx Bx mx kx Cx Ay ny cy Vy By my ky Cy _ (HIx.out.kept hku) (HDx.out.kept hku) HSx.out.right (HIy.out.kept hku) (HDy.out.kept hku) HSy.out.right (by omega))
  have HKU := Lib.hid hku
  have HBX := Lib.hid hbx; have HBY := Lib.hid hby; have HBZ := Lib.hid hbz
  clear hbx hby hbz hku
  go_wp2_with fail
  go_at_call 24
  refine HJ.out.mono ?_
  rintro e wj ⟨Aj, nj, cj, Bj, mj, kj, Vj, Cj, rfl, hi, hd, hs, hm, hk⟩
  have hmj9 : mj ≤ 80 := by omega
  have HSj := Lib.hid hs
  have hkj := hk.trans ((Kept.refl wj).alloc #[.slice Aj nj cj, .slice Bj mj kj] 25)
  have HIj := Lib.hid (hi.kept ((Kept.refl wj).alloc #[.slice Aj nj cj, .slice Bj mj kj] 25))
  have HDj := Lib.hid (hd.kept ((Kept.refl wj).alloc #[.slice Aj nj cj, .slice Bj mj kj] 25))
  have hbj := Box2.new wj (.slice Aj nj cj) (.slice Bj mj kj) 25
  replace HIx := Lib.hid (HIx.out.kept (HKU.out.trans hkj)); replace HDx := Lib.hid (HDx.out.kept (HKU.out.trans hkj))
  replace HIy := Lib.hid (HIy.out.kept (HKU.out.trans hkj)); replace HDy := Lib.hid (HDy.out.kept (HKU.out.trans hkj))
  replace HIz := Lib.hid (HIz.out.kept (HKU.out.trans hkj)); replace HDz := Lib.hid (HDz.out.kept (HKU.out.trans hkj))
  replace HBX := Lib.hid (HBX.out.kept hkj); replace HBY := Lib.hid (HBY.out.kept hkj); replace HBZ := Lib.hid (HBZ.out.kept hkj)
  have HBJ := Lib.hid hbj
  replace HW := Lib.hid (HW.out.trans (HKU.out.trans hkj))
  have bx0 := KExt.cell HBX.out.c0; have bx1 := KExt.cell HBX.out.c1
  have by0 := KExt.cell HBY.out.c0; have by1 := KExt.cell HBY.out.c1
  have bz0 := KExt.cell HBZ.out.c0; have bz1 := KExt.cell HBZ.out.c1
  have bj0 := KExt.cell HBJ.out.c0; have bj1 := KExt.cell HBJ.out.c1
  clear hi hd hs hm hk hkj hbj
  go_wp2_with fail
  try dsimp only [List.append]
  refine region_plan (wj.alloc (.cells #[.slice Aj nj cj, .slice Bj mj kj] 25)) 47 (.read [0] (.one 1 (.read [2, 3, 4] (.one 5 (.read [6, 7, 8, 9, 10, 11] (.one 12 (.one 13 (.read [14, 15, 16, 17, 18, 20, 21, 22] (.one 19 (.one 23 (.one 24 (.one 25 (.read [26, 27, 28, 29, 30, 32] (.one 31 (.one 33 (.read [34, 35, 36, 37, 39, 41] (.one 38 (.one 40 (.one 42 (.one 43 (.one 44 (.read [45, 46] .stop)))))))))))))))))))))) (by kernel_rfl) (by as_aux_lemma => kernel_rfl) (by kernel_rfl) (by kernel_rfl) (by as_aux_lemma => kernel_rfl) (fun _ d _ _ _ h => by cases d <;> exact h) (Kept.refl _) ?_
  intro wd hwd
  have HV := Lib.hid hwd
  clear hwd
  rw [wpPlan_read]
  simp only [pickOps_cons, pickOps_nil, consO_some, List.getElem?_cons_zero]
  repeat (go_big_quiet_step (fail))
  refine wpQuiet_nil ?_
  rw [wpPlan_one]
  simp only [pickOps_cons, pickOps_nil, consO_some, List.getElem?_cons_zero, List.getElem?_cons_succ]
  go_wp2_with (go_at_call 8; refine (HK.out.right Ax nx cx Vx Bx mx kx Cx _ (HIx.out.kept HV.out) (HDx.out.kept HV.out) (by have := HSx.out.right.vec.len; have := (HIx.out.kept HV.out).1; omega) (by omega) true ⟨fun _ => HSx.out.right, fun _ => rfl⟩).mono ?_; rintro e u ⟨rfl, hk⟩)
  replace HV := Lib.hid (HV.out.trans hk)
  clear hk
  refine soloP HV.out ?_
  rw [wpPlan_read]
  simp only [pickOps_cons, pickOps_nil, consO_some, List.getElem?_cons_zero, List.getElem?_cons_succ]
  repeat (go_big_quiet_step (fail))
  refine wpQuiet_nil ?_
  rw [wpPlan_one]
  simp only [pickOps_cons, pickOps_nil, consO_some, List.getElem?_cons_zero, List.getElem?_cons_succ]
  go_wp2_with (go_at_call 8; refine (HK.out.right Aj nj cj Vj Bj mj kj Cj _ (HIj.out.kept HV.out) (HDj.out.kept HV.out) (by have := HSj.out.right.vec.len; have := (HIj.out.kept HV.out).1; omega) (by omega) true ⟨fun _ => HSj.out.right, fun _ => rfl⟩).mono ?_; rintro e u ⟨rfl, hk⟩)
  replace HV := Lib.hid (HV.out.trans hk)
  clear hk
  refine soloP HV.out ?_
  rw [wpPlan_read]
  simp only [pickOps_cons, pickOps_nil, consO_some, List.getElem?_cons_zero, List.getElem?_cons_succ]
  repeat (go_big_quiet_step (fail))
  refine wpQuiet_nil ?_
  rw [wpPlan_one]
  simp only [pickOps_cons, pickOps_nil, consO_some, List.getElem?_cons_zero, List.getElem?_cons_succ]
  go_wp2_with (go_at_call 24; refine (HK.out.join Ay ny cy Vy By my ky Cy Ax nx cx Vx Bx mx kx Cx _ (HIy.out.kept HV.out) (HDy.out.kept HV.out) HSy.out.right (HIx.out.kept HV.out) (HDx.out.kept HV.out) HSx.out.right (by omega)).mono ?_; rintro e u ⟨Ap, np, cp, Bp, mp, kp, Vp, Cp, rfl, hi, hd, hs, hm, hk⟩)
  have HSp := Lib.hid hs
  have HIp := Lib.hid hi
  have HDp := Lib.hid hd
  have hmp9 : mp ≤ 80 := by omega
  clear hi hd hs hm
  replace HV := Lib.hid (HV.out.trans hk)
  clear hk
  refine soloP HV.out ?_
  rw [wpPlan_one]
  simp only [pickOps_cons, pickOps_nil, consO_some, List.getElem?_cons_zero, List.getElem?_cons_succ]
  go_wp2_with (go_at_call 28; refine (HK.out.same Aj nj cj Vj Bj mj kj Cj Ap np cp Vp Bp mp kp Cp _ (HIj.out.kept HV.out) (HDj.out.kept HV.out) HIp.out HDp.out true (sets_eq HSj.out HSp.out fun d => Or.comm)).mono ?_; rintro e u ⟨rfl, hk⟩)
  replace HIp := Lib.hid (HIp.out.kept hk)
  replace HDp := Lib.hid (HDp.out.kept hk)
  replace HV := Lib.hid (HV.out.trans hk)
  clear hk
  refine soloP HV.out ?_
  rw [wpPlan_read]
  simp only [pickOps_cons, pickOps_nil, consO_some, List.getElem?_cons_zero, List.getElem?_cons_succ]
  repeat (go_big_quiet_step (fail))
  refine wpQuiet_nil ?_
  rw [wpPlan_one]
  simp only [pickOps_cons, pickOps_nil, consO_some, List.getElem?_cons_zero, List.getElem?_cons_succ]
  go_wp2_with (go_at_call 24; refine (HK.out.join Aj nj cj Vj Bj mj kj Cj Az nz cz Vz Bz mz kz Cz _ (HIj.out.kept HV.out) (HDj.out.kept HV.out) HSj.out.right (HIz.out.kept HV.out) (HDz.out.kept HV.out) HSz.out.right (by omega)).mono ?_; rintro e u ⟨Aq, nq, cq, Bq, mq, kq, Vq, Cq, rfl, hi, hd, hs, hm, hk⟩)
  replace HIp := Lib.hid (HIp.out.kept hk)
  replace HDp := Lib.hid (HDp.out.kept hk)
  have HSq := Lib.hid hs
  have HIq := Lib.hid hi
  have HDq := Lib.hid hd
  have hmq9 : mq ≤ 120 := by omega
  clear hi hd hs hm
  replace HV := Lib.hid (HV.out.trans hk)
  clear hk
  refine soloP HV.out ?_
  rw [wpPlan_one]
  simp only [pickOps_cons, pickOps_nil, consO_some, List.getElem?_cons_zero, List.getElem?_cons_succ]
  go_wp2_with (go_at_call 24; refine (HK.out.join Ay ny cy Vy By my ky Cy Az nz cz Vz Bz mz kz Cz _ (HIy.out.kept HV.out) (HDy.out.kept HV.out) HSy.out.right (HIz.out.kept HV.out) (HDz.out.kept HV.out) HSz.out.right (by omega)).mono ?_; rintro e u ⟨Ar, nr, cr, Br, mr, kr, Vr, Cr, rfl, hi, hd, hs, hm, hk⟩)
  replace HIp := Lib.hid (HIp.out.kept hk)
  replace HDp := Lib.hid (HDp.out.kept hk)
  replace HIq := Lib.hid (HIq.out.kept hk)
  replace HDq := Lib.hid (HDq.out.kept hk)
  have HSr := Lib.hid hs
  have HIr := Lib.hid hi
  have HDr := Lib.hid hd
  have hmr9 : mr ≤ 80 := by omega
  clear hi hd hs hm
  replace HV := Lib.hid (HV.out.trans hk)
  clear hk
  refine soloP HV.out ?_
  rw [wpPlan_one]
  simp only [pickOps_cons, pickOps_nil, consO_some, List.getElem?_cons_zero, List.getElem?_cons_succ]
  go_wp2_with (go_at_call 24; refine (HK.out.join Ax nx cx Vx Bx mx kx Cx Ar nr cr Vr Br mr kr Cr _ (HIx.out.kept HV.out) (HDx.out.kept HV.out) HSx.out.right HIr.out HDr.out HSr.out.right (by omega)).mono ?_; rintro e u ⟨As, ns, cs, Bs, ms, ks, Vs, Cs, rfl, hi, hd, hs, hm, hk⟩)
  replace HIp := Lib.hid (HIp.out.kept hk)
  replace HDp := Lib.hid (HDp.out.kept hk)
  replace HIq := Lib.hid (HIq.out.kept hk)
  replace HDq := Lib.hid (HDq.out.kept hk)
  replace HIr := Lib.hid (HIr.out.kept hk)
  replace HDr := Lib.hid (HDr.out.kept hk)
  have HSs := Lib.hid hs
  have HIs := Lib.hid hi
  have HDs := Lib.hid hd
  have hms9 : ms ≤ 120 := by omega
  clear hi hd hs hm
  replace HV := Lib.hid (HV.out.trans hk)
  clear hk
  refine soloP HV.out ?_
  rw [wpPlan_one]
  simp only [pickOps_cons, pickOps_nil, consO_some, List.getElem?_cons_zero, List.getElem?_cons_succ]
  go_wp2_with (go_at_call 28; refine (HK.out.same Aq nq cq Vq Bq mq kq Cq As ns cs Vs Bs ms ks Cs _ HIq.out HDq.out HIs.out HDs.out true (sets_eq HSq.out HSs.out fun d => by rw [HSj.out.has, HSr.out.has, or_assoc])).mono ?_; rintro e u ⟨rfl, hk⟩)
  replace HIp := Lib.hid (HIp.out.kept hk)
  replace HDp := Lib.hid (HDp.out.kept hk)
  replace HIq := Lib.hid (HIq.out.kept hk)
  replace HDq := Lib.hid (HDq.out.kept hk)
  replace HIr := Lib.hid (HIr.out.kept hk)
  replace HDr := Lib.hid (HDr.out.kept hk)
  replace HIs := Lib.hid (HIs.out.kept hk)
  replace HDs := Lib.hid (HDs.out.kept hk)
  replace HV := Lib.hid (HV.out.trans hk)
  clear hk
  refine soloP HV.out ?_
  rw [wpPlan_read]
  simp only [pickOps_cons, pickOps_nil, consO_some, List.getElem?_cons_zero, List.getElem?_cons_succ]
  repeat (go_big_quiet_step (fail))
  refine wpQuiet_nil ?_
  rw [wpPlan_one]
  simp only [pickOps_cons, pickOps_nil, consO_some, List.getElem?_cons_zero, List.getElem?_cons_succ]
  go_wp2_with (go_at_call 24; refine (HK.out.join Ax nx cx Vx Bx mx kx Cx Ax nx cx Vx Bx mx kx Cx _ (HIx.out.kept HV.out) (HDx.out.kept HV.out) HSx.out.right (HIx.out.kept HV.out) (HDx.out.kept HV.out) HSx.out.right (by omega)).mono ?_; rintro e u ⟨At, nt, ct, Bt, mt, kt, Vt, Ct, rfl, hi, hd, hs, hm, hk⟩)
  replace HIp := Lib.hid (HIp.out.kept hk)
  replace HDp := Lib.hid (HDp.out.kept hk)
  replace HIq := Lib.hid (HIq.out.kept hk)
  replace HDq := Lib.hid (HDq.out.kept hk)
  replace HIr := Lib.hid (HIr.out.kept hk)
  replace HDr := Lib.hid (HDr.out.kept hk)
  replace HIs := Lib.hid (HIs.out.kept hk)
  replace HDs := Lib.hid (HDs.out.kept hk)
  have HSt := Lib.hid hs
  have HIt := Lib.hid hi
  have HDt := Lib.hid hd
  have hmt9 : mt ≤ 80 := by omega
  clear hi hd hs hm
  replace HV := Lib.hid (HV.out.trans hk)
  clear hk
  refine soloP HV.out ?_
  rw [wpPlan_one]
  simp only [pickOps_cons, pickOps_nil, consO_some, List.getElem?_cons_zero, List.getElem?_cons_succ]
  go_wp2_with (go_at_call 28; refine (HK.out.same At nt ct Vt Bt mt kt Ct Ax nx cx Vx Bx mx kx Cx _ HIt.out HDt.out (HIx.out.kept HV.out) (HDx.out.kept HV.out) true (sets_eq HSt.out (SetC.self HSx.out.right) fun d => or_self_iff)).mono ?_; rintro e u ⟨rfl, hk⟩)
  replace HIp := Lib.hid (HIp.out.kept hk)
  replace HDp := Lib.hid (HDp.out.kept hk)
  replace HIq := Lib.hid (HIq.out.kept hk)
  replace HDq := Lib.hid (HDq.out.kept hk)
  replace HIr := Lib.hid (HIr.out.kept hk)
  replace HDr := Lib.hid (HDr.out.kept hk)
  replace HIs := Lib.hid (HIs.out.kept hk)
  replace HDs := Lib.hid (HDs.out.kept hk)
  replace HIt := Lib.hid (HIt.out.kept hk)
  replace HDt := Lib.hid (HDt.out.kept hk)
  replace HV := Lib.hid (HV.out.trans hk)
  clear hk
  refine soloP HV.out ?_
  rw [wpPlan_read]
  simp only [pickOps_cons, pickOps_nil, consO_some, List.getElem?_cons_zero, List.getElem?_cons_succ]
  repeat (go_big_quiet_step (fail))
  refine wpQuiet_nil ?_
  obtain ⟨v5, w5, v7, w7, hr5, hr7, hown, hk5, hkz⟩ := appJ _ Ab nb cb Lb Aa na ca La (HLB.out.kept (HW.out.trans HV.out)) (HLA.out.kept (HW.out.trans HV.out)) (by omega)
  have HR5 := Lib.hid hr5
  have HR7 := Lib.hid hr7
  have HK5 := Lib.hid (HV.out.trans hk5)
  have HKZ := Lib.hid (HV.out.trans hkz)
  have HUZ := Lib.hid hkz
  obtain ⟨B8, k8, rfl, hd8⟩ := Dl.of_own hown
  have HOF := Lib.hid (HK.out.of_ B8 (nb + na) k8 (Lb ++ La) _ hd8 (by omega))
  clear hr5 hr7 hown hk5 hkz hd8
  rw [wpPlan_one]
  simp only [pickOps_cons, pickOps_nil, consO_some, List.getElem?_cons_zero, List.getElem?_cons_succ]
  go_wp2_with fail
  refine soloP (HV.out.alloc _ _) ?_
  rw [wpPlan_one]
  simp only [pickOps_cons, pickOps_nil, consO_some, List.getElem?_cons_zero, List.getElem?_cons_succ]
  go_wp2_with (at_builtin; refine append_met _ rfl (.tmp 74) (.tmp 75) _ _ rfl _ _ rfl rfl _ _ HR5.out ?_)
  refine soloP HK5.out ?_
  rw [wpPlan_one]
  simp only [pickOps_cons, pickOps_nil, consO_some, List.getElem?_cons_zero, List.getElem?_cons_succ]
  go_wp2_with (at_builtin; refine append_met _ rfl (.tmp 76) (.tmp 77) _ _ rfl _ _ rfl rfl _ _ HR7.out ?_)
  replace HV := HKZ
  refine soloP HV.out ?_
  rw [wpPlan_one]
  simp only [pickOps_cons, pickOps_nil, consO_some, List.getElem?_cons_zero, List.getElem?_cons_succ]
  go_wp2_with (go_at_call 11; refine (HOF.out).mono ?_; rintro e u ⟨Ao, no, co, Bo, mo, ko, Vo, Co, rfl, hi, hd, hs, hm, hk⟩)
  have HSo := Lib.hid hs
  have HIo := Lib.hid hi
  have HDo := Lib.hid hd
  clear hi hd hs hm
  replace HV := Lib.hid (HV.out.trans hk)
  clear hk
  refine soloP HV.out ?_
  rw [wpPlan_one]
  simp only [pickOps_cons, pickOps_nil, consO_some, List.getElem?_cons_zero, List.getElem?_cons_succ]
  go_wp2_with (go_at_call 28; refine (HK.out.same Aj nj cj Vj Bj mj kj Cj Ao no co Vo Bo mo ko Co _ (HIj.out.kept HV.out) (HDj.out.kept HV.out) HIo.out HDo.out true (sets_eq HSj.out HSo.out fun d => by rw [HSx.out.has, HSy.out.has, List.mem_append, ← and_or_left]; exact and_congr_right fun _ => Or.comm)).mono ?_; rintro e u ⟨rfl, hk⟩)
  replace HV := Lib.hid (HV.out.trans hk)
  clear hk
  refine soloP HV.out ?_
  rw [wpPlan_read]
  simp only [pickOps_cons, pickOps_nil, consO_some, List.getElem?_cons_zero, List.getElem?_cons_succ]
  repeat (go_big_quiet_step (fail))
  refine wpQuiet_nil ?_
  refine wpPlan_stop ?_
  clear bx0 bx1 by0 by1 bz0 bz1 bj0 bj1
  obtain ⟨M, hM⟩ : ∃ M, na + nb + nc = M := ⟨_, rfl⟩
  obtain ⟨v1, w1, v2, w2, v3, w3, hr1, hr2, hr3, hown, hk9⟩ := appJ3 _ Aa na ca La Ab nb cb Lb Ac nc cc Lc M (HLA.out.kept (HW.out.trans HV.out)) (HLB.out.kept (HW.out.trans HV.out)) (HLC.out.kept (HW.out.trans HV.out)) hM (by omega)
  have hM9 : M ≤ 120 := by omega
  have HR1 := Lib.hid hr1; have HR2 := Lib.hid hr2; have HR3 := Lib.hid hr3
  obtain ⟨B9, k9, rfl, hd9⟩ := Dl.of_own hown
  have HD9 := Lib.hid hd9
  have HU := Lib.hid (HV.out.trans hk9)
  have hcap9 := hd9.cap.1
  have hcap9' := hd9.cap.2
  clear hr1 hr2 hr3 hown hk9 hM hd9
  go_wp2_with (at_builtin; first | (refine Lib.wpList_append_run _ rfl (.tmp 83) (.tmp 84) _ _ rfl _ _ rfl rfl _ _ HR1.out ?_) | (refine Lib.wpList_append_run _ rfl (.tmp 85) (.tmp 86) _ _ rfl _ _ rfl rfl _ _ HR2.out ?_) | (refine Lib.wpList_append_run _ rfl (.tmp 87) (.tmp 88) _ _ rfl _ _ rfl rfl _ _ HR3.out ?_))
  go_loopw [91] (fun i wr => ∃ t : Nat, t ≤ M ∧ i = .int .i64 t ∧ Kept w3 wr) (fun i _ => M - (intOf i).toNat)
  case atStart => exact ⟨0, Nat.zero_le _, rfl, Kept.refl _⟩
  case round =>
    obtain ⟨t, ht, rfl, hkr⟩ := hrel
    have HR := Lib.hid hkr
    clear hkr
    by_cases hlt : t < M
    · obtain ⟨g, o, ⟨y1, y2⟩, rfl, hy, c1, c2⟩ := (HD9.out.kept HR.out).get hlt
      simp only at c1 c2
      obtain ⟨rd, hrd⟩ : ∃ b, rightD (y1, y2) = b := ⟨_, rfl⟩
      obtain ⟨hn, hhn⟩ : ∃ b, decide (((y1, y2) : Int × Int) ∈ La) = b := ⟨_, rfl⟩
      obtain ⟨py, hpy⟩ : ∃ b, decide (hasC Vy Cy (y1, y2)) = b := ⟨_, rfl⟩
      obtain ⟨px, hpx⟩ : ∃ b, decide (hasC Vx Cx (y1, y2)) = b := ⟨_, rfl⟩
      obtain ⟨pj, hpj⟩ : ∃ b, decide (hasC Vj Cj (y1, y2)) = b := ⟨_, rfl⟩
      have e1 : px = (rd && hn) := by
        rw [← hpx, ← hrd, ← hhn]; exact Bool.eq_iff_iff.mpr (by rw [decide_eq_true_iff, HSx.out.has, Bool.and_eq_true, decide_eq_true_iff])
      have e2 : pj = (px || py) := by
        rw [← hpx, ← hpy, ← hpj]; exact Bool.eq_iff_iff.mpr (by rw [decide_eq_true_iff, HSj.out.has, Bool.or_eq_true, decide_eq_true_iff, decide_eq_true_iff])
      have HQ := Lib.hid (HU.out.trans (HR.out.trans ((Kept.refl _).alloc #[.int .i64 y1, .int .i64 y2] 36)))
      have HCJ := Lib.hid (fun W h => HK.out.has Aj nj cj Vj Bj mj kj Cj y1 y2 W (HIj.out.kept (HQ.out.trans h)) (HDj.out.kept (HQ.out.trans h)) HSj.out.right pj hpj)
      have HCX := Lib.hid (fun W h => HK.out.has Ax nx cx Vx Bx mx kx Cx y1 y2 W (HIx.out.kept (HQ.out.trans h)) (HDx.out.kept (HQ.out.trans h)) HSx.out.right px hpx)
      have HCY := Lib.hid (fun W h => HK.out.has Ay ny cy Vy By my ky Cy y1 y2 W (HIy.out.kept (HQ.out.trans h)) (HDy.out.kept (HQ.out.trans h)) HSy.out.right py hpy)
      have HCR := Lib.hid (fun W => dright_c (y1, y2) rd hrd W)
      have HCA := Lib.hid (fun W h => dhas_c Aa na ca La (y1, y2) hn hhn W (HLA.out.kept (HW.out.trans (HQ.out.trans h))))
      have hbe := Box2.new wr (.int .i64 y1) (.int .i64 y2) 36
      have bx0 := KExt.cell (HBX.out.kept HQ.out).c0; have bx1 := KExt.cell (HBX.out.kept HQ.out).c1
      have by0 := KExt.cell (HBY.out.kept HQ.out).c0; have by1 := KExt.cell (HBY.out.kept HQ.out).c1
      have bj0 := KExt.cell (HBJ.out.kept HQ.out).c0; have bj1 := KExt.cell (HBJ.out.kept HQ.out).c1
      have be0 := KExt.cell hbe.c0; have be1 := KExt.cell hbe.c1
      clear hy hbe hrd hhn hpy hpx hpj
      cases rd <;> cases hn <;> cases py <;> cases px <;> cases pj <;> first | (exact absurd e1 (by decide)) | (exact absurd e2 (by decide)) | skip
      all_goals
        clear e1 e2
        go_wp2_with fail
        refine region_plan (wr.alloc (.cells #[.int .i64 y1, .int .i64 y2] 36)) 25 (.read [0, 1, 3, 4] (.one 2 (.one 5 (.read [6, 7, 8] (.one 9 (.read [10, 11, 12, 13, 14, 16] (.one 15 (.one 17 (.read [18, 19, 20] (.one 21 (.read [22, 23, 24] .stop))))))))))) (by kernel_rfl) (by as_aux_lemma => kernel_rfl) (by kernel_rfl) (by kernel_rfl) (by as_aux_lemma => kernel_rfl) (fun _ d _ _ _ h => by cases d <;> exact h) (Kept.refl _) ?_
        intro wd hwd
        have HV2 := Lib.hid hwd
        clear hwd
        rw [wpPlan_read]; simp only [pickOps_cons, pickOps_nil, consO_some, List.getElem?_cons_zero, List.getElem?_cons_succ]; repeat (go_big_quiet_step (fail))
        refine wpQuiet_nil ?_
        repeat (first
          | (rw [wpPlan_read]; simp only [pickOps_cons, pickOps_nil, consO_some, List.getElem?_cons_zero, List.getElem?_cons_succ]; (repeat (go_big_quiet_step (fail))); refine wpQuiet_nil ?_)
          | (rw [wpPlan_one]; simp only [pickOps_cons, pickOps_nil, consO_some, List.getElem?_cons_zero, List.getElem?_cons_succ]; go_wp2_with (first
              | (go_at_call 16; first
                  | ((with_reducible refine (HCJ.out _ HV2.out).mono ?_); rintro e u ⟨rfl, hk⟩; (replace HV2 := Lib.hid (HV2.out.trans hk)); clear hk)
                  | ((with_reducible refine (HCX.out _ HV2.out).mono ?_); rintro e u ⟨rfl, hk⟩; (replace HV2 := Lib.hid (HV2.out.trans hk)); clear hk)
                  | ((with_reducible refine (HCY.out _ HV2.out).mono ?_); rintro e u ⟨rfl, hk⟩; (replace HV2 := Lib.hid (HV2.out.trans hk)); clear hk))
              | (go_at_call 34; ((with_reducible refine (HCR.out _).mono ?_); rintro e u ⟨rfl, hk⟩; (replace HV2 := Lib.hid (HV2.out.trans hk)); clear hk))
              | (go_at_call 35; ((with_reducible refine (HCA.out _ HV2.out).mono ?_); rintro e u ⟨rfl, hk⟩; (replace HV2 := Lib.hid (HV2.out.trans hk)); clear hk))); refine soloP HV2.out ?_))
        refine wpPlan_stop ?_
        clear bx0 bx1 by0 by1 bj0 bj1 be0 be1 c1 c2
        go_wp2_with fail
        go_roundw
        case rel => exact ⟨t + 1, hlt, by go_num, HR.out.trans (((Kept.refl _).alloc _ _).trans HV2.out)⟩
        case measure => simp [intOf]; omega
    · obtain rfl : t = M := by omega
      have HQ := Lib.hid (HU.out.trans HR.out)
      have HC1 := Lib.hid (fun W h => HK.out.within Ax nx cx Vx Bx mx kx Cx Aj nj cj Vj Bj mj kj Cj W (HIx.out.kept (HQ.out.trans h)) (HDx.out.kept (HQ.out.trans h)) HSx.out.right (HIj.out.kept (HQ.out.trans h)) (HDj.out.kept (HQ.out.trans h)) HSj.out.right (by omega) true ⟨fun _ d hd => (HSj.out.has d).mpr (.inl hd), fun _ => rfl⟩)
      have bx0 := (HBX.out.kept HQ.out).c0; have bx1 := (HBX.out.kept HQ.out).c1
      have by0 := (HBY.out.kept HQ.out).c0; have by1 := (HBY.out.kept HQ.out).c1
      have bj0 := (HBJ.out.kept HQ.out).c0; have bj1 := (HBJ.out.kept HQ.out).c1
      have hV2 := Kept.refl wr
      by_cases hw : ∀ d, hasC Vx Cx d → hasC Vy Cy d
      · have HC2 := Lib.hid (fun W h => HK.out.within Ax nx cx Vx Bx mx kx Cx Ay ny cy Vy By my ky Cy W (HIx.out.kept (HQ.out.trans h)) (HDx.out.kept (HQ.out.trans h)) HSx.out.right (HIy.out.kept (HQ.out.trans h)) (HDy.out.kept (HQ.out.trans h)) HSy.out.right (by omega) true ⟨fun _ => hw, fun _ => rfl⟩)
        have HC3 := Lib.hid (fun W h => HK.out.same Aj nj cj Vj Bj mj kj Cj Ay ny cy Vy By my ky Cy W (HIj.out.kept (HQ.out.trans h)) (HDj.out.kept (HQ.out.trans h)) (HIy.out.kept (HQ.out.trans h)) (HDy.out.kept (HQ.out.trans h)) true (sets_eq HSj.out (SetC.self HSy.out.right) fun d => or_iff_right_of_imp (hw d)))
        clear hw
        go_wp2_with (first
        | (go_at_call 26; first
            | ((with_reducible refine (HC1.out _ hV2).mono ?_); rintro e u ⟨rfl, hk⟩; (replace hV2 := hV2.trans hk); clear bx0 bx1 by0 by1 bj0 bj1 hk; have bx0 := (HBX.out.kept (HQ.out.trans hV2)).c0; have bx1 := (HBX.out.kept (HQ.out.trans hV2)).c1; have by0 := (HBY.out.kept (HQ.out.trans hV2)).c0; have by1 := (HBY.out.kept (HQ.out.trans hV2)).c1; have bj0 := (HBJ.out.kept (HQ.out.trans hV2)).c0; have bj1 := (HBJ.out.kept (HQ.out.trans hV2)).c1)
            | ((with_reducible refine (HC2.out _ hV2).mono ?_); rintro e u ⟨rfl, hk⟩; (replace hV2 := hV2.trans hk); clear bx0 bx1 by0 by1 bj0 bj1 hk; have bx0 := (HBX.out.kept (HQ.out.trans hV2)).c0; have bx1 := (HBX.out.kept (HQ.out.trans hV2)).c1; have by0 := (HBY.out.kept (HQ.out.trans hV2)).c0; have by1 := (HBY.out.kept (HQ.out.trans hV2)).c1; have bj0 := (HBJ.out.kept (HQ.out.trans hV2)).c0; have bj1 := (HBJ.out.kept (HQ.out.trans hV2)).c1))
        | (go_at_call 28; ((with_reducible refine (HC3.out _ hV2).mono ?_); rintro e u ⟨rfl, hk⟩; (replace hV2 := hV2.trans hk); clear bx0 bx1 by0 by1 bj0 bj1 hk; have bx0 := (HBX.out.kept (HQ.out.trans hV2)).c0; have bx1 := (HBX.out.kept (HQ.out.trans hV2)).c1; have by0 := (HBY.out.kept (HQ.out.trans hV2)).c0; have by1 := (HBY.out.kept (HQ.out.trans hV2)).c1; have bj0 := (HBJ.out.kept (HQ.out.trans hV2)).c0; have bj1 := (HBJ.out.kept (HQ.out.trans hV2)).c1))
        | (go_at_call 7; ((refine (HAW.out _).mono ?_); rintro e u ⟨rfl, hk⟩; (replace hV2 := hV2.trans hk))))
        go_ret
        exact ⟨rfl, HW.out.trans (HQ.out.trans hV2)⟩
      · have HC2 := Lib.hid (fun W h => HK.out.within Ax nx cx Vx Bx mx kx Cx Ay ny cy Vy By my ky Cy W (HIx.out.kept (HQ.out.trans h)) (HDx.out.kept (HQ.out.trans h)) HSx.out.right (HIy.out.kept (HQ.out.trans h)) (HDy.out.kept (HQ.out.trans h)) HSy.out.right (by omega) false ⟨fun h => absurd h (by decide), fun h => absurd h hw⟩)
        have HC3 := HC2
        clear hw
        go_wp2_with (first
        | (go_at_call 26; first
            | ((with_reducible refine (HC1.out _ hV2).mono ?_); rintro e u ⟨rfl, hk⟩; (replace hV2 := hV2.trans hk); clear bx0 bx1 by0 by1 bj0 bj1 hk; have bx0 := (HBX.out.kept (HQ.out.trans hV2)).c0; have bx1 := (HBX.out.kept (HQ.out.trans hV2)).c1; have by0 := (HBY.out.kept (HQ.out.trans hV2)).c0; have by1 := (HBY.out.kept (HQ.out.trans hV2)).c1; have bj0 := (HBJ.out.kept (HQ.out.trans hV2)).c0; have bj1 := (HBJ.out.kept (HQ.out.trans hV2)).c1)
            | ((with_reducible refine (HC2.out _ hV2).mono ?_); rintro e u ⟨rfl, hk⟩; (replace hV2 := hV2.trans hk); clear bx0 bx1 by0 by1 bj0 bj1 hk; have bx0 := (HBX.out.kept (HQ.out.trans hV2)).c0; have bx1 := (HBX.out.kept (HQ.out.trans hV2)).c1; have by0 := (HBY.out.kept (HQ.out.trans hV2)).c0; have by1 := (HBY.out.kept (HQ.out.trans hV2)).c1; have bj0 := (HBJ.out.kept (HQ.out.trans hV2)).c0; have bj1 := (HBJ.out.kept (HQ.out.trans hV2)).c1))
        | (go_at_call 28; ((with_reducible refine (HC3.out _ hV2).mono ?_); rintro e u ⟨rfl, hk⟩; (replace hV2 := hV2.trans hk); clear bx0 bx1 by0 by1 bj0 bj1 hk; have bx0 := (HBX.out.kept (HQ.out.trans hV2)).c0; have bx1 := (HBX.out.kept (HQ.out.trans hV2)).c1; have by0 := (HBY.out.kept (HQ.out.trans hV2)).c0; have by1 := (HBY.out.kept (HQ.out.trans hV2)).c1; have bj0 := (HBJ.out.kept (HQ.out.trans hV2)).c0; have bj1 := (HBJ.out.kept (HQ.out.trans hV2)).c1))
        | (go_at_call 7; ((refine (HAW.out _).mono ?_); rintro e u ⟨rfl, hk⟩; (replace hV2 := hV2.trans hk))))
        go_ret
        exact ⟨rfl, HW.out.trans (HQ.out.trans hV2)⟩

theorem csets_big (HA : AwakeC) (Aa : Option Addr) (na ca : Nat) (Ab : Option Addr) (nb cb : Nat) (Ac : Option Addr) (nc cc : Nat) (w : World) (ha : na ≤ 9223372036854775807) (hb : nb ≤ 9223372036854775807) (hc : nc ≤ 9223372036854775807) (h : 40 < na ∨ 40 < nb ∨ 40 < nc) :
    Calls Try.prog 4 #[.slice Aa na ca, .slice Ab nb cb, .slice Ac nc cc] w fun e w' => e = .returned (.bool true) ∧ Kept w w' := by
  have HAW := Lib.hid HA
  clear HA
  by_cases h1 : 40 < na
  · have q0 : decide ((40 : Int) < na) = true := decide_eq_true (by omega)
    have r0 : decide (40 < na) = true := decide_eq_true (by omega)
    clear h1
    clear h
    go_enter Try.func4, Try.ntmps4
    go_wp2_with fail
    go_at_call 7
    refine (HAW.out _).mono ?_
    rintro e w7 ⟨rfl, hk7⟩
    go_wp2_with fail
    go_ret
    exact ⟨rfl, hk7⟩
  · by_cases h2 : 40 < nb
    · have q0 : decide ((40 : Int) < na) = false := decide_eq_false (by omega)
      have r0 : decide (40 < na) = false := decide_eq_false (by omega)
      have q1 : decide ((40 : Int) < nb) = true := decide_eq_true (by omega)
      have r1 : decide (40 < nb) = true := decide_eq_true (by omega)
      clear h1 h2
      clear h
      go_enter Try.func4, Try.ntmps4
      go_wp2_with fail
      go_at_call 7
      refine (HAW.out _).mono ?_
      rintro e w7 ⟨rfl, hk7⟩
      go_wp2_with fail
      go_ret
      exact ⟨rfl, hk7⟩
    · have q0 : decide ((40 : Int) < na) = false := decide_eq_false (by omega)
      have r0 : decide (40 < na) = false := decide_eq_false (by omega)
      have q1 : decide ((40 : Int) < nb) = false := decide_eq_false (by omega)
      have r1 : decide (40 < nb) = false := decide_eq_false (by omega)
      have q2 : decide ((40 : Int) < nc) = true := decide_eq_true (by omega)
      have r2 : decide (40 < nc) = true := decide_eq_true (by omega)
      clear h1 h2
      clear h
      go_enter Try.func4, Try.ntmps4
      go_wp2_with fail
      go_at_call 7
      refine (HAW.out _).mono ?_
      rintro e w7 ⟨rfl, hk7⟩
      go_wp2_with fail
      go_ret
      exact ⟨rfl, hk7⟩
end Go.Proofs.Ytgofecnpmohmgaa
