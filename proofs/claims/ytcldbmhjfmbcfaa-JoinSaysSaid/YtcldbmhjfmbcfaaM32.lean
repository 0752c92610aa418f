/-
  What is proved: awake of layer 9's laws returns true; the world has new blocks at most.
  the document's Beyond of layer 9 (P9.4), called with any state and any set, returns the entries of dots that the set has not; the world has new blocks at most.
-/
import Derived.Test.YtcldbmhjfmbcfaaM31
import Derived.Deep.DeepCutAuto
import Derived.Test.YtcldbmhjfmbcfaaM22
import Derived.Test.YtcldbmhjfmbcfaaM10
namespace Go.Proofs.Ytcldbmhjfmbcfaa
open Go.RowKit
set_option linter.unusedVariables false

set_option maxRecDepth 100000 in
set_option maxHeartbeats 2000000 in
theorem one_any (a b : Int) (p : ByteArray) (n : Int) (w : World) :
    Calls Try.prog 24 #[.int .i64 a, .int .i64 b, .string p, .int .i64 n] w fun e w' => e = .returned (.agg #[.int .i64 a, .int .i64 b, .string p, .int .i64 1, .int .i64 1, .int .i64 n, .string ⟨#[]⟩, .int .i64 0, .int .i64 0]) ∧ Kept w w' := by
  have K0 := Lib.hid (((Kept.refl w).alloc #[.int .i64 a, .int .i64 b, .string p, .int .i64 1, .int .i64 1, .int .i64 n, .string ⟨#[]⟩, .int .i64 0, .int .i64 0] 46))
  go_enter Try.func24, Try.ntmps24
  go_wp2
  refine bodyPost_ret (by simp [results, Try.results24, go_sem, *]) rfl ⟨rfl, ?_⟩
  first | exact K0.out | exact (((((((((((Kept.refl w).alloc #[.int .i64 0, .int .i64 0, .string ⟨#[]⟩, .int .i64 0, .int .i64 0, .int .i64 0, .string ⟨#[]⟩, .int .i64 0, .int .i64 0] 46).setCell (Nat.le_refl _) _).setCell (Nat.le_refl _) _).setCell (Nat.le_refl _) _).setCell (Nat.le_refl _) _).setCell (Nat.le_refl _) _).setCell (Nat.le_refl _) _).setCell (Nat.le_refl _) _).setCell (Nat.le_refl _) _).setCell (Nat.le_refl _) _)

theorem ss_three {w : World} {A0 B0 D0 A1 B1 D1 A2 B2 D2 : Option Addr} {n0 c0 m0 k0 p0 q0 n1 c1 m1 k1 p1 q1 n2 c2 m2 k2 p2 q2 : Nat} {a b c : Sta} (t : TypeId)
    (h0 : Stt w A0 n0 c0 B0 m0 k0 D0 p0 q0 a.L a.V a.C) (h1 : Stt w A1 n1 c1 B1 m1 k1 D1 p1 q1 b.L b.V b.C) (h2 : Stt w A2 n2 c2 B2 m2 k2 D2 p2 q2 c.L c.V c.C) :
    Ss (w.alloc (.cells #[.slice A0 n0 c0, .slice B0 m0 k0, .slice D0 p0 q0, .slice A1 n1 c1, .slice B1 m1 k1, .slice D1 p1 q1, .slice A2 n2 c2, .slice B2 m2 k2, .slice D2 p2 q2] t)) (some ⟨w.heap.size, 0, none⟩) 3 3 [a, b, c] := by
  have hk := (Kept.refl w).alloc #[.slice A0 n0 c0, .slice B0 m0 k0, .slice D0 p0 q0, .slice A1 n1 c1, .slice B1 m1 k1, .slice D1 p1 q1, .slice A2 n2 c2, .slice B2 m2 k2, .slice D2 p2 q2] t
  refine ⟨rfl, Nat.le_refl _, by simp [maxLen], (fun h => by cases h), .inr ⟨w.heap.size, 0, rfl, fun j s hj => ?_⟩⟩
  match j, hj with
  | 0, hj =>
    obtain rfl : a = s := by simpa using hj
    exact ⟨A0, n0, c0, B0, m0, k0, D0, p0, q0, (Kept.refl _).box 0 _ rfl, (Kept.refl _).box 1 _ rfl, (Kept.refl _).box 2 _ rfl, h0.kept hk⟩
  | 1, hj =>
    obtain rfl : b = s := by simpa using hj
    exact ⟨A1, n1, c1, B1, m1, k1, D1, p1, q1, (Kept.refl _).box 3 _ rfl, (Kept.refl _).box 4 _ rfl, (Kept.refl _).box 5 _ rfl, h1.kept hk⟩
  | 2, hj =>
    obtain rfl : c = s := by simpa using hj
    exact ⟨A2, n2, c2, B2, m2, k2, D2, p2, q2, (Kept.refl _).box 6 _ rfl, (Kept.refl _).box 7 _ rfl, (Kept.refl _).box 8 _ rfl, h2.kept hk⟩
  | j + 3, hj => simp at hj
set_option maxRecDepth 100000 in
set_option maxHeartbeats 32000000 in
theorem jawake_any (w : World) : Calls Try.prog 6 #[] w fun e w' => e = .returned (.bool true) ∧ Kept w w' := by
  go_enter Try.func6, Try.ntmps6
  go_wp2_with fail
  go_at_call 24
  refine (one_any 1 1 ⟨#[97]⟩ 5 _).mono ?_
  rintro e v0 ⟨rfl, hk⟩
  have HW := Lib.hid hk
  clear hk
  have AW := Lib.hid (with_any none 0 0 [] none 0 0 [] none 0 0 [] eS v0 (El.nil _) (Il.nil _) (Dl.nil _) riseE_nil Ord.none.ctx (by decide) (by decide))
  go_wp2_with fail
  go_at_call 23
  refine AW.out.mono ?_
  intro e v1 hst
  obtain ⟨A1, n1, c1, B1, m1, k1, D1, p1, q1, _, rfl, hs1, rfl, hk⟩ := stS_at (V := [0, 1]) (C := []) hst setS
  have hka := (Kept.refl v1).alloc #[.slice A1 n1 c1, .slice B1 m1 k1, .slice D1 p1 q1] 28
  have HB1 := Lib.hid (Box3.new v1 (.slice A1 n1 c1) (.slice B1 m1 k1) (.slice D1 p1 q1) 28)
  have HS1 := Lib.hid (show Stt _ A1 n1 c1 B1 m1 k1 D1 p1 q1 sS.L sS.V sS.C from hs1.kept hka)
  have hn1 : n1 = 1 := hs1.el.1
  have hp1 : p1 = 0 := hs1.dl.1
  replace HW := Lib.hid (HW.out.trans (hk.trans hka))
  clear hst hs1 hk hka AW
  have x0 := HB1.out.c0; have x1 := HB1.out.c1; have x2 := HB1.out.c2
  have hkd := (Kept.refl (v1.alloc (.cells #[.slice A1 n1 c1, .slice B1 m1 k1, .slice D1 p1 q1] 28))).alloc #[.int .i64 1, .int .i64 1] 42
  have AW := Lib.hid (without_any A1 n1 c1 sS.L B1 m1 k1 sS.V D1 p1 q1 sS.C _ 1 1 [((1 : Int), (1 : Int))] _ (HS1.out.el.kept hkd) (HS1.out.il.kept hkd) (HS1.out.dl.kept hkd) (dl_one _ 1 1 42) ordS.ctx (by omega) (by omega) (by decide))
  rw [show (v1.alloc (.cells #[.slice A1 n1 c1, .slice B1 m1 k1, .slice D1 p1 q1] 28)).heap.size = v1.heap.size + 1 by simp] at AW
  have HKD := Lib.hid hkd
  clear hkd
  subst hn1 hp1
  go_wp2_with fail
  go_at_call 25
  refine AW.out.mono ?_
  intro e v2 hst
  obtain ⟨A2, n2, c2, B2, m2, k2, D2, p2, q2, _, rfl, hs2, rfl, hk⟩ := stS_at (V := [0, 1]) (C := []) hst setW
  have HS2 := Lib.hid (show Stt _ A2 n2 c2 B2 m2 k2 D2 p2 q2 sW.L sW.V sW.C from hs2)
  have hn2 : n2 = 0 := hs2.el.1
  have hp2 : p2 = 0 := hs2.dl.1
  replace HW := Lib.hid (HW.out.trans (HKD.out.trans hk))
  replace HB1 := Lib.hid (HB1.out.kept (HKD.out.trans hk)); replace HS1 := Lib.hid (HS1.out.kept (HKD.out.trans hk))
  clear hst hs2 hk AW x0 x1 x2 HKD
  subst hn2 hp2
  go_wp2_with fail
  go_at_call 24
  refine (one_any 0 1 ⟨#[97]⟩ 6 _).mono ?_
  rintro e v3 ⟨rfl, hk⟩
  replace HW := Lib.hid (HW.out.trans hk)
  replace HB1 := Lib.hid (HB1.out.kept hk); replace HS1 := Lib.hid (HS1.out.kept hk)
  have AW := Lib.hid (with_any A2 0 c2 sW.L B2 m2 k2 sW.V D2 0 q2 sW.C eT v3 (HS2.out.el.kept hk) (HS2.out.il.kept hk) (HS2.out.dl.kept hk) ordW.rise ordW.ctx (by decide) (by decide))
  clear hk
  go_wp2_with fail
  go_at_call 23
  refine AW.out.mono ?_
  intro e v4 hst
  obtain ⟨A4, n4, c4, B4, m4, k4, D4, p4, q4, _, rfl, hs4, rfl, hk⟩ := stS_at (V := [1, 1]) (C := []) hst setT
  have hka := (Kept.refl v4).alloc #[.slice A4 n4 c4, .slice B4 m4 k4, .slice D4 p4 q4] 28
  have HB4 := Lib.hid (Box3.new v4 (.slice A4 n4 c4) (.slice B4 m4 k4) (.slice D4 p4 q4) 28)
  have HS4 := Lib.hid (show Stt _ A4 n4 c4 B4 m4 k4 D4 p4 q4 sT.L sT.V sT.C from hs4.kept hka)
  have hn4 : n4 = 1 := hs4.el.1
  have hp4 : p4 = 0 := hs4.dl.1
  have hl14 := Nat.lt_of_lt_of_le HB1.out.lt hk.2.2
  have HL14 := Lib.hid hl14
  replace HW := Lib.hid (HW.out.trans (hk.trans hka))
  replace HB1 := Lib.hid (HB1.out.kept (hk.trans hka)); replace HS1 := Lib.hid (HS1.out.kept (hk.trans hka))
  clear hst hs4 hk hka AW hl14 HS2
  subst hn4 hp4
  obtain ⟨W3, hW3⟩ : ∃ W3, v4.alloc (.cells #[.slice A4 1 c4, .slice B4 m4 k4, .slice D4 0 q4] 28) = W3 := ⟨_, rfl⟩
  rw [hW3] at HB4 HS4 HW HB1 HS1
  have HW3 := Lib.hid hW3
  clear hW3
  go_wp2_with fail
  rw [HW3.out]
  have X0 := KExt.cell HB1.out.c0; have X1 := KExt.cell HB1.out.c1; have X2 := KExt.cell HB1.out.c2
  go_cut [3] (fun s3 wx => HasS W3 (fun s => s = sU) s3 wx)
  case first =>
    refine region_plan W3 5 (.read [0] (.two 1 (.two 2 (.one 3 (.one 4 .stop)) 3 (.one 2 (.one 4 .stop))) 3 (.one 1 (.one 2 (.one 4 .stop))))) (by kernel_rfl) (by kernel_rfl) (by kernel_rfl) (by kernel_rfl) (by kernel_rfl) (fun _ d _ _ _ h => by cases d <;> exact h) (Kept.refl _) ?_
    intro wd hwd
    have HV := Lib.hid hwd
    clear hwd
    rw [wpPlan_read]
    simp only [pickOps_cons, pickOps_nil, consO_some, List.getElem?_cons_zero]
    repeat (go_big_quiet_step (fail))
    refine wpQuiet_nil ?_
    clear X0 X1 X2
    rw [wpPlan_two]
    simp only [pickOps_cons, pickOps_nil, consO_some, List.getElem?_cons_zero, List.getElem?_cons_succ]
    constructor
    · go_wp2_with (go_at_call 24; refine (one_any 1 2 ⟨#[98]⟩ 7 _).mono ?_; rintro e u1 ⟨rfl, hk⟩)
      replace HV := Lib.hid (HV.out.trans hk)
      clear hk
      refine soloP HV.out ?_
      rw [wpPlan_two]
      simp only [pickOps_cons, pickOps_nil, consO_some, List.getElem?_cons_zero, List.getElem?_cons_succ]
      constructor
      · go_wp2_with (go_at_call 23; refine (with_any A1 1 c1 sS.L B1 m1 k1 sS.V D1 0 q1 sS.C eU _ (HS1.out.el.kept HV.out) (HS1.out.il.kept HV.out) (HS1.out.dl.kept HV.out) ordS.rise ordS.ctx (by decide) (by decide)).mono ?_; intro e u2 hst; obtain ⟨A5, n5, c5, B5, m5, k5, D5, p5, q5, _, rfl, hs5, rfl, hk⟩ := stS_at (V := [0, 2]) (C := []) hst setU)
        replace HV := Lib.hid (HV.out.trans hk)
        have HS5 := Lib.hid (show Stt _ A5 n5 c5 B5 m5 k5 D5 p5 q5 sU.L sU.V sU.C from hs5)
        clear hst hs5 hk
        refine soloP HV.out ?_
        rw [wpPlan_one]
        simp only [pickOps_cons, pickOps_nil, consO_some, List.getElem?_cons_zero, List.getElem?_cons_succ]
        go_wp2_with fail
        have HF := Lib.hid (show HasS W3 (fun s => s = sU) (.pointer (some ⟨u2.heap.size, 0, none⟩)) (u2.alloc (.cells #[.slice A5 n5 c5, .slice B5 m5 k5, .slice D5 p5 q5] 28)) from ⟨u2.heap.size, A5, n5, c5, B5, m5, k5, D5, p5, q5, sU, rfl, HV.out.2.2, HV.out.alloc _ _, Box3.new _ _ _ _ _, HS5.out.kept ((Kept.refl _).alloc _ _), rfl⟩)
        refine soloP (HV.out.alloc _ _) ?_
        rw [wpPlan_one]
        simp only [pickOps_cons, pickOps_nil, consO_some, List.getElem?_cons_zero, List.getElem?_cons_succ]
        go_wp2_with fail
        refine soloP (HV.out.alloc _ _) ?_
        refine wpPlan_stop ?_
        go_wp2_with fail
        go_meet
        exact HF.out
      · go_wp2_with fail
        have hkn := (Kept.refl u1).alloc #[.slice none 0 0, .slice none 0 0, .slice none 0 0] 28
        have HB7 := Lib.hid (Box3.new u1 (.slice none 0 0) (.slice none 0 0) (.slice none 0 0) 28)
        obtain ⟨b7, hb7⟩ : ∃ b7, (World.heap u1).size = b7 := ⟨_, rfl⟩
        have HL7 := Lib.hid (show W3.heap.size ≤ b7 by rw [← hb7]; exact HV.out.2.2)
        replace HV := Lib.hid (HV.out.trans hkn)
        obtain ⟨u7, hu7⟩ : ∃ u7, World.alloc u1 (.cells #[.slice none 0 0, .slice none 0 0, .slice none 0 0] 28) = u7 := ⟨_, rfl⟩
        rw [hb7, hu7] at HB7
        rw [hu7] at HV ⊢
        rw [hb7]
        clear hkn hb7 hu7
        refine soloP HV.out ?_
        rw [wpPlan_one]
        simp only [pickOps_cons, pickOps_nil, consO_some, List.getElem?_cons_zero, List.getElem?_cons_succ]
        go_wp2_with (go_at_call 23; refine (with_any A1 1 c1 sS.L B1 m1 k1 sS.V D1 0 q1 sS.C eU _ (HS1.out.el.kept HV.out) (HS1.out.il.kept HV.out) (HS1.out.dl.kept HV.out) ordS.rise ordS.ctx (by decide) (by decide)).mono ?_; intro e u2 hst; obtain ⟨A5, n5, c5, B5, m5, k5, D5, p5, q5, _, rfl, hs5, rfl, hk⟩ := stS_at (V := [0, 2]) (C := []) hst setU)
        replace HV := Lib.hid (HV.out.trans hk)
        replace HB7 := Lib.hid (HB7.out.kept hk)
        have HS5 := Lib.hid (show Stt _ A5 n5 c5 B5 m5 k5 D5 p5 q5 sU.L sU.V sU.C from hs5)
        clear hst hs5 hk
        refine soloP HV.out ?_
        rw [wpPlan_one]
        simp only [pickOps_cons, pickOps_nil, consO_some, List.getElem?_cons_zero, List.getElem?_cons_succ]
        have hl7 := HL7.out
        have e0 := HB7.out.c0; have e1 := HB7.out.c1; have e2 := HB7.out.c2; have ef0 := HB7.out.f 0; have ef1 := HB7.out.f 1; have ef2 := HB7.out.f 2
        have HF := Lib.hid (hasS_set (W := W3) (S := fun s => s = sU) (s := sU) HS5.out HB7.out hl7 HV.out rfl)
        go_wp2_with fail
        refine soloP (((HV.out.setCell hl7 _).setCell hl7 _).setCell hl7 _) ?_
        refine wpPlan_stop ?_
        clear e0 e1 e2 ef0 ef1 ef2
        go_wp2_with fail
        go_meet
        exact HF.out
    · go_wp2_with fail
      have hkn := (Kept.refl wd).alloc #[.slice none 0 0, .slice none 0 0, .slice none 0 0] 28
      have HB7 := Lib.hid (Box3.new wd (.slice none 0 0) (.slice none 0 0) (.slice none 0 0) 28)
      obtain ⟨b7, hb7⟩ : ∃ b7, (World.heap wd).size = b7 := ⟨_, rfl⟩
      have HL7 := Lib.hid (show W3.heap.size ≤ b7 by rw [← hb7]; exact HV.out.2.2)
      replace HV := Lib.hid (HV.out.trans hkn)
      obtain ⟨u7, hu7⟩ : ∃ u7, World.alloc wd (.cells #[.slice none 0 0, .slice none 0 0, .slice none 0 0] 28) = u7 := ⟨_, rfl⟩
      rw [hb7, hu7] at HB7
      rw [hu7] at HV ⊢
      rw [hb7]
      clear hkn hb7 hu7
      refine soloP HV.out ?_
      rw [wpPlan_one]
      simp only [pickOps_cons, pickOps_nil, consO_some, List.getElem?_cons_zero, List.getElem?_cons_succ]
      go_wp2_with (go_at_call 24; refine (one_any 1 2 ⟨#[98]⟩ 7 _).mono ?_; rintro e u1 ⟨rfl, hk⟩)
      replace HB7 := Lib.hid (HB7.out.kept hk)
      replace HV := Lib.hid (HV.out.trans hk)
      clear hk
      refine soloP HV.out ?_
      rw [wpPlan_one]
      simp only [pickOps_cons, pickOps_nil, consO_some, List.getElem?_cons_zero, List.getElem?_cons_succ]
      go_wp2_with (go_at_call 23; refine (with_any A1 1 c1 sS.L B1 m1 k1 sS.V D1 0 q1 sS.C eU _ (HS1.out.el.kept HV.out) (HS1.out.il.kept HV.out) (HS1.out.dl.kept HV.out) ordS.rise ordS.ctx (by decide) (by decide)).mono ?_; intro e u2 hst; obtain ⟨A5, n5, c5, B5, m5, k5, D5, p5, q5, _, rfl, hs5, rfl, hk⟩ := stS_at (V := [0, 2]) (C := []) hst setU)
      replace HV := Lib.hid (HV.out.trans hk)
      replace HB7 := Lib.hid (HB7.out.kept hk)
      have HS5 := Lib.hid (show Stt _ A5 n5 c5 B5 m5 k5 D5 p5 q5 sU.L sU.V sU.C from hs5)
      clear hst hs5 hk
      refine soloP HV.out ?_
      rw [wpPlan_one]
      simp only [pickOps_cons, pickOps_nil, consO_some, List.getElem?_cons_zero, List.getElem?_cons_succ]
      have hl7 := HL7.out
      have e0 := HB7.out.c0; have e1 := HB7.out.c1; have e2 := HB7.out.c2; have ef0 := HB7.out.f 0; have ef1 := HB7.out.f 1; have ef2 := HB7.out.f 2
      have HF := Lib.hid (hasS_set (W := W3) (S := fun s => s = sU) (s := sU) HS5.out HB7.out hl7 HV.out rfl)
      go_wp2_with fail
      refine soloP (((HV.out.setCell hl7 _).setCell hl7 _).setCell hl7 _) ?_
      refine wpPlan_stop ?_
      clear e0 e1 e2 ef0 ef1 ef2
      go_wp2_with fail
      go_meet
      exact HF.out
  case rest =>
    clear X0 X1 X2
    obtain ⟨b5, A5, n5, c5, B5, m5, k5, D5, p5, q5, _, rfl, hb5, hk5, hbx, hst, rfl⟩ := hcut
    have hn5 : n5 = 2 := hst.el.1
    have hp5 : p5 = 0 := hst.dl.1
    replace HW := Lib.hid (HW.out.trans hk5)
    replace HB1 := Lib.hid (HB1.out.kept hk5); replace HS1 := Lib.hid (HS1.out.kept hk5); replace HB4 := Lib.hid (HB4.out.kept hk5); replace HS4 := Lib.hid (HS4.out.kept hk5)
    have HB5 := Lib.hid hbx; have HS5 := Lib.hid hst
    have HL5 := Lib.hid hb5
    clear hbx hst hk5 hb5
    subst hn5 hp5
    have x0 := HB4.out.c0; have x1 := HB4.out.c1; have x2 := HB4.out.c2; have y0 := HB5.out.c0; have y1 := HB5.out.c1; have y2 := HB5.out.c2
    go_wp2_with fail
    go_at_call 8
    refine (join_any A4 1 c4 B4 m4 k4 D4 0 q4 sT A5 2 c5 B5 m5 k5 D5 0 q5 sU _ HS4.out HS5.out ordT ordU (by decide) (by decide) (by decide) (by decide)).mono ?_
    rintro e w6 ⟨A6, n6, c6, B6, m6, k6, D6, p6, q6, j, rfl, hs6, hj6, hk6⟩
    obtain rfl := hj6.1.one joinTU
    have hka := (Kept.refl w6).alloc #[.slice A6 n6 c6, .slice B6 m6 k6, .slice D6 p6 q6] 28
    have HB6 := Lib.hid (Box3.new w6 (.slice A6 n6 c6) (.slice B6 m6 k6) (.slice D6 p6 q6) 28)
    have HS6 := Lib.hid (hs6.kept hka)
    have hn6 : n6 = 2 := hs6.el.1
    have hp6 : p6 = 0 := hs6.dl.1
    replace HW := Lib.hid (HW.out.trans (hk6.trans hka))
    replace HB1 := Lib.hid (HB1.out.kept (hk6.trans hka)); replace HS1 := Lib.hid (HS1.out.kept (hk6.trans hka)); replace HB4 := Lib.hid (HB4.out.kept (hk6.trans hka)); replace HS4 := Lib.hid (HS4.out.kept (hk6.trans hka)); replace HB5 := Lib.hid (HB5.out.kept (hk6.trans hka)); replace HS5 := Lib.hid (HS5.out.kept (hk6.trans hka))
    clear hs6 hj6 hk6 hka x0 x1 x2 y0 y1 y2
    subst hn6 hp6
    obtain ⟨W6, hW6⟩ : ∃ W6, w6.alloc (.cells #[.slice A6 2 c6, .slice B6 m6 k6, .slice D6 0 q6] 28) = W6 := ⟨_, rfl⟩
    rw [hW6] at HW HB1 HS1 HB4 HS4 HB5 HS5 HB6 HS6
    have HW6 := Lib.hid hW6
    clear hW6
    go_wp2_with fail
    rw [HW6.out]
    have X0 := KExt.cell HB4.out.c0; have X1 := KExt.cell HB4.out.c1; have X2 := KExt.cell HB4.out.c2; have Y0 := KExt.cell HB5.out.c0; have Y1 := KExt.cell HB5.out.c1; have Y2 := KExt.cell HB5.out.c2
    refine region_plan W6 10 (.read [0, 1, 5, 6] (.one 2 (.one 3 (.one 4 (.one 7 (.read [8, 9] .stop)))))) (by kernel_rfl) (by kernel_rfl) (by kernel_rfl) (by kernel_rfl) (by kernel_rfl) (fun _ d _ _ _ h => by cases d <;> exact h) (Kept.refl _) ?_
    intro wd hwd
    have HV := Lib.hid hwd
    clear hwd
    rw [wpPlan_read]
    simp only [pickOps_cons, pickOps_nil, consO_some, List.getElem?_cons_zero, List.getElem?_cons_succ]
    repeat (go_big_quiet_step (fail))
    refine wpQuiet_nil ?_
    clear X0 X1 X2 Y0 Y1 Y2
    rw [wpPlan_one]
    simp only [pickOps_cons, pickOps_nil, consO_some, List.getElem?_cons_zero, List.getElem?_cons_succ]
    go_wp2_with fail
    have HDD := Lib.hid (dl_one wd 1 1 42)
    obtain ⟨b7, hb7⟩ : ∃ b7, wd.heap.size = b7 := ⟨_, rfl⟩
    obtain ⟨u7, hu7⟩ : ∃ u7, wd.alloc (.cells #[.int .i64 1, .int .i64 1] 42) = u7 := ⟨_, rfl⟩
    have hv := HV.out.alloc #[.int .i64 1, .int .i64 1] 42
    rw [hb7, hu7] at HDD
    rw [hu7] at hv ⊢
    rw [hb7]
    replace HV := Lib.hid hv
    clear hv hb7 hu7
    refine soloP HV.out ?_
    rw [wpPlan_one]
    simp only [pickOps_cons, pickOps_nil, consO_some, List.getElem?_cons_zero, List.getElem?_cons_succ]
    go_wp2_with (go_at_call 26; refine (gof_any _ 1 1 [((1 : Int), (1 : Int))] _ HDD.out (by decide)).mono ?_; rintro e u8 ⟨A8, n8, c8, B8, m8, k8, V8, C8, rfl, hi, hd, hs, hm, hk, _, _⟩)
    obtain ⟨rfl, rfl⟩ := hs.same setO fun d => Iff.rfl
    replace HV := Lib.hid (HV.out.trans hk)
    have HI8 := Lib.hid hi; have HD8 := Lib.hid hd
    have hm8 : m8 = 0 := hd.1
    clear hi hd hs hm hk
    subst hm8
    refine soloP HV.out ?_
    rw [wpPlan_one]
    simp only [pickOps_cons, pickOps_nil, consO_some, List.getElem?_cons_zero, List.getElem?_cons_succ]
    go_wp2_with (go_at_call 15; refine (beyond_any A5 2 c5 sU.L (.slice B5 m5 k5) (.slice D5 0 q5) A8 n8 c8 [0, 1] B8 0 k8 [] _ (HS5.out.el.kept HV.out) HI8.out HD8.out (by decide) (by decide) (fun x hx => by cases hx) ordU.wfL).mono ?_; rintro e u9 ⟨A9, c9, rfl, he9, hk⟩)
    rw [beyU] at he9 ⊢
    replace HV := Lib.hid (HV.out.trans hk)
    have HE9 := Lib.hid he9
    clear he9 hk
    refine soloP HV.out ?_
    rw [wpPlan_one]
    simp only [pickOps_cons, pickOps_nil, consO_some, List.getElem?_cons_zero, List.getElem?_cons_succ]
    go_wp2_with (go_at_call 18; refine (gone_any A4 1 c4 B4 m4 k4 D4 0 q4 sT A5 2 c5 (.slice B5 m5 k5) (.slice D5 0 q5) sU _ (HS4.out.kept HV.out) (HS5.out.el.kept HV.out) ordT ordU.wfL (by decide) (by decide) (by decide)).mono ?_; rintro e u10 ⟨A10, c10, rfl, hd10, hk⟩)
    rw [goneTU] at hd10 ⊢
    replace HV := Lib.hid (HV.out.trans hk)
    have HD10 := Lib.hid hd10
    replace HE9 := Lib.hid (HE9.out.kept hk)
    clear hd10 hk
    refine soloP HV.out ?_
    rw [wpPlan_read]
    simp only [pickOps_cons, pickOps_nil, consO_some, List.getElem?_cons_zero, List.getElem?_cons_succ]
    repeat (go_big_quiet_step (fail))
    refine wpQuiet_nil ?_
    refine wpPlan_stop ?_
    replace HW := Lib.hid (HW.out.trans HV.out)
    replace HB1 := Lib.hid (HB1.out.kept HV.out); replace HS1 := Lib.hid (HS1.out.kept HV.out); replace HB4 := Lib.hid (HB4.out.kept HV.out); replace HS4 := Lib.hid (HS4.out.kept HV.out); replace HB5 := Lib.hid (HB5.out.kept HV.out); replace HS5 := Lib.hid (HS5.out.kept HV.out); replace HB6 := Lib.hid (HB6.out.kept HV.out); replace HS6 := Lib.hid (HS6.out.kept HV.out)
    clear HV HI8 HD8 HDD
    have z0 := HB6.out.c0; have z1 := HB6.out.c1; have z2 := HB6.out.c2
    go_wp2_with fail
    clear z0 z1 z2
    obtain ⟨g6, o6, y6, rfl, hy6, EA⟩ := HS6.out.el.get (k := 0) (by decide)
    obtain rfl : eT = y6 := by simpa [sJ] using hy6
    obtain ⟨g6b, o6b, y6b, hgb, hy6b, EB⟩ := HS6.out.el.get (k := 1) (by decide)
    obtain ⟨rfl, rfl⟩ : g6 = g6b ∧ o6 = o6b := by simpa using hgb
    obtain rfl : eU = y6b := by simpa [sJ] using hy6b
    obtain ⟨g9, o9, y9, rfl, hy9, EC⟩ := HE9.out.get (k := 0) (by decide)
    obtain rfl : eU = y9 := by simpa using hy9
    obtain ⟨g10, o10, y10, rfl, hy10, ED1, ED2⟩ := HD10.out.get (k := 0) (by decide)
    obtain rfl : ((1 : Int), (1 : Int)) = y10 := by simpa using hy10
    have ea := EA.c5; have eb := EB.c5; have ec := EC.c5
    simp only [Nat.zero_mul, Nat.one_mul, Nat.add_zero, eT, eU] at ea eb ec ED1 ED2
    have v1 := KExt.cell ea; have v2 := KExt.cell eb; have v3 := KExt.cell ec; have v4 := KExt.cell ED1; have v5 := KExt.cell ED2
    clear EA EB EC ED1 ED2 hy6 hy6b hy9 hy10 hgb ea eb ec
    have X0 := KExt.cell HB1.out.c0; have X1 := KExt.cell HB1.out.c1; have X2 := KExt.cell HB1.out.c2
    have Y0 := KExt.cell HB4.out.c0; have Y1 := KExt.cell HB4.out.c1; have Y2 := KExt.cell HB4.out.c2
    have Z0 := KExt.cell HB5.out.c0; have Z1 := KExt.cell HB5.out.c1; have Z2 := KExt.cell HB5.out.c2
    have T0 := KExt.cell HB6.out.c0; have T1 := KExt.cell HB6.out.c1; have T2 := KExt.cell HB6.out.c2
    refine region_plan _ 64 (.read [0, 1, 2, 3, 4, 5, 6, 7, 8, 9, 10, 11, 12, 13, 14, 15, 16, 17, 18, 19] (.one 20 (.one 21 (.read [22, 23, 24, 25, 26, 29] (.one 27 (.one 28 (.one 30 (.read [31, 32, 33, 34] (.one 35 (.read [36, 37, 38, 39] (.one 40 (.read [41, 42, 43, 44] (.one 45 (.read [46, 47, 48, 49, 50, 51, 52, 53, 54, 55, 56, 57, 58, 59, 60, 61, 62, 63] .stop)))))))))))))) (by kernel_rfl) (by kernel_rfl) (by kernel_rfl) (by kernel_rfl) (by kernel_rfl) (fun _ d _ _ _ h => by cases d <;> exact h) (Kept.refl _) ?_
    intro wd8 hwd
    have HV := Lib.hid hwd
    clear hwd
    rw [wpPlan_read]
    simp only [pickOps_cons, pickOps_nil, consO_some, List.getElem?_cons_zero, List.getElem?_cons_succ]
    repeat (go_big_quiet_step (fail))
    refine wpQuiet_nil ?_
    rw [wpPlan_one]
    simp only [pickOps_cons, pickOps_nil, consO_some, List.getElem?_cons_zero, List.getElem?_cons_succ]
    go_wp2_with (go_at_call 8; refine (join_any A5 2 c5 B5 m5 k5 D5 0 q5 sU A4 1 c4 B4 m4 k4 D4 0 q4 sT _ (HS5.out.kept HV.out) (HS4.out.kept HV.out) ordU ordT (by decide) (by decide) (by decide) (by decide)).mono ?_; rintro e a1 ⟨Ax, nx, cx, Bx, mx, kx, Dx, px, qx, jx, rfl, hsx, hjx, hk⟩)
    obtain rfl := hjx.1.one joinUT
    replace HV := Lib.hid (HV.out.trans hk)
    have HSX := Lib.hid hsx
    clear hsx hjx hk
    refine soloP HV.out ?_
    rw [wpPlan_one]
    simp only [pickOps_cons, pickOps_nil, consO_some, List.getElem?_cons_zero, List.getElem?_cons_succ]
    go_wp2_with (go_at_call 27; refine (ssame_any _ 2 c6 sJ.L B6 m6 k6 sJ.V D6 0 q6 sJ.C Ax nx cx sJ.L Bx mx kx sJ.V Dx px qx sJ.C _ (HS6.out.el.kept HV.out) (HS6.out.il.kept HV.out) (HS6.out.dl.kept HV.out) HSX.out.el HSX.out.il HSX.out.dl true ⟨fun _ => ⟨rfl, rfl, rfl⟩, fun _ => rfl⟩).mono ?_; rintro e a2 ⟨rfl, hk⟩)
    replace HV := Lib.hid (HV.out.trans hk)
    clear hk HSX
    refine soloP HV.out ?_
    rw [wpPlan_read]
    simp only [pickOps_cons, pickOps_nil, consO_some, List.getElem?_cons_zero, List.getElem?_cons_succ]
    repeat (go_big_quiet_step (fail))
    refine wpQuiet_nil ?_
    rw [wpPlan_one]
    simp only [pickOps_cons, pickOps_nil, consO_some, List.getElem?_cons_zero, List.getElem?_cons_succ]
    go_wp2_with fail
    have HSS := Lib.hid (ss_three 28 (HS1.out.kept HV.out) (HS4.out.kept HV.out) (HS5.out.kept HV.out))
    have hv := HV.out.alloc #[.slice A1 1 c1, .slice B1 m1 k1, .slice D1 0 q1, .slice A4 1 c4, .slice B4 m4 k4, .slice D4 0 q4, .slice A5 2 c5, .slice B5 m5 k5, .slice D5 0 q5] 28
    obtain ⟨a3, ha3⟩ : ∃ a3, a2.alloc (.cells #[.slice A1 1 c1, .slice B1 m1 k1, .slice D1 0 q1, .slice A4 1 c4, .slice B4 m4 k4, .slice D4 0 q4, .slice A5 2 c5, .slice B5 m5 k5, .slice D5 0 q5] 28) = a3 := ⟨_, rfl⟩
    obtain ⟨bx, hbx⟩ : ∃ bx, a2.heap.size = bx := ⟨_, rfl⟩
    rw [hbx, ha3] at HSS
    rw [ha3] at hv ⊢
    rw [hbx]
    replace HV := Lib.hid hv
    clear hv ha3 hbx
    refine soloP HV.out ?_
    rw [wpPlan_one]
    simp only [pickOps_cons, pickOps_nil, consO_some, List.getElem?_cons_zero, List.getElem?_cons_succ]
    go_wp2_with (go_at_call 10; refine (all_any 10 3 (by decide) _ 3 3 [sS, sT, sU] _ HSS.out (fun s hs => by
        simp only [List.mem_cons, List.not_mem_nil, or_false] at hs
        rcases hs with rfl | rfl | rfl
        · exact ⟨ordS, by decide, by decide⟩
        · exact ⟨ordT, by decide, by decide⟩
        · exact ⟨ordU, by decide, by decide⟩) rfl).mono ?_; rintro e a4 ⟨Ax, nx, cx, Bx, mx, kx, Dx, px, qx, jx, rfl, hsx, hjx, hk⟩)
    obtain rfl := allSTU hjx.1
    replace HV := Lib.hid (HV.out.trans hk)
    have HSX := Lib.hid hsx
    clear hsx hjx hk
    refine soloP HV.out ?_
    rw [wpPlan_one]
    simp only [pickOps_cons, pickOps_nil, consO_some, List.getElem?_cons_zero, List.getElem?_cons_succ]
    go_wp2_with (go_at_call 27; refine (ssame_any Ax nx cx sJ.L Bx mx kx sJ.V Dx px qx sJ.C _ 2 c6 sJ.L B6 m6 k6 sJ.V D6 0 q6 sJ.C _ HSX.out.el HSX.out.il HSX.out.dl (HS6.out.el.kept HV.out) (HS6.out.il.kept HV.out) (HS6.out.dl.kept HV.out) true ⟨fun _ => ⟨rfl, rfl, rfl⟩, fun _ => rfl⟩).mono ?_; rintro e a5 ⟨rfl, hk⟩)
    replace HV := Lib.hid (HV.out.trans hk)
    clear hk HSX HSS
    refine soloP HV.out ?_
    rw [wpPlan_read]
    simp only [pickOps_cons, pickOps_nil, consO_some, List.getElem?_cons_zero, List.getElem?_cons_succ]
    repeat (go_big_quiet_step (fail))
    refine wpQuiet_nil ?_
    rw [wpPlan_one]
    simp only [pickOps_cons, pickOps_nil, consO_some, List.getElem?_cons_zero, List.getElem?_cons_succ]
    go_wp2_with (go_at_call 12; refine (covers_any _ 2 c6 B6 m6 k6 D6 0 q6 sJ A1 1 c1 B1 m1 k1 D1 0 q1 sS _ (HS6.out.kept HV.out) (HS1.out.kept HV.out) ordJ ordS (by decide) (by decide) (by decide) (by decide) true (⟨fun _ => coverJS, fun _ => rfl⟩)).mono ?_; rintro e a6 ⟨rfl, hk⟩)
    replace HV := Lib.hid (HV.out.trans hk)
    clear hk
    refine soloP HV.out ?_
    rw [wpPlan_read]
    simp only [pickOps_cons, pickOps_nil, consO_some, List.getElem?_cons_zero, List.getElem?_cons_succ]
    repeat (go_big_quiet_step (fail))
    refine wpQuiet_nil ?_
    rw [wpPlan_one]
    simp only [pickOps_cons, pickOps_nil, consO_some, List.getElem?_cons_zero, List.getElem?_cons_succ]
    go_wp2_with (go_at_call 12; refine (covers_any A4 1 c4 B4 m4 k4 D4 0 q4 sT A1 1 c1 B1 m1 k1 D1 0 q1 sS _ (HS4.out.kept HV.out) (HS1.out.kept HV.out) ordT ordS (by decide) (by decide) (by decide) (by decide) true (⟨fun _ => coverTS, fun _ => rfl⟩)).mono ?_; rintro e a7 ⟨rfl, hk⟩)
    replace HV := Lib.hid (HV.out.trans hk)
    clear hk
    refine soloP HV.out ?_
    rw [wpPlan_read]
    simp only [pickOps_cons, pickOps_nil, consO_some, List.getElem?_cons_zero, List.getElem?_cons_succ]
    repeat (go_big_quiet_step (fail))
    refine wpQuiet_nil ?_
    rw [wpPlan_one]
    simp only [pickOps_cons, pickOps_nil, consO_some, List.getElem?_cons_zero, List.getElem?_cons_succ]
    go_wp2_with (go_at_call 12; refine (covers_any A1 1 c1 B1 m1 k1 D1 0 q1 sS A4 1 c4 B4 m4 k4 D4 0 q4 sT _ (HS1.out.kept HV.out) (HS4.out.kept HV.out) ordS ordT (by decide) (by decide) (by decide) (by decide) false (⟨(fun h => by cases h), fun h => absurd h coverST⟩)).mono ?_; rintro e a8 ⟨rfl, hk⟩)
    replace HV := Lib.hid (HV.out.trans hk)
    clear hk
    refine soloP HV.out ?_
    rw [wpPlan_read]
    simp only [pickOps_cons, pickOps_nil, consO_some, List.getElem?_cons_zero, List.getElem?_cons_succ]
    repeat (go_big_quiet_step (fail))
    refine wpQuiet_nil ?_
    refine wpPlan_stop ?_
    clear v1 v2 v3 v4 v5 X0 X1 X2 Y0 Y1 Y2 Z0 Z1 Z2 T0 T1 T2
    go_wp2_with fail
    go_ret
    exact ⟨rfl, HW.out.trans HV.out⟩
end Go.Proofs.Ytcldbmhjfmbcfaa

namespace Go.Proofs.Ytcldbmhjfmbcfaa
open Go.RowKit
set_option linter.unusedVariables false

set_option maxRecDepth 100000 in
set_option maxHeartbeats 8000000 in
theorem rbeyond_any (A : Option Addr) (n c : Nat) (L : List En) (u1 u2 : Value) (B : Option Addr) (m k : Nat) (V : List Int) (D : Option Addr) (p q : Nat) (C : List (Int × Int)) (w : World) (h : El w A n c L) (hi : Il w B m k V) (hd : Dl w D p q C) (hn : n ≤ 1000000) :
    Calls Try.prog 16 #[.agg #[.slice A n c, u1, u2], .agg #[.slice B m k, .slice D p q]] w (EntsR (L.filter (newE V C)) w) := by
  have hk := ((Kept.refl w).alloc #[.slice A n c, u1, u2] 28).alloc #[.slice B m k, .slice D p q] 26
  have b0 := (Box3.new w (.slice A n c) u1 u2 28).kept ((Kept.refl _).alloc #[.slice B m k, .slice D p q] 26)
  have b1 := Box2.new (w.alloc (.cells #[.slice A n c, u1, u2] 28)) (.slice B m k) (.slice D p q) 26
  rw [show (w.alloc (.cells #[.slice A n c, u1, u2] 28)).heap.size = w.heap.size + 1 by simp] at b1
  have hcap := h.cap.1; have hcap2 := h.cap.2
  have HNL := Lib.hid h.1
  have HH := Lib.hid (h.kept hk); have HI := Lib.hid (hi.kept hk); have HD := Lib.hid (hd.kept hk)
  obtain ⟨U, hU⟩ : ∃ U, (w.alloc (.cells #[.slice A n c, u1, u2] 28)).alloc (.cells #[.slice B m k, .slice D p q] 26) = U := ⟨_, rfl⟩
  rw [hU] at hk b0 b1 HH HI HD
  have HUU := Lib.hid hU; have HK := Lib.hid hk; have HB1 := Lib.hid b1
  have d0 := b0.c0
  clear h hi hd hk hU b0 b1
  go_enter Try.func16, Try.ntmps16
  go_wp2_with fail
  rw [HUU.out]
  go_wp2_with fail
  clear d0
  go_loopw [5, 11] (fun v i wr => ∃ t : Nat, t ≤ n ∧ i = .int .i64 t ∧ OutE U wr v ((L.take t).filter (newE V C))) (fun _ i _ => n - (intOf i).toNat)
  case atStart => exact ⟨0, Nat.zero_le _, rfl, by rw [List.take_zero]; exact OutE.start U⟩
  case round =>
    obtain ⟨t, ht, rfl, hm⟩ := hrel
    obtain ⟨A3, c3, rfl, hel3, hfr3, hc3, hcm3⟩ := hm.form
    have HO := Lib.hid hm
    have HE3 := Lib.hid hel3
    clear hm hel3 hfr3
    by_cases hlt : t < n
    · obtain ⟨g, o, x, rfl, hx, EX⟩ := (HH.out.kept HO.out.ke).get hlt
      have x0 := EX.c0; have x1 := EX.c1; have x2 := EX.c2; have x3 := EX.c3; have x4 := EX.c4; have x5 := EX.c5; have x6 := EX.c6; have x7 := EX.c7; have x8 := EX.c8
      have HXX := Lib.hid hx
      obtain ⟨z, hz⟩ : ∃ z, decide (hasC V C x.d) = z := ⟨_, rfl⟩
      have hka := (Kept.refl wr).alloc #[.int .i64 x.d.1, .int .i64 x.d.2, .string x.p, .int .i64 x.k, .int .i64 x.vk, .int .i64 x.vn, .string x.vt, .int .i64 x.e.1, .int .i64 x.e.2] 46
      have AP := Lib.hid (rhasC_any B m k V D p q C x.d.1 x.d.2 _ (HI.out.kept (HO.out.ke.trans hka)) (HD.out.kept (HO.out.ke.trans hka)) z hz)
      have hb := HB1.out.kept (HO.out.ke.trans hka)
      have q0 := hb.c0; have q1 := hb.c1
      have HZ := Lib.hid (show newE V C x = !z by unfold newE; rw [hz])
      have HE := Lib.hid (Ent.new wr x 46)
      clear EX hx hz hb
      have e5 := HE.out
      have z0 := e5.c0; have z1 := e5.c1; have z2 := e5.c2; have z3 := e5.c3; have z4 := e5.c4; have z5 := e5.c5; have z6 := e5.c6; have z7 := e5.c7; have z8 := e5.c8
      clear e5 hka
      go_wp2_with fail
      go_at_call 38
      refine AP.out.mono ?_
      rintro e w5 ⟨rfl, hk5⟩
      have hk6 := ((Kept.refl wr).alloc #[.int .i64 x.d.1, .int .i64 x.d.2, .string x.p, .int .i64 x.k, .int .i64 x.vk, .int .i64 x.vn, .string x.vt, .int .i64 x.e.1, .int .i64 x.e.2] 46).trans hk5
      have HE5 := Lib.hid (HE.out.kept hk5)
      clear x0 x1 x2 x3 x4 x5 x6 x7 x8 q0 q1
      clear z0 z1 z2 z3 z4 z5 z6 z7 z8
      cases z with
      | true =>
        have HN := Lib.hid (filt_skip HXX.out (f := newE V C) (by rw [HZ.out]; rfl))
        have HO6 := Lib.hid (HO.out.kept hk6)
        clear hk5 hk6
        go_wp2_with fail
        go_roundw
        case rel => exact ⟨t + 1, hlt, by go_num, by rw [HN.out]; exact HO6.out⟩
        case measure => simp [intOf]; omega
      | false =>
        have HN := Lib.hid (filt_put HXX.out (f := newE V C) (by rw [HZ.out]; rfl))
        have hle : ((L.take t).filter (newE V C)).length ≤ 1000000 := Nat.le_trans (List.length_filter_le ..) (by rw [List.length_take]; omega)
        have hk7 := hk6.trans ((Kept.refl w5).alloc #[.int .i64 x.d.1, .int .i64 x.d.2, .string x.p, .int .i64 x.k, .int .i64 x.vk, .int .i64 x.vn, .string x.vt, .int .i64 x.e.1, .int .i64 x.e.2] 46)
        obtain ⟨v8, w8, hr8, ho8⟩ := (HO.out.kept hk7).app _ _ _ _ (el_one (Ent.new w5 x 46)) (by omega)
        have HR8 := Lib.hid hr8
        have HO8 := Lib.hid ho8
        have e5 := HE5.out
        have y0 := e5.c0; have y1 := e5.c1; have y2 := e5.c2; have y3 := e5.c3; have y4 := e5.c4; have y5 := e5.c5; have y6 := e5.c6; have y7 := e5.c7; have y8 := e5.c8
        clear hr8 ho8 hk5 hk6 hk7 e5 hle
        go_wp2_with (at_builtin; refine Lib.wpList_append_run _ rfl (.tmp 20) (.tmp 22) _ _ rfl _ _ rfl rfl _ _ HR8.out ?_)
        go_roundw
        case rel => exact ⟨t + 1, hlt, by go_num, by rw [HN.out]; exact HO8.out⟩
        case measure => simp [intOf]; omega
    · obtain rfl : t = n := by omega
      have HT := Lib.hid (show L.take t = L from List.take_of_length_le (by rw [← HNL.out]; exact Nat.le_refl _))
      go_wp2_with fail
      go_ret
      rw [HT.out] at HE3 ⊢
      exact ⟨A3, c3, rfl, HE3.out, HK.out.trans HO.out.ke⟩
end Go.Proofs.Ytcldbmhjfmbcfaa

