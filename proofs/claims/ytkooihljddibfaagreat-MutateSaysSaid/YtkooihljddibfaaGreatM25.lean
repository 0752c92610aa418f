/-
  What is proved: With of package store (P8.3), called with any state in order and any entry, returns the state with that entry at its place and its dot in its set; the world has new blocks at most.
  plain facts on the states of the example that layer 10's laws answer: their sets, and what is joined of them.
-/
import Derived.Test.YtkooihljddibfaaGreatM17
import Derived.Test.YtkooihljddibfaaGreatM23
import Derived.Test.YtkooihljddibfaaGreatM24
namespace Go.Proofs.YtkooihljddibfaaGreat
open Go.RowKit
set_option linter.unusedVariables false

set_option maxRecDepth 100000 in
set_option maxHeartbeats 16000000 in
theorem with_any (A : Option Addr) (n c : Nat) (L : List En) (B : Option Addr) (m k : Nat) (V : List Int) (D : Option Addr) (p q : Nat) (C : List (Int × Int)) (x : En) (w : World)
    (h : El w A n c L) (hi : Il w B m k V) (hd : Dl w D p q C) (hr : RiseE L) (hc : RightC V C) (hn : n ≤ 10000) (hp : p ≤ 10000) :
    Calls Tryz.prog 26 #[.agg #[.slice A n c, .slice B m k, .slice D p q], .agg #[.int .i64 x.d.1, .int .i64 x.d.2, .string x.p, .int .i64 x.k, .int .i64 x.vk, .int .i64 x.vn, .string x.vt, .int .i64 x.e.1, .int .i64 x.e.2]] w (StS (withE L x) (fun d => hasC V C d ∨ (rightD d = true ∧ d = x.d)) (p + 1) w) := by
  have hk := ((Kept.refl w).alloc #[.slice A n c, .slice B m k, .slice D p q] 28).alloc #[.int .i64 x.d.1, .int .i64 x.d.2, .string x.p, .int .i64 x.k, .int .i64 x.vk, .int .i64 x.vn, .string x.vt, .int .i64 x.e.1, .int .i64 x.e.2] 34
  have hk3 := hk.alloc #[.slice none 0 0, .slice none 0 0, .slice none 0 0] 28
  have hcap := h.cap.1; have hcap2 := h.cap.2
  have HPL := Lib.hid hd.1
  have HC := Lib.hid hc
  have HRI := Lib.hid hr
  have HNL := Lib.hid h.1
  have hb0 := ((Box3.new w (.slice A n c) (.slice B m k) (.slice D p q) 28).kept ((Kept.refl _).alloc #[.int .i64 x.d.1, .int .i64 x.d.2, .string x.p, .int .i64 x.k, .int .i64 x.vk, .int .i64 x.vn, .string x.vt, .int .i64 x.e.1, .int .i64 x.e.2] 34)).kept ((Kept.refl _).alloc #[.slice none 0 0, .slice none 0 0, .slice none 0 0] 28)
  have he0 := (Ent.new (w.alloc (.cells #[.slice A n c, .slice B m k, .slice D p q] 28)) x 34).kept ((Kept.refl _).alloc #[.slice none 0 0, .slice none 0 0, .slice none 0 0] 28)
  rw [show (w.alloc (.cells #[.slice A n c, .slice B m k, .slice D p q] 28)).heap.size = w.heap.size + 1 by simp] at he0
  have hr0 := Box3.new ((w.alloc (.cells #[.slice A n c, .slice B m k, .slice D p q] 28)).alloc (.cells #[.int .i64 x.d.1, .int .i64 x.d.2, .string x.p, .int .i64 x.k, .int .i64 x.vk, .int .i64 x.vn, .string x.vt, .int .i64 x.e.1, .int .i64 x.e.2] 34)) (.slice none 0 0) (.slice none 0 0) (.slice none 0 0) 28
  rw [show ((w.alloc (.cells #[.slice A n c, .slice B m k, .slice D p q] 28)).alloc (.cells #[.int .i64 x.d.1, .int .i64 x.d.2, .string x.p, .int .i64 x.k, .int .i64 x.vk, .int .i64 x.vn, .string x.vt, .int .i64 x.e.1, .int .i64 x.e.2] 34)).heap.size = w.heap.size + 2 by simp] at hr0
  have HB0 := Lib.hid hb0; have HE0 := Lib.hid he0; have HR0 := Lib.hid hr0
  have HK3 := Lib.hid hk3
  have HH3 := Lib.hid (h.kept hk3); have HI3 := Lib.hid (hi.kept hk3); have HD3 := Lib.hid (hd.kept hk3)
  obtain ⟨z, hz⟩ : ∃ z, hasE L x.d = z := ⟨_, rfl⟩
  have HS := Lib.hid (find_any A n c L (.slice B m k) (.slice D p q) x.d.1 x.d.2 _ (h.kept hk3) hr (by omega) z hz)
  have HZ := Lib.hid hz
  have hsz3 : (((w.alloc (.cells #[.slice A n c, .slice B m k, .slice D p q] 28)).alloc (.cells #[.int .i64 x.d.1, .int .i64 x.d.2, .string x.p, .int .i64 x.k, .int .i64 x.vk, .int .i64 x.vn, .string x.vt, .int .i64 x.e.1, .int .i64 x.e.2] 34)).alloc (.cells #[.slice none 0 0, .slice none 0 0, .slice none 0 0] 28)).heap.size = w.heap.size + 3 := by simp
  obtain ⟨U, hU⟩ : ∃ U, ((w.alloc (.cells #[.slice A n c, .slice B m k, .slice D p q] 28)).alloc (.cells #[.int .i64 x.d.1, .int .i64 x.d.2, .string x.p, .int .i64 x.k, .int .i64 x.vk, .int .i64 x.vn, .string x.vt, .int .i64 x.e.1, .int .i64 x.e.2] 34)).alloc (.cells #[.slice none 0 0, .slice none 0 0, .slice none 0 0] 28) = U := ⟨_, rfl⟩
  rw [hU] at HK3 HH3 HI3 HD3 HS HB0 HE0 HR0 hsz3
  have HUU := Lib.hid hU
  have b0 := HB0.out.c0; have b1 := HB0.out.c1; have b2 := HB0.out.c2; have y0 := HE0.out.c0; have y1 := HE0.out.c1
  clear h hi hd hr hc hk hk3 hb0 he0 hr0 hz hU
  go_enter Tryz.func26, Tryz.ntmps26
  go_wp2_with fail
  go_at_call 48
  rw [HUU.out]
  refine HS.out.mono ?_
  rintro e w1 ⟨j, rfl, hpl, hk1⟩
  have HPLC := Lib.hid hpl
  have hjn : j ≤ n := by rw [HNL.out]; exact hpl.le
  have HK1 := Lib.hid (HK3.out.trans hk1)
  have HB1 := Lib.hid (HB0.out.kept hk1); have HE1 := Lib.hid (HE0.out.kept hk1); have HRES := Lib.hid (HR0.out.kept hk1)
  have HH1 := Lib.hid (HH3.out.kept hk1); have HI1 := Lib.hid (HI3.out.kept hk1); have HD1 := Lib.hid (HD3.out.kept hk1)
  have hsz1 : w.heap.size + 3 ≤ w1.heap.size := by rw [← hsz3]; exact hk1.2.2
  have HH := Lib.hid (el_head HH1.out hjn (Nat.le_refl j) (by omega))
  obtain ⟨A2, ht, hr2, hr3⟩ := el_tail HH1.out hjn
  have hrh := run_ehead3 A n c j (by omega)
  have hrh2 := run_ehead4 A n c j (by omega)
  have hk6 : j ≤ 1000000 := by omega
  clear hpl hk1 b0 b1 b2 y0 y1
  have d0 := HB1.out.c0
  cases z with
  | false =>
    have HT := Lib.hid ht
    have HW := Lib.hid (withE_put j HPLC.out.lo (HPLC.out.no HZ.out))
    clear ht
    go_wp2_with fail
    have hb1 := HB1.out; have he1 := HE1.out
    clear d0 hr2 hr3
    have c0 := KExt.cell hb1.c0
    have x0 := KExt.cell he1.c0; have x1 := KExt.cell he1.c1; have x2 := KExt.cell he1.c2; have x3 := KExt.cell he1.c3; have x4 := KExt.cell he1.c4; have x5 := KExt.cell he1.c5; have x6 := KExt.cell he1.c6; have x7 := KExt.cell he1.c7; have x8 := KExt.cell he1.c8
    refine region_plan w1 9 (.read [0, 1, 2, 3, 4, 5] (.one 6 (.one 7 (.read [8] .stop)))) (by kernel_rfl) (by kernel_rfl) (by kernel_rfl) (by kernel_rfl) (by kernel_rfl) (fun _ d _ _ _ h => by cases d <;> exact h) (Kept.refl _) ?_
    intro wd hwd
    rw [wpPlan_read]
    simp only [pickOps_cons, pickOps_nil, consO_some, List.getElem?_cons_zero, List.getElem?_cons_succ]
    repeat (go_big_quiet_step (fail))
    refine wpQuiet_nil ?_
    rw [wpPlan_one]
    simp only [pickOps_cons, pickOps_nil, consO_some, List.getElem?_cons_zero, List.getElem?_cons_succ]
    go_wp2_with fail
    have hka := hwd.alloc #[.int .i64 x.d.1, .int .i64 x.d.2, .string x.p, .int .i64 x.k, .int .i64 x.vk, .int .i64 x.vn, .string x.vt, .int .i64 x.e.1, .int .i64 x.e.2] 34
    refine soloP hka ?_
    have HX5 := Ent.new wd x 34
    obtain ⟨v5, w5, hr5, ho5⟩ := app_cut hka (HH.out.kept hka) hk6 HX5
    obtain ⟨A5, c5, rfl, hel5, hfr5, hcl5, hcm5⟩ := ho5.form
    obtain ⟨N5, hN5⟩ : ∃ N, (L.take j ++ [x]).length = N := ⟨_, rfl⟩
    rw [hN5] at hr5 ho5 hcl5
    have HN5 := Lib.hid hN5
    have HR5 := Lib.hid hr5
    have HO5 := Lib.hid ho5
    clear HX5 hr5 ho5 hel5 hfr5 hwd hka hN5
    rw [wpPlan_one]
    simp only [pickOps_cons, pickOps_nil, consO_some, List.getElem?_cons_zero, List.getElem?_cons_succ]
    go_wp2_with (at_builtin; refine Lib.wpList_append_run _ rfl (.tmp 27) (.tmp 29) _ _ rfl _ _ rfl rfl _ _ HR5.out ?_)
    refine soloP HO5.out.ke ?_
    rw [wpPlan_read]
    simp only [pickOps_cons, pickOps_nil, consO_some, List.getElem?_cons_zero, List.getElem?_cons_succ]
    repeat (go_big_quiet_step (fail))
    refine wpQuiet_nil ?_
    refine wpPlan_stop ?_
    clear c0 x0 x1 x2 x3 x4 x5 x6 x7 x8
    go_wp2_with fail
    have c1 := KExtE.cell (b := w.heap.size + 2) (by omega) hb1.c1
    have c2 := KExtE.cell (b := w.heap.size + 2) (by omega) hb1.c2
    have x0 := KExtE.cell (b := w.heap.size + 2) (by omega) he1.c0
    have x1 := KExtE.cell (b := w.heap.size + 2) (by omega) he1.c1
    refine region_planE (w.heap.size + 2) w1 10 (.read [0, 1, 3, 4, 5, 6] (.one 2 (.one 7 (.read [8] (.one 9 .stop))))) (by kernel_rfl) (by kernel_rfl) (by kernel_rfl) (by kernel_rfl) (by kernel_rfl) (fun _ d _ _ _ h => by cases d <;> exact h) HO5.out.ke ?_
    intro wd hwd
    have HO6 := Lib.hid (show OutE w1 wd (.slice A5 (L.take j ++ [x]).length c5) (L.take j ++ [x]) by rw [HN5.out]; exact HO5.out.kept hwd)
    clear hwd HO5
    rw [wpPlan_read]
    simp only [pickOps_cons, pickOps_nil, consO_some, List.getElem?_cons_zero, List.getElem?_cons_succ]
    repeat (go_big_quiet_step (fail))
    refine wpQuiet_nil ?_
    obtain ⟨v7, w7, hr7, ho7⟩ := HO6.out.app _ _ _ _ (HT.out.kept HO6.out.ke) (by rw [List.length_append, HH.out.len]; simp only [List.length_cons, List.length_nil]; omega)
    obtain ⟨A7, c7, rfl, hel7, hfr7, _, _⟩ := ho7.form
    obtain ⟨N7, hN7⟩ : ∃ N, (L.take j ++ [x] ++ L.drop j).length = N := ⟨_, rfl⟩
    rw [HN5.out, hN7] at hr7
    rw [hN7] at hel7
    have HN7 := Lib.hid hN7
    have HR7 := Lib.hid hr7
    have HK7 := Lib.hid ho7.ke
    have HE7 := Lib.hid hel7
    have HF7 := Lib.hid hfr7
    have hsz7 := ho7.ke.2.2
    clear hr7 ho7 hel7 hfr7 hN7
    rw [wpPlan_one]
    simp only [pickOps_cons, pickOps_nil, consO_some, List.getElem?_cons_zero, List.getElem?_cons_succ]
    go_wp2_with (at_builtin; refine Lib.wpList_append_run _ rfl (.tmp 31) (.tmp 32) _ _ rfl _ _ rfl rfl _ _ HR7.out ?_)
    refine soloE (.of HK7.out) ?_
    rw [wpPlan_one]
    simp only [pickOps_cons, pickOps_nil, consO_some, List.getElem?_cons_zero, List.getElem?_cons_succ]
    go_wp2_with (go_at_call 55; refine (gadd_any B m k V D p q C x.d.1 x.d.2 _ (HI1.out.kept HK7.out) HC.out.vec (HD1.out.kept HK7.out) HC.out.rise (by omega)).mono ?_; rintro e w9 ⟨A9, n9, c9, B9, m9, k9, V9, C9, rfl, hi9, hd9, hs9, hmm, hk9, hfa, hfb⟩)
    have hr := HRES.out.kept (HK7.out.trans hk9)
    have e0 := hr.c0; have e1 := hr.c1; have e2 := hr.c2; have ef0 := hr.f 0; have ef1 := hr.f 1; have ef2 := hr.f 2
    have HKK := Lib.hid (HK7.out.trans hk9)
    have HFIN := Lib.hid (st_box (W := w) (b := w.heap.size + 2) (L := withE L x) (S := fun d => hasC V C d ∨ (rightD d = true ∧ d = x.d)) (mx := p + 1) (by have := HE7.out.kept hk9; rw [List.append_assoc] at this; rw [HW.out]; exact this) hi9 hd9 (fun ad e => by have := HF7.out ad e; omega) (fun ad e => by have := hfa ad e; omega) (fun ad e => by have := hfb ad e; omega) (Nat.le_add_right _ 2) (HK1.out.trans (HK7.out.trans hk9)) ⟨hs9.right, fun d => (hs9.has d).trans (add_has HC.out x.d d)⟩ (by rw [HPL.out]; exact hmm))
    clear hi9 hd9 hs9 hmm hk9 hfa hfb hr
    refine soloE (.of HKK.out) ?_
    rw [wpPlan_read]
    simp only [pickOps_cons, pickOps_nil, consO_some, List.getElem?_cons_zero, List.getElem?_cons_succ]
    repeat (go_big_quiet_step (fail))
    refine wpQuiet_nil ?_
    rw [wpPlan_one]
    simp only [pickOps_cons, pickOps_nil, consO_some, List.getElem?_cons_zero, List.getElem?_cons_succ]
    go_wp2_with fail
    refine soloE ((((KeptE.of (G := w.heap.size + 2) HKK.out).set (.inl rfl) _).set (.inl rfl) _).set (.inl rfl) _) ?_
    refine wpPlan_stop ?_
    go_wp2_with fail
    exact bodyPost_ret (by simp [results, Tryz.results26, go_sem, *]) rfl HFIN.out
  | true =>
    have hj1 : 1 ≤ n - j := by obtain ⟨y, hy, _⟩ := HPLC.out.yes HZ.out; have := (List.getElem?_eq_some_iff.1 hy).1; have := HNL.out; omega
    obtain ⟨A4, ht4, hr4, hr5⟩ := el_tail ht hj1
    have hr6 : ∀ W : World, (Instr.slice 22 (.slice A2 (n - j) (c - j)) (some (.int .i64 1)) none none).run Tryz.prog W = .ok (.slice A4 (n - j - 1) (c - j - 1)) W := hr4
    have hr7 : ∀ W : World, (Instr.sliceAt 22 (.slice A2 (n - j) (c - j)) (some (.int .i64 1)) none none).run Tryz.prog W = .ok (.slice A4 (n - j - 1) (c - j - 1)) W := hr5
    rw [List.drop_drop] at ht4
    have HT := Lib.hid ht4
    have HW := Lib.hid (show withE L x = L.take j ++ x :: L.drop (j + 1) by obtain ⟨y, hy, hyd⟩ := HPLC.out.yes HZ.out; exact withE_set HRI.out j hy hyd)
    clear ht ht4 hr4 hr5
    go_wp2_with fail
    have hb1 := HB1.out; have he1 := HE1.out
    clear d0 hr2 hr3 hr6 hr7
    have c0 := KExt.cell hb1.c0
    have x0 := KExt.cell he1.c0; have x1 := KExt.cell he1.c1; have x2 := KExt.cell he1.c2; have x3 := KExt.cell he1.c3; have x4 := KExt.cell he1.c4; have x5 := KExt.cell he1.c5; have x6 := KExt.cell he1.c6; have x7 := KExt.cell he1.c7; have x8 := KExt.cell he1.c8
    refine region_plan w1 9 (.read [0, 1, 2, 3, 4, 5] (.one 6 (.one 7 (.read [8] .stop)))) (by kernel_rfl) (by kernel_rfl) (by kernel_rfl) (by kernel_rfl) (by kernel_rfl) (fun _ d _ _ _ h => by cases d <;> exact h) (Kept.refl _) ?_
    intro wd hwd
    rw [wpPlan_read]
    simp only [pickOps_cons, pickOps_nil, consO_some, List.getElem?_cons_zero, List.getElem?_cons_succ]
    repeat (go_big_quiet_step (fail))
    refine wpQuiet_nil ?_
    rw [wpPlan_one]
    simp only [pickOps_cons, pickOps_nil, consO_some, List.getElem?_cons_zero, List.getElem?_cons_succ]
    go_wp2_with fail
    have hka := hwd.alloc #[.int .i64 x.d.1, .int .i64 x.d.2, .string x.p, .int .i64 x.k, .int .i64 x.vk, .int .i64 x.vn, .string x.vt, .int .i64 x.e.1, .int .i64 x.e.2] 34
    refine soloP hka ?_
    have HX5 := Ent.new wd x 34
    obtain ⟨v5, w5, hr5, ho5⟩ := app_cut hka (HH.out.kept hka) hk6 HX5
    obtain ⟨A5, c5, rfl, hel5, hfr5, hcl5, hcm5⟩ := ho5.form
    obtain ⟨N5, hN5⟩ : ∃ N, (L.take j ++ [x]).length = N := ⟨_, rfl⟩
    rw [hN5] at hr5 ho5 hcl5
    have HN5 := Lib.hid hN5
    have HR5 := Lib.hid hr5
    have HO5 := Lib.hid ho5
    clear HX5 hr5 ho5 hel5 hfr5 hwd hka hN5
    rw [wpPlan_one]
    simp only [pickOps_cons, pickOps_nil, consO_some, List.getElem?_cons_zero, List.getElem?_cons_succ]
    go_wp2_with (at_builtin; refine Lib.wpList_append_run _ rfl (.tmp 27) (.tmp 29) _ _ rfl _ _ rfl rfl _ _ HR5.out ?_)
    refine soloP HO5.out.ke ?_
    rw [wpPlan_read]
    simp only [pickOps_cons, pickOps_nil, consO_some, List.getElem?_cons_zero, List.getElem?_cons_succ]
    repeat (go_big_quiet_step (fail))
    refine wpQuiet_nil ?_
    refine wpPlan_stop ?_
    clear c0 x0 x1 x2 x3 x4 x5 x6 x7 x8
    go_wp2_with fail
    have c1 := KExtE.cell (b := w.heap.size + 2) (by omega) hb1.c1
    have c2 := KExtE.cell (b := w.heap.size + 2) (by omega) hb1.c2
    have x0 := KExtE.cell (b := w.heap.size + 2) (by omega) he1.c0
    have x1 := KExtE.cell (b := w.heap.size + 2) (by omega) he1.c1
    refine region_planE (w.heap.size + 2) w1 10 (.read [0, 1, 3, 4, 5, 6] (.one 2 (.one 7 (.read [8] (.one 9 .stop))))) (by kernel_rfl) (by kernel_rfl) (by kernel_rfl) (by kernel_rfl) (by kernel_rfl) (fun _ d _ _ _ h => by cases d <;> exact h) HO5.out.ke ?_
    intro wd hwd
    have HO6 := Lib.hid (show OutE w1 wd (.slice A5 (L.take j ++ [x]).length c5) (L.take j ++ [x]) by rw [HN5.out]; exact HO5.out.kept hwd)
    clear hwd HO5
    rw [wpPlan_read]
    simp only [pickOps_cons, pickOps_nil, consO_some, List.getElem?_cons_zero, List.getElem?_cons_succ]
    repeat (go_big_quiet_step (fail))
    refine wpQuiet_nil ?_
    obtain ⟨v7, w7, hr7, ho7⟩ := HO6.out.app _ _ _ _ (HT.out.kept HO6.out.ke) (by rw [List.length_append, HH.out.len]; simp only [List.length_cons, List.length_nil]; omega)
    obtain ⟨A7, c7, rfl, hel7, hfr7, _, _⟩ := ho7.form
    obtain ⟨N7, hN7⟩ : ∃ N, (L.take j ++ [x] ++ L.drop (j + 1)).length = N := ⟨_, rfl⟩
    rw [HN5.out, hN7] at hr7
    rw [hN7] at hel7
    have HN7 := Lib.hid hN7
    have HR7 := Lib.hid hr7
    have HK7 := Lib.hid ho7.ke
    have HE7 := Lib.hid hel7
    have HF7 := Lib.hid hfr7
    have hsz7 := ho7.ke.2.2
    clear hr7 ho7 hel7 hfr7 hN7
    rw [wpPlan_one]
    simp only [pickOps_cons, pickOps_nil, consO_some, List.getElem?_cons_zero, List.getElem?_cons_succ]
    go_wp2_with (at_builtin; refine Lib.wpList_append_run _ rfl (.tmp 31) (.tmp 32) _ _ rfl _ _ rfl rfl _ _ HR7.out ?_)
    refine soloE (.of HK7.out) ?_
    rw [wpPlan_one]
    simp only [pickOps_cons, pickOps_nil, consO_some, List.getElem?_cons_zero, List.getElem?_cons_succ]
    go_wp2_with (go_at_call 55; refine (gadd_any B m k V D p q C x.d.1 x.d.2 _ (HI1.out.kept HK7.out) HC.out.vec (HD1.out.kept HK7.out) HC.out.rise (by omega)).mono ?_; rintro e w9 ⟨A9, n9, c9, B9, m9, k9, V9, C9, rfl, hi9, hd9, hs9, hmm, hk9, hfa, hfb⟩)
    have hr := HRES.out.kept (HK7.out.trans hk9)
    have e0 := hr.c0; have e1 := hr.c1; have e2 := hr.c2; have ef0 := hr.f 0; have ef1 := hr.f 1; have ef2 := hr.f 2
    have HKK := Lib.hid (HK7.out.trans hk9)
    have HFIN := Lib.hid (st_box (W := w) (b := w.heap.size + 2) (L := withE L x) (S := fun d => hasC V C d ∨ (rightD d = true ∧ d = x.d)) (mx := p + 1) (by have := HE7.out.kept hk9; rw [List.append_assoc] at this; rw [HW.out]; exact this) hi9 hd9 (fun ad e => by have := HF7.out ad e; omega) (fun ad e => by have := hfa ad e; omega) (fun ad e => by have := hfb ad e; omega) (Nat.le_add_right _ 2) (HK1.out.trans (HK7.out.trans hk9)) ⟨hs9.right, fun d => (hs9.has d).trans (add_has HC.out x.d d)⟩ (by rw [HPL.out]; exact hmm))
    clear hi9 hd9 hs9 hmm hk9 hfa hfb hr
    refine soloE (.of HKK.out) ?_
    rw [wpPlan_read]
    simp only [pickOps_cons, pickOps_nil, consO_some, List.getElem?_cons_zero, List.getElem?_cons_succ]
    repeat (go_big_quiet_step (fail))
    refine wpQuiet_nil ?_
    rw [wpPlan_one]
    simp only [pickOps_cons, pickOps_nil, consO_some, List.getElem?_cons_zero, List.getElem?_cons_succ]
    go_wp2_with fail
    refine soloE ((((KeptE.of (G := w.heap.size + 2) HKK.out).set (.inl rfl) _).set (.inl rfl) _).set (.inl rfl) _) ?_
    refine wpPlan_stop ?_
    go_wp2_with fail
    exact bodyPost_ret (by simp [results, Tryz.results26, go_sem, *]) rfl HFIN.out
end Go.Proofs.YtkooihljddibfaaGreat

namespace Go.Proofs.YtkooihljddibfaaGreat
open Go.RowKit
set_option linter.unusedVariables false

def eS : En := ⟨(1, 1), ⟨#[97]⟩, 1, 1, 5, ⟨#[]⟩, (0, 0)⟩
def eL : En := ⟨(1, 2), ⟨#[97]⟩, 1, 1, 6, ⟨#[]⟩, (0, 0)⟩
def sS : Sta := ⟨[eS], [0, 1], []⟩
def sL : Sta := ⟨[eL], [0, 2], []⟩
def sT : Sta := ⟨[], [0, 2], []⟩
theorem hasV2 (a b : Int) (d : Int × Int) : hasC [a, b] [] d ↔ (d.1 = 0 ∧ 1 ≤ d.2 ∧ d.2 ≤ a) ∨ (d.1 = 1 ∧ 1 ≤ d.2 ∧ d.2 ≤ b) := by
  unfold hasC
  rcases Int.lt_trichotomy d.1 0 with h | h | h
  · rw [atV_neg _ h]; simp; omega
  · rw [h]; simp [atV]
  · by_cases h1 : d.1 = 1
    · rw [h1]; simp [atV]
    · rw [atV_out _ (by simp; omega)]; simp; omega
theorem hasV0 (d : Int × Int) : ¬ hasC [] [] d := by unfold hasC; rw [atV_nil]; simp; omega
theorem rightV2 {a b : Int} (ha : 0 ≤ a ∧ a ≤ 1000) (hb : 1 ≤ b ∧ b ≤ 1000) : RightC [a, b] [] :=
  ⟨⟨by simp, fun n hn => by
      simp only [List.mem_cons, List.not_mem_nil, or_false] at hn
      rcases hn with rfl | rfl <;> omega⟩, fun k hk => by
      obtain rfl : k = 1 := by simpa using hk.symm
      simp; omega, rise_nil, fun d hd => (by cases hd), fun d hd => (by cases hd)⟩
theorem right_iff (d : Int × Int) : rightD d = true ↔ 0 ≤ d.1 ∧ d.1 < 64 ∧ 1 ≤ d.2 ∧ d.2 ≤ 1073741824 := by unfold rightD; rw [decide_eq_true_iff]
theorem setS : SetC (fun d => hasC Sta.none.V Sta.none.C d ∨ (rightD d = true ∧ d = eS.d)) [0, 1] [] := by
  refine ⟨rightV2 (by omega) (by omega), fun ⟨d1, d2⟩ => ?_⟩
  have h0 : ¬ hasC Sta.none.V Sta.none.C (d1, d2) := hasV0 _
  rw [hasV2, right_iff]
  simp only [eS, Prod.mk.injEq, h0, false_or]
  omega
theorem setEv : SetC (evS ((1 : Int), (2 : Int)) [((1 : Int), (1 : Int))]) [0, 2] [] := by
  refine ⟨rightV2 (by omega) (by omega), fun ⟨d1, d2⟩ => ?_⟩
  unfold evS
  rw [hasV2, right_iff]
  simp only [List.mem_cons, List.not_mem_nil, or_false, Prod.mk.injEq]
  omega
theorem riseE1 (x : En) : RiseE [x] := List.pairwise_singleton _ _
theorem ordS : Ord sS := ⟨riseE1 _, rightV2 (by omega) (by omega), fun x hx => by
  obtain rfl : x = eS := by simpa [sS] using hx
  exact (hasV2 _ _ _).2 (by simp [eS])⟩
theorem ordL : Ord sL := ⟨riseE1 _, rightV2 (by omega) (by omega), fun x hx => by
  obtain rfl : x = eL := by simpa [sL] using hx
  exact (hasV2 _ _ _).2 (by simp [eL])⟩
theorem ordT : Ord sT := ⟨riseE_nil, rightV2 (by omega) (by omega), fun x hx => by cases hx⟩
theorem leaveL : LeaveS eL [((1 : Int), (1 : Int))] sL := ⟨rfl, setEv, Nat.zero_le _⟩
theorem takeT : TakeS ((1 : Int), (2 : Int)) [((1 : Int), (1 : Int))] sT := ⟨rfl, setEv, Nat.zero_le _⟩
theorem set12 : SetC (fun d => sS.has d ∨ sL.has d) [0, 2] [] := by
  refine ⟨rightV2 (by omega) (by omega), fun ⟨d1, d2⟩ => ?_⟩
  show hasC [0, 2] [] (d1, d2) ↔ hasC [0, 1] [] (d1, d2) ∨ hasC [0, 2] [] (d1, d2)
  rw [hasV2, hasV2]
  simp only
  omega
theorem set13 : SetC (fun d => sS.has d ∨ sT.has d) [0, 2] [] := set12
theorem joinL : JoinOf sS sL sL := by
  have h := join_of ordS ordL set12
  have e1 : sS.L.filter (stayE sL.L sL.V sL.C) = [] := by kernel_rfl
  have e2 : sL.L.filter (newE sS.V sS.C) = [eL] := by kernel_rfl
  rw [e1, e2] at h
  rw [mergeE_nil] at h
  exact h
theorem joinT : JoinOf sS sT sT := by
  have h := join_of ordS ordT set13
  have e1 : sS.L.filter (stayE sT.L sT.V sT.C) = [] := by kernel_rfl
  have e2 : sT.L.filter (newE sS.V sS.C) = [] := by kernel_rfl
  rw [e1, e2] at h
  rw [mergeE_nil] at h
  exact h
theorem rightEL : rightE eL = true := by kernel_rfl
theorem okL : StOk sL.L sL.V sL.C := ordL.ok fun x hx => by
  obtain rfl : x = eL := by simpa [sL] using hx
  exact rightEL
theorem okT : StOk sT.L sT.V sT.C := ordT.ok fun x hx => by cases hx
theorem stS_at {L : List En} {S : Int × Int → Prop} {mx : Nat} {w w' : World} {e : Ending} (h : StS L S mx w e w') {V : List Int} {C : List (Int × Int)} (hs : SetC S V C) : StJ (fun s => s = ⟨L, V, C⟩) w e w' := by
  obtain ⟨A, n, c, B, m, k, D, p, q, V', C', rfl, he, hi, hd, hs', _, hk⟩ := h
  obtain ⟨rfl, rfl⟩ := hs'.same hs fun d => Iff.rfl
  exact ⟨A, n, c, B, m, k, D, p, q, ⟨L, V', C'⟩, rfl, ⟨he, hi, hd⟩, rfl, hk⟩
theorem most1 : mostC [0, 1] [] 1 = 1 := by kernel_rfl
end Go.Proofs.YtkooihljddibfaaGreat

