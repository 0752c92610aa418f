/-
  What is proved: With of package store (P8.3), called with any state in order and any entry, returns the state with that entry at its place and its dot in its set; the world has new blocks at most.
  Without of package store (P8.4), called with any state in order and any dots, returns the state without what these dots left, and with them in its set; the world has new blocks at most.
-/
import Derived.Test.YtcldbmhjfmbcfaaM18
import Derived.Test.YtcldbmhjfmbcfaaM25
import Derived.Test.YtcldbmhjfmbcfaaM11
namespace Go.Proofs.Ytcldbmhjfmbcfaa
open Go.RowKit
set_option linter.unusedVariables false

set_option maxRecDepth 100000 in
set_option maxHeartbeats 16000000 in
theorem with_any (A : Option Addr) (n c : Nat) (L : List En) (B : Option Addr) (m k : Nat) (V : List Int) (D : Option Addr) (p q : Nat) (C : List (Int × Int)) (x : En) (w : World)
    (h : El w A n c L) (hi : Il w B m k V) (hd : Dl w D p q C) (hr : RiseE L) (hc : RightC V C) (hn : n ≤ 10000) (hp : p ≤ 10000) :
    Calls Try.prog 23 #[.agg #[.slice A n c, .slice B m k, .slice D p q], .agg #[.int .i64 x.d.1, .int .i64 x.d.2, .string x.p, .int .i64 x.k, .int .i64 x.vk, .int .i64 x.vn, .string x.vt, .int .i64 x.e.1, .int .i64 x.e.2]] w (StS (withE L x) (fun d => hasC V C d ∨ (rightD d = true ∧ d = x.d)) (p + 1) w) := by
  have hk := ((Kept.refl w).alloc #[.slice A n c, .slice B m k, .slice D p q] 28).alloc #[.int .i64 x.d.1, .int .i64 x.d.2, .string x.p, .int .i64 x.k, .int .i64 x.vk, .int .i64 x.vn, .string x.vt, .int .i64 x.e.1, .int .i64 x.e.2] 46
  have hk3 := hk.alloc #[.slice none 0 0, .slice none 0 0, .slice none 0 0] 28
  have hcap := h.cap.1; have hcap2 := h.cap.2
  have HPL := Lib.hid hd.1
  have HC := Lib.hid hc
  have HRI := Lib.hid hr
  have HNL := Lib.hid h.1
  have hb0 := ((Box3.new w (.slice A n c) (.slice B m k) (.slice D p q) 28).kept ((Kept.refl _).alloc #[.int .i64 x.d.1, .int .i64 x.d.2, .string x.p, .int .i64 x.k, .int .i64 x.vk, .int .i64 x.vn, .string x.vt, .int .i64 x.e.1, .int .i64 x.e.2] 46)).kept ((Kept.refl _).alloc #[.slice none 0 0, .slice none 0 0, .slice none 0 0] 28)
  have he0 := (Ent.new (w.alloc (.cells #[.slice A n c, .slice B m k, .slice D p q] 28)) x 46).kept ((Kept.refl _).alloc #[.slice none 0 0, .slice none 0 0, .slice none 0 0] 28)
  rw [show (w.alloc (.cells #[.slice A n c, .slice B m k, .slice D p q] 28)).heap.size = w.heap.size + 1 by simp] at he0
  have hr0 := Box3.new ((w.alloc (.cells #[.slice A n c, .slice B m k, .slice D p q] 28)).alloc (.cells #[.int .i64 x.d.1, .int .i64 x.d.2, .string x.p, .int .i64 x.k, .int .i64 x.vk, .int .i64 x.vn, .string x.vt, .int .i64 x.e.1, .int .i64 x.e.2] 46)) (.slice none 0 0) (.slice none 0 0) (.slice none 0 0) 28
  rw [show ((w.alloc (.cells #[.slice A n c, .slice B m k, .slice D p q] 28)).alloc (.cells #[.int .i64 x.d.1, .int .i64 x.d.2, .string x.p, .int .i64 x.k, .int .i64 x.vk, .int .i64 x.vn, .string x.vt, .int .i64 x.e.1, .int .i64 x.e.2] 46)).heap.size = w.heap.size + 2 by simp] at hr0
  have HB0 := Lib.hid hb0; have HE0 := Lib.hid he0; have HR0 := Lib.hid hr0
  have HK3 := Lib.hid hk3
  have HH3 := Lib.hid (h.kept hk3); have HI3 := Lib.hid (hi.kept hk3); have HD3 := Lib.hid (hd.kept hk3)
  obtain ⟨z, hz⟩ : ∃ z, hasE L x.d = z := ⟨_, rfl⟩
  have HS := Lib.hid (find_any A n c L (.slice B m k) (.slice D p q) x.d.1 x.d.2 _ (h.kept hk3) hr (by omega) z hz)
  have HZ := Lib.hid hz
  have hsz3 : (((w.alloc (.cells #[.slice A n c, .slice B m k, .slice D p q] 28)).alloc (.cells #[.int .i64 x.d.1, .int .i64 x.d.2, .string x.p, .int .i64 x.k, .int .i64 x.vk, .int .i64 x.vn, .string x.vt, .int .i64 x.e.1, .int .i64 x.e.2] 46)).alloc (.cells #[.slice none 0 0, .slice none 0 0, .slice none 0 0] 28)).heap.size = w.heap.size + 3 := by simp
  obtain ⟨U, hU⟩ : ∃ U, ((w.alloc (.cells #[.slice A n c, .slice B m k, .slice D p q] 28)).alloc (.cells #[.int .i64 x.d.1, .int .i64 x.d.2, .string x.p, .int .i64 x.k, .int .i64 x.vk, .int .i64 x.vn, .string x.vt, .int .i64 x.e.1, .int .i64 x.e.2] 46)).alloc (.cells #[.slice none 0 0, .slice none 0 0, .slice none 0 0] 28) = U := ⟨_, rfl⟩
  rw [hU] at HK3 HH3 HI3 HD3 HS HB0 HE0 HR0 hsz3
  have HUU := Lib.hid hU
  have b0 := HB0.out.c0; have b1 := HB0.out.c1; have b2 := HB0.out.c2; have y0 := HE0.out.c0; have y1 := HE0.out.c1
  clear h hi hd hr hc hk hk3 hb0 he0 hr0 hz hU
  go_enter Try.func23, Try.ntmps23
  go_wp2_with fail
  go_at_call 44
  rw [HUU.out]
  refine HS.out.mono ?_
  rintro e w1 ⟨j, rfl, hpl, hk1⟩
  have HPLC := Lib.hid hpl
  have hjn : j ≤ n := by rw [HNL.out]; exact hpl.le
  have HK1 := Lib.hid (HK3.out.trans hk1)
  have HB1 := Lib.hid (HB0.out.kept hk1); have HE1 := Lib.hid (HE0.out.kept hk1); have HRES := Lib.hid (HR0.out.kept hk1)
  have HH1 := Lib.hid (HH3.out.kept hk1); have HI1 := Lib.hid (HI3.out.kept hk1); have HD1 := Lib.hid (HD3.out.kept hk1)
  have hsz1 : w.heap.size + 3 ≤ w1.heap.size := by rw [← hsz3]; exact hk1.2.2
  have HH := Lib.hid (el_head HH1.out hjn (Nat.le_refl j) (by omega))
  obtain ⟨A2, ht, hr2, hr3⟩ := el_tail HH1.out hjn
  have hrh := run_ehead3 A n c j (by omega)
  have hrh2 := run_ehead4 A n c j (by omega)
  have hk6 : j ≤ 1000000 := by omega
  clear hpl hk1 b0 b1 b2 y0 y1
  have d0 := HB1.out.c0
  cases z with
  | false =>
    have HT := Lib.hid ht
    have HW := Lib.hid (withE_put j HPLC.out.lo (HPLC.out.no HZ.out))
    clear ht
    go_wp2_with fail
    have hb1 := HB1.out; have he1 := HE1.out
    clear d0 hr2 hr3
    have c0 := KExt.cell hb1.c0
    have x0 := KExt.cell he1.c0; have x1 := KExt.cell he1.c1; have x2 := KExt.cell he1.c2; have x3 := KExt.cell he1.c3; have x4 := KExt.cell he1.c4; have x5 := KExt.cell he1.c5; have x6 := KExt.cell he1.c6; have x7 := KExt.cell he1.c7; have x8 := KExt.cell he1.c8
    refine region_plan w1 9 (.read [0, 1, 2, 3, 4, 5] (.one 6 (.one 7 (.read [8] .stop)))) (by kernel_rfl) (by kernel_rfl) (by kernel_rfl) (by kernel_rfl) (by kernel_rfl) (fun _ d _ _ _ h => by cases d <;> exact h) (Kept.refl _) ?_
    intro wd hwd
    rw [wpPlan_read]
    simp only [pickOps_cons, pickOps_nil, consO_some, List.getElem?_cons_zero, List.getElem?_cons_succ]
    repeat (go_big_quiet_step (fail))
    refine wpQuiet_nil ?_
    rw [wpPlan_one]
    simp only [pickOps_cons, pickOps_nil, consO_some, List.getElem?_cons_zero, List.getElem?_cons_succ]
    go_wp2_with fail
    have hka := hwd.alloc #[.int .i64 x.d.1, .int .i64 x.d.2, .string x.p, .int .i64 x.k, .int .i64 x.vk, .int .i64 x.vn, .string x.vt, .int .i64 x.e.1, .int .i64 x.e.2] 46
    refine soloP hka ?_
    have HX5 := Ent.new wd x 46
    obtain ⟨v5, w5, hr5, ho5⟩ := app_cut hka (HH.out.kept hka) hk6 HX5
    obtain ⟨A5, c5, rfl, hel5, hfr5, hcl5, hcm5⟩ := ho5.form
    obtain ⟨N5, hN5⟩ : ∃ N, (L.take j ++ [x]).length = N := ⟨_, rfl⟩
    rw [hN5] at hr5 ho5 hcl5
    have HN5 := Lib.hid hN5
    have HR5 := Lib.hid hr5
    have HO5 := Lib.hid ho5
    clear HX5 hr5 ho5 hel5 hfr5 hwd hka hN5
    rw [wpPlan_one]
    simp only [pickOps_cons, pickOps_nil, consO_some, List.getElem?_cons_zero, List.getElem?_cons_succ]
    go_wp2_with (at_builtin; refine Lib.wpList_append_run _ rfl (.tmp 27) (.tmp 29) _ _ rfl _ _ rfl rfl _ _ HR5.out ?_)
    refine soloP HO5.out.ke ?_
    rw [wpPlan_read]
    simp only [pickOps_cons, pickOps_nil, consO_some, List.getElem?_cons_zero, List.getElem?_cons_succ]
    repeat (go_big_quiet_step (fail))
    refine wpQuiet_nil ?_
    refine wpPlan_stop ?_
    clear c0 x0 x1 x2 x3 x4 x5 x6 x7 x8
    go_wp2_with fail
    have c1 := KExtE.cell (b := w.heap.size + 2) (by omega) hb1.c1
    have c2 := KExtE.cell (b := w.heap.size + 2) (by omega) hb1.c2
    have x0 := KExtE.cell (b := w.heap.size + 2) (by omega) he1.c0
    have x1 := KExtE.cell (b := w.heap.size + 2) (by omega) he1.c1
    refine region_planE (w.heap.size + 2) w1 10 (.read [0, 1, 3, 4, 5, 6] (.one 2 (.one 7 (.read [8] (.one 9 .stop))))) (by kernel_rfl) (by kernel_rfl) (by kernel_rfl) (by kernel_rfl) (by kernel_rfl) (fun _ d _ _ _ h => by cases d <;> exact h) HO5.out.ke ?_
    intro wd hwd
    have HO6 := Lib.hid (show OutE w1 wd (.slice A5 (L.take j ++ [x]).length c5) (L.take j ++ [x]) by rw [HN5.out]; exact HO5.out.kept hwd)
    clear hwd HO5
    rw [wpPlan_read]
    simp only [pickOps_cons, pickOps_nil, consO_some, List.getElem?_cons_zero, List.getElem?_cons_succ]
    repeat (go_big_quiet_step (fail))
    refine wpQuiet_nil ?_
    obtain ⟨v7, w7, hr7, ho7⟩ := HO6.out.app _ _ _ _ (HT.out.kept HO6.out.ke) (by rw [List.length_append, HH.out.len]; simp only [List.length_cons, List.length_nil]; omega)
    obtain ⟨A7, c7, rfl, hel7, hfr7, _, _⟩ := ho7.form
    obtain ⟨N7, hN7⟩ : ∃ N, (L.take j ++ [x] ++ L.drop j).length = N := ⟨_, rfl⟩
    rw [HN5.out, hN7] at hr7
    rw [hN7] at hel7
    have HN7 := Lib.hid hN7
    have HR7 := Lib.hid hr7
    have HK7 := Lib.hid ho7.ke
    have HE7 := Lib.hid hel7
    have HF7 := Lib.hid hfr7
    have hsz7 := ho7.ke.2.2
    clear hr7 ho7 hel7 hfr7 hN7
    rw [wpPlan_one]
    simp only [pickOps_cons, pickOps_nil, consO_some, List.getElem?_cons_zero, List.getElem?_cons_succ]
    go_wp2_with (at_builtin; refine Lib.wpList_append_run _ rfl (.tmp 31) (.tmp 32) _ _ rfl _ _ rfl rfl _ _ HR7.out ?_)
    refine soloE (.of HK7.out) ?_
    rw [wpPlan_one]
    simp only [pickOps_cons, pickOps_nil, consO_some, List.getElem?_cons_zero, List.getElem?_cons_succ]
    go_wp2_with (go_at_call 45; refine (gadd_any B m k V D p q C x.d.1 x.d.2 _ (HI1.out.kept HK7.out) HC.out.vec (HD1.out.kept HK7.out) HC.out.rise (by omega)).mono ?_; rintro e w9 ⟨A9, n9, c9, B9, m9, k9, V9, C9, rfl, hi9, hd9, hs9, hmm, hk9, hfa, hfb⟩)
    have hr := HRES.out.kept (HK7.out.trans hk9)
    have e0 := hr.c0; have e1 := hr.c1; have e2 := hr.c2; have ef0 := hr.f 0; have ef1 := hr.f 1; have ef2 := hr.f 2
    have HKK := Lib.hid (HK7.out.trans hk9)
    have HFIN := Lib.hid (st_box (W := w) (b := w.heap.size + 2) (L := withE L x) (S := fun d => hasC V C d ∨ (rightD d = true ∧ d = x.d)) (mx := p + 1) (by have := HE7.out.kept hk9; rw [List.append_assoc] at this; rw [HW.out]; exact this) hi9 hd9 (fun ad e => by have := HF7.out ad e; omega) (fun ad e => by have := hfa ad e; omega) (fun ad e => by have := hfb ad e; omega) (Nat.le_add_right _ 2) (HK1.out.trans (HK7.out.trans hk9)) ⟨hs9.right, fun d => (hs9.has d).trans (add_has HC.out x.d d)⟩ (by rw [HPL.out]; exact hmm))
    clear hi9 hd9 hs9 hmm hk9 hfa hfb hr
    refine soloE (.of HKK.out) ?_
    rw [wpPlan_read]
    simp only [pickOps_cons, pickOps_nil, consO_some, List.getElem?_cons_zero, List.getElem?_cons_succ]
    repeat (go_big_quiet_step (fail))
    refine wpQuiet_nil ?_
    rw [wpPlan_one]
    simp only [pickOps_cons, pickOps_nil, consO_some, List.getElem?_cons_zero, List.getElem?_cons_succ]
    go_wp2_with fail
    refine soloE ((((KeptE.of (G := w.heap.size + 2) HKK.out).set (.inl rfl) _).set (.inl rfl) _).set (.inl rfl) _) ?_
    refine wpPlan_stop ?_
    go_wp2_with fail
    exact bodyPost_ret (by simp [results, Try.results23, go_sem, *]) rfl HFIN.out
  | true =>
    have hj1 : 1 ≤ n - j := by obtain ⟨y, hy, _⟩ := HPLC.out.yes HZ.out; have := (List.getElem?_eq_some_iff.1 hy).1; have := HNL.out; omega
    obtain ⟨A4, ht4, hr4, hr5⟩ := el_tail ht hj1
    have hr6 : ∀ W : World, (Instr.slice 22 (.slice A2 (n - j) (c - j)) (some (.int .i64 1)) none none).run Try.prog W = .ok (.slice A4 (n - j - 1) (c - j - 1)) W := hr4
    have hr7 : ∀ W : World, (Instr.sliceAt 22 (.slice A2 (n - j) (c - j)) (some (.int .i64 1)) none none).run Try.prog W = .ok (.slice A4 (n - j - 1) (c - j - 1)) W := hr5
    rw [List.drop_drop] at ht4
    have HT := Lib.hid ht4
    have HW := Lib.hid (show withE L x = L.take j ++ x :: L.drop (j + 1) by obtain ⟨y, hy, hyd⟩ := HPLC.out.yes HZ.out; exact withE_set HRI.out j hy hyd)
    clear ht ht4 hr4 hr5
    go_wp2_with fail
    have hb1 := HB1.out; have he1 := HE1.out
    clear d0 hr2 hr3 hr6 hr7
    have c0 := KExt.cell hb1.c0
    have x0 := KExt.cell he1.c0; have x1 := KExt.cell he1.c1; have x2 := KExt.cell he1.c2; have x3 := KExt.cell he1.c3; have x4 := KExt.cell he1.c4; have x5 := KExt.cell he1.c5; have x6 := KExt.cell he1.c6; have x7 := KExt.cell he1.c7; have x8 := KExt.cell he1.c8
    refine region_plan w1 9 (.read [0, 1, 2, 3, 4, 5] (.one 6 (.one 7 (.read [8] .stop)))) (by kernel_rfl) (by kernel_rfl) (by kernel_rfl) (by kernel_rfl) (by kernel_rfl) (fun _ d _ _ _ h => by cases d <;> exact h) (Kept.refl _) ?_
    intro wd hwd
    rw [wpPlan_read]
    simp only [pickOps_cons, pickOps_nil, consO_some, List.getElem?_cons_zero, List.getElem?_cons_succ]
    repeat (go_big_quiet_step (fail))
    refine wpQuiet_nil ?_
    rw [wpPlan_one]
    simp only [pickOps_cons, pickOps_nil, consO_some, List.getElem?_cons_zero, List.getElem?_cons_succ]
    go_wp2_with fail
    have hka := hwd.alloc #[.int .i64 x.d.1, .int .i64 x.d.2, .string x.p, .int .i64 x.k, .int .i64 x.vk, .int .i64 x.vn, .string x.vt, .int .i64 x.e.1, .int .i64 x.e.2] 46
    refine soloP hka ?_
    have HX5 := Ent.new wd x 46
    obtain ⟨v5, w5, hr5, ho5⟩ := app_cut hka (HH.out.kept hka) hk6 HX5
    obtain ⟨A5, c5, rfl, hel5, hfr5, hcl5, hcm5⟩ := ho5.form
    obtain ⟨N5, hN5⟩ : ∃ N, (L.take j ++ [x]).length = N := ⟨_, rfl⟩
    rw [hN5] at hr5 ho5 hcl5
    have HN5 := Lib.hid hN5
    have HR5 := Lib.hid hr5
    have HO5 := Lib.hid ho5
    clear HX5 hr5 ho5 hel5 hfr5 hwd hka hN5
    rw [wpPlan_one]
    simp only [pickOps_cons, pickOps_nil, consO_some, List.getElem?_cons_zero, List.getElem?_cons_succ]
    go_wp2_with (at_builtin; refine Lib.wpList_append_run _ rfl (.tmp 27) (.tmp 29) _ _ rfl _ _ rfl rfl _ _ HR5.out ?_)
    refine soloP HO5.out.ke ?_
    rw [wpPlan_read]
    simp only [pickOps_cons, pickOps_nil, consO_some, List.getElem?_cons_zero, List.getElem?_cons_succ]
    repeat (go_big_quiet_step (fail))
    refine wpQuiet_nil ?_
    refine wpPlan_stop ?_
    clear c0 x0 x1 x2 x3 x4 x5 x6 x7 x8
    go_wp2_with fail
    have c1 := KExtE.cell (b := w.heap.size + 2) (by omega) hb1.c1
    have c2 := KExtE.cell (b := w.heap.size + 2) (by omega) hb1.c2
    have x0 := KExtE.cell (b := w.heap.size + 2) (by omega) he1.c0
    have x1 := KExtE.cell (b := w.heap.size + 2) (by omega) he1.c1
    refine region_planE (w.heap.size + 2) w1 10 (.read [0, 1, 3, 4, 5, 6] (.one 2 (.one 7 (.read [8] (.one 9 .stop))))) (by kernel_rfl) (by kernel_rfl) (by kernel_rfl) (by kernel_rfl) (by kernel_rfl) (fun _ d _ _ _ h => by cases d <;> exact h) HO5.out.ke ?_
    intro wd hwd
    have HO6 := Lib.hid (show OutE w1 wd (.slice A5 (L.take j ++ [x]).length c5) (L.take j ++ [x]) by rw [HN5.out]; exact HO5.out.kept hwd)
    clear hwd HO5
    rw [wpPlan_read]
    simp only [pickOps_cons, pickOps_nil, consO_some, List.getElem?_cons_zero, List.getElem?_cons_succ]
    repeat (go_big_quiet_step (fail))
    refine wpQuiet_nil ?_
    obtain ⟨v7, w7, hr7, ho7⟩ := HO6.out.app _ _ _ _ (HT.out.kept HO6.out.ke) (by rw [List.length_append, HH.out.len]; simp only [List.length_cons, List.length_nil]; omega)
    obtain ⟨A7, c7, rfl, hel7, hfr7, _, _⟩ := ho7.form
    obtain ⟨N7, hN7⟩ : ∃ N, (L.take j ++ [x] ++ L.drop (j + 1)).length = N := ⟨_, rfl⟩
    rw [HN5.out, hN7] at hr7
    rw [hN7] at hel7
    have HN7 := Lib.hid hN7
    have HR7 := Lib.hid hr7
    have HK7 := Lib.hid ho7.ke
    have HE7 := Lib.hid hel7
    have HF7 := Lib.hid hfr7
    have hsz7 := ho7.ke.2.2
    clear hr7 ho7 hel7 hfr7 hN7
    rw [wpPlan_one]
    simp only [pickOps_cons, pickOps_nil, consO_some, List.getElem?_cons_zero, List.getElem?_cons_succ]
    go_wp2_with (at_builtin; refine Lib.wpList_append_run _ rfl (.tmp 31) (.tmp 32) _ _ rfl _ _ rfl rfl _ _ HR7.out ?_)
    refine soloE (.of HK7.out) ?_
    rw [wpPlan_one]
    simp only [pickOps_cons, pickOps_nil, consO_some, List.getElem?_cons_zero, List.getElem?_cons_succ]
    go_wp2_with (go_at_call 45; refine (gadd_any B m k V D p q C x.d.1 x.d.2 _ (HI1.out.kept HK7.out) HC.out.vec (HD1.out.kept HK7.out) HC.out.rise (by omega)).mono ?_; rintro e w9 ⟨A9, n9, c9, B9, m9, k9, V9, C9, rfl, hi9, hd9, hs9, hmm, hk9, hfa, hfb⟩)
    have hr := HRES.out.kept (HK7.out.trans hk9)
    have e0 := hr.c0; have e1 := hr.c1; have e2 := hr.c2; have ef0 := hr.f 0; have ef1 := hr.f 1; have ef2 := hr.f 2
    have HKK := Lib.hid (HK7.out.trans hk9)
    have HFIN := Lib.hid (st_box (W := w) (b := w.heap.size + 2) (L := withE L x) (S := fun d => hasC V C d ∨ (rightD d = true ∧ d = x.d)) (mx := p + 1) (by have := HE7.out.kept hk9; rw [List.append_assoc] at this; rw [HW.out]; exact this) hi9 hd9 (fun ad e => by have := HF7.out ad e; omega) (fun ad e => by have := hfa ad e; omega) (fun ad e => by have := hfb ad e; omega) (Nat.le_add_right _ 2) (HK1.out.trans (HK7.out.trans hk9)) ⟨hs9.right, fun d => (hs9.has d).trans (add_has HC.out x.d d)⟩ (by rw [HPL.out]; exact hmm))
    clear hi9 hd9 hs9 hmm hk9 hfa hfb hr
    refine soloE (.of HKK.out) ?_
    rw [wpPlan_read]
    simp only [pickOps_cons, pickOps_nil, consO_some, List.getElem?_cons_zero, List.getElem?_cons_succ]
    repeat (go_big_quiet_step (fail))
    refine wpQuiet_nil ?_
    rw [wpPlan_one]
    simp only [pickOps_cons, pickOps_nil, consO_some, List.getElem?_cons_zero, List.getElem?_cons_succ]
    go_wp2_with fail
    refine soloE ((((KeptE.of (G := w.heap.size + 2) HKK.out).set (.inl rfl) _).set (.inl rfl) _).set (.inl rfl) _) ?_
    refine wpPlan_stop ?_
    go_wp2_with fail
    exact bodyPost_ret (by simp [results, Try.results23, go_sem, *]) rfl HFIN.out
end Go.Proofs.Ytcldbmhjfmbcfaa

namespace Go.Proofs.Ytcldbmhjfmbcfaa
open Go.RowKit
set_option linter.unusedVariables false

theorem outE_nil (G : List (Int × Int)) : outE [] G = [] := rfl
theorem outE_goes {L : List En} {G : List (Int × Int)} {t : Nat} {x : En} (h : L[t]? = some x) (hx : x.d ∈ G) : outE (L.take (t + 1)) G = outE (L.take t) G := by
  unfold outE
  rw [List.take_add_one, h, Option.toList_some, List.filter_append, List.filter_cons, if_neg (by simpa using hx), List.filter_nil, List.append_nil]
theorem outE_stays {L : List En} {G : List (Int × Int)} {t : Nat} {x : En} (h : L[t]? = some x) (hx : x.d ∉ G) : outE (L.take (t + 1)) G = outE (L.take t) G ++ [x] := by
  unfold outE
  rw [List.take_add_one, h, Option.toList_some, List.filter_append, List.filter_cons, if_pos (by simpa using hx), List.filter_nil]

set_option maxRecDepth 100000 in
set_option maxHeartbeats 16000000 in
theorem without_any (A : Option Addr) (n c : Nat) (L : List En) (B : Option Addr) (m k : Nat) (V : List Int) (D : Option Addr) (p q : Nat) (C : List (Int × Int)) (E : Option Addr) (gn gc : Nat) (G : List (Int × Int)) (w : World)
    (h : El w A n c L) (hi : Il w B m k V) (hd : Dl w D p q C) (hg : Dl w E gn gc G) (hc : RightC V C) (hn : n ≤ 10000) (hp : p ≤ 10000) (hgn : gn ≤ 10000) :
    Calls Try.prog 25 #[.agg #[.slice A n c, .slice B m k, .slice D p q], .slice E gn gc] w (StS (outE L G) (fun d => hasC V C d ∨ (rightD d = true ∧ d ∈ G)) (p + gn) w) := by
  have hk := ((Kept.refl w).alloc #[.slice A n c, .slice B m k, .slice D p q] 28).alloc #[.slice none 0 0, .slice none 0 0, .slice none 0 0] 28
  have hcap := h.cap.1; have hcap2 := h.cap.2
  have HPL := Lib.hid hd.1
  have HGL := Lib.hid hg.1
  have HC := Lib.hid hc
  have HNL := Lib.hid h.1
  have hb0 := (Box3.new w (.slice A n c) (.slice B m k) (.slice D p q) 28).kept ((Kept.refl _).alloc #[.slice none 0 0, .slice none 0 0, .slice none 0 0] 28)
  have hr0 := Box3.new (w.alloc (.cells #[.slice A n c, .slice B m k, .slice D p q] 28)) (.slice none 0 0) (.slice none 0 0) (.slice none 0 0) 28
  rw [show (w.alloc (.cells #[.slice A n c, .slice B m k, .slice D p q] 28)).heap.size = w.heap.size + 1 by simp] at hr0
  have HB0 := Lib.hid hb0; have HR0 := Lib.hid hr0
  have HK0 := Lib.hid hk
  have HH0 := Lib.hid (h.kept hk); have HI0 := Lib.hid (hi.kept hk); have HD0 := Lib.hid (hd.kept hk); have HG0 := Lib.hid (hg.kept hk)
  have HS := Lib.hid (dsort_any E gn gc G _ (hg.kept hk) (by omega))
  have hsz0 : ((w.alloc (.cells #[.slice A n c, .slice B m k, .slice D p q] 28)).alloc (.cells #[.slice none 0 0, .slice none 0 0, .slice none 0 0] 28)).heap.size = w.heap.size + 2 := by simp
  obtain ⟨U, hU⟩ : ∃ U, (w.alloc (.cells #[.slice A n c, .slice B m k, .slice D p q] 28)).alloc (.cells #[.slice none 0 0, .slice none 0 0, .slice none 0 0] 28) = U := ⟨_, rfl⟩
  rw [hU] at HK0 HH0 HI0 HD0 HG0 HS HB0 HR0 hsz0
  have HUU := Lib.hid hU
  clear h hi hd hg hc hk hb0 hr0 hU
  go_enter Try.func25, Try.ntmps25
  go_wp2_with fail
  go_at_call 46
  rw [HUU.out]
  refine HS.out.mono ?_
  rintro e w2 ⟨A2, m2, c2, X, rfl, hd2, hsd, hm2, hk2, hf2⟩
  have HX2 := Lib.hid hd2
  have HSD := Lib.hid hsd
  have HM2 := Lib.hid hm2
  have HK2 := Lib.hid (HK0.out.trans hk2)
  have HB2 := Lib.hid (HB0.out.kept hk2); have HRES := Lib.hid (HR0.out.kept hk2)
  have HH2 := Lib.hid (HH0.out.kept hk2); have HI2 := Lib.hid (HI0.out.kept hk2); have HD2 := Lib.hid (HD0.out.kept hk2); have HG2 := Lib.hid (HG0.out.kept hk2)
  have hsz2 : w.heap.size + 2 ≤ w2.heap.size := by rw [← hsz0]; exact hk2.2.2
  have b0 := HB2.out.c0
  clear hd2 hsd hm2 hk2 hf2
  go_wp2_with fail
  clear b0
  go_loopw [6, 16] (fun v i wr => ∃ t : Nat, t ≤ n ∧ i = .int .i64 t ∧ OutE w2 wr v (outE (L.take t) G)) (fun _ i _ => n - (intOf i).toNat)
  case atStart => exact ⟨0, Nat.zero_le _, rfl, by rw [List.take_zero, outE_nil]; exact OutE.start w2⟩
  case round =>
    obtain ⟨t, ht, rfl, hm⟩ := hrel
    obtain ⟨A3, c3, rfl, hel3, hfr3, hc3, hcm3⟩ := hm.form
    have HO := Lib.hid hm
    have HF3 := Lib.hid hfr3
    have HE3 := Lib.hid hel3
    clear hm hel3 hfr3
    by_cases hlt : t < n
    · obtain ⟨g, o, x, rfl, hx, EX⟩ := (HH2.out.kept HO.out.ke).get hlt
      have x0 := EX.c0; have x1 := EX.c1; have x2 := EX.c2; have x3 := EX.c3; have x4 := EX.c4; have x5 := EX.c5; have x6 := EX.c6; have x7 := EX.c7; have x8 := EX.c8
      have HXX := Lib.hid hx
      have hka := (Kept.refl wr).alloc #[.int .i64 x.d.1, .int .i64 x.d.2, .string x.p, .int .i64 x.k, .int .i64 x.vk, .int .i64 x.vn, .string x.vt, .int .i64 x.e.1, .int .i64 x.e.2] 46
      obtain ⟨z, hz⟩ : ∃ z, decide ((x.d.1, x.d.2) ∈ X) = z := ⟨_, rfl⟩
      have HSE := Lib.hid (search_any A2 m2 c2 X x.d.1 x.d.2 _ ((HX2.out.kept HO.out.ke).kept hka) HSD.out.rise (by have := HM2.out; have := HGL.out; omega))
      rw [hz] at HSE
      have HE := Lib.hid (Ent.new wr x 46)
      have hxg : x.d ∈ G ↔ z = true := by rw [← hz, decide_eq_true_iff, HSD.out.mem]
      have HXG := Lib.hid hxg
      clear EX hx hka hz hxg
      go_wp2_with fail
      go_at_call 47
      refine HSE.out.mono ?_
      rintro e w5 ⟨k5, rfl, _, _, _, hk5⟩
      have hk6 := ((Kept.refl wr).alloc #[.int .i64 x.d.1, .int .i64 x.d.2, .string x.p, .int .i64 x.k, .int .i64 x.vk, .int .i64 x.vn, .string x.vt, .int .i64 x.e.1, .int .i64 x.e.2] 46).trans hk5
      have HE5 := Lib.hid (HE.out.kept hk5)
      clear x0 x1 x2 x3 x4 x5 x6 x7 x8
      cases z with
      | true =>
        have HN := Lib.hid (show outE (L.take (t + 1)) G = outE (L.take t) G from outE_goes HXX.out (HXG.out.2 rfl))
        have HO6 := Lib.hid (HO.out.kept hk6)
        clear hk5 hk6
        go_wp2_with fail
        go_roundw
        case rel => exact ⟨t + 1, hlt, by go_num, by rw [HN.out]; exact HO6.out⟩
        case measure => simp [intOf]; omega
      | false =>
        have HN := Lib.hid (show outE (L.take (t + 1)) G = outE (L.take t) G ++ [x] from outE_stays HXX.out (fun e => by have := HXG.out.1 e; cases this))
        have hle : (outE (L.take t) G).length ≤ 10000 := Nat.le_trans (outE_len _ _) (by rw [List.length_take]; omega)
        have hk7 := hk6.trans ((Kept.refl w5).alloc #[.int .i64 x.d.1, .int .i64 x.d.2, .string x.p, .int .i64 x.k, .int .i64 x.vk, .int .i64 x.vn, .string x.vt, .int .i64 x.e.1, .int .i64 x.e.2] 46)
        obtain ⟨v8, w8, hr8, ho8⟩ := (HO.out.kept hk7).app _ _ _ _ (el_one (Ent.new w5 x 46)) (by omega)
        have HR8 := Lib.hid hr8
        have HO8 := Lib.hid ho8
        have e5 := HE5.out
        have y0 := e5.c0; have y1 := e5.c1; have y2 := e5.c2; have y3 := e5.c3; have y4 := e5.c4; have y5 := e5.c5; have y6 := e5.c6; have y7 := e5.c7; have y8 := e5.c8
        clear hr8 ho8 hk5 hk6 hk7 e5 hle
        go_wp2_with (at_builtin; refine Lib.wpList_append_run _ rfl (.tmp 29) (.tmp 31) _ _ rfl _ _ rfl rfl _ _ HR8.out ?_)
        go_roundw
        case rel => exact ⟨t + 1, hlt, by go_num, by rw [HN.out]; exact HO8.out⟩
        case measure => simp [intOf]; omega
    · obtain rfl : t = n := by omega
      go_wp2_with fail
      have c1 := KExtE.cell (b := w.heap.size + 1) (by omega) HB2.out.c1
      have c2 := KExtE.cell (b := w.heap.size + 1) (by omega) HB2.out.c2
      refine region_planE (w.heap.size + 1) w2 8 (.read [0, 1, 2, 3] (.one 4 (.one 5 (.read [6] (.one 7 .stop))))) (by kernel_rfl) (by kernel_rfl) (by kernel_rfl) (by kernel_rfl) (by kernel_rfl) (fun _ d _ _ _ h => by cases d <;> exact h) HO.out.ke ?_
      intro wd hwd
      have HKD := Lib.hid (HO.out.ke.trans hwd)
      have HED := Lib.hid (HE3.out.kept hwd)
      clear hwd
      rw [wpPlan_read]
      simp only [pickOps_cons, pickOps_nil, consO_some, List.getElem?_cons_zero, List.getElem?_cons_succ]
      repeat (go_big_quiet_step (fail))
      refine wpQuiet_nil ?_
      rw [wpPlan_one]
      simp only [pickOps_cons, pickOps_nil, consO_some, List.getElem?_cons_zero, List.getElem?_cons_succ]
      go_wp2_with (go_at_call 26; refine (gof_any E gn gc G _ (HG2.out.kept HKD.out) (by omega)).mono ?_; rintro e w6 ⟨A6, n6, c6, B6, m6, k6, V6, C6, rfl, hi6, hd6, hs6, hmm6, hk6, hfa6, hfb6⟩)
      have HKE := Lib.hid (HKD.out.trans hk6)
      have HEE := Lib.hid (HED.out.kept hk6)
      have HI6 := Lib.hid hi6; have HD6 := Lib.hid hd6; have HS6 := Lib.hid hs6
      have hm6 : m6 ≤ 10000 := by have := HGL.out; omega
      have HL6 := Lib.hid hd6.1
      have HMM := Lib.hid hmm6
      clear hi6 hd6 hs6 hmm6 hk6 hfa6 hfb6
      refine soloE (.of HKE.out) ?_
      rw [wpPlan_one]
      simp only [pickOps_cons, pickOps_nil, consO_some, List.getElem?_cons_zero, List.getElem?_cons_succ]
      go_wp2_with (go_at_call 32; refine (gjoin_any B m k V D p q C A6 n6 c6 V6 B6 m6 k6 C6 _ (HI2.out.kept HKE.out) HC.out.vec (HD2.out.kept HKE.out) HI6.out HS6.out.right.vec HD6.out (by omega)).mono ?_; rintro e w9 ⟨A9, n9, c9, B9, m9, k9, V9, C9, rfl, hi9, hd9, hs9, hmm, hk9, hfa, hfb⟩)
      have hr := HRES.out.kept (HKE.out.trans hk9)
      have e0 := hr.c0; have e1 := hr.c1; have e2 := hr.c2; have ef0 := hr.f 0; have ef1 := hr.f 1; have ef2 := hr.f 2
      have HKK := Lib.hid (HKE.out.trans hk9)
      have hszE := HKE.out.2.2
      have HFIN := Lib.hid (st_box (W := w) (b := w.heap.size + 1) (L := outE L G) (S := fun d => hasC V C d ∨ (rightD d = true ∧ d ∈ G)) (mx := p + gn) (show El w9 A3 (outE (L.take t) G).length c3 (outE L G) by have := HEE.out.kept hk9; rw [show L.take t = L from List.take_of_length_le (by rw [← HNL.out]; exact Nat.le_refl _)] at this ⊢; exact this) hi9 hd9 (fun ad e => by have := HF3.out ad e; omega) (fun ad e => by have := hfa ad e; omega) (fun ad e => by have := hfb ad e; omega) (Nat.le_add_right _ 1) (HK2.out.trans (HKE.out.trans hk9))
        ⟨hs9.right, fun d => ((hs9.has d).trans (join_has HC.out HS6.out.right d)).trans (or_congr Iff.rfl ((HS6.out.has d).trans (of_has G d)))⟩ (by have := HPL.out; have := HGL.out; have := HL6.out; have := HMM.out; omega))
      clear hi9 hd9 hs9 hmm hk9 hfa hfb hr
      refine soloE (.of HKK.out) ?_
      rw [wpPlan_read]
      simp only [pickOps_cons, pickOps_nil, consO_some, List.getElem?_cons_zero, List.getElem?_cons_succ]
      repeat (go_big_quiet_step (fail))
      refine wpQuiet_nil ?_
      rw [wpPlan_one]
      simp only [pickOps_cons, pickOps_nil, consO_some, List.getElem?_cons_zero, List.getElem?_cons_succ]
      go_wp2_with fail
      refine soloE ((((KeptE.of (G := w.heap.size + 1) HKK.out).set (.inl rfl) _).set (.inl rfl) _).set (.inl rfl) _) ?_
      refine wpPlan_stop ?_
      go_wp2_with fail
      exact bodyPost_ret (by simp [results, Try.results25, go_sem, *]) rfl HFIN.out
end Go.Proofs.Ytcldbmhjfmbcfaa

