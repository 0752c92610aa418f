/-
  What is proved: the document's With of layer 8 (P8.3), called with any state in order and any entry, returns the state with that entry at its place and its dot in its set; the world has new blocks at most.
-/
import Derived.Test.YtcldbmhjfmbcfaaGreatM29
import Derived.Test.YtcldbmhjfmbcfaaGreatM27
import Derived.Test.YtcldbmhjfmbcfaaGreatM21
import Derived.Test.YtcldbmhjfmbcfaaGreatCOf
namespace Go.Proofs.YtcldbmhjfmbcfaaGreat
open Go.RowKit
set_option linter.unusedVariables false

theorem run_ehead (A : Option Addr) (n c k : Nat) (hk : k ≤ c) (W : World) :
    (Instr.slice 25 (.slice A n c) none (some (.int .i64 (k : Int))) none).run Tryz.prog W = .ok (.slice A k c) W := by
  rw [run_slice_h W 25 _ n c (by kernel_rfl) .i64 (k : Int) (by omega) (by omega), sizeEn]
  cases A <;> simp [Result.andThen, sliced, Addr.add]
theorem run_ehead2 (A : Option Addr) (n c k : Nat) (hk : k ≤ c) (W : World) :
    (Instr.sliceAt 25 (.slice A n c) none (some (.int .i64 (k : Int))) none).run Tryz.prog W = .ok (.slice A k c) W := by
  rw [run_sliceAt_slice W _ _ _ _ _ (by kernel_rfl)]; exact run_ehead A n c k hk W

set_option maxRecDepth 100000 in
set_option maxHeartbeats 16000000 in
theorem rwith_any (A : Option Addr) (n c : Nat) (L : List En) (B : Option Addr) (m k : Nat) (V : List Int) (D : Option Addr) (p q : Nat) (C : List (Int × Int)) (x : En) (w : World)
    (h : El w A n c L) (hi : Il w B m k V) (hd : Dl w D p q C) (hr : RiseE L) (hc : RightC V C) (hn : n ≤ 10000) (hp : p ≤ 10000) :
    Calls Tryz.prog 27 #[.agg #[.slice A n c, .slice B m k, .slice D p q], .agg #[.int .i64 x.d.1, .int .i64 x.d.2, .string x.p, .int .i64 x.k, .int .i64 x.vk, .int .i64 x.vn, .string x.vt, .int .i64 x.e.1, .int .i64 x.e.2]] w (StS (withE L x) (fun d => hasC V C d ∨ (rightD d = true ∧ d = x.d)) (p + 1) w) := by
  have hk := ((Kept.refl w).alloc #[.slice A n c, .slice B m k, .slice D p q] 31).alloc #[.int .i64 x.d.1, .int .i64 x.d.2, .string x.p, .int .i64 x.k, .int .i64 x.vk, .int .i64 x.vn, .string x.vt, .int .i64 x.e.1, .int .i64 x.e.2] 47
  have hk3 := hk.alloc #[.slice none 0 0, .slice none 0 0, .slice none 0 0] 31
  have hcap := h.cap.1; have hcap2 := h.cap.2
  have HPL := Lib.hid hd.1
  have HC := Lib.hid hc
  have HRI := Lib.hid hr
  have HNL := Lib.hid h.1
  have hb0 := ((Box3.new w (.slice A n c) (.slice B m k) (.slice D p q) 31).kept ((Kept.refl _).alloc #[.int .i64 x.d.1, .int .i64 x.d.2, .string x.p, .int .i64 x.k, .int .i64 x.vk, .int .i64 x.vn, .string x.vt, .int .i64 x.e.1, .int .i64 x.e.2] 47)).kept ((Kept.refl _).alloc #[.slice none 0 0, .slice none 0 0, .slice none 0 0] 31)
  have he0 := (Ent.new (w.alloc (.cells #[.slice A n c, .slice B m k, .slice D p q] 31)) x 47).kept ((Kept.refl _).alloc #[.slice none 0 0, .slice none 0 0, .slice none 0 0] 31)
  rw [show (w.alloc (.cells #[.slice A n c, .slice B m k, .slice D p q] 31)).heap.size = w.heap.size + 1 by simp] at he0
  have hr0 := Box3.new ((w.alloc (.cells #[.slice A n c, .slice B m k, .slice D p q] 31)).alloc (.cells #[.int .i64 x.d.1, .int .i64 x.d.2, .string x.p, .int .i64 x.k, .int .i64 x.vk, .int .i64 x.vn, .string x.vt, .int .i64 x.e.1, .int .i64 x.e.2] 47)) (.slice none 0 0) (.slice none 0 0) (.slice none 0 0) 31
  rw [show ((w.alloc (.cells #[.slice A n c, .slice B m k, .slice D p q] 31)).alloc (.cells #[.int .i64 x.d.1, .int .i64 x.d.2, .string x.p, .int .i64 x.k, .int .i64 x.vk, .int .i64 x.vn, .string x.vt, .int .i64 x.e.1, .int .i64 x.e.2] 47)).heap.size = w.heap.size + 2 by simp] at hr0
  have HB0 := Lib.hid hb0; have HE0 := Lib.hid he0; have HR0 := Lib.hid hr0
  have HK3 := Lib.hid hk3
  have HH3 := Lib.hid (h.kept hk3); have HI3 := Lib.hid (hi.kept hk3); have HD3 := Lib.hid (hd.kept hk3)
  obtain ⟨z, hz⟩ : ∃ z, hasE L x.d = z := ⟨_, rfl⟩
  have HS := Lib.hid (rplace_any A n c L x.d.1 x.d.2 _ (h.kept hk3) hr (by omega) z hz)
  have HZ := Lib.hid hz
  have hsz3 : (((w.alloc (.cells #[.slice A n c, .slice B m k, .slice D p q] 31)).alloc (.cells #[.int .i64 x.d.1, .int .i64 x.d.2, .string x.p, .int .i64 x.k, .int .i64 x.vk, .int .i64 x.vn, .string x.vt, .int .i64 x.e.1, .int .i64 x.e.2] 47)).alloc (.cells #[.slice none 0 0, .slice none 0 0, .slice none 0 0] 31)).heap.size = w.heap.size + 3 := by simp
  obtain ⟨U, hU⟩ : ∃ U, ((w.alloc (.cells #[.slice A n c, .slice B m k, .slice D p q] 31)).alloc (.cells #[.int .i64 x.d.1, .int .i64 x.d.2, .string x.p, .int .i64 x.k, .int .i64 x.vk, .int .i64 x.vn, .string x.vt, .int .i64 x.e.1, .int .i64 x.e.2] 47)).alloc (.cells #[.slice none 0 0, .slice none 0 0, .slice none 0 0] 31) = U := ⟨_, rfl⟩
  rw [hU] at HK3 HH3 HI3 HD3 HS HB0 HE0 HR0 hsz3
  have HUU := Lib.hid hU
  have b0 := HB0.out.c0; have b1 := HB0.out.c1; have b2 := HB0.out.c2; have y0 := HE0.out.c0; have y1 := HE0.out.c1
  clear h hi hd hr hc hk hk3 hb0 he0 hr0 hz hU
  go_enter Tryz.func27, Tryz.ntmps27
  go_wp2_with fail
  go_at_call 58
  rw [HUU.out]
  refine HS.out.mono ?_
  rintro e w1 ⟨j, rfl, hpl, hk1⟩
  have HPLC := Lib.hid hpl
  have hjn : j ≤ n := by rw [HNL.out]; exact hpl.le
  have HK1 := Lib.hid (HK3.out.trans hk1)
  have HB1 := Lib.hid (HB0.out.kept hk1); have HE1 := Lib.hid (HE0.out.kept hk1); have HRES := Lib.hid (HR0.out.kept hk1)
  have HH1 := Lib.hid (HH3.out.kept hk1); have HI1 := Lib.hid (HI3.out.kept hk1); have HD1 := Lib.hid (HD3.out.kept hk1)
  have hsz1 : w.heap.size + 3 ≤ w1.heap.size := by rw [← hsz3]; exact hk1.2.2
  have HH := Lib.hid (el_head HH1.out hjn (show j ≤ c by omega) (Nat.le_refl c))
  have hrh := run_ehead A n c j (by omega)
  have hrh2 := run_ehead2 A n c j (by omega)
  have hka1 := (Kept.refl w1).alloc #[] 47
  obtain ⟨v2, w2, hra, ho2⟩ := (made_ens w1 #[] 0 (by omega) rfl).app _ _ _ _ (HH.out.kept hka1) (by simp; omega)
  rw [List.nil_append] at ho2
  have hk2 := ho2.ke
  have hka2 := (Kept.refl w2).alloc #[.int .i64 x.d.1, .int .i64 x.d.2, .string x.p, .int .i64 x.k, .int .i64 x.vk, .int .i64 x.vn, .string x.vt, .int .i64 x.e.1, .int .i64 x.e.2] 47
  obtain ⟨v5, w5, hrb, ho5⟩ := (ho2.kept hka2).app _ _ _ _ (el_one (Ent.new w2 x 47)) (by rw [HH.out.len]; omega)
  obtain ⟨A5, c5, rfl, _, _, hcl5, hcm5⟩ := ho5.form
  obtain ⟨A4, c4, rfl, _, _, hcl4, hcm4⟩ := ho2.form
  obtain ⟨N5, hN5⟩ : ∃ N, (L.take j ++ [x]).length = N := ⟨_, rfl⟩
  have hlj : (L.take j).length = j := HH.out.len
  rw [hN5] at hrb hcl5
  rw [hlj] at hra hrb hcl4
  have HO5 := Lib.hid ho5
  have HN5 := Lib.hid hN5
  have HRA := Lib.hid hra; have HRB := Lib.hid hrb
  have d0 := HB1.out.c0; have d1 := HB1.out.c1; have d2 := HB1.out.c2
  have d3 := hka1.cell d0
  have e5 := HE1.out.kept hk2
  have y0 := e5.c0; have y1 := e5.c1; have y2 := e5.c2; have y3 := e5.c3; have y4 := e5.c4; have y5 := e5.c5; have y6 := e5.c6; have y7 := e5.c7; have y8 := e5.c8
  obtain ⟨A2, ht, hr2, hr3⟩ := el_tail HH1.out hjn
  clear hka1 hra ho2 hka2 hrb ho5 hk2 e5 hN5 hlj hpl hk1 b0 b1 b2
  cases z with
  | false =>
    have HT := Lib.hid ht
    have HW := Lib.hid (withE_put j HPLC.out.lo (HPLC.out.no HZ.out))
    clear ht
    go_wp2_with (first
      | (at_builtin; refine Lib.wpList_append_run _ rfl (.tmp 27) (.tmp 31) _ _ rfl _ _ rfl rfl _ _ HRA.out ?_)
      | (at_builtin; refine Lib.wpList_append_run _ rfl (.tmp 33) (.tmp 35) _ _ rfl _ _ rfl rfl _ _ HRB.out ?_))
    clear d0 d1 d2 d3 y0 y1 y2 y3 y4 y5 y6 y7 y8 hrh hrh2 hr2 hr3
    have hb1 := HB1.out; have he1 := HE1.out
    have c1 := KExtE.cell (b := w.heap.size + 2) (by omega) hb1.c1
    have c2 := KExtE.cell (b := w.heap.size + 2) (by omega) hb1.c2
    have x0 := KExtE.cell (b := w.heap.size + 2) (by omega) he1.c0
    have x1 := KExtE.cell (b := w.heap.size + 2) (by omega) he1.c1
    clear hb1 he1
    refine region_planE (w.heap.size + 2) w1 10 (.read [0, 1, 3, 4, 5, 6] (.one 2 (.one 7 (.read [8] (.one 9 .stop))))) (by kernel_rfl) (by kernel_rfl) (by kernel_rfl) (by kernel_rfl) (by kernel_rfl) (fun _ d _ _ _ h => by cases d <;> exact h) HO5.out.ke ?_
    intro wd hwd
    have HO6 := Lib.hid (HO5.out.kept hwd)
    clear hwd
    rw [wpPlan_read]
    simp only [pickOps_cons, pickOps_nil, consO_some, List.getElem?_cons_zero, List.getElem?_cons_succ]
    repeat (go_big_quiet_step (fail))
    refine wpQuiet_nil ?_
    obtain ⟨v7, w7, hr7, ho7⟩ := HO6.out.app _ _ _ _ (HT.out.kept HO6.out.ke) (by rw [List.length_append, HH.out.len]; simp only [List.length_cons, List.length_nil]; omega)
    obtain ⟨A7, c7, rfl, hel7, hfr7, _, _⟩ := ho7.form
    obtain ⟨N7, hN7⟩ : ∃ N, (L.take j ++ [x] ++ L.drop j).length = N := ⟨_, rfl⟩
    rw [HN5.out, hN7] at hr7
    rw [hN7] at hel7
    have HR7 := Lib.hid hr7
    have HK7 := Lib.hid ho7.ke
    have HE7 := Lib.hid hel7
    have HF7 := Lib.hid hfr7
    have hsz7 := ho7.ke.2.2
    clear hr7 ho7 hel7 hfr7 hN7
    rw [wpPlan_one]
    simp only [pickOps_cons, pickOps_nil, consO_some, List.getElem?_cons_zero, List.getElem?_cons_succ]
    go_wp2_with (at_builtin; refine Lib.wpList_append_run _ rfl (.tmp 37) (.tmp 38) _ _ rfl _ _ rfl rfl _ _ HR7.out ?_)
    refine soloE (.of HK7.out) ?_
    rw [wpPlan_one]
    simp only [pickOps_cons, pickOps_nil, consO_some, List.getElem?_cons_zero, List.getElem?_cons_succ]
    go_wp2_with (go_at_call 59; refine (radd_any B m k V D p q C x.d.1 x.d.2 _ (HI1.out.kept HK7.out) HC.out.vec (HD1.out.kept HK7.out) (by omega)).mono ?_; rintro e w9 ⟨A9, n9, c9, B9, m9, k9, V9, C9, rfl, hi9, hd9, hs9, hmm, hk9, hfa, hfb⟩)
    have hr := HRES.out.kept (HK7.out.trans hk9)
    have e0 := hr.c0; have e1 := hr.c1; have e2 := hr.c2; have ef0 := hr.f 0; have ef1 := hr.f 1; have ef2 := hr.f 2
    have HKK := Lib.hid (HK7.out.trans hk9)
    have HFIN := Lib.hid (st_box (W := w) (b := w.heap.size + 2) (L := withE L x) (S := fun d => hasC V C d ∨ (rightD d = true ∧ d = x.d)) (mx := p + 1) (by have := HE7.out.kept hk9; rw [List.append_assoc] at this; rw [HW.out]; exact this) hi9 hd9 (fun ad e => by have := HF7.out ad e; omega) (fun ad e => by have := hfa ad e; omega) (fun ad e => by have := hfb ad e; omega) (Nat.le_add_right _ 2) (HK1.out.trans (HK7.out.trans hk9)) ⟨hs9.right, fun d => (hs9.has d).trans (add_has HC.out x.d d)⟩ (by rw [HPL.out]; exact hmm))
    clear hi9 hd9 hs9 hmm hk9 hfa hfb hr
    refine soloE (.of HKK.out) ?_
    rw [wpPlan_read]
    simp only [pickOps_cons, pickOps_nil, consO_some, List.getElem?_cons_zero, List.getElem?_cons_succ]
    repeat (go_big_quiet_step (fail))
    refine wpQuiet_nil ?_
    rw [wpPlan_one]
    simp only [pickOps_cons, pickOps_nil, consO_some, List.getElem?_cons_zero, List.getElem?_cons_succ]
    go_wp2_with fail
    refine soloE ((((KeptE.of (G := w.heap.size + 2) HKK.out).set (.inl rfl) _).set (.inl rfl) _).set (.inl rfl) _) ?_
    refine wpPlan_stop ?_
    go_wp2_with fail
    exact bodyPost_ret (by simp [results, Tryz.results27, go_sem, *]) rfl HFIN.out
  | true =>
    have hj1 : j + 1 ≤ n := by obtain ⟨y, hy, _⟩ := HPLC.out.yes HZ.out; have := (List.getElem?_eq_some_iff.1 hy).1; have := HNL.out; omega
    obtain ⟨A6, ht6, hr6, hr7⟩ := el_tail HH1.out hj1
    have hr8 : ∀ W : World, (Instr.slice 25 (.slice A n c) (some (.int .i64 ((j : Int) + 1))) none none).run Tryz.prog W = .ok (.slice A6 (n - (j + 1)) (c - (j + 1))) W := hr6
    have hr9 : ∀ W : World, (Instr.sliceAt 25 (.slice A n c) (some (.int .i64 ((j : Int) + 1))) none none).run Tryz.prog W = .ok (.slice A6 (n - (j + 1)) (c - (j + 1))) W := hr7
    have hjw : IntKind.i64.wrap ((j : Int) + 1) = (j : Int) + 1 := by rw [IntWalk.i64_in _ (by omega)]
    clear ht hr6 hr7
    have ht := ht6
    clear ht6
    have HT := Lib.hid ht
    have HW := Lib.hid (show withE L x = L.take j ++ x :: L.drop (j + 1) by obtain ⟨y, hy, hyd⟩ := HPLC.out.yes HZ.out; exact withE_set HRI.out j hy hyd)
    clear ht
    go_wp2_with (first
      | (at_builtin; refine Lib.wpList_append_run _ rfl (.tmp 27) (.tmp 31) _ _ rfl _ _ rfl rfl _ _ HRA.out ?_)
      | (at_builtin; refine Lib.wpList_append_run _ rfl (.tmp 33) (.tmp 35) _ _ rfl _ _ rfl rfl _ _ HRB.out ?_))
    clear d0 d1 d2 d3 y0 y1 y2 y3 y4 y5 y6 y7 y8 hrh hrh2 hr2 hr3 hr8 hr9 hjw
    have hb1 := HB1.out; have he1 := HE1.out
    have c1 := KExtE.cell (b := w.heap.size + 2) (by omega) hb1.c1
    have c2 := KExtE.cell (b := w.heap.size + 2) (by omega) hb1.c2
    have x0 := KExtE.cell (b := w.heap.size + 2) (by omega) he1.c0
    have x1 := KExtE.cell (b := w.heap.size + 2) (by omega) he1.c1
    clear hb1 he1
    refine region_planE (w.heap.size + 2) w1 10 (.read [0, 1, 3, 4, 5, 6] (.one 2 (.one 7 (.read [8] (.one 9 .stop))))) (by kernel_rfl) (by kernel_rfl) (by kernel_rfl) (by kernel_rfl) (by kernel_rfl) (fun _ d _ _ _ h => by cases d <;> exact h) HO5.out.ke ?_
    intro wd hwd
    have HO6 := Lib.hid (HO5.out.kept hwd)
    clear hwd
    rw [wpPlan_read]
    simp only [pickOps_cons, pickOps_nil, consO_some, List.getElem?_cons_zero, List.getElem?_cons_succ]
    repeat (go_big_quiet_step (fail))
    refine wpQuiet_nil ?_
    obtain ⟨v7, w7, hr7, ho7⟩ := HO6.out.app _ _ _ _ (HT.out.kept HO6.out.ke) (by rw [List.length_append, HH.out.len]; simp only [List.length_cons, List.length_nil]; omega)
    obtain ⟨A7, c7, rfl, hel7, hfr7, _, _⟩ := ho7.form
    obtain ⟨N7, hN7⟩ : ∃ N, (L.take j ++ [x] ++ L.drop (j + 1)).length = N := ⟨_, rfl⟩
    rw [HN5.out, hN7] at hr7
    rw [hN7] at hel7
    have HR7 := Lib.hid hr7
    have HK7 := Lib.hid ho7.ke
    have HE7 := Lib.hid hel7
    have HF7 := Lib.hid hfr7
    have hsz7 := ho7.ke.2.2
    clear hr7 ho7 hel7 hfr7 hN7
    rw [wpPlan_one]
    simp only [pickOps_cons, pickOps_nil, consO_some, List.getElem?_cons_zero, List.getElem?_cons_succ]
    go_wp2_with (at_builtin; refine Lib.wpList_append_run _ rfl (.tmp 37) (.tmp 38) _ _ rfl _ _ rfl rfl _ _ HR7.out ?_)
    refine soloE (.of HK7.out) ?_
    rw [wpPlan_one]
    simp only [pickOps_cons, pickOps_nil, consO_some, List.getElem?_cons_zero, List.getElem?_cons_succ]
    go_wp2_with (go_at_call 59; refine (radd_any B m k V D p q C x.d.1 x.d.2 _ (HI1.out.kept HK7.out) HC.out.vec (HD1.out.kept HK7.out) (by omega)).mono ?_; rintro e w9 ⟨A9, n9, c9, B9, m9, k9, V9, C9, rfl, hi9, hd9, hs9, hmm, hk9, hfa, hfb⟩)
    have hr := HRES.out.kept (HK7.out.trans hk9)
    have e0 := hr.c0; have e1 := hr.c1; have e2 := hr.c2; have ef0 := hr.f 0; have ef1 := hr.f 1; have ef2 := hr.f 2
    have HKK := Lib.hid (HK7.out.trans hk9)
    have HFIN := Lib.hid (st_box (W := w) (b := w.heap.size + 2) (L := withE L x) (S := fun d => hasC V C d ∨ (rightD d = true ∧ d = x.d)) (mx := p + 1) (by have := HE7.out.kept hk9; rw [List.append_assoc] at this; rw [HW.out]; exact this) hi9 hd9 (fun ad e => by have := HF7.out ad e; omega) (fun ad e => by have := hfa ad e; omega) (fun ad e => by have := hfb ad e; omega) (Nat.le_add_right _ 2) (HK1.out.trans (HK7.out.trans hk9)) ⟨hs9.right, fun d => (hs9.has d).trans (add_has HC.out x.d d)⟩ (by rw [HPL.out]; exact hmm))
    clear hi9 hd9 hs9 hmm hk9 hfa hfb hr
    refine soloE (.of HKK.out) ?_
    rw [wpPlan_read]
    simp only [pickOps_cons, pickOps_nil, consO_some, List.getElem?_cons_zero, List.getElem?_cons_succ]
    repeat (go_big_quiet_step (fail))
    refine wpQuiet_nil ?_
    rw [wpPlan_one]
    simp only [pickOps_cons, pickOps_nil, consO_some, List.getElem?_cons_zero, List.getElem?_cons_succ]
    go_wp2_with fail
    refine soloE ((((KeptE.of (G := w.heap.size + 2) HKK.out).set (.inl rfl) _).set (.inl rfl) _).set (.inl rfl) _) ?_
    refine wpPlan_stop ?_
    go_wp2_with fail
    exact bodyPost_ret (by simp [results, Tryz.results27, go_sem, *]) rfl HFIN.out
end Go.Proofs.YtcldbmhjfmbcfaaGreat
