/-
  What is proved: Of, Add and Join of package ctx, called with any dots, or right sets, that lie in memory, return what P6.4 to P6.6 say; the world has new blocks at most.
  slices.Equal at entries, as the library's text has it, and Same of package store (P8.7), called with any slices of entries, or states, that lie in memory: whether they are the same; the world has new blocks at most.
-/
import Derived.Test.YtcldbmhjfmbcfaaM23
import Derived.Test.YtcldbmhjfmbcfaaCOf
import Derived.Test.YtcldbmhjfmbcfaaM17
import Derived.Test.YtcldbmhjfmbcfaaM18
namespace Go.Proofs.Ytcldbmhjfmbcfaa
open Go.RowKit

set_option maxRecDepth 100000 in
set_option maxHeartbeats 1000000 in
theorem gof_any (A : Option Addr) (n c : Nat) (L : List (Int × Int)) (w : World) (h : Dl w A n c L) (hn : n ≤ 999990) :
    Calls Try.prog 26 #[.slice A n c] w (SetsF (CompS [] L) L.length w) := by
  have hK := (Kept.refl w).alloc #[.slice none 0 0, .slice none 0 0] 26
  have HC := Lib.hid (gcompact_any none 0 0 [] A n c L (w.alloc (.cells #[.slice none 0 0, .slice none 0 0] 26)) (Il.nil _) vecOk_nil (h.kept hK) hn)
  have hres := Box2.new w (.slice none 0 0) (.slice none 0 0) 26
  have HK := Lib.hid hK
  clear h hK
  go_enter Try.func26, Try.ntmps26
  go_wp2_with fail
  go_at_call 49
  refine HC.out.mono ?_
  rintro e w1 ⟨A1, n1, c1, B1, m1, k1, V1, C1, rfl, hi, hd, hs, hm, hk, hfa, hfb⟩
  have hr := hres.kept hk
  have e0 := hr.c0; have e1 := hr.c1; have ef0 := hr.f 0; have ef1 := hr.f 1
  have HF := Lib.hid (sets_box (b := w.heap.size) hi hd hfa hfb (by simp) (Nat.le_refl _) (HK.out.trans hk) hs hm)
  clear hi hd hs hm hk hfa hfb hr hres
  go_wp2_with fail
  exact bodyPost_ret (by simp [results, Try.results26, go_sem, *]) rfl HF.out

theorem WithD.comp {V : List Int} {C X : List (Int × Int)} {x : Int × Int} (h : WithD C x X) (d : Int × Int) : CompS V X d ↔ CompS V (C ++ [x]) d := by
  unfold CompS
  rw [h.mem, List.mem_append, List.mem_singleton]
set_option maxRecDepth 100000 in
set_option maxHeartbeats 4000000 in
theorem gadd_any (A : Option Addr) (n c : Nat) (V : List Int) (B : Option Addr) (m k : Nat) (C : List (Int × Int)) (x1 x2 : Int) (w : World) (h : Il w A n c V) (hv : VecOk V) (hd : Dl w B m k C) (hr : Rise C) (hm : m ≤ 999980) :
    Calls Try.prog 45 #[.agg #[.slice A n c, .slice B m k], .agg #[.int .i64 x1, .int .i64 x2]] w (SetsF (CompS V (C ++ [(x1, x2)])) (C.length + 1) w) := by
  have hK : Kept w (((w.alloc (.cells #[.slice A n c, .slice B m k] 26)).alloc (.cells #[.int .i64 x1, .int .i64 x2] 42)).alloc (.cells #[.slice none 0 0, .slice none 0 0] 26)) := (((Kept.refl w).alloc #[.slice A n c, .slice B m k] 26).alloc #[.int .i64 x1, .int .i64 x2] 42).alloc #[.slice none 0 0, .slice none 0 0] 26
  have HM := Lib.hid hd.1
  have HK := Lib.hid hK
  have HI := Lib.hid (h.kept hK)
  have HD := Lib.hid (hd.kept hK)
  have HV := Lib.hid hv
  have HRI := Lib.hid hr
  have b0 := Box2.new w (.slice A n c) (.slice B m k) 26 |>.kept (((Kept.refl _).alloc #[.int .i64 x1, .int .i64 x2] 42).alloc #[.slice none 0 0, .slice none 0 0] 26)
  have b1 := Box2.new (w.alloc (.cells #[.slice A n c, .slice B m k] 26)) (.int .i64 x1) (.int .i64 x2) 42 |>.kept ((Kept.refl _).alloc #[.slice none 0 0, .slice none 0 0] 26)
  have b2 := Box2.new ((w.alloc (.cells #[.slice A n c, .slice B m k] 26)).alloc (.cells #[.int .i64 x1, .int .i64 x2] 42)) (.slice none 0 0) (.slice none 0 0) 26
  rw [show (w.alloc (.cells #[.slice A n c, .slice B m k] 26)).heap.size = w.heap.size + 1 by simp] at b1
  rw [show ((w.alloc (.cells #[.slice A n c, .slice B m k] 26)).alloc (.cells #[.int .i64 x1, .int .i64 x2] 42)).heap.size = w.heap.size + 2 by simp] at b2
  have c0 := KExtE.cell (b := w.heap.size + 2) (by omega) b0.c0
  have c1 := KExtE.cell (b := w.heap.size + 2) (by omega) b0.c1
  have d0 := KExtE.cell (b := w.heap.size + 2) (by omega) b1.c0
  have d1 := KExtE.cell (b := w.heap.size + 2) (by omega) b1.c1
  have HRES := Lib.hid b2
  clear h hv hd hK b0 b1 b2 hr
  go_enter Try.func45, Try.ntmps45
  go_wp2_with fail
  refine region_planE (w.heap.size + 2) (((w.alloc (.cells #[.slice A n c, .slice B m k] 26)).alloc (.cells #[.int .i64 x1, .int .i64 x2] 42)).alloc (.cells #[.slice none 0 0, .slice none 0 0] 26)) 9 (.read [0, 1, 2, 3, 4] (.one 5 (.read [6] (.one 7 (.one 8 .stop))))) (by kernel_rfl) (by kernel_rfl) (by kernel_rfl) (by kernel_rfl) (by kernel_rfl) (fun _ d _ _ _ h => by cases d <;> exact h) (Kept.refl _) ?_
  intro wd hwd
  rw [wpPlan_read]
  simp only [pickOps_cons, pickOps_nil, consO_some, List.getElem?_cons_zero, List.getElem?_cons_succ]
  repeat (go_big_quiet_step (fail))
  refine wpQuiet_nil ?_
  rw [wpPlan_one]
  simp only [pickOps_cons, pickOps_nil, consO_some, List.getElem?_cons_zero, List.getElem?_cons_succ]
  go_wp2_with (go_at_call 65; refine (dwith_any B m k C x1 x2 _ (HD.out.kept hwd) HRI.out (by omega)).mono ?_; rintro e w5 ⟨B8, m8, k8, X8, rfl, hd8, hw8, hm8, hk8, _⟩)
  have HKZ := Lib.hid (hwd.trans hk8)
  have HW8 := Lib.hid hw8
  have hm9 : m8 ≤ 999990 := by have := HM.out; omega
  have HM8 := Lib.hid hm8
  have HX8 := Lib.hid hd8.1
  have HC := Lib.hid (gcompact_any A n c V B8 m8 k8 X8 _ (HI.out.kept HKZ.out) HV.out hd8 hm9)
  clear hd8 hw8 hm8 hk8
  refine soloE (.of HKZ.out) ?_
  rw [wpPlan_read]
  simp only [pickOps_cons, pickOps_nil, consO_some, List.getElem?_cons_zero, List.getElem?_cons_succ]
  repeat (go_big_quiet_step (fail))
  refine wpQuiet_nil ?_
  rw [wpPlan_one]
  simp only [pickOps_cons, pickOps_nil, consO_some, List.getElem?_cons_zero, List.getElem?_cons_succ]
  go_wp2_with (go_at_call 49; refine HC.out.mono ?_; rintro e w9 ⟨A9, n9, c9, B9, m9, k9, V9, C9, rfl, hi9, hd9, hs9, hmm, hk9, hfa, hfb⟩)
  have hr := HRES.out.kept (HKZ.out.trans hk9)
  have e0 := hr.c0; have e1 := hr.c1; have ef0 := hr.f 0; have ef1 := hr.f 1
  have HF := Lib.hid (sets_box (W := w) (b := w.heap.size + 2) hi9 hd9 hfa hfb (by have := HKZ.out.2.2; simp at this; omega) (by omega) (HK.out.trans (HKZ.out.trans hk9)) ⟨hs9.right, fun d => (hs9.has d).trans (HW8.out.comp d)⟩ (show m9 ≤ C.length + 1 by have := HX8.out; have := HM8.out; omega))
  have HE9 := Lib.hid (show KeptE (w.heap.size + 2) (((w.alloc (.cells #[.slice A n c, .slice B m k] 26)).alloc (.cells #[.int .i64 x1, .int .i64 x2] 42)).alloc (.cells #[.slice none 0 0, .slice none 0 0] 26)) w9 from .of (HKZ.out.trans hk9))
  clear hi9 hd9 hs9 hmm hk9 hfa hfb hr
  refine soloE HE9.out ?_
  rw [wpPlan_one]
  simp only [pickOps_cons, pickOps_nil, consO_some, List.getElem?_cons_zero, List.getElem?_cons_succ]
  go_wp2_with fail
  refine soloE ((HE9.out.set (.inl rfl) _).set (.inl rfl) _) ?_
  refine wpPlan_stop ?_
  go_wp2_with fail
  exact bodyPost_ret (by simp [results, Try.results45, go_sem, *]) rfl HF.out

theorem gconcat2 (bb : Nat) (w : World) (B : Option Addr) (m k : Nat) (C : List (Int × Int)) (B' : Option Addr) (m' k' : Nat) (C' : List (Int × Int)) (hb : w.heap[bb]? = some (.cells #[.slice B m k, .slice B' m' k'] 24 (0, 0))) (hd : Dl w B m k C) (hd' : Dl w B' m' k' C') (hm : m + m' ≤ 999990) :
    Calls Try.prog 56 #[.slice (some ⟨bb, 0, none⟩) 2 2] w fun e w' => ∃ B6 k6, e = .returned (.slice B6 (m + m') k6) ∧ Dl w' B6 (m + m') k6 (C ++ C') ∧ Kept w w' := by
  have e1 : totD [⟨B, m, k, C⟩, ⟨B', m', k', C'⟩] 2 = m + m' := by simp [totD]
  have e2 : catD [⟨B, m, k, C⟩, ⟨B', m', k', C'⟩] 2 = C ++ C' := by simp [catD]
  refine (dconcat_any bb [⟨B, m, k, C⟩, ⟨B', m', k', C'⟩] w (by simp) (by show totD _ 2 ≤ _; omega) ?_ ?_).mono ?_
  · intro j s hs
    match j, hs with
    | 0, hs => simp at hs; subst hs; exact (blk_cells hb).1
    | 1, hs => simp at hs; subst hs; exact (blk_cells hb).2
    | j + 2, hs => simp at hs
  · intro s hs
    simp only [List.mem_cons, List.not_mem_nil, or_false] at hs
    rcases hs with rfl | rfl
    · exact hd
    · exact hd'
  · rintro e w' ⟨v, rfl, ho, hw⟩
    have ho2 : w'.ownsRow w.heap.size 42 2 v (totD [⟨B, m, k, C⟩, ⟨B', m', k', C'⟩] 2) (flatD (catD [⟨B, m, k, C⟩, ⟨B', m', k', C'⟩] 2)) := ho
    rw [e1, e2] at ho2
    obtain ⟨B6, k6, rfl, h6⟩ := Dl.of_own ho2
    exact ⟨B6, k6, rfl, h6, hw⟩

set_option maxRecDepth 100000 in
set_option maxHeartbeats 8000000 in
theorem gjoin_any (A : Option Addr) (n c : Nat) (V : List Int) (B : Option Addr) (m k : Nat) (C : List (Int × Int)) (A' : Option Addr) (n' c' : Nat) (V' : List Int) (B' : Option Addr) (m' k' : Nat) (C' : List (Int × Int)) (w : World)
    (h : Il w A n c V) (hv : VecOk V) (hd : Dl w B m k C) (h' : Il w A' n' c' V') (hv' : VecOk V') (hd' : Dl w B' m' k' C') (hm : m + m' ≤ 999980) :
    Calls Try.prog 32 #[.agg #[.slice A n c, .slice B m k], .agg #[.slice A' n' c', .slice B' m' k']] w (SetsF (CompS (maxV V V') (C ++ C')) (C.length + C'.length) w) := by
  have hK : Kept w (((w.alloc (.cells #[.slice A n c, .slice B m k] 26)).alloc (.cells #[.slice A' n' c', .slice B' m' k'] 26)).alloc (.cells #[.slice none 0 0, .slice none 0 0] 26)) := (((Kept.refl w).alloc #[.slice A n c, .slice B m k] 26).alloc #[.slice A' n' c', .slice B' m' k'] 26).alloc #[.slice none 0 0, .slice none 0 0] 26
  have HK := Lib.hid hK
  have HI := Lib.hid (h.kept hK); have HD := Lib.hid (hd.kept hK); have HI' := Lib.hid (h'.kept hK); have HD' := Lib.hid (hd'.kept hK)
  have HVM := Lib.hid (maxV_ok hv hv')
  have HV1 := Lib.hid hv; have HV2 := Lib.hid hv'
  have b0 := Box2.new w (.slice A n c) (.slice B m k) 26 |>.kept (((Kept.refl _).alloc #[.slice A' n' c', .slice B' m' k'] 26).alloc #[.slice none 0 0, .slice none 0 0] 26)
  have b1 := Box2.new (w.alloc (.cells #[.slice A n c, .slice B m k] 26)) (.slice A' n' c') (.slice B' m' k') 26 |>.kept ((Kept.refl _).alloc #[.slice none 0 0, .slice none 0 0] 26)
  have b2 := Box2.new ((w.alloc (.cells #[.slice A n c, .slice B m k] 26)).alloc (.cells #[.slice A' n' c', .slice B' m' k'] 26)) (.slice none 0 0) (.slice none 0 0) 26
  rw [show (w.alloc (.cells #[.slice A n c, .slice B m k] 26)).heap.size = w.heap.size + 1 by simp] at b1
  rw [show ((w.alloc (.cells #[.slice A n c, .slice B m k] 26)).alloc (.cells #[.slice A' n' c', .slice B' m' k'] 26)).heap.size = w.heap.size + 2 by simp] at b2
  have c0 := KExtE.cell (b := w.heap.size + 2) (by omega) b0.c0
  have c1 := KExtE.cell (b := w.heap.size + 2) (by omega) b0.c1
  have d0 := KExtE.cell (b := w.heap.size + 2) (by omega) b1.c0
  have d1 := KExtE.cell (b := w.heap.size + 2) (by omega) b1.c1
  have hsz : (((w.alloc (.cells #[.slice A n c, .slice B m k] 26)).alloc (.cells #[.slice A' n' c', .slice B' m' k'] 26)).alloc (.cells #[.slice none 0 0, .slice none 0 0] 26)).heap.size = w.heap.size + 3 := by simp
  obtain ⟨U, hU⟩ : ∃ U, (((w.alloc (.cells #[.slice A n c, .slice B m k] 26)).alloc (.cells #[.slice A' n' c', .slice B' m' k'] 26)).alloc (.cells #[.slice none 0 0, .slice none 0 0] 26)) = U := ⟨_, rfl⟩
  have HX2 := Lib.hid b2
  rw [hU] at HK hsz HX2
  have HU := Lib.hid hU
  clear h hv hd h' hv' hd' hK b0 b1 b2 hU
  go_enter Try.func32, Try.ntmps32
  go_wp2_with fail
  refine region_planE (w.heap.size + 2) (((w.alloc (.cells #[.slice A n c, .slice B m k] 26)).alloc (.cells #[.slice A' n' c', .slice B' m' k'] 26)).alloc (.cells #[.slice none 0 0, .slice none 0 0] 26)) 14 (.read [0, 1, 2, 3, 5, 6, 7, 8] (.two 4 (.one 9 (.one 10 (.read [11] (.one 12 (.one 13 .stop))))) 9 (.one 4 (.one 10 (.read [11] (.one 12 (.one 13 .stop))))))) (by kernel_rfl) (by kernel_rfl) (by kernel_rfl) (by kernel_rfl) (by kernel_rfl) (fun _ d _ _ _ h => by cases d <;> exact h) (Kept.refl _) ?_
  intro wd hwd
  have HWX := Lib.hid hwd
  clear hwd
  rw [wpPlan_read]
  simp only [pickOps_cons, pickOps_nil, consO_some, List.getElem?_cons_zero, List.getElem?_cons_succ]
  repeat (go_big_quiet_step (fail))
  refine wpQuiet_nil ?_
  rw [wpPlan_two]
  simp only [pickOps_cons, pickOps_nil, consO_some, List.getElem?_cons_zero, List.getElem?_cons_succ]
  clear c0 c1 d0 d1
  constructor
  · go_wp2_with (go_at_call 55; refine (higher_any A n c V A' n' c' V' _ (HI.out.kept HWX.out) HV1.out (HI'.out.kept HWX.out) HV2.out).mono ?_; rintro e w5 ⟨A5, n5, c5, rfl, hi5, hk5⟩)
    replace HWX := Lib.hid (HWX.out.trans hk5)
    have HHI := Lib.hid hi5
    clear hi5 hk5
    refine soloE (.of HWX.out) ?_
    rw [wpPlan_one]
    simp only [pickOps_cons, pickOps_nil, consO_some, List.getElem?_cons_zero, List.getElem?_cons_succ]
    go_wp2_with fail
    have HRW := Lib.hid (heap_alloc_new w5 (.cells #[.slice B m k, .slice B' m' k'] 24))
    replace HWX := Lib.hid (HWX.out.alloc #[.slice B m k, .slice B' m' k'] 24)
    replace HHI := Lib.hid (HHI.out.kept ((Kept.refl _).alloc #[.slice B m k, .slice B' m' k'] 24))
    refine soloE (.of HWX.out) ?_
    rw [wpPlan_one]
    simp only [pickOps_cons, pickOps_nil, consO_some, List.getElem?_cons_zero, List.getElem?_cons_succ]
    go_wp2_with (go_at_call 56; refine (gconcat2 _ _ B m k C B' m' k' C' HRW.out (HD.out.kept HWX.out) (HD'.out.kept HWX.out) (by omega)).mono ?_; rintro e w6 ⟨B6, k6, rfl, hd6, hk6⟩)
    replace HWX := Lib.hid (HWX.out.trans hk6)
    have HCC := Lib.hid hd6
    replace HHI := Lib.hid (HHI.out.kept hk6)
    clear hd6 hk6
    have HKZ := Lib.hid (show Kept U _ from by rw [← HU.out]; exact HWX.out)
    have HC := Lib.hid (gcompact_any A5 n5 c5 (maxV V V') B6 (m + m') k6 (C ++ C') _ HHI.out HVM.out HCC.out (by omega))
    clear HWX HHI HCC
    refine soloE (by rw [HU.out]; exact .of HKZ.out) ?_
    rw [wpPlan_read]
    simp only [pickOps_cons, pickOps_nil, consO_some, List.getElem?_cons_zero, List.getElem?_cons_succ]
    repeat (go_big_quiet_step (fail))
    refine wpQuiet_nil ?_
    rw [wpPlan_one]
    simp only [pickOps_cons, pickOps_nil, consO_some, List.getElem?_cons_zero, List.getElem?_cons_succ]
    go_wp2_with (go_at_call 49; refine HC.out.mono ?_; rintro e w9 ⟨A9, n9, c9, B9, m9, k9, V9, C9, rfl, hi9, hd9, hs9, hmm, hk9, hfa, hfb⟩)
    have hr := HX2.out.kept (HKZ.out.trans hk9)
    have f0 := hr.c0; have f1 := hr.c1; have ef0 := hr.f 0; have ef1 := hr.f 1
    have HF := Lib.hid (sets_box (W := w) (b := w.heap.size + 2) hi9 hd9 hfa hfb (by have := HKZ.out.2.2; omega) (by omega) (HK.out.trans (HKZ.out.trans hk9)) hs9 (show m9 ≤ C.length + C'.length by rw [List.length_append] at hmm; exact hmm))
    have HE9 := Lib.hid (show KeptE (w.heap.size + 2) U w9 from .of (HKZ.out.trans hk9))
    clear hi9 hd9 hs9 hmm hk9 hfa hfb hr
    refine soloE (by rw [HU.out]; exact HE9.out) ?_
    rw [wpPlan_one]
    simp only [pickOps_cons, pickOps_nil, consO_some, List.getElem?_cons_zero, List.getElem?_cons_succ]
    go_wp2_with fail
    refine soloE (by rw [HU.out]; exact (HE9.out.set (.inl rfl) _).set (.inl rfl) _) ?_
    refine wpPlan_stop ?_
    go_wp2_with fail
    exact bodyPost_ret (by simp [results, Try.results32, go_sem, *]) rfl HF.out
  · go_wp2_with fail
    have HRW := Lib.hid (heap_alloc_new wd (.cells #[.slice B m k, .slice B' m' k'] 24))
    replace HWX := Lib.hid (HWX.out.alloc #[.slice B m k, .slice B' m' k'] 24)
    refine soloE (.of HWX.out) ?_
    rw [wpPlan_one]
    simp only [pickOps_cons, pickOps_nil, consO_some, List.getElem?_cons_zero, List.getElem?_cons_succ]
    go_wp2_with (go_at_call 55; refine (higher_any A n c V A' n' c' V' _ (HI.out.kept HWX.out) HV1.out (HI'.out.kept HWX.out) HV2.out).mono ?_; rintro e w5 ⟨A5, n5, c5, rfl, hi5, hk5⟩)
    replace HRW := Lib.hid (blk_kept HRW.out hk5)
    replace HWX := Lib.hid (HWX.out.trans hk5)
    have HHI := Lib.hid hi5
    clear hi5 hk5
    refine soloE (.of HWX.out) ?_
    rw [wpPlan_one]
    simp only [pickOps_cons, pickOps_nil, consO_some, List.getElem?_cons_zero, List.getElem?_cons_succ]
    go_wp2_with (go_at_call 56; refine (gconcat2 _ _ B m k C B' m' k' C' HRW.out (HD.out.kept HWX.out) (HD'.out.kept HWX.out) (by omega)).mono ?_; rintro e w6 ⟨B6, k6, rfl, hd6, hk6⟩)
    replace HWX := Lib.hid (HWX.out.trans hk6)
    have HCC := Lib.hid hd6
    replace HHI := Lib.hid (HHI.out.kept hk6)
    clear hd6 hk6
    have HKZ := Lib.hid (show Kept U _ from by rw [← HU.out]; exact HWX.out)
    have HC := Lib.hid (gcompact_any A5 n5 c5 (maxV V V') B6 (m + m') k6 (C ++ C') _ HHI.out HVM.out HCC.out (by omega))
    clear HWX HHI HCC
    refine soloE (by rw [HU.out]; exact .of HKZ.out) ?_
    rw [wpPlan_read]
    simp only [pickOps_cons, pickOps_nil, consO_some, List.getElem?_cons_zero, List.getElem?_cons_succ]
    repeat (go_big_quiet_step (fail))
    refine wpQuiet_nil ?_
    rw [wpPlan_one]
    simp only [pickOps_cons, pickOps_nil, consO_some, List.getElem?_cons_zero, List.getElem?_cons_succ]
    go_wp2_with (go_at_call 49; refine HC.out.mono ?_; rintro e w9 ⟨A9, n9, c9, B9, m9, k9, V9, C9, rfl, hi9, hd9, hs9, hmm, hk9, hfa, hfb⟩)
    have hr := HX2.out.kept (HKZ.out.trans hk9)
    have f0 := hr.c0; have f1 := hr.c1; have ef0 := hr.f 0; have ef1 := hr.f 1
    have HF := Lib.hid (sets_box (W := w) (b := w.heap.size + 2) hi9 hd9 hfa hfb (by have := HKZ.out.2.2; omega) (by omega) (HK.out.trans (HKZ.out.trans hk9)) hs9 (show m9 ≤ C.length + C'.length by rw [List.length_append] at hmm; exact hmm))
    have HE9 := Lib.hid (show KeptE (w.heap.size + 2) U w9 from .of (HKZ.out.trans hk9))
    clear hi9 hd9 hs9 hmm hk9 hfa hfb hr
    refine soloE (by rw [HU.out]; exact HE9.out) ?_
    rw [wpPlan_one]
    simp only [pickOps_cons, pickOps_nil, consO_some, List.getElem?_cons_zero, List.getElem?_cons_succ]
    go_wp2_with fail
    refine soloE (by rw [HU.out]; exact (HE9.out.set (.inl rfl) _).set (.inl rfl) _) ?_
    refine wpPlan_stop ?_
    go_wp2_with fail
    exact bodyPost_ret (by simp [results, Try.results32, go_sem, *]) rfl HF.out
end Go.Proofs.Ytcldbmhjfmbcfaa

namespace Go.Proofs.Ytcldbmhjfmbcfaa
open Go.RowKit
set_option linter.unusedVariables false

theorem en_eq {x y : En} (h : x = y) : (x.d.1 == y.d.1) = true ∧ (x.d.2 == y.d.2) = true ∧ (x.p.toList == y.p.toList) = true ∧ (x.k == y.k) = true ∧ (x.vk == y.vk) = true ∧ (x.vn == y.vn) = true ∧ (x.vt.toList == y.vt.toList) = true ∧ (x.e.1 == y.e.1) = true ∧ (x.e.2 == y.e.2) = true := by subst h; simp
theorem tl_eq {a b : ByteArray} (h : (a.toList == b.toList) = true) : a = b := by
  rw [beq_iff_eq, Lib.toList_data, Lib.toList_data] at h
  exact ba_ext h
theorem en_of {x y : En} (h : (x.d.1 == y.d.1) = true ∧ (x.d.2 == y.d.2) = true ∧ (x.p.toList == y.p.toList) = true ∧ (x.k == y.k) = true ∧ (x.vk == y.vk) = true ∧ (x.vn == y.vn) = true ∧ (x.vt.toList == y.vt.toList) = true ∧ (x.e.1 == y.e.1) = true ∧ (x.e.2 == y.e.2) = true) : x = y := by
  obtain ⟨h0, h1, h2, h3, h4, h5, h6, h7, h8⟩ := h
  obtain ⟨⟨x0, x1⟩, x2, x3, x4, x5, x6, ⟨x7, x8⟩⟩ := x
  obtain ⟨⟨y0, y1⟩, y2, y3, y4, y5, y6, ⟨y7, y8⟩⟩ := y
  have e2 := tl_eq h2
  have e6 := tl_eq h6
  simp only [beq_iff_eq] at h0 h1 h3 h4 h5 h7 h8 e2 e6
  subst h0 h1 h3 h4 h5 h7 h8 e2 e6
  rfl
theorem en_ne {x y : En} (h : ¬ x = y) : ((x.d.1 == y.d.1) = false) ∨ ((x.d.1 == y.d.1) = true ∧ (x.d.2 == y.d.2) = false) ∨ ((x.d.1 == y.d.1) = true ∧ (x.d.2 == y.d.2) = true ∧ (x.p.toList == y.p.toList) = false) ∨ ((x.d.1 == y.d.1) = true ∧ (x.d.2 == y.d.2) = true ∧ (x.p.toList == y.p.toList) = true ∧ (x.k == y.k) = false) ∨ ((x.d.1 == y.d.1) = true ∧ (x.d.2 == y.d.2) = true ∧ (x.p.toList == y.p.toList) = true ∧ (x.k == y.k) = true ∧ (x.vk == y.vk) = false) ∨ ((x.d.1 == y.d.1) = true ∧ (x.d.2 == y.d.2) = true ∧ (x.p.toList == y.p.toList) = true ∧ (x.k == y.k) = true ∧ (x.vk == y.vk) = true ∧ (x.vn == y.vn) = false) ∨ ((x.d.1 == y.d.1) = true ∧ (x.d.2 == y.d.2) = true ∧ (x.p.toList == y.p.toList) = true ∧ (x.k == y.k) = true ∧ (x.vk == y.vk) = true ∧ (x.vn == y.vn) = true ∧ (x.vt.toList == y.vt.toList) = false) ∨ ((x.d.1 == y.d.1) = true ∧ (x.d.2 == y.d.2) = true ∧ (x.p.toList == y.p.toList) = true ∧ (x.k == y.k) = true ∧ (x.vk == y.vk) = true ∧ (x.vn == y.vn) = true ∧ (x.vt.toList == y.vt.toList) = true ∧ (x.e.1 == y.e.1) = false) ∨ ((x.d.1 == y.d.1) = true ∧ (x.d.2 == y.d.2) = true ∧ (x.p.toList == y.p.toList) = true ∧ (x.k == y.k) = true ∧ (x.vk == y.vk) = true ∧ (x.vn == y.vn) = true ∧ (x.vt.toList == y.vt.toList) = true ∧ (x.e.1 == y.e.1) = true ∧ (x.e.2 == y.e.2) = false) := by
  by_cases h0 : (x.d.1 == y.d.1) = true
  case neg => exact (.inl (by rw [← Bool.not_eq_true]; exact h0))
  by_cases h1 : (x.d.2 == y.d.2) = true
  case neg => exact .inr ((.inl ⟨h0, by rw [← Bool.not_eq_true]; exact h1⟩))
  by_cases h2 : (x.p.toList == y.p.toList) = true
  case neg => exact .inr (.inr ((.inl ⟨h0, h1, by rw [← Bool.not_eq_true]; exact h2⟩)))
  by_cases h3 : (x.k == y.k) = true
  case neg => exact .inr (.inr (.inr ((.inl ⟨h0, h1, h2, by rw [← Bool.not_eq_true]; exact h3⟩))))
  by_cases h4 : (x.vk == y.vk) = true
  case neg => exact .inr (.inr (.inr (.inr ((.inl ⟨h0, h1, h2, h3, by rw [← Bool.not_eq_true]; exact h4⟩)))))
  by_cases h5 : (x.vn == y.vn) = true
  case neg => exact .inr (.inr (.inr (.inr (.inr ((.inl ⟨h0, h1, h2, h3, h4, by rw [← Bool.not_eq_true]; exact h5⟩))))))
  by_cases h6 : (x.vt.toList == y.vt.toList) = true
  case neg => exact .inr (.inr (.inr (.inr (.inr (.inr ((.inl ⟨h0, h1, h2, h3, h4, h5, by rw [← Bool.not_eq_true]; exact h6⟩)))))))
  by_cases h7 : (x.e.1 == y.e.1) = true
  case neg => exact .inr (.inr (.inr (.inr (.inr (.inr (.inr ((.inl ⟨h0, h1, h2, h3, h4, h5, h6, by rw [← Bool.not_eq_true]; exact h7⟩))))))))
  exact .inr (.inr (.inr (.inr (.inr (.inr (.inr (.inr (⟨h0, h1, h2, h3, h4, h5, h6, h7, by rw [← Bool.not_eq_true]; exact fun h8 => h (en_of ⟨h0, h1, h2, h3, h4, h5, h6, h7, h8⟩)⟩))))))))

set_option maxRecDepth 100000 in
set_option maxHeartbeats 8000000 in
theorem equalE_any (A : Option Addr) (n c : Nat) (V : List En) (A' : Option Addr) (n' c' : Nat) (V' : List En) (w : World) (h : El w A n c V) (h' : El w A' n' c' V') (r : Bool) (hr : r = true ↔ V = V') :
    Calls Try.prog 50 #[.slice A n c, .slice A' n' c'] w fun e w' => e = .returned (.bool r) ∧ Kept w w' := by
  have hcap := h.cap.1; have hcap2 := h.cap.2; have hcap' := h'.cap.1; have hcap2' := h'.cap.2
  have HN := Lib.hid h.1; have HN' := Lib.hid h'.1
  have HI := Lib.hid h; have HI' := Lib.hid h'
  have HR := Lib.hid hr
  clear h h' hr
  by_cases hn : n = n'
  · subst hn
    go_enter Try.func50, Try.ntmps50
    go_wp2_with fail
    go_loopw [13] (fun i wr => ∃ j : Nat, j ≤ n ∧ i = .int .i64 j ∧ Kept w wr ∧ ∀ i, i < j → V[i]? = V'[i]?) (fun i _ => n - (intOf i).toNat)
    case atStart => exact ⟨0, Nat.zero_le _, rfl, Kept.refl _, fun i hi => absurd hi (by omega)⟩
    case round =>
      obtain ⟨j, hj, rfl, hkr, hall⟩ := hrel
      have HR2 := Lib.hid hkr
      have HA := Lib.hid hall
      clear hkr hall
      by_cases hlt : j < n
      · obtain ⟨g, o, y, rfl, hy, EY⟩ := (HI.out.kept HR2.out).get hlt
        obtain ⟨g', o', x, rfl, hx, EX⟩ := (HI'.out.kept HR2.out).get hlt
        have y0 := KExt.cell EY.c0; have y1 := KExt.cell EY.c1; have y2 := KExt.cell EY.c2; have y3 := KExt.cell EY.c3; have y4 := KExt.cell EY.c4; have y5 := KExt.cell EY.c5; have y6 := KExt.cell EY.c6; have y7 := KExt.cell EY.c7; have y8 := KExt.cell EY.c8
        have x0 := KExt.cell EX.c0; have x1 := KExt.cell EX.c1; have x2 := KExt.cell EX.c2; have x3 := KExt.cell EX.c3; have x4 := KExt.cell EX.c4; have x5 := KExt.cell EX.c5; have x6 := KExt.cell EX.c6; have x7 := KExt.cell EX.c7; have x8 := KExt.cell EX.c8
        have HY := Lib.hid hy
        have HX := Lib.hid hx
        clear hy hx EY EX
        by_cases hyy : y = x
        · have HN2 := Lib.hid (show ∀ i, i < j + 1 → V[i]? = V'[i]? from fun i hi => by
            rcases Nat.lt_or_ge i j with h | h
            · exact HA.out i h
            · obtain rfl : i = j := by omega
              rw [HY.out, HX.out, hyy])
          obtain ⟨d0, d1, d2, d3, d4, d5, d6, d7, d8⟩ := en_eq hyy
          clear hyy
          go_wp2_with fail
          refine region_kept _ (by kernel_rfl) (by kernel_rfl) (Kept.refl _) ?_
          repeat (go_big_quiet_step (fail))
          refine wpQuiet_nil ?_
          intro G
          clear y0 y1 y2 y3 y4 y5 y6 y7 y8 x0 x1 x2 x3 x4 x5 x6 x7 x8
          go_wp2_with fail
          go_roundw
          case rel => exact ⟨j + 1, hlt, by go_num, HR2.out.trans G.g, HN2.out⟩
          case measure => simp [intOf]; omega
        · have HF := Lib.hid (show false = r by
            rw [eq_comm, ← Bool.not_eq_true, HR.out]
            rintro rfl
            exact hyy (Option.some.inj (HY.out.symm.trans HX.out)))
          rcases en_ne hyy with d0 | ⟨d0, d1⟩ | ⟨d0, d1, d2⟩ | ⟨d0, d1, d2, d3⟩ | ⟨d0, d1, d2, d3, d4⟩ | ⟨d0, d1, d2, d3, d4, d5⟩ | ⟨d0, d1, d2, d3, d4, d5, d6⟩ | ⟨d0, d1, d2, d3, d4, d5, d6, d7⟩ | ⟨d0, d1, d2, d3, d4, d5, d6, d7, d8⟩
          all_goals
            clear hyy
            go_wp2_with fail
            refine region_kept _ (by kernel_rfl) (by kernel_rfl) (Kept.refl _) ?_
            repeat (go_big_quiet_step (fail))
            refine wpQuiet_nil ?_
            intro G
            clear y0 y1 y2 y3 y4 y5 y6 y7 y8 x0 x1 x2 x3 x4 x5 x6 x7 x8
            go_wp2_with fail
            go_ret
            exact ⟨ret_bool HF.out, HR2.out.trans G.g⟩
      · obtain rfl : j = n := by omega
        have HF := Lib.hid (show true = r by
          rw [eq_comm, HR.out]
          refine List.ext_getElem? fun i => ?_
          rcases Nat.lt_or_ge i j with h | h
          · exact HA.out i h
          · rw [List.getElem?_eq_none (by have := HN.out; omega), List.getElem?_eq_none (by have := HN'.out; omega)])
        go_wp2_with fail
        go_ret
        exact ⟨ret_bool HF.out, HR2.out⟩
  · have d1 : ((n : Int) != n') = true := by simp; omega
    have HF := Lib.hid (show false = r by
      rw [eq_comm, ← Bool.not_eq_true, HR.out]
      rintro rfl
      exact hn (HN.out.trans HN'.out.symm))
    clear hn
    go_enter Try.func50, Try.ntmps50
    go_wp2_with fail
    go_ret
    exact ⟨ret_bool HF.out, Kept.refl _⟩

set_option maxRecDepth 100000 in
set_option maxHeartbeats 4000000 in
theorem ssame_any (A : Option Addr) (n c : Nat) (L : List En) (B : Option Addr) (m k : Nat) (V : List Int) (D : Option Addr) (p q : Nat) (C : List (Int × Int)) (A' : Option Addr) (n' c' : Nat) (L' : List En) (B' : Option Addr) (m' k' : Nat) (V' : List Int) (D' : Option Addr) (p' q' : Nat) (C' : List (Int × Int)) (w : World)
    (h : El w A n c L) (hi : Il w B m k V) (hd : Dl w D p q C) (h' : El w A' n' c' L') (hi' : Il w B' m' k' V') (hd' : Dl w D' p' q' C') (r : Bool) (hr : r = true ↔ L = L' ∧ V = V' ∧ C = C') :
    Calls Try.prog 27 #[.agg #[.slice A n c, .slice B m k, .slice D p q], .agg #[.slice A' n' c', .slice B' m' k', .slice D' p' q']] w fun e w' => e = .returned (.bool r) ∧ Kept w w' := by
  have hK := ((Kept.refl w).alloc #[.slice A n c, .slice B m k, .slice D p q] 28).alloc #[.slice A' n' c', .slice B' m' k', .slice D' p' q'] 28
  obtain ⟨u, hu⟩ : ∃ u : Bool, u = true ↔ L = L' := by
    by_cases e : L = L'
    · exact ⟨true, fun _ => e, fun _ => rfl⟩
    · exact ⟨false, (fun h => by cases h), fun h => absurd h e⟩
  obtain ⟨z, hz⟩ : ∃ z, decide (V = V' ∧ C = C') = z := ⟨_, rfl⟩
  have AI := Lib.hid (equalE_any A n c L A' n' c' L' _ (h.kept hK) (h'.kept hK) u hu)
  have HI := Lib.hid (hi.kept hK); have HD := Lib.hid (hd.kept hK)
  have HI' := Lib.hid (hi'.kept hK); have HD' := Lib.hid (hd'.kept hK)
  have HK := Lib.hid hK
  have HZ := Lib.hid hz
  have hrr : r = (u && z) := by rw [← hz, Bool.eq_iff_iff, hr, Bool.and_eq_true, hu, decide_eq_true_iff]
  have b0 := (Box3.new w (.slice A n c) (.slice B m k) (.slice D p q) 28).kept ((Kept.refl _).alloc #[.slice A' n' c', .slice B' m' k', .slice D' p' q'] 28)
  have b1 := Box3.new (w.alloc (.cells #[.slice A n c, .slice B m k, .slice D p q] 28)) (.slice A' n' c') (.slice B' m' k') (.slice D' p' q') 28
  rw [show (w.alloc (.cells #[.slice A n c, .slice B m k, .slice D p q] 28)).heap.size = w.heap.size + 1 by simp] at b1
  have HB0 := Lib.hid b0; have HB1 := Lib.hid b1
  clear h hi hd h' hi' hd' hK hz hu hr b0 b1
  cases u with
  | false =>
    have HR := Lib.hid (show false = r by rw [hrr]; rfl)
    clear hrr
    go_enter Try.func27, Try.ntmps27
    go_wp2_with fail
    go_at_call 50
    refine AI.out.mono ?_
    rintro e w1 ⟨rfl, hk1⟩
    go_wp2_with fail
    go_ret
    exact ⟨ret_bool HR.out, HK.out.trans hk1⟩
  | true =>
    have HR := Lib.hid (show z = r by rw [hrr]; rfl)
    clear hrr
    go_enter Try.func27, Try.ntmps27
    go_wp2_with fail
    go_at_call 50
    refine AI.out.mono ?_
    rintro e w1 ⟨rfl, hk1⟩
    have b0 := HB0.out.kept hk1
    have b1 := HB1.out.kept hk1
    have e0 := b0.c0; have e1 := b0.c1; have e2 := b0.c2; have f0 := b1.c0; have f1 := b1.c1; have f2 := b1.c2
    have AD := Lib.hid (gsame_any B m k V D p q C B' m' k' V' D' p' q' C' _ (HI.out.kept hk1) (HD.out.kept hk1) (HI'.out.kept hk1) (HD'.out.kept hk1) z HZ.out)
    clear b0 b1
    go_wp2_with fail
    go_at_call 51
    refine AD.out.mono ?_
    rintro e w2 ⟨rfl, hk2⟩
    go_wp2_with fail
    go_ret
    exact ⟨ret_bool HR.out, HK.out.trans (hk1.trans hk2)⟩
end Go.Proofs.Ytcldbmhjfmbcfaa

