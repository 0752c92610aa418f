/-
  What is proved: the document's Of, Add, Join and Within of layer 6, called with any dots, or right sets, that lie in memory, return what P6.4 to P6.7 say; the world has new blocks at most.
  Of, Add and Join of package ctx, called with any dots, or right sets, that lie in memory, return what P6.4 to P6.6 say; the world has new blocks at most.
-/
import Derived.Test.YtkooihljddibfaaGreatCComp
import Derived.Test.YtkooihljddibfaaGreatM18
import Derived.Test.YtkooihljddibfaaGreatM20
import Derived.Test.YtkooihljddibfaaGreatGComp
namespace Go.Proofs.YtkooihljddibfaaGreat
open Go.RowKit

theorem il_none (w : World) : Il w none 0 0 [] := Il.nil w
set_option maxRecDepth 100000 in
set_option maxHeartbeats 1000000 in
theorem rof_any (A : Option Addr) (n c : Nat) (L : List (Int × Int)) (w : World) (h : Dl w A n c L) (hn : n ≤ 999990) :
    Calls Tryz.prog 32 #[.slice A n c] w (SetsF (CompS [] L) L.length w) := by
  have hK := (Kept.refl w).alloc #[.slice none 0 0, .slice none 0 0] 26
  have HC := Lib.hid (rcompact_any none 0 0 [] A n c L (w.alloc (.cells #[.slice none 0 0, .slice none 0 0] 26)) (Il.nil _) vecOk_nil (h.kept hK) hn)
  have hres := Box2.new w (.slice none 0 0) (.slice none 0 0) 26
  have HK := Lib.hid hK
  clear h hK
  go_enter Tryz.func32, Tryz.ntmps32
  go_wp2_with fail
  go_at_call 57
  refine HC.out.mono ?_
  rintro e w1 ⟨A1, n1, c1, B1, m1, k1, V1, C1, rfl, hi, hd, hs, hm, hk, hfa, hfb⟩
  have hr := hres.kept hk
  have e0 := hr.c0; have e1 := hr.c1; have ef0 := hr.f 0; have ef1 := hr.f 1
  have HF := Lib.hid (sets_box (b := w.heap.size) hi hd hfa hfb (by simp) (Nat.le_refl _) (HK.out.trans hk) hs hm)
  clear hi hd hs hm hk hfa hfb hr hres
  go_wp2_with fail
  exact bodyPost_ret (by simp [results, Tryz.results32, go_sem, *]) rfl HF.out

section
variable (wd : World) (B : Option Addr) (m k : Nat) (C : List (Int × Int)) (x1 x2 : Int) (hd : Dl wd B m k C) (hm : m ≤ 999990)
include hd hm
theorem appA : ∃ v5 w5 v7 w7, (Builtin.append_ #[24, 24] 24 #[.slice (some ⟨wd.heap.size, 0, none⟩) 0 0, .slice B m k]).run Tryz.prog (wd.alloc (.cells #[] 30)) = .ok v5 w5 ∧ (Builtin.append_ #[24, 24] 24 #[v5, .slice (some ⟨w5.heap.size, 0, none⟩) 1 1]).run Tryz.prog (w5.alloc (.cells #[.int .i64 x1, .int .i64 x2] 30)) = .ok v7 w7 ∧ w7.ownsRow wd.heap.size 30 2 v7 (m + 1) (flatD (C ++ [(x1, x2)])) ∧ Kept wd w5 ∧ Kept wd w7 := by
  have hk0 := (Kept.refl wd).alloc #[] 30
  have ho0 := World.ownsRow_made (base := wd.heap.size) (e := 30) (size := 2) wd #[] 0 (Nat.le_refl _) (by simp [maxLen]) rfl
  obtain ⟨v5, w5, hr5, ho5, hg5⟩ := app_dots _ _ _ 0 [] ho0 B m k C (hd.kept hk0) (by omega) hk0.2.2
  have hk5 : Kept wd w5 := kept_grown hk0 hg5 fun g hg => by simp [Value.ownBlock] at hg; omega
  have hk6 := hk5.alloc #[.int .i64 x1, .int .i64 x2] 30
  have ho6 := ho5.alloc (.cells #[.int .i64 x1, .int .i64 x2] 30)
  obtain ⟨v7, w7, hr7, ho7, hg7⟩ := app_dots _ _ _ _ _ ho6 (some ⟨w5.heap.size, 0, none⟩) 1 1 [(x1, x2)] (dl_one w5 x1 x2 _) (by omega) hk6.2.2
  refine ⟨v5, w5, v7, w7, hr5, hr7, ?_, hk5, kept_grown hk6 hg7 fun g hg => (ho6.lt g hg).1⟩
  rw [Nat.zero_add, List.nil_append, ← flatD_app] at ho7
  exact ho7
theorem appB : ∃ v5 w5 v7 w7, (Builtin.append_ #[24, 24] 24 #[.slice (some ⟨wd.heap.size, 0, none⟩) 0 0, .slice B m k]).run Tryz.prog ((wd.alloc (.cells #[] 30)).alloc (.cells #[.int .i64 x1, .int .i64 x2] 30)) = .ok v5 w5 ∧ (Builtin.append_ #[24, 24] 24 #[v5, .slice (some ⟨wd.heap.size + 1, 0, none⟩) 1 1]).run Tryz.prog (w5) = .ok v7 w7 ∧ w7.ownsRow wd.heap.size 30 2 v7 (m + 1) (flatD (C ++ [(x1, x2)])) ∧ Kept wd w5 ∧ Kept wd w7 := by
  have hk0 := (Kept.refl wd).alloc #[] 30
  have ho0 := World.ownsRow_made (base := wd.heap.size) (e := 30) (size := 2) wd #[] 0 (Nat.le_refl _) (by simp [maxLen]) rfl
  have hk1 := hk0.alloc #[.int .i64 x1, .int .i64 x2] 30
  have ho1 := ho0.alloc (.cells #[.int .i64 x1, .int .i64 x2] 30)
  obtain ⟨v5, w5, hr5, ho5, hg5⟩ := app_dots _ _ _ 0 [] ho1 B m k C (hd.kept hk1) (by omega) hk1.2.2
  have hk5 : Kept wd w5 := kept_grown hk1 hg5 fun g hg => by simp [Value.ownBlock] at hg; omega
  have hone := dl_one (wd.alloc (.cells #[] 30)) x1 x2 30
  rw [show (wd.alloc (.cells #[] 30)).heap.size = wd.heap.size + 1 by simp] at hone
  have hone5 := hone.keptE (G := wd.heap.size) ((KeptE.refl _ _).grown hg5 fun g hg => by simp [Value.ownBlock] at hg; exact .inl hg.symm) (fun ad e => by obtain rfl := Option.some.inj e; simp)
  obtain ⟨v7, w7, hr7, ho7, hg7⟩ := app_dots _ _ _ _ _ ho5 (some ⟨wd.heap.size + 1, 0, none⟩) 1 1 [(x1, x2)] hone5 (by omega) hk5.2.2
  refine ⟨v5, w5, v7, w7, hr5, hr7, ?_, hk5, kept_grown hk5 hg7 fun g hg => (ho5.lt g hg).1⟩
  rw [Nat.zero_add, List.nil_append, ← flatD_app] at ho7
  exact ho7
theorem appC : ∃ v5 w5 v7 w7, (Builtin.append_ #[24, 24] 24 #[.slice (some ⟨wd.heap.size + 1, 0, none⟩) 0 0, .slice B m k]).run Tryz.prog ((wd.alloc (.cells #[.int .i64 x1, .int .i64 x2] 30)).alloc (.cells #[] 30)) = .ok v5 w5 ∧ (Builtin.append_ #[24, 24] 24 #[v5, .slice (some ⟨wd.heap.size, 0, none⟩) 1 1]).run Tryz.prog (w5) = .ok v7 w7 ∧ w7.ownsRow (wd.heap.size + 1) 30 2 v7 (m + 1) (flatD (C ++ [(x1, x2)])) ∧ Kept wd w5 ∧ Kept wd w7 := by
  have hk0 := (Kept.refl wd).alloc #[.int .i64 x1, .int .i64 x2] 30
  have hk1 := hk0.alloc #[] 30
  have ho1 := World.ownsRow_made (base := wd.heap.size + 1) (e := 30) (size := 2) (wd.alloc (.cells #[.int .i64 x1, .int .i64 x2] 30)) #[] 0 (by simp) (by simp [maxLen]) rfl
  rw [show (wd.alloc (.cells #[.int .i64 x1, .int .i64 x2] 30)).heap.size = wd.heap.size + 1 by simp] at ho1
  obtain ⟨v5, w5, hr5, ho5, hg5⟩ := app_dots _ _ _ 0 [] ho1 B m k C (hd.kept hk1) (by omega) (by simp)
  have hk5 : Kept wd w5 := kept_grown hk1 hg5 fun g hg => by simp [Value.ownBlock] at hg; omega
  have hsz : wd.heap.size + 1 ≤ w5.heap.size := by have := hg5.size; simp at this; omega
  have hone5 := ((dl_one wd x1 x2 30).kept ((Kept.refl _).alloc #[] 30)).keptE (G := wd.heap.size + 1) ((KeptE.refl _ _).grown hg5 fun g hg => by simp [Value.ownBlock] at hg; exact .inl hg.symm) (fun ad e => by obtain rfl := Option.some.inj e; simp)
  obtain ⟨v7, w7, hr7, ho7, hg7⟩ := app_dots _ _ _ _ _ ho5 (some ⟨wd.heap.size, 0, none⟩) 1 1 [(x1, x2)] hone5 (by omega) hsz
  refine ⟨v5, w5, v7, w7, hr5, hr7, ?_, hk5, kept_grown hk5 hg7 fun g hg => by have := (ho5.lt g hg).1; omega⟩
  rw [Nat.zero_add, List.nil_append, ← flatD_app] at ho7
  exact ho7
end

theorem appJ (wd : World) (B : Option Addr) (m k : Nat) (C : List (Int × Int)) (B' : Option Addr) (m' k' : Nat) (C' : List (Int × Int)) (hd : Dl wd B m k C) (hd' : Dl wd B' m' k' C') (hm : m + m' ≤ 999990) :
    ∃ v5 w5 v7 w7, (Builtin.append_ #[24, 24] 24 #[.slice (some ⟨wd.heap.size, 0, none⟩) 0 0, .slice B m k]).run Tryz.prog (wd.alloc (.cells #[] 30)) = .ok v5 w5 ∧
      (Builtin.append_ #[24, 24] 24 #[v5, .slice B' m' k']).run Tryz.prog w5 = .ok v7 w7 ∧ w7.ownsRow wd.heap.size 30 2 v7 (m + m') (flatD (C ++ C')) ∧ Kept wd w5 ∧ Kept wd w7 := by
  have hk0 := (Kept.refl wd).alloc #[] 30
  have ho0 := World.ownsRow_made (base := wd.heap.size) (e := 30) (size := 2) wd #[] 0 (Nat.le_refl _) (by simp [maxLen]) rfl
  obtain ⟨v5, w5, hr5, ho5, hg5⟩ := app_dots _ _ _ 0 [] ho0 B m k C (hd.kept hk0) (by omega) hk0.2.2
  have hk5 : Kept wd w5 := kept_grown hk0 hg5 fun g hg => by simp [Value.ownBlock] at hg; omega
  obtain ⟨v7, w7, hr7, ho7, hg7⟩ := app_dots _ _ _ _ _ ho5 B' m' k' C' (hd'.kept hk5) (by omega) hk5.2.2
  refine ⟨v5, w5, v7, w7, hr5, hr7, ?_, hk5, kept_grown hk5 hg7 fun g hg => (ho5.lt g hg).1⟩
  rw [Nat.zero_add, List.nil_append, ← flatD_app] at ho7
  exact ho7
theorem maxV_get {V W : List Int} {t : Nat} (h : t < max V.length W.length) : (maxV V W)[t]? = some (max (atV V t) (atV W t)) := by
  unfold maxV; rw [List.getElem?_map, List.getElem?_range h]; rfl

set_option maxRecDepth 100000 in
set_option maxHeartbeats 4000000 in
theorem rjoin_any (A : Option Addr) (n c : Nat) (V : List Int) (B : Option Addr) (m k : Nat) (C : List (Int × Int)) (A' : Option Addr) (n' c' : Nat) (V' : List Int) (B' : Option Addr) (m' k' : Nat) (C' : List (Int × Int)) (w : World)
    (h : Il w A n c V) (hv : VecOk V) (hd : Dl w B m k C) (h' : Il w A' n' c' V') (hv' : VecOk V') (hd' : Dl w B' m' k' C') (hm : m + m' ≤ 999980) :
    Calls Tryz.prog 64 #[.agg #[.slice A n c, .slice B m k], .agg #[.slice A' n' c', .slice B' m' k']] w (SetsF (CompS (maxV V V') (C ++ C')) (C.length + C'.length) w) := by
  have hK : Kept w (((w.alloc (.cells #[.slice A n c, .slice B m k] 26)).alloc (.cells #[.slice A' n' c', .slice B' m' k'] 26)).alloc (.cells #[.slice none 0 0, .slice none 0 0] 26)) := (((Kept.refl w).alloc #[.slice A n c, .slice B m k] 26).alloc #[.slice A' n' c', .slice B' m' k'] 26).alloc #[.slice none 0 0, .slice none 0 0] 26
  have HN := Lib.hid h.1; have HM := Lib.hid hd.1; have HN' := Lib.hid h'.1; have HM' := Lib.hid hd'.1
  have hb1 := h.cap.1; have hb2 := h.cap.2; have hb3 := hd.cap.1; have hb4 := hd.cap.2
  have hb5 := h'.cap.1; have hb6 := h'.cap.2; have hb7 := hd'.cap.1; have hb8 := hd'.cap.2
  have hn64 : n ≤ 64 := by have := hv.len; have := h.1; omega
  have hn64' : n' ≤ 64 := by have := hv'.len; have := h'.1; omega
  have HK := Lib.hid hK
  have HI := Lib.hid (h.kept hK); have HD := Lib.hid (hd.kept hK); have HI' := Lib.hid (h'.kept hK); have HD' := Lib.hid (hd'.kept hK)
  have HV := Lib.hid (maxV_ok hv hv')
  have hml : (maxV V V').length = max n n' := by rw [maxV_len, h.1, h'.1]
  have HX0 := Lib.hid (Box2.new w (.slice A n c) (.slice B m k) 26 |>.kept (((Kept.refl _).alloc #[.slice A' n' c', .slice B' m' k'] 26).alloc #[.slice none 0 0, .slice none 0 0] 26))
  have b1 := Box2.new (w.alloc (.cells #[.slice A n c, .slice B m k] 26)) (.slice A' n' c') (.slice B' m' k') 26 |>.kept ((Kept.refl _).alloc #[.slice none 0 0, .slice none 0 0] 26)
  have b2 := Box2.new ((w.alloc (.cells #[.slice A n c, .slice B m k] 26)).alloc (.cells #[.slice A' n' c', .slice B' m' k'] 26)) (.slice none 0 0) (.slice none 0 0) 26
  rw [show (w.alloc (.cells #[.slice A n c, .slice B m k] 26)).heap.size = w.heap.size + 1 by simp] at b1
  rw [show ((w.alloc (.cells #[.slice A n c, .slice B m k] 26)).alloc (.cells #[.slice A' n' c', .slice B' m' k'] 26)).heap.size = w.heap.size + 2 by simp] at b2
  have HX1 := Lib.hid b1
  have HX2 := Lib.hid b2
  have hsz : (((w.alloc (.cells #[.slice A n c, .slice B m k] 26)).alloc (.cells #[.slice A' n' c', .slice B' m' k'] 26)).alloc (.cells #[.slice none 0 0, .slice none 0 0] 26)).heap.size = w.heap.size + 3 := by simp
  obtain ⟨U, hU⟩ : ∃ U, (((w.alloc (.cells #[.slice A n c, .slice B m k] 26)).alloc (.cells #[.slice A' n' c', .slice B' m' k'] 26)).alloc (.cells #[.slice none 0 0, .slice none 0 0] 26)) = U := ⟨_, rfl⟩
  rw [hU] at HK HI HD HI' HD' HX0 HX1 HX2 hsz
  have HU := Lib.hid hU
  clear h hv hd h' hv' hd' hK b1 b2 hU
  go_enter Tryz.func64, Tryz.ntmps64
  go_wp2_with fail
  go_loopw [5, 6] (fun v i wr => ∃ t : Nat, t ≤ max n n' ∧ i = .int .i64 t ∧ wr.ownsRow U.heap.size 3 1 v t (intsV ((maxV V V').take t)) ∧ Kept U wr) (fun _ i _ => max n n' - (intOf i).toNat)
  case atStart => exact ⟨0, Nat.zero_le _, rfl, World.ownsRow_nil _ _ _ _, by rw [HU.out]; exact Kept.refl _⟩
  case round =>
    obtain ⟨t, ht, rfl, hown, hkr⟩ := hrel
    have HOW := Lib.hid hown
    have HKR := Lib.hid hkr
    obtain ⟨A3, c3, rfl, hi3⟩ := Il.of_own hown
    have h31 := hi3.cap.1
    have h32 := hi3.cap.2
    have e0 := (HX0.out.kept hkr).c0
    have e1 := (HX1.out.kept hkr).c0
    clear hown hkr hi3
    by_cases hlt : t < max n n'
    · obtain ⟨x, hx⟩ : ∃ x, atV V (t : Int) = x := ⟨_, rfl⟩
      obtain ⟨y, hy⟩ : ∃ y, atV V' (t : Int) = y := ⟨_, rfl⟩
      have AX := Lib.hid (fun w h => at_c A n c V B m k t x hx w h)
      have AY := Lib.hid (fun w h => at_c A' n' c' V' B' m' k' t y hy w h)
      have HT := Lib.hid (show (maxV V V').take (t + 1) = (maxV V V').take t ++ [max x y] by rw [List.take_add_one, maxV_get (by rw [maxV_len] at hml; omega), hx, hy]; rfl)
      have ways : (decide ((t : Int) < n) = true ∧ decide (t < n) = true) ∨ (decide ((t : Int) < n) = false ∧ decide (t < n) = false ∧ decide ((t : Int) < n') = true ∧ decide (t < n') = true) := by
        by_cases h1 : t < n
        · exact .inl ⟨decide_eq_true (by omega), decide_eq_true h1⟩
        · exact .inr ⟨decide_eq_false (by omega), decide_eq_false h1, decide_eq_true (by omega), decide_eq_true (by omega)⟩
      have c0 := KExt.cell HX0.out.c0
      have c1 := KExt.cell HX0.out.c1
      have d0 := KExt.cell HX1.out.c0
      have d1 := KExt.cell HX1.out.c1
      clear hx hy
      rcases ways with ⟨q1, q2⟩ | ⟨q1, q2, q3, q4⟩
      all_goals
        go_wp2_with fail
        refine region_plan U 11 (.read [0, 1, 2, 4, 5] (.one 3 (.one 6 (.one 7 (.one 8 (.one 9 (.read [10] .stop))))))) (by kernel_rfl) (by kernel_rfl) (by kernel_rfl) (by kernel_rfl) (by kernel_rfl) (fun _ d _ _ _ h => by cases d <;> exact h) HKR.out ?_
        intro wd hwd
        rw [wpPlan_read]
        simp only [pickOps_cons, pickOps_nil, consO_some, List.getElem?_cons_zero, List.getElem?_cons_succ]
        repeat (go_big_quiet_step (fail))
        refine wpQuiet_nil ?_
        rw [wpPlan_one]
        simp only [pickOps_cons, pickOps_nil, consO_some, List.getElem?_cons_zero, List.getElem?_cons_succ]
        go_wp2_with (go_at_call 52; refine (AX.out _ (HI.out.kept (HKR.out.trans hwd))).mono ?_; rintro e w5 ⟨rfl, hk5⟩)
        refine soloP (HKR.out.trans (hwd.trans hk5)) ?_
        rw [wpPlan_one]
        simp only [pickOps_cons, pickOps_nil, consO_some, List.getElem?_cons_zero, List.getElem?_cons_succ]
        go_wp2_with (go_at_call 52; refine (AY.out _ (HI'.out.kept (HKR.out.trans (hwd.trans hk5)))).mono ?_; rintro e w6 ⟨rfl, hk6⟩)
        have HK6 := Lib.hid (hwd.trans (hk5.trans hk6))
        clear hwd hk5 hk6
        refine soloP (HKR.out.trans HK6.out) ?_
        rw [wpPlan_one]
        simp only [pickOps_cons, pickOps_nil, consO_some, List.getElem?_cons_zero, List.getElem?_cons_succ]
        go_wp2_with fail
        refine soloP (HKR.out.trans HK6.out) ?_
        rw [wpPlan_one]
        simp only [pickOps_cons, pickOps_nil, consO_some, List.getElem?_cons_zero, List.getElem?_cons_succ]
        go_wp2_with fail
        have hk7 := (HKR.out.trans HK6.out).alloc #[.int .i64 (max x y)] 3
        obtain ⟨v8, w8, hr8, ho8, hg8, _⟩ := app_ints _ _ _ t _ ((own_kept HOW.out HK6.out).alloc (.cells #[.int .i64 (max x y)] 3)) (some ⟨w6.heap.size, 0, none⟩) 1 1 [max x y] (il_one w6 (max x y) _) (by omega) hk7.2.2
        have HR8 := Lib.hid hr8
        have HK8 := Lib.hid (show Kept U w8 from kept_grown hk7 hg8 fun g hg => (HOW.out.lt g hg).1)
        have HO8 := Lib.hid (show w8.ownsRow U.heap.size 3 1 v8 (t + 1) (intsV ((maxV V V').take (t + 1))) by rw [HT.out, intsV_app]; exact ho8)
        clear hr8 ho8 hg8
        refine soloP hk7 ?_
        rw [wpPlan_one]
        simp only [pickOps_cons, pickOps_nil, consO_some, List.getElem?_cons_zero, List.getElem?_cons_succ]
        go_wp2_with (at_builtin; refine Lib.wpList_append_run _ rfl (.tmp 21) (.tmp 29) _ _ rfl _ _ rfl rfl _ _ HR8.out ?_)
        obtain ⟨A9, c9, rfl, hi9⟩ := Il.of_own HO8.out
        clear hi9
        refine soloP HK8.out ?_
        rw [wpPlan_read]
        simp only [pickOps_cons, pickOps_nil, consO_some, List.getElem?_cons_zero, List.getElem?_cons_succ]
        repeat (go_big_quiet_step (fail))
        refine wpQuiet_nil ?_
        refine wpPlan_stop ?_
        clear e0 e1 c0 c1 d0 d1 hk7
        go_wp2_with fail
        go_roundw
        case rel => exact ⟨t + 1, hlt, by go_num, HO8.out, HK8.out⟩
        case measure => simp [intOf]; omega
    · have htm : t = max n n' := by omega
      have q1 : decide ((t : Int) < n) = false := decide_eq_false (by omega)
      have q2 : decide (t < n) = false := decide_eq_false (by omega)
      have q3 : decide ((t : Int) < n') = false := decide_eq_false (by omega)
      have q4 : decide (t < n') = false := decide_eq_false (by omega)
      have HOV := Lib.hid (show wr.ownsRow U.heap.size 3 1 (.slice A3 t c3) t (intsV (maxV V V')) by have := HOW.out; rwa [List.take_of_length_le (by omega)] at this)
      have c0 := KExtE.cell (b := w.heap.size + 2) (by omega) (HX0.out.kept HKR.out).c0
      have c1 := KExtE.cell (b := w.heap.size + 2) (by omega) (HX0.out.kept HKR.out).c1
      have d0 := KExtE.cell (b := w.heap.size + 2) (by omega) (HX1.out.kept HKR.out).c0
      have d1 := KExtE.cell (b := w.heap.size + 2) (by omega) (HX1.out.kept HKR.out).c1
      clear htm
      go_wp2_with fail
      refine region_planE (w.heap.size + 2) wr 11 (.read [0, 2, 3, 5, 6] (.one 1 (.one 4 (.one 7 (.read [8] (.one 9 (.one 10 .stop))))))) (by kernel_rfl) (by kernel_rfl) (by kernel_rfl) (by kernel_rfl) (by kernel_rfl) (fun _ d _ _ _ h => by cases d <;> exact h) (Kept.refl _) ?_
      intro wd hwd
      rw [wpPlan_read]
      simp only [pickOps_cons, pickOps_nil, consO_some, List.getElem?_cons_zero, List.getElem?_cons_succ]
      repeat (go_big_quiet_step (fail))
      refine wpQuiet_nil ?_
      obtain ⟨v5, w5, v7, w7, hr5, hr7, hown, hk5, hkz⟩ := appJ wd B m k C B' m' k' C' (HD.out.kept (HKR.out.trans hwd)) (HD'.out.kept (HKR.out.trans hwd)) (by omega)
      have HR5 := Lib.hid hr5
      have HR7 := Lib.hid hr7
      have HK5 := Lib.hid (hwd.trans hk5)
      have HKZ := Lib.hid (hwd.trans hkz)
      obtain ⟨B8, k8, rfl, hd8⟩ := Dl.of_own hown
      obtain ⟨A8, c8, e8, hi8⟩ := Il.of_own (own_kept HOV.out HKZ.out)
      simp only [Value.slice.injEq] at e8
      obtain ⟨rfl, _, rfl⟩ := e8
      have HC := Lib.hid (rcompact_any A3 t c3 (maxV V V') B8 (m + m') k8 (C ++ C') _ hi8 HV.out hd8 (by omega))
      clear hr5 hr7 hown hk5 hkz hi8 hd8
      rw [wpPlan_one]
      simp only [pickOps_cons, pickOps_nil, consO_some, List.getElem?_cons_zero, List.getElem?_cons_succ]
      go_wp2_with fail
      refine soloE (.of (hwd.alloc _ _)) ?_
      rw [wpPlan_one]
      simp only [pickOps_cons, pickOps_nil, consO_some, List.getElem?_cons_zero, List.getElem?_cons_succ]
      go_wp2_with (at_builtin; refine Lib.wpList_append_run _ rfl (.tmp 32) (.tmp 34) _ _ rfl _ _ rfl rfl _ _ HR5.out ?_)
      refine soloE (.of HK5.out) ?_
      rw [wpPlan_one]
      simp only [pickOps_cons, pickOps_nil, consO_some, List.getElem?_cons_zero, List.getElem?_cons_succ]
      go_wp2_with (at_builtin; refine Lib.wpList_append_run _ rfl (.tmp 35) (.tmp 37) _ _ rfl _ _ rfl rfl _ _ HR7.out ?_)
      refine soloE (.of HKZ.out) ?_
      rw [wpPlan_read]
      simp only [pickOps_cons, pickOps_nil, consO_some, List.getElem?_cons_zero, List.getElem?_cons_succ]
      repeat (go_big_quiet_step (fail))
      refine wpQuiet_nil ?_
      rw [wpPlan_one]
      simp only [pickOps_cons, pickOps_nil, consO_some, List.getElem?_cons_zero, List.getElem?_cons_succ]
      go_wp2_with (go_at_call 57; refine HC.out.mono ?_; rintro e w9 ⟨A9, n9, c9, B9, m9, k9, V9, C9, rfl, hi9, hd9, hs9, hm9, hk9, hfa, hfb⟩)
      have hr := HX2.out.kept (HKR.out.trans (HKZ.out.trans hk9))
      have f0 := hr.c0; have f1 := hr.c1; have ef0 := hr.f 0; have ef1 := hr.f 1
      have HF := Lib.hid (sets_box (W := w) (b := w.heap.size + 2) hi9 hd9 hfa hfb (by have := (HKR.out.trans HKZ.out).2.2; omega) (by omega) (HK.out.trans (HKR.out.trans (HKZ.out.trans hk9))) hs9 (show m9 ≤ C.length + C'.length by rw [List.length_append] at hm9; exact hm9))
      have HE9 := Lib.hid (show KeptE (w.heap.size + 2) wr w9 from .of (HKZ.out.trans hk9))
      clear hi9 hd9 hs9 hm9 hk9 hfa hfb hr
      refine soloE HE9.out ?_
      rw [wpPlan_one]
      simp only [pickOps_cons, pickOps_nil, consO_some, List.getElem?_cons_zero, List.getElem?_cons_succ]
      go_wp2_with fail
      refine soloE ((HE9.out.set (.inl rfl) _).set (.inl rfl) _) ?_
      refine wpPlan_stop ?_
      go_wp2_with fail
      exact bodyPost_ret (by simp [results, Tryz.results64, go_sem, *]) rfl HF.out

theorem SetC.join {V V' Vj : List Int} {C C' Cj : List (Int × Int)} (h : RightC V C) (h' : RightC V' C') (hj : SetC (CompS (maxV V V') (C ++ C')) Vj Cj) : SetC (fun d => hasC V C d ∨ hasC V' C' d) Vj Cj :=
  ⟨hj.right, fun d => (hj.has d).trans (join_has h h' d)⟩
theorem within_same {V V' Vj : List Int} {C C' Cj : List (Int × Int)} (h : RightC V C) (h' : RightC V' C') (hj : SetC (CompS (maxV V V') (C ++ C')) Vj Cj) : (Vj = V' ∧ Cj = C') ↔ ∀ d, hasC V C d → hasC V' C' d := by
  have hs := SetC.join h h' hj
  constructor
  · rintro ⟨rfl, rfl⟩ d hd
    exact (hs.has d).2 (.inl hd)
  · intro hh
    exact hs.same (SetC.self h') fun d => ⟨fun hd => hd.elim (hh d) id, .inr⟩
end Go.Proofs.YtkooihljddibfaaGreat

namespace Go.Proofs.YtkooihljddibfaaGreat
open Go.RowKit

set_option maxRecDepth 100000 in
set_option maxHeartbeats 1000000 in
theorem gof_any (A : Option Addr) (n c : Nat) (L : List (Int × Int)) (w : World) (h : Dl w A n c L) (hn : n ≤ 999990) :
    Calls Tryz.prog 46 #[.slice A n c] w (SetsF (CompS [] L) L.length w) := by
  have hK := (Kept.refl w).alloc #[.slice none 0 0, .slice none 0 0] 26
  have HC := Lib.hid (gcompact_any none 0 0 [] A n c L (w.alloc (.cells #[.slice none 0 0, .slice none 0 0] 26)) (Il.nil _) vecOk_nil (h.kept hK) hn)
  have hres := Box2.new w (.slice none 0 0) (.slice none 0 0) 26
  have HK := Lib.hid hK
  clear h hK
  go_enter Tryz.func46, Tryz.ntmps46
  go_wp2_with fail
  go_at_call 71
  refine HC.out.mono ?_
  rintro e w1 ⟨A1, n1, c1, B1, m1, k1, V1, C1, rfl, hi, hd, hs, hm, hk, hfa, hfb⟩
  have hr := hres.kept hk
  have e0 := hr.c0; have e1 := hr.c1; have ef0 := hr.f 0; have ef1 := hr.f 1
  have HF := Lib.hid (sets_box (b := w.heap.size) hi hd hfa hfb (by simp) (Nat.le_refl _) (HK.out.trans hk) hs hm)
  clear hi hd hs hm hk hfa hfb hr hres
  go_wp2_with fail
  exact bodyPost_ret (by simp [results, Tryz.results46, go_sem, *]) rfl HF.out

theorem WithD.comp {V : List Int} {C X : List (Int × Int)} {x : Int × Int} (h : WithD C x X) (d : Int × Int) : CompS V X d ↔ CompS V (C ++ [x]) d := by
  unfold CompS
  rw [h.mem, List.mem_append, List.mem_singleton]
set_option maxRecDepth 100000 in
set_option maxHeartbeats 4000000 in
theorem gadd_any (A : Option Addr) (n c : Nat) (V : List Int) (B : Option Addr) (m k : Nat) (C : List (Int × Int)) (x1 x2 : Int) (w : World) (h : Il w A n c V) (hv : VecOk V) (hd : Dl w B m k C) (hr : Rise C) (hm : m ≤ 999980) :
    Calls Tryz.prog 55 #[.agg #[.slice A n c, .slice B m k], .agg #[.int .i64 x1, .int .i64 x2]] w (SetsF (CompS V (C ++ [(x1, x2)])) (C.length + 1) w) := by
  have hK : Kept w (((w.alloc (.cells #[.slice A n c, .slice B m k] 26)).alloc (.cells #[.int .i64 x1, .int .i64 x2] 30)).alloc (.cells #[.slice none 0 0, .slice none 0 0] 26)) := (((Kept.refl w).alloc #[.slice A n c, .slice B m k] 26).alloc #[.int .i64 x1, .int .i64 x2] 30).alloc #[.slice none 0 0, .slice none 0 0] 26
  have HM := Lib.hid hd.1
  have HK := Lib.hid hK
  have HI := Lib.hid (h.kept hK)
  have HD := Lib.hid (hd.kept hK)
  have HV := Lib.hid hv
  have HRI := Lib.hid hr
  have b0 := Box2.new w (.slice A n c) (.slice B m k) 26 |>.kept (((Kept.refl _).alloc #[.int .i64 x1, .int .i64 x2] 30).alloc #[.slice none 0 0, .slice none 0 0] 26)
  have b1 := Box2.new (w.alloc (.cells #[.slice A n c, .slice B m k] 26)) (.int .i64 x1) (.int .i64 x2) 30 |>.kept ((Kept.refl _).alloc #[.slice none 0 0, .slice none 0 0] 26)
  have b2 := Box2.new ((w.alloc (.cells #[.slice A n c, .slice B m k] 26)).alloc (.cells #[.int .i64 x1, .int .i64 x2] 30)) (.slice none 0 0) (.slice none 0 0) 26
  rw [show (w.alloc (.cells #[.slice A n c, .slice B m k] 26)).heap.size = w.heap.size + 1 by simp] at b1
  rw [show ((w.alloc (.cells #[.slice A n c, .slice B m k] 26)).alloc (.cells #[.int .i64 x1, .int .i64 x2] 30)).heap.size = w.heap.size + 2 by simp] at b2
  have c0 := KExtE.cell (b := w.heap.size + 2) (by omega) b0.c0
  have c1 := KExtE.cell (b := w.heap.size + 2) (by omega) b0.c1
  have d0 := KExtE.cell (b := w.heap.size + 2) (by omega) b1.c0
  have d1 := KExtE.cell (b := w.heap.size + 2) (by omega) b1.c1
  have HRES := Lib.hid b2
  clear h hv hd hK b0 b1 b2 hr
  go_enter Tryz.func55, Tryz.ntmps55
  go_wp2_with fail
  refine region_planE (w.heap.size + 2) (((w.alloc (.cells #[.slice A n c, .slice B m k] 26)).alloc (.cells #[.int .i64 x1, .int .i64 x2] 30)).alloc (.cells #[.slice none 0 0, .slice none 0 0] 26)) 9 (.read [0, 1, 2, 3, 4] (.one 5 (.read [6] (.one 7 (.one 8 .stop))))) (by kernel_rfl) (by kernel_rfl) (by kernel_rfl) (by kernel_rfl) (by kernel_rfl) (fun _ d _ _ _ h => by cases d <;> exact h) (Kept.refl _) ?_
  intro wd hwd
  rw [wpPlan_read]
  simp only [pickOps_cons, pickOps_nil, consO_some, List.getElem?_cons_zero, List.getElem?_cons_succ]
  repeat (go_big_quiet_step (fail))
  refine wpQuiet_nil ?_
  rw [wpPlan_one]
  simp only [pickOps_cons, pickOps_nil, consO_some, List.getElem?_cons_zero, List.getElem?_cons_succ]
  go_wp2_with (go_at_call 75; refine (dwith_any B m k C x1 x2 _ (HD.out.kept hwd) HRI.out (by omega)).mono ?_; rintro e w5 ⟨B8, m8, k8, X8, rfl, hd8, hw8, hm8, hk8, _⟩)
  have HKZ := Lib.hid (hwd.trans hk8)
  have HW8 := Lib.hid hw8
  have hm9 : m8 ≤ 999990 := by have := HM.out; omega
  have HM8 := Lib.hid hm8
  have HX8 := Lib.hid hd8.1
  have HC := Lib.hid (gcompact_any A n c V B8 m8 k8 X8 _ (HI.out.kept HKZ.out) HV.out hd8 hm9)
  clear hd8 hw8 hm8 hk8
  refine soloE (.of HKZ.out) ?_
  rw [wpPlan_read]
  simp only [pickOps_cons, pickOps_nil, consO_some, List.getElem?_cons_zero, List.getElem?_cons_succ]
  repeat (go_big_quiet_step (fail))
  refine wpQuiet_nil ?_
  rw [wpPlan_one]
  simp only [pickOps_cons, pickOps_nil, consO_some, List.getElem?_cons_zero, List.getElem?_cons_succ]
  go_wp2_with (go_at_call 71; refine HC.out.mono ?_; rintro e w9 ⟨A9, n9, c9, B9, m9, k9, V9, C9, rfl, hi9, hd9, hs9, hmm, hk9, hfa, hfb⟩)
  have hr := HRES.out.kept (HKZ.out.trans hk9)
  have e0 := hr.c0; have e1 := hr.c1; have ef0 := hr.f 0; have ef1 := hr.f 1
  have HF := Lib.hid (sets_box (W := w) (b := w.heap.size + 2) hi9 hd9 hfa hfb (by have := HKZ.out.2.2; simp at this; omega) (by omega) (HK.out.trans (HKZ.out.trans hk9)) ⟨hs9.right, fun d => (hs9.has d).trans (HW8.out.comp d)⟩ (show m9 ≤ C.length + 1 by have := HX8.out; have := HM8.out; omega))
  have HE9 := Lib.hid (show KeptE (w.heap.size + 2) (((w.alloc (.cells #[.slice A n c, .slice B m k] 26)).alloc (.cells #[.int .i64 x1, .int .i64 x2] 30)).alloc (.cells #[.slice none 0 0, .slice none 0 0] 26)) w9 from .of (HKZ.out.trans hk9))
  clear hi9 hd9 hs9 hmm hk9 hfa hfb hr
  refine soloE HE9.out ?_
  rw [wpPlan_one]
  simp only [pickOps_cons, pickOps_nil, consO_some, List.getElem?_cons_zero, List.getElem?_cons_succ]
  go_wp2_with fail
  refine soloE ((HE9.out.set (.inl rfl) _).set (.inl rfl) _) ?_
  refine wpPlan_stop ?_
  go_wp2_with fail
  exact bodyPost_ret (by simp [results, Tryz.results55, go_sem, *]) rfl HF.out

theorem gconcat2 (bb : Nat) (w : World) (B : Option Addr) (m k : Nat) (C : List (Int × Int)) (B' : Option Addr) (m' k' : Nat) (C' : List (Int × Int)) (hb : w.heap[bb]? = some (.cells #[.slice B m k, .slice B' m' k'] 24 (0, 0))) (hd : Dl w B m k C) (hd' : Dl w B' m' k' C') (hm : m + m' ≤ 999990) :
    Calls Tryz.prog 81 #[.slice (some ⟨bb, 0, none⟩) 2 2] w fun e w' => ∃ B6 k6, e = .returned (.slice B6 (m + m') k6) ∧ Dl w' B6 (m + m') k6 (C ++ C') ∧ Kept w w' := by
  have e1 : totD [⟨B, m, k, C⟩, ⟨B', m', k', C'⟩] 2 = m + m' := by simp [totD]
  have e2 : catD [⟨B, m, k, C⟩, ⟨B', m', k', C'⟩] 2 = C ++ C' := by simp [catD]
  refine (dconcat_any bb [⟨B, m, k, C⟩, ⟨B', m', k', C'⟩] w (by simp) (by show totD _ 2 ≤ _; omega) ?_ ?_).mono ?_
  · intro j s hs
    match j, hs with
    | 0, hs => simp at hs; subst hs; exact (blk_cells hb).1
    | 1, hs => simp at hs; subst hs; exact (blk_cells hb).2
    | j + 2, hs => simp at hs
  · intro s hs
    simp only [List.mem_cons, List.not_mem_nil, or_false] at hs
    rcases hs with rfl | rfl
    · exact hd
    · exact hd'
  · rintro e w' ⟨v, rfl, ho, hw⟩
    have ho2 : w'.ownsRow w.heap.size 30 2 v (totD [⟨B, m, k, C⟩, ⟨B', m', k', C'⟩] 2) (flatD (catD [⟨B, m, k, C⟩, ⟨B', m', k', C'⟩] 2)) := ho
    rw [e1, e2] at ho2
    obtain ⟨B6, k6, rfl, h6⟩ := Dl.of_own ho2
    exact ⟨B6, k6, rfl, h6, hw⟩

set_option maxRecDepth 100000 in
set_option maxHeartbeats 8000000 in
theorem gjoin_any (A : Option Addr) (n c : Nat) (V : List Int) (B : Option Addr) (m k : Nat) (C : List (Int × Int)) (A' : Option Addr) (n' c' : Nat) (V' : List Int) (B' : Option Addr) (m' k' : Nat) (C' : List (Int × Int)) (w : World)
    (h : Il w A n c V) (hv : VecOk V) (hd : Dl w B m k C) (h' : Il w A' n' c' V') (hv' : VecOk V') (hd' : Dl w B' m' k' C') (hm : m + m' ≤ 999980) :
    Calls Tryz.prog 62 #[.agg #[.slice A n c, .slice B m k], .agg #[.slice A' n' c', .slice B' m' k']] w (SetsF (CompS (maxV V V') (C ++ C')) (C.length + C'.length) w) := by
  have hK : Kept w (((w.alloc (.cells #[.slice A n c, .slice B m k] 26)).alloc (.cells #[.slice A' n' c', .slice B' m' k'] 26)).alloc (.cells #[.slice none 0 0, .slice none 0 0] 26)) := (((Kept.refl w).alloc #[.slice A n c, .slice B m k] 26).alloc #[.slice A' n' c', .slice B' m' k'] 26).alloc #[.slice none 0 0, .slice none 0 0] 26
  have HK := Lib.hid hK
  have HI := Lib.hid (h.kept hK); have HD := Lib.hid (hd.kept hK); have HI' := Lib.hid (h'.kept hK); have HD' := Lib.hid (hd'.kept hK)
  have HVM := Lib.hid (maxV_ok hv hv')
  have HV1 := Lib.hid hv; have HV2 := Lib.hid hv'
  have b0 := Box2.new w (.slice A n c) (.slice B m k) 26 |>.kept (((Kept.refl _).alloc #[.slice A' n' c', .slice B' m' k'] 26).alloc #[.slice none 0 0, .slice none 0 0] 26)
  have b1 := Box2.new (w.alloc (.cells #[.slice A n c, .slice B m k] 26)) (.slice A' n' c') (.slice B' m' k') 26 |>.kept ((Kept.refl _).alloc #[.slice none 0 0, .slice none 0 0] 26)
  have b2 := Box2.new ((w.alloc (.cells #[.slice A n c, .slice B m k] 26)).alloc (.cells #[.slice A' n' c', .slice B' m' k'] 26)) (.slice none 0 0) (.slice none 0 0) 26
  rw [show (w.alloc (.cells #[.slice A n c, .slice B m k] 26)).heap.size = w.heap.size + 1 by simp] at b1
  rw [show ((w.alloc (.cells #[.slice A n c, .slice B m k] 26)).alloc (.cells #[.slice A' n' c', .slice B' m' k'] 26)).heap.size = w.heap.size + 2 by simp] at b2
  have c0 := KExtE.cell (b := w.heap.size + 2) (by omega) b0.c0
  have c1 := KExtE.cell (b := w.heap.size + 2) (by omega) b0.c1
  have d0 := KExtE.cell (b := w.heap.size + 2) (by omega) b1.c0
  have d1 := KExtE.cell (b := w.heap.size + 2) (by omega) b1.c1
  have hsz : (((w.alloc (.cells #[.slice A n c, .slice B m k] 26)).alloc (.cells #[.slice A' n' c', .slice B' m' k'] 26)).alloc (.cells #[.slice none 0 0, .slice none 0 0] 26)).heap.size = w.heap.size + 3 := by simp
  obtain ⟨U, hU⟩ : ∃ U, (((w.alloc (.cells #[.slice A n c, .slice B m k] 26)).alloc (.cells #[.slice A' n' c', .slice B' m' k'] 26)).alloc (.cells #[.slice none 0 0, .slice none 0 0] 26)) = U := ⟨_, rfl⟩
  have HX2 := Lib.hid b2
  rw [hU] at HK hsz HX2
  have HU := Lib.hid hU
  clear h hv hd h' hv' hd' hK b0 b1 b2 hU
  go_enter Tryz.func62, Tryz.ntmps62
  go_wp2_with fail
  refine region_planE (w.heap.size + 2) (((w.alloc (.cells #[.slice A n c, .slice B m k] 26)).alloc (.cells #[.slice A' n' c', .slice B' m' k'] 26)).alloc (.cells #[.slice none 0 0, .slice none 0 0] 26)) 14 (.read [0, 1, 2, 3, 5, 6, 7, 8] (.two 4 (.one 9 (.one 10 (.read [11] (.one 12 (.one 13 .stop))))) 9 (.one 4 (.one 10 (.read [11] (.one 12 (.one 13 .stop))))))) (by kernel_rfl) (by kernel_rfl) (by kernel_rfl) (by kernel_rfl) (by kernel_rfl) (fun _ d _ _ _ h => by cases d <;> exact h) (Kept.refl _) ?_
  intro wd hwd
  have HWX := Lib.hid hwd
  clear hwd
  rw [wpPlan_read]
  simp only [pickOps_cons, pickOps_nil, consO_some, List.getElem?_cons_zero, List.getElem?_cons_succ]
  repeat (go_big_quiet_step (fail))
  refine wpQuiet_nil ?_
  rw [wpPlan_two]
  simp only [pickOps_cons, pickOps_nil, consO_some, List.getElem?_cons_zero, List.getElem?_cons_succ]
  clear c0 c1 d0 d1
  constructor
  · go_wp2_with (go_at_call 80; refine (higher_any A n c V A' n' c' V' _ (HI.out.kept HWX.out) HV1.out (HI'.out.kept HWX.out) HV2.out).mono ?_; rintro e w5 ⟨A5, n5, c5, rfl, hi5, hk5⟩)
    replace HWX := Lib.hid (HWX.out.trans hk5)
    have HHI := Lib.hid hi5
    clear hi5 hk5
    refine soloE (.of HWX.out) ?_
    rw [wpPlan_one]
    simp only [pickOps_cons, pickOps_nil, consO_some, List.getElem?_cons_zero, List.getElem?_cons_succ]
    go_wp2_with fail
    have HRW := Lib.hid (heap_alloc_new w5 (.cells #[.slice B m k, .slice B' m' k'] 24))
    replace HWX := Lib.hid (HWX.out.alloc #[.slice B m k, .slice B' m' k'] 24)
    replace HHI := Lib.hid (HHI.out.kept ((Kept.refl _).alloc #[.slice B m k, .slice B' m' k'] 24))
    refine soloE (.of HWX.out) ?_
    rw [wpPlan_one]
    simp only [pickOps_cons, pickOps_nil, consO_some, List.getElem?_cons_zero, List.getElem?_cons_succ]
    go_wp2_with (go_at_call 81; refine (gconcat2 _ _ B m k C B' m' k' C' HRW.out (HD.out.kept HWX.out) (HD'.out.kept HWX.out) (by omega)).mono ?_; rintro e w6 ⟨B6, k6, rfl, hd6, hk6⟩)
    replace HWX := Lib.hid (HWX.out.trans hk6)
    have HCC := Lib.hid hd6
    replace HHI := Lib.hid (HHI.out.kept hk6)
    clear hd6 hk6
    have HKZ := Lib.hid (show Kept U _ from by rw [← HU.out]; exact HWX.out)
    have HC := Lib.hid (gcompact_any A5 n5 c5 (maxV V V') B6 (m + m') k6 (C ++ C') _ HHI.out HVM.out HCC.out (by omega))
    clear HWX HHI HCC
    refine soloE (by rw [HU.out]; exact .of HKZ.out) ?_
    rw [wpPlan_read]
    simp only [pickOps_cons, pickOps_nil, consO_some, List.getElem?_cons_zero, List.getElem?_cons_succ]
    repeat (go_big_quiet_step (fail))
    refine wpQuiet_nil ?_
    rw [wpPlan_one]
    simp only [pickOps_cons, pickOps_nil, consO_some, List.getElem?_cons_zero, List.getElem?_cons_succ]
    go_wp2_with (go_at_call 71; refine HC.out.mono ?_; rintro e w9 ⟨A9, n9, c9, B9, m9, k9, V9, C9, rfl, hi9, hd9, hs9, hmm, hk9, hfa, hfb⟩)
    have hr := HX2.out.kept (HKZ.out.trans hk9)
    have f0 := hr.c0; have f1 := hr.c1; have ef0 := hr.f 0; have ef1 := hr.f 1
    have HF := Lib.hid (sets_box (W := w) (b := w.heap.size + 2) hi9 hd9 hfa hfb (by have := HKZ.out.2.2; omega) (by omega) (HK.out.trans (HKZ.out.trans hk9)) hs9 (show m9 ≤ C.length + C'.length by rw [List.length_append] at hmm; exact hmm))
    have HE9 := Lib.hid (show KeptE (w.heap.size + 2) U w9 from .of (HKZ.out.trans hk9))
    clear hi9 hd9 hs9 hmm hk9 hfa hfb hr
    refine soloE (by rw [HU.out]; exact HE9.out) ?_
    rw [wpPlan_one]
    simp only [pickOps_cons, pickOps_nil, consO_some, List.getElem?_cons_zero, List.getElem?_cons_succ]
    go_wp2_with fail
    refine soloE (by rw [HU.out]; exact (HE9.out.set (.inl rfl) _).set (.inl rfl) _) ?_
    refine wpPlan_stop ?_
    go_wp2_with fail
    exact bodyPost_ret (by simp [results, Tryz.results62, go_sem, *]) rfl HF.out
  · go_wp2_with fail
    have HRW := Lib.hid (heap_alloc_new wd (.cells #[.slice B m k, .slice B' m' k'] 24))
    replace HWX := Lib.hid (HWX.out.alloc #[.slice B m k, .slice B' m' k'] 24)
    refine soloE (.of HWX.out) ?_
    rw [wpPlan_one]
    simp only [pickOps_cons, pickOps_nil, consO_some, List.getElem?_cons_zero, List.getElem?_cons_succ]
    go_wp2_with (go_at_call 80; refine (higher_any A n c V A' n' c' V' _ (HI.out.kept HWX.out) HV1.out (HI'.out.kept HWX.out) HV2.out).mono ?_; rintro e w5 ⟨A5, n5, c5, rfl, hi5, hk5⟩)
    replace HRW := Lib.hid (blk_kept HRW.out hk5)
    replace HWX := Lib.hid (HWX.out.trans hk5)
    have HHI := Lib.hid hi5
    clear hi5 hk5
    refine soloE (.of HWX.out) ?_
    rw [wpPlan_one]
    simp only [pickOps_cons, pickOps_nil, consO_some, List.getElem?_cons_zero, List.getElem?_cons_succ]
    go_wp2_with (go_at_call 81; refine (gconcat2 _ _ B m k C B' m' k' C' HRW.out (HD.out.kept HWX.out) (HD'.out.kept HWX.out) (by omega)).mono ?_; rintro e w6 ⟨B6, k6, rfl, hd6, hk6⟩)
    replace HWX := Lib.hid (HWX.out.trans hk6)
    have HCC := Lib.hid hd6
    replace HHI := Lib.hid (HHI.out.kept hk6)
    clear hd6 hk6
    have HKZ := Lib.hid (show Kept U _ from by rw [← HU.out]; exact HWX.out)
    have HC := Lib.hid (gcompact_any A5 n5 c5 (maxV V V') B6 (m + m') k6 (C ++ C') _ HHI.out HVM.out HCC.out (by omega))
    clear HWX HHI HCC
    refine soloE (by rw [HU.out]; exact .of HKZ.out) ?_
    rw [wpPlan_read]
    simp only [pickOps_cons, pickOps_nil, consO_some, List.getElem?_cons_zero, List.getElem?_cons_succ]
    repeat (go_big_quiet_step (fail))
    refine wpQuiet_nil ?_
    rw [wpPlan_one]
    simp only [pickOps_cons, pickOps_nil, consO_some, List.getElem?_cons_zero, List.getElem?_cons_succ]
    go_wp2_with (go_at_call 71; refine HC.out.mono ?_; rintro e w9 ⟨A9, n9, c9, B9, m9, k9, V9, C9, rfl, hi9, hd9, hs9, hmm, hk9, hfa, hfb⟩)
    have hr := HX2.out.kept (HKZ.out.trans hk9)
    have f0 := hr.c0; have f1 := hr.c1; have ef0 := hr.f 0; have ef1 := hr.f 1
    have HF := Lib.hid (sets_box (W := w) (b := w.heap.size + 2) hi9 hd9 hfa hfb (by have := HKZ.out.2.2; omega) (by omega) (HK.out.trans (HKZ.out.trans hk9)) hs9 (show m9 ≤ C.length + C'.length by rw [List.length_append] at hmm; exact hmm))
    have HE9 := Lib.hid (show KeptE (w.heap.size + 2) U w9 from .of (HKZ.out.trans hk9))
    clear hi9 hd9 hs9 hmm hk9 hfa hfb hr
    refine soloE (by rw [HU.out]; exact HE9.out) ?_
    rw [wpPlan_one]
    simp only [pickOps_cons, pickOps_nil, consO_some, List.getElem?_cons_zero, List.getElem?_cons_succ]
    go_wp2_with fail
    refine soloE (by rw [HU.out]; exact (HE9.out.set (.inl rfl) _).set (.inl rfl) _) ?_
    refine wpPlan_stop ?_
    go_wp2_with fail
    exact bodyPost_ret (by simp [results, Tryz.results62, go_sem, *]) rfl HF.out
end Go.Proofs.YtkooihljddibfaaGreat

