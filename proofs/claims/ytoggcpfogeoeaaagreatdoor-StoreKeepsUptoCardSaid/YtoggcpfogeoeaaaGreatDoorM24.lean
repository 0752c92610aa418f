/-
  What is proved: the document's Of, Add, Join and Within of layer 6, called with any dots, or right sets, that lie in memory, return what P6.4 to P6.7 say; the world has new blocks at most.
  Of, Add and Join of package ctx, called with any dots, or right sets, that lie in memory, return what P6.4 to P6.6 say; the world has new blocks at most.
-/
import Derived.Test.YtoggcpfogeoeaaaGreatDoorM16
import Derived.Test.YtoggcpfogeoeaaaGreatDoorM23
import Derived.Test.YtoggcpfogeoeaaaGreatDoorM22
namespace Go.Proofs.YtoggcpfogeoeaaaGreatDoor
open Go.RowKit

theorem il_none (w : World) : Il w none 0 0 [] := Il.nil w
section
variable (wd : World) (B : Option Addr) (m k : Nat) (C : List (Int × Int)) (x1 x2 : Int) (hd : Dl wd B m k C) (hm : m ≤ 999990)
include hd hm
theorem appA : ∃ v5 w5 v7 w7, (Builtin.append_ #[23, 23] 23 #[.slice (some ⟨wd.heap.size, 0, none⟩) 0 0, .slice B m k]).run Tryz.prog (wd.alloc (.cells #[] 31)) = .ok v5 w5 ∧ (Builtin.append_ #[23, 23] 23 #[v5, .slice (some ⟨w5.heap.size, 0, none⟩) 1 1]).run Tryz.prog (w5.alloc (.cells #[.int .i64 x1, .int .i64 x2] 31)) = .ok v7 w7 ∧ w7.ownsRow wd.heap.size 31 2 v7 (m + 1) (flatD (C ++ [(x1, x2)])) ∧ Kept wd w5 ∧ Kept wd w7 := by
  have hk0 := (Kept.refl wd).alloc #[] 31
  have ho0 := World.ownsRow_made (base := wd.heap.size) (e := 31) (size := 2) wd #[] 0 (Nat.le_refl _) (by simp [maxLen]) rfl
  obtain ⟨v5, w5, hr5, ho5, hg5⟩ := app_dots _ _ _ 0 [] ho0 B m k C (hd.kept hk0) (by omega) hk0.2.2
  have hk5 : Kept wd w5 := kept_grown hk0 hg5 fun g hg => by simp [Value.ownBlock] at hg; omega
  have hk6 := hk5.alloc #[.int .i64 x1, .int .i64 x2] 31
  have ho6 := ho5.alloc (.cells #[.int .i64 x1, .int .i64 x2] 31)
  obtain ⟨v7, w7, hr7, ho7, hg7⟩ := app_dots _ _ _ _ _ ho6 (some ⟨w5.heap.size, 0, none⟩) 1 1 [(x1, x2)] (dl_one w5 x1 x2 _) (by omega) hk6.2.2
  refine ⟨v5, w5, v7, w7, hr5, hr7, ?_, hk5, kept_grown hk6 hg7 fun g hg => (ho6.lt g hg).1⟩
  rw [Nat.zero_add, List.nil_append, ← flatD_app] at ho7
  exact ho7
theorem appB : ∃ v5 w5 v7 w7, (Builtin.append_ #[23, 23] 23 #[.slice (some ⟨wd.heap.size, 0, none⟩) 0 0, .slice B m k]).run Tryz.prog ((wd.alloc (.cells #[] 31)).alloc (.cells #[.int .i64 x1, .int .i64 x2] 31)) = .ok v5 w5 ∧ (Builtin.append_ #[23, 23] 23 #[v5, .slice (some ⟨wd.heap.size + 1, 0, none⟩) 1 1]).run Tryz.prog (w5) = .ok v7 w7 ∧ w7.ownsRow wd.heap.size 31 2 v7 (m + 1) (flatD (C ++ [(x1, x2)])) ∧ Kept wd w5 ∧ Kept wd w7 := by
  have hk0 := (Kept.refl wd).alloc #[] 31
  have ho0 := World.ownsRow_made (base := wd.heap.size) (e := 31) (size := 2) wd #[] 0 (Nat.le_refl _) (by simp [maxLen]) rfl
  have hk1 := hk0.alloc #[.int .i64 x1, .int .i64 x2] 31
  have ho1 := ho0.alloc (.cells #[.int .i64 x1, .int .i64 x2] 31)
  obtain ⟨v5, w5, hr5, ho5, hg5⟩ := app_dots _ _ _ 0 [] ho1 B m k C (hd.kept hk1) (by omega) hk1.2.2
  have hk5 : Kept wd w5 := kept_grown hk1 hg5 fun g hg => by simp [Value.ownBlock] at hg; omega
  have hone := dl_one (wd.alloc (.cells #[] 31)) x1 x2 31
  rw [show (wd.alloc (.cells #[] 31)).heap.size = wd.heap.size + 1 by simp] at hone
  have hone5 := hone.keptE (G := wd.heap.size) ((KeptE.refl _ _).grown hg5 fun g hg => by simp [Value.ownBlock] at hg; exact .inl hg.symm) (fun ad e => by obtain rfl := Option.some.inj e; simp)
  obtain ⟨v7, w7, hr7, ho7, hg7⟩ := app_dots _ _ _ _ _ ho5 (some ⟨wd.heap.size + 1, 0, none⟩) 1 1 [(x1, x2)] hone5 (by omega) hk5.2.2
  refine ⟨v5, w5, v7, w7, hr5, hr7, ?_, hk5, kept_grown hk5 hg7 fun g hg => (ho5.lt g hg).1⟩
  rw [Nat.zero_add, List.nil_append, ← flatD_app] at ho7
  exact ho7
theorem appC : ∃ v5 w5 v7 w7, (Builtin.append_ #[23, 23] 23 #[.slice (some ⟨wd.heap.size + 1, 0, none⟩) 0 0, .slice B m k]).run Tryz.prog ((wd.alloc (.cells #[.int .i64 x1, .int .i64 x2] 31)).alloc (.cells #[] 31)) = .ok v5 w5 ∧ (Builtin.append_ #[23, 23] 23 #[v5, .slice (some ⟨wd.heap.size, 0, none⟩) 1 1]).run Tryz.prog (w5) = .ok v7 w7 ∧ w7.ownsRow (wd.heap.size + 1) 31 2 v7 (m + 1) (flatD (C ++ [(x1, x2)])) ∧ Kept wd w5 ∧ Kept wd w7 := by
  have hk0 := (Kept.refl wd).alloc #[.int .i64 x1, .int .i64 x2] 31
  have hk1 := hk0.alloc #[] 31
  have ho1 := World.ownsRow_made (base := wd.heap.size + 1) (e := 31) (size := 2) (wd.alloc (.cells #[.int .i64 x1, .int .i64 x2] 31)) #[] 0 (by simp) (by simp [maxLen]) rfl
  rw [show (wd.alloc (.cells #[.int .i64 x1, .int .i64 x2] 31)).heap.size = wd.heap.size + 1 by simp] at ho1
  obtain ⟨v5, w5, hr5, ho5, hg5⟩ := app_dots _ _ _ 0 [] ho1 B m k C (hd.kept hk1) (by omega) (by simp)
  have hk5 : Kept wd w5 := kept_grown hk1 hg5 fun g hg => by simp [Value.ownBlock] at hg; omega
  have hsz : wd.heap.size + 1 ≤ w5.heap.size := by have := hg5.size; simp at this; omega
  have hone5 := ((dl_one wd x1 x2 31).kept ((Kept.refl _).alloc #[] 31)).keptE (G := wd.heap.size + 1) ((KeptE.refl _ _).grown hg5 fun g hg => by simp [Value.ownBlock] at hg; exact .inl hg.symm) (fun ad e => by obtain rfl := Option.some.inj e; simp)
  obtain ⟨v7, w7, hr7, ho7, hg7⟩ := app_dots _ _ _ _ _ ho5 (some ⟨wd.heap.size, 0, none⟩) 1 1 [(x1, x2)] hone5 (by omega) hsz
  refine ⟨v5, w5, v7, w7, hr5, hr7, ?_, hk5, kept_grown hk5 hg7 fun g hg => by have := (ho5.lt g hg).1; omega⟩
  rw [Nat.zero_add, List.nil_append, ← flatD_app] at ho7
  exact ho7
end

theorem appJ (wd : World) (B : Option Addr) (m k : Nat) (C : List (Int × Int)) (B' : Option Addr) (m' k' : Nat) (C' : List (Int × Int)) (hd : Dl wd B m k C) (hd' : Dl wd B' m' k' C') (hm : m + m' ≤ 999990) :
    ∃ v5 w5 v7 w7, (Builtin.append_ #[23, 23] 23 #[.slice (some ⟨wd.heap.size, 0, none⟩) 0 0, .slice B m k]).run Tryz.prog (wd.alloc (.cells #[] 31)) = .ok v5 w5 ∧
      (Builtin.append_ #[23, 23] 23 #[v5, .slice B' m' k']).run Tryz.prog w5 = .ok v7 w7 ∧ w7.ownsRow wd.heap.size 31 2 v7 (m + m') (flatD (C ++ C')) ∧ Kept wd w5 ∧ Kept wd w7 := by
  have hk0 := (Kept.refl wd).alloc #[] 31
  have ho0 := World.ownsRow_made (base := wd.heap.size) (e := 31) (size := 2) wd #[] 0 (Nat.le_refl _) (by simp [maxLen]) rfl
  obtain ⟨v5, w5, hr5, ho5, hg5⟩ := app_dots _ _ _ 0 [] ho0 B m k C (hd.kept hk0) (by omega) hk0.2.2
  have hk5 : Kept wd w5 := kept_grown hk0 hg5 fun g hg => by simp [Value.ownBlock] at hg; omega
  obtain ⟨v7, w7, hr7, ho7, hg7⟩ := app_dots _ _ _ _ _ ho5 B' m' k' C' (hd'.kept hk5) (by omega) hk5.2.2
  refine ⟨v5, w5, v7, w7, hr5, hr7, ?_, hk5, kept_grown hk5 hg7 fun g hg => (ho5.lt g hg).1⟩
  rw [Nat.zero_add, List.nil_append, ← flatD_app] at ho7
  exact ho7
theorem maxV_get {V W : List Int} {t : Nat} (h : t < max V.length W.length) : (maxV V W)[t]? = some (max (atV V t) (atV W t)) := by
  unfold maxV; rw [List.getElem?_map, List.getElem?_range h]; rfl

theorem SetC.join {V V' Vj : List Int} {C C' Cj : List (Int × Int)} (h : RightC V C) (h' : RightC V' C') (hj : SetC (CompS (maxV V V') (C ++ C')) Vj Cj) : SetC (fun d => hasC V C d ∨ hasC V' C' d) Vj Cj :=
  ⟨hj.right, fun d => (hj.has d).trans (join_has h h' d)⟩
theorem within_same {V V' Vj : List Int} {C C' Cj : List (Int × Int)} (h : RightC V C) (h' : RightC V' C') (hj : SetC (CompS (maxV V V') (C ++ C')) Vj Cj) : (Vj = V' ∧ Cj = C') ↔ ∀ d, hasC V C d → hasC V' C' d := by
  have hs := SetC.join h h' hj
  constructor
  · rintro ⟨rfl, rfl⟩ d hd
    exact (hs.has d).2 (.inl hd)
  · intro hh
    exact hs.same (SetC.self h') fun d => ⟨fun hd => hd.elim (hh d) id, .inr⟩
end Go.Proofs.YtoggcpfogeoeaaaGreatDoor

namespace Go.Proofs.YtoggcpfogeoeaaaGreatDoor
open Go.RowKit

set_option maxRecDepth 100000 in
set_option maxHeartbeats 1000000 in
theorem gof_any (A : Option Addr) (n c : Nat) (L : List (Int × Int)) (w : World) (h : Dl w A n c L) (hn : n ≤ 999990) :
    Calls Tryz.prog 28 #[.slice A n c] w (SetsF (CompS [] L) L.length w) := by
  have hK := (Kept.refl w).alloc #[.slice none 0 0, .slice none 0 0] 27
  have HC := Lib.hid (gcompact_any none 0 0 [] A n c L (w.alloc (.cells #[.slice none 0 0, .slice none 0 0] 27)) (Il.nil _) vecOk_nil (h.kept hK) hn)
  have hres := Box2.new w (.slice none 0 0) (.slice none 0 0) 27
  have HK := Lib.hid hK
  clear h hK
  go_enter Tryz.func28, Tryz.ntmps28
  go_wp2_with fail
  go_at_call 49
  refine HC.out.mono ?_
  rintro e w1 ⟨A1, n1, c1, B1, m1, k1, V1, C1, rfl, hi, hd, hs, hm, hk, hfa, hfb⟩
  have hr := hres.kept hk
  have e0 := hr.c0; have e1 := hr.c1; have ef0 := hr.f 0; have ef1 := hr.f 1
  have HF := Lib.hid (sets_box (b := w.heap.size) hi hd hfa hfb (by simp) (Nat.le_refl _) (HK.out.trans hk) hs hm)
  clear hi hd hs hm hk hfa hfb hr hres
  go_wp2_with fail
  exact bodyPost_ret (by simp [results, Tryz.results28, go_sem, *]) rfl HF.out

theorem WithD.comp {V : List Int} {C X : List (Int × Int)} {x : Int × Int} (h : WithD C x X) (d : Int × Int) : CompS V X d ↔ CompS V (C ++ [x]) d := by
  unfold CompS
  rw [h.mem, List.mem_append, List.mem_singleton]
set_option maxRecDepth 100000 in
set_option maxHeartbeats 4000000 in
theorem gadd_any (A : Option Addr) (n c : Nat) (V : List Int) (B : Option Addr) (m k : Nat) (C : List (Int × Int)) (x1 x2 : Int) (w : World) (h : Il w A n c V) (hv : VecOk V) (hd : Dl w B m k C) (hr : Rise C) (hm : m ≤ 999980) :
    Calls Tryz.prog 24 #[.agg #[.slice A n c, .slice B m k], .agg #[.int .i64 x1, .int .i64 x2]] w (SetsF (CompS V (C ++ [(x1, x2)])) (C.length + 1) w) := by
  have hK : Kept w (((w.alloc (.cells #[.slice A n c, .slice B m k] 27)).alloc (.cells #[.int .i64 x1, .int .i64 x2] 31)).alloc (.cells #[.slice none 0 0, .slice none 0 0] 27)) := (((Kept.refl w).alloc #[.slice A n c, .slice B m k] 27).alloc #[.int .i64 x1, .int .i64 x2] 31).alloc #[.slice none 0 0, .slice none 0 0] 27
  have HM := Lib.hid hd.1
  have HK := Lib.hid hK
  have HI := Lib.hid (h.kept hK)
  have HD := Lib.hid (hd.kept hK)
  have HV := Lib.hid hv
  have HRI := Lib.hid hr
  have b0 := Box2.new w (.slice A n c) (.slice B m k) 27 |>.kept (((Kept.refl _).alloc #[.int .i64 x1, .int .i64 x2] 31).alloc #[.slice none 0 0, .slice none 0 0] 27)
  have b1 := Box2.new (w.alloc (.cells #[.slice A n c, .slice B m k] 27)) (.int .i64 x1) (.int .i64 x2) 31 |>.kept ((Kept.refl _).alloc #[.slice none 0 0, .slice none 0 0] 27)
  have b2 := Box2.new ((w.alloc (.cells #[.slice A n c, .slice B m k] 27)).alloc (.cells #[.int .i64 x1, .int .i64 x2] 31)) (.slice none 0 0) (.slice none 0 0) 27
  rw [show (w.alloc (.cells #[.slice A n c, .slice B m k] 27)).heap.size = w.heap.size + 1 by simp] at b1
  rw [show ((w.alloc (.cells #[.slice A n c, .slice B m k] 27)).alloc (.cells #[.int .i64 x1, .int .i64 x2] 31)).heap.size = w.heap.size + 2 by simp] at b2
  have c0 := KExtE.cell (b := w.heap.size + 2) (by omega) b0.c0
  have c1 := KExtE.cell (b := w.heap.size + 2) (by omega) b0.c1
  have d0 := KExtE.cell (b := w.heap.size + 2) (by omega) b1.c0
  have d1 := KExtE.cell (b := w.heap.size + 2) (by omega) b1.c1
  have HRES := Lib.hid b2
  clear h hv hd hK b0 b1 b2 hr
  go_enter Tryz.func24, Tryz.ntmps24
  go_wp2_with fail
  refine region_planE (w.heap.size + 2) (((w.alloc (.cells #[.slice A n c, .slice B m k] 27)).alloc (.cells #[.int .i64 x1, .int .i64 x2] 31)).alloc (.cells #[.slice none 0 0, .slice none 0 0] 27)) 9 (.read [0, 1, 2, 3, 4] (.one 5 (.read [6] (.one 7 (.one 8 .stop))))) (by kernel_rfl) (by kernel_rfl) (by kernel_rfl) (by kernel_rfl) (by kernel_rfl) (fun _ d _ _ _ h => by cases d <;> exact h) (Kept.refl _) ?_
  intro wd hwd
  rw [wpPlan_read]
  simp only [pickOps_cons, pickOps_nil, consO_some, List.getElem?_cons_zero, List.getElem?_cons_succ]
  repeat (go_big_quiet_step (fail))
  refine wpQuiet_nil ?_
  rw [wpPlan_one]
  simp only [pickOps_cons, pickOps_nil, consO_some, List.getElem?_cons_zero, List.getElem?_cons_succ]
  go_wp2_with (go_at_call 50; refine (dwith_any B m k C x1 x2 _ (HD.out.kept hwd) HRI.out (by omega)).mono ?_; rintro e w5 ⟨B8, m8, k8, X8, rfl, hd8, hw8, hm8, hk8, _⟩)
  have HKZ := Lib.hid (hwd.trans hk8)
  have HW8 := Lib.hid hw8
  have hm9 : m8 ≤ 999990 := by have := HM.out; omega
  have HM8 := Lib.hid hm8
  have HX8 := Lib.hid hd8.1
  have HC := Lib.hid (gcompact_any A n c V B8 m8 k8 X8 _ (HI.out.kept HKZ.out) HV.out hd8 hm9)
  clear hd8 hw8 hm8 hk8
  refine soloE (.of HKZ.out) ?_
  rw [wpPlan_read]
  simp only [pickOps_cons, pickOps_nil, consO_some, List.getElem?_cons_zero, List.getElem?_cons_succ]
  repeat (go_big_quiet_step (fail))
  refine wpQuiet_nil ?_
  rw [wpPlan_one]
  simp only [pickOps_cons, pickOps_nil, consO_some, List.getElem?_cons_zero, List.getElem?_cons_succ]
  go_wp2_with (go_at_call 49; refine HC.out.mono ?_; rintro e w9 ⟨A9, n9, c9, B9, m9, k9, V9, C9, rfl, hi9, hd9, hs9, hmm, hk9, hfa, hfb⟩)
  have hr := HRES.out.kept (HKZ.out.trans hk9)
  have e0 := hr.c0; have e1 := hr.c1; have ef0 := hr.f 0; have ef1 := hr.f 1
  have HF := Lib.hid (sets_box (W := w) (b := w.heap.size + 2) hi9 hd9 hfa hfb (by have := HKZ.out.2.2; simp at this; omega) (by omega) (HK.out.trans (HKZ.out.trans hk9)) ⟨hs9.right, fun d => (hs9.has d).trans (HW8.out.comp d)⟩ (show m9 ≤ C.length + 1 by have := HX8.out; have := HM8.out; omega))
  have HE9 := Lib.hid (show KeptE (w.heap.size + 2) (((w.alloc (.cells #[.slice A n c, .slice B m k] 27)).alloc (.cells #[.int .i64 x1, .int .i64 x2] 31)).alloc (.cells #[.slice none 0 0, .slice none 0 0] 27)) w9 from .of (HKZ.out.trans hk9))
  clear hi9 hd9 hs9 hmm hk9 hfa hfb hr
  refine soloE HE9.out ?_
  rw [wpPlan_one]
  simp only [pickOps_cons, pickOps_nil, consO_some, List.getElem?_cons_zero, List.getElem?_cons_succ]
  go_wp2_with fail
  refine soloE ((HE9.out.set (.inl rfl) _).set (.inl rfl) _) ?_
  refine wpPlan_stop ?_
  go_wp2_with fail
  exact bodyPost_ret (by simp [results, Tryz.results24, go_sem, *]) rfl HF.out

theorem gconcat2 (bb : Nat) (w : World) (B : Option Addr) (m k : Nat) (C : List (Int × Int)) (B' : Option Addr) (m' k' : Nat) (C' : List (Int × Int)) (hb : w.heap[bb]? = some (.cells #[.slice B m k, .slice B' m' k'] 23 (0, 0))) (hd : Dl w B m k C) (hd' : Dl w B' m' k' C') (hm : m + m' ≤ 999990) :
    Calls Tryz.prog 60 #[.slice (some ⟨bb, 0, none⟩) 2 2] w fun e w' => ∃ B6 k6, e = .returned (.slice B6 (m + m') k6) ∧ Dl w' B6 (m + m') k6 (C ++ C') ∧ Kept w w' := by
  have e1 : totD [⟨B, m, k, C⟩, ⟨B', m', k', C'⟩] 2 = m + m' := by simp [totD]
  have e2 : catD [⟨B, m, k, C⟩, ⟨B', m', k', C'⟩] 2 = C ++ C' := by simp [catD]
  refine (dconcat_any bb [⟨B, m, k, C⟩, ⟨B', m', k', C'⟩] w (by simp) (by show totD _ 2 ≤ _; omega) ?_ ?_).mono ?_
  · intro j s hs
    match j, hs with
    | 0, hs => simp at hs; subst hs; exact (blk_cells hb).1
    | 1, hs => simp at hs; subst hs; exact (blk_cells hb).2
    | j + 2, hs => simp at hs
  · intro s hs
    simp only [List.mem_cons, List.not_mem_nil, or_false] at hs
    rcases hs with rfl | rfl
    · exact hd
    · exact hd'
  · rintro e w' ⟨v, rfl, ho, hw⟩
    have ho2 : w'.ownsRow w.heap.size 31 2 v (totD [⟨B, m, k, C⟩, ⟨B', m', k', C'⟩] 2) (flatD (catD [⟨B, m, k, C⟩, ⟨B', m', k', C'⟩] 2)) := ho
    rw [e1, e2] at ho2
    obtain ⟨B6, k6, rfl, h6⟩ := Dl.of_own ho2
    exact ⟨B6, k6, rfl, h6, hw⟩

set_option maxRecDepth 100000 in
set_option maxHeartbeats 8000000 in
theorem gjoin_any (A : Option Addr) (n c : Nat) (V : List Int) (B : Option Addr) (m k : Nat) (C : List (Int × Int)) (A' : Option Addr) (n' c' : Nat) (V' : List Int) (B' : Option Addr) (m' k' : Nat) (C' : List (Int × Int)) (w : World)
    (h : Il w A n c V) (hv : VecOk V) (hd : Dl w B m k C) (h' : Il w A' n' c' V') (hv' : VecOk V') (hd' : Dl w B' m' k' C') (hm : m + m' ≤ 999980) :
    Calls Tryz.prog 33 #[.agg #[.slice A n c, .slice B m k], .agg #[.slice A' n' c', .slice B' m' k']] w (SetsF (CompS (maxV V V') (C ++ C')) (C.length + C'.length) w) := by
  have hK : Kept w (((w.alloc (.cells #[.slice A n c, .slice B m k] 27)).alloc (.cells #[.slice A' n' c', .slice B' m' k'] 27)).alloc (.cells #[.slice none 0 0, .slice none 0 0] 27)) := (((Kept.refl w).alloc #[.slice A n c, .slice B m k] 27).alloc #[.slice A' n' c', .slice B' m' k'] 27).alloc #[.slice none 0 0, .slice none 0 0] 27
  have HK := Lib.hid hK
  have HI := Lib.hid (h.kept hK); have HD := Lib.hid (hd.kept hK); have HI' := Lib.hid (h'.kept hK); have HD' := Lib.hid (hd'.kept hK)
  have HVM := Lib.hid (maxV_ok hv hv')
  have HV1 := Lib.hid hv; have HV2 := Lib.hid hv'
  have b0 := Box2.new w (.slice A n c) (.slice B m k) 27 |>.kept (((Kept.refl _).alloc #[.slice A' n' c', .slice B' m' k'] 27).alloc #[.slice none 0 0, .slice none 0 0] 27)
  have b1 := Box2.new (w.alloc (.cells #[.slice A n c, .slice B m k] 27)) (.slice A' n' c') (.slice B' m' k') 27 |>.kept ((Kept.refl _).alloc #[.slice none 0 0, .slice none 0 0] 27)
  have b2 := Box2.new ((w.alloc (.cells #[.slice A n c, .slice B m k] 27)).alloc (.cells #[.slice A' n' c', .slice B' m' k'] 27)) (.slice none 0 0) (.slice none 0 0) 27
  rw [show (w.alloc (.cells #[.slice A n c, .slice B m k] 27)).heap.size = w.heap.size + 1 by simp] at b1
  rw [show ((w.alloc (.cells #[.slice A n c, .slice B m k] 27)).alloc (.cells #[.slice A' n' c', .slice B' m' k'] 27)).heap.size = w.heap.size + 2 by simp] at b2
  have c0 := KExtE.cell (b := w.heap.size + 2) (by omega) b0.c0
  have c1 := KExtE.cell (b := w.heap.size + 2) (by omega) b0.c1
  have d0 := KExtE.cell (b := w.heap.size + 2) (by omega) b1.c0
  have d1 := KExtE.cell (b := w.heap.size + 2) (by omega) b1.c1
  have hsz : (((w.alloc (.cells #[.slice A n c, .slice B m k] 27)).alloc (.cells #[.slice A' n' c', .slice B' m' k'] 27)).alloc (.cells #[.slice none 0 0, .slice none 0 0] 27)).heap.size = w.heap.size + 3 := by simp
  obtain ⟨U, hU⟩ : ∃ U, (((w.alloc (.cells #[.slice A n c, .slice B m k] 27)).alloc (.cells #[.slice A' n' c', .slice B' m' k'] 27)).alloc (.cells #[.slice none 0 0, .slice none 0 0] 27)) = U := ⟨_, rfl⟩
  have HX2 := Lib.hid b2
  rw [hU] at HK hsz HX2
  have HU := Lib.hid hU
  clear h hv hd h' hv' hd' hK b0 b1 b2 hU
  go_enter Tryz.func33, Tryz.ntmps33
  go_wp2_with fail
  refine region_planE (w.heap.size + 2) (((w.alloc (.cells #[.slice A n c, .slice B m k] 27)).alloc (.cells #[.slice A' n' c', .slice B' m' k'] 27)).alloc (.cells #[.slice none 0 0, .slice none 0 0] 27)) 14 (.read [0, 1, 2, 3, 5, 6, 7, 8] (.two 4 (.one 9 (.one 10 (.read [11] (.one 12 (.one 13 .stop))))) 9 (.one 4 (.one 10 (.read [11] (.one 12 (.one 13 .stop))))))) (by kernel_rfl) (by kernel_rfl) (by kernel_rfl) (by kernel_rfl) (by kernel_rfl) (fun _ d _ _ _ h => by cases d <;> exact h) (Kept.refl _) ?_
  intro wd hwd
  have HWX := Lib.hid hwd
  clear hwd
  rw [wpPlan_read]
  simp only [pickOps_cons, pickOps_nil, consO_some, List.getElem?_cons_zero, List.getElem?_cons_succ]
  repeat (go_big_quiet_step (fail))
  refine wpQuiet_nil ?_
  rw [wpPlan_two]
  simp only [pickOps_cons, pickOps_nil, consO_some, List.getElem?_cons_zero, List.getElem?_cons_succ]
  clear c0 c1 d0 d1
  constructor
  · go_wp2_with (go_at_call 59; refine (higher_any A n c V A' n' c' V' _ (HI.out.kept HWX.out) HV1.out (HI'.out.kept HWX.out) HV2.out).mono ?_; rintro e w5 ⟨A5, n5, c5, rfl, hi5, hk5⟩)
    replace HWX := Lib.hid (HWX.out.trans hk5)
    have HHI := Lib.hid hi5
    clear hi5 hk5
    refine soloE (.of HWX.out) ?_
    rw [wpPlan_one]
    simp only [pickOps_cons, pickOps_nil, consO_some, List.getElem?_cons_zero, List.getElem?_cons_succ]
    go_wp2_with fail
    have HRW := Lib.hid (heap_alloc_new w5 (.cells #[.slice B m k, .slice B' m' k'] 23))
    replace HWX := Lib.hid (HWX.out.alloc #[.slice B m k, .slice B' m' k'] 23)
    replace HHI := Lib.hid (HHI.out.kept ((Kept.refl _).alloc #[.slice B m k, .slice B' m' k'] 23))
    refine soloE (.of HWX.out) ?_
    rw [wpPlan_one]
    simp only [pickOps_cons, pickOps_nil, consO_some, List.getElem?_cons_zero, List.getElem?_cons_succ]
    go_wp2_with (go_at_call 60; refine (gconcat2 _ _ B m k C B' m' k' C' HRW.out (HD.out.kept HWX.out) (HD'.out.kept HWX.out) (by omega)).mono ?_; rintro e w6 ⟨B6, k6, rfl, hd6, hk6⟩)
    replace HWX := Lib.hid (HWX.out.trans hk6)
    have HCC := Lib.hid hd6
    replace HHI := Lib.hid (HHI.out.kept hk6)
    clear hd6 hk6
    have HKZ := Lib.hid (show Kept U _ from by rw [← HU.out]; exact HWX.out)
    have HC := Lib.hid (gcompact_any A5 n5 c5 (maxV V V') B6 (m + m') k6 (C ++ C') _ HHI.out HVM.out HCC.out (by omega))
    clear HWX HHI HCC
    refine soloE (by rw [HU.out]; exact .of HKZ.out) ?_
    rw [wpPlan_read]
    simp only [pickOps_cons, pickOps_nil, consO_some, List.getElem?_cons_zero, List.getElem?_cons_succ]
    repeat (go_big_quiet_step (fail))
    refine wpQuiet_nil ?_
    rw [wpPlan_one]
    simp only [pickOps_cons, pickOps_nil, consO_some, List.getElem?_cons_zero, List.getElem?_cons_succ]
    go_wp2_with (go_at_call 49; refine HC.out.mono ?_; rintro e w9 ⟨A9, n9, c9, B9, m9, k9, V9, C9, rfl, hi9, hd9, hs9, hmm, hk9, hfa, hfb⟩)
    have hr := HX2.out.kept (HKZ.out.trans hk9)
    have f0 := hr.c0; have f1 := hr.c1; have ef0 := hr.f 0; have ef1 := hr.f 1
    have HF := Lib.hid (sets_box (W := w) (b := w.heap.size + 2) hi9 hd9 hfa hfb (by have := HKZ.out.2.2; omega) (by omega) (HK.out.trans (HKZ.out.trans hk9)) hs9 (show m9 ≤ C.length + C'.length by rw [List.length_append] at hmm; exact hmm))
    have HE9 := Lib.hid (show KeptE (w.heap.size + 2) U w9 from .of (HKZ.out.trans hk9))
    clear hi9 hd9 hs9 hmm hk9 hfa hfb hr
    refine soloE (by rw [HU.out]; exact HE9.out) ?_
    rw [wpPlan_one]
    simp only [pickOps_cons, pickOps_nil, consO_some, List.getElem?_cons_zero, List.getElem?_cons_succ]
    go_wp2_with fail
    refine soloE (by rw [HU.out]; exact (HE9.out.set (.inl rfl) _).set (.inl rfl) _) ?_
    refine wpPlan_stop ?_
    go_wp2_with fail
    exact bodyPost_ret (by simp [results, Tryz.results33, go_sem, *]) rfl HF.out
  · go_wp2_with fail
    have HRW := Lib.hid (heap_alloc_new wd (.cells #[.slice B m k, .slice B' m' k'] 23))
    replace HWX := Lib.hid (HWX.out.alloc #[.slice B m k, .slice B' m' k'] 23)
    refine soloE (.of HWX.out) ?_
    rw [wpPlan_one]
    simp only [pickOps_cons, pickOps_nil, consO_some, List.getElem?_cons_zero, List.getElem?_cons_succ]
    go_wp2_with (go_at_call 59; refine (higher_any A n c V A' n' c' V' _ (HI.out.kept HWX.out) HV1.out (HI'.out.kept HWX.out) HV2.out).mono ?_; rintro e w5 ⟨A5, n5, c5, rfl, hi5, hk5⟩)
    replace HRW := Lib.hid (blk_kept HRW.out hk5)
    replace HWX := Lib.hid (HWX.out.trans hk5)
    have HHI := Lib.hid hi5
    clear hi5 hk5
    refine soloE (.of HWX.out) ?_
    rw [wpPlan_one]
    simp only [pickOps_cons, pickOps_nil, consO_some, List.getElem?_cons_zero, List.getElem?_cons_succ]
    go_wp2_with (go_at_call 60; refine (gconcat2 _ _ B m k C B' m' k' C' HRW.out (HD.out.kept HWX.out) (HD'.out.kept HWX.out) (by omega)).mono ?_; rintro e w6 ⟨B6, k6, rfl, hd6, hk6⟩)
    replace HWX := Lib.hid (HWX.out.trans hk6)
    have HCC := Lib.hid hd6
    replace HHI := Lib.hid (HHI.out.kept hk6)
    clear hd6 hk6
    have HKZ := Lib.hid (show Kept U _ from by rw [← HU.out]; exact HWX.out)
    have HC := Lib.hid (gcompact_any A5 n5 c5 (maxV V V') B6 (m + m') k6 (C ++ C') _ HHI.out HVM.out HCC.out (by omega))
    clear HWX HHI HCC
    refine soloE (by rw [HU.out]; exact .of HKZ.out) ?_
    rw [wpPlan_read]
    simp only [pickOps_cons, pickOps_nil, consO_some, List.getElem?_cons_zero, List.getElem?_cons_succ]
    repeat (go_big_quiet_step (fail))
    refine wpQuiet_nil ?_
    rw [wpPlan_one]
    simp only [pickOps_cons, pickOps_nil, consO_some, List.getElem?_cons_zero, List.getElem?_cons_succ]
    go_wp2_with (go_at_call 49; refine HC.out.mono ?_; rintro e w9 ⟨A9, n9, c9, B9, m9, k9, V9, C9, rfl, hi9, hd9, hs9, hmm, hk9, hfa, hfb⟩)
    have hr := HX2.out.kept (HKZ.out.trans hk9)
    have f0 := hr.c0; have f1 := hr.c1; have ef0 := hr.f 0; have ef1 := hr.f 1
    have HF := Lib.hid (sets_box (W := w) (b := w.heap.size + 2) hi9 hd9 hfa hfb (by have := HKZ.out.2.2; omega) (by omega) (HK.out.trans (HKZ.out.trans hk9)) hs9 (show m9 ≤ C.length + C'.length by rw [List.length_append] at hmm; exact hmm))
    have HE9 := Lib.hid (show KeptE (w.heap.size + 2) U w9 from .of (HKZ.out.trans hk9))
    clear hi9 hd9 hs9 hmm hk9 hfa hfb hr
    refine soloE (by rw [HU.out]; exact HE9.out) ?_
    rw [wpPlan_one]
    simp only [pickOps_cons, pickOps_nil, consO_some, List.getElem?_cons_zero, List.getElem?_cons_succ]
    go_wp2_with fail
    refine soloE (by rw [HU.out]; exact (HE9.out.set (.inl rfl) _).set (.inl rfl) _) ?_
    refine wpPlan_stop ?_
    go_wp2_with fail
    exact bodyPost_ret (by simp [results, Tryz.results33, go_sem, *]) rfl HF.out
end Go.Proofs.YtoggcpfogeoeaaaGreatDoor

