/-
  What is proved: the law TableSays of layer 13, called with any table, case and text that a machine can hold, returns true; the world has new blocks at most.
-/
import Derived.Test.YtjcnjmlgedmmoaaDoorM24
import Derived.Test.YtjcnjmlgedmmoaaDoorHTake
import Derived.Test.YtjcnjmlgedmmoaaDoorHLoss
namespace Go.Proofs.YtjcnjmlgedmmoaaDoor
open Go.RowKit
set_option linter.unusedVariables false

/-- Whole numbers that fit. -/
def InV (x : Va) : Prop := -9223372036854775808 ≤ x.n ∧ x.n ≤ 9223372036854775807
structure RngT (T : Tb) : Prop where
  L : ∀ p ∈ T.L, InV p.f ∧ InV p.t
  d : InV T.d
  b : InV T.b
theorem ShortT.tbs {T : Tb} (h : ShortT T) (hr : RngT T) : TbS T :=
  ⟨⟨by have := h.db; omega, hr.d.1, hr.d.2⟩, ⟨by have := h.db; omega, hr.b.1, hr.b.2⟩, fun p hp => ⟨⟨by have := h.L p hp; omega, (hr.L p hp).1.1, (hr.L p hp).1.2⟩, ⟨by have := h.L p hp; omega, (hr.L p hp).2.1, (hr.L p hp).2.2⟩⟩, h.few⟩
def TakX (X : Tb) (R : ByteArray) (Z NX : Nat) (w : World) (e : Ending) (w' : World) : Prop :=
  ∃ AX cX, e = .returned (.tuple #[.agg #[.slice AX NX cX, .bool X.keep, .int .i64 X.d.k, .int .i64 X.d.n, .string X.d.t, .int .i64 X.b.k, .int .i64 X.b.n, .string X.b.t, .bool X.tu], .string R, .int .i64 (Z : Int)]) ∧ Pal w' AX NX cX X.L ∧ Kept w w'
theorem takH_x {s : ByteArray} {X : Tb} {R : ByteArray} {Z NX : Nat} (h : ttbL s = (X, R, Z)) (hN : X.L.length = NX) {w w' : World} {e : Ending} (k : TakH s w e w') : TakX X R Z NX w e w' := by
  unfold TakH at k
  rw [h] at k
  obtain ⟨A, c, he, hp, hk⟩ := k
  subst hN
  exact ⟨A, c, he, hp, hk⟩
set_option maxRecDepth 100000 in
set_option maxHeartbeats 8000000 in
theorem hsays_any (A : Option Addr) (n c : Nat) (T : Tb) (v : Va) (a b : Int) (s : ByteArray) (w : World) (h : Pal w A n c T.L) (hh : HoldT T) (hr : RngT T) (hv : v.t.size ≤ 140737488355328) (hs : s.size ≤ 140737488355328) (htr : TruW w) :
    Calls Tryd.prog 3 #[.agg #[.slice A n c, .bool T.keep, .int .i64 T.d.k, .int .i64 T.d.n, .string T.d.t, .int .i64 T.b.k, .int .i64 T.b.n, .string T.b.t, .bool T.tu], .agg #[.int .i64 v.k, .int .i64 v.n, .string v.t, .int .i64 a, .int .i64 b], .string s] w fun e w' => e = .returned (.bool true) ∧ Kept w w' := by
  have hk := ((Kept.refl w).alloc #[.slice A n c, .bool T.keep, .int .i64 T.d.k, .int .i64 T.d.n, .string T.d.t, .int .i64 T.b.k, .int .i64 T.b.n, .string T.b.t, .bool T.tu] 26).alloc #[.int .i64 v.k, .int .i64 v.n, .string v.t, .int .i64 a, .int .i64 b] 28
  have ht := (TabB.new w A n c T 26).kept ((Kept.refl (w.alloc (.cells #[.slice A n c, .bool T.keep, .int .i64 T.d.k, .int .i64 T.d.n, .string T.d.t, .int .i64 T.b.k, .int .i64 T.b.n, .string T.b.t, .bool T.tu] 26))).alloc #[.int .i64 v.k, .int .i64 v.n, .string v.t, .int .i64 a, .int .i64 b] 28)
  have hc := CasB.new (w.alloc (.cells #[.slice A n c, .bool T.keep, .int .i64 T.d.k, .int .i64 T.d.n, .string T.d.t, .int .i64 T.b.k, .int .i64 T.b.n, .string T.b.t, .bool T.tu] 26)) v a b 28
  rw [show (w.alloc (.cells #[.slice A n c, .bool T.keep, .int .i64 T.d.k, .int .i64 T.d.n, .string T.d.t, .int .i64 T.b.k, .int .i64 T.b.n, .string T.b.t, .bool T.tu] 26)).heap.size = w.heap.size + 1 by simp] at hc
  have hp := h.kept hk
  have hcap := h.cap.1; have hcap2 := h.cap.2
  obtain ⟨U, hU⟩ : ∃ U, (w.alloc (.cells #[.slice A n c, .bool T.keep, .int .i64 T.d.k, .int .i64 T.d.n, .string T.d.t, .int .i64 T.b.k, .int .i64 T.b.n, .string T.b.t, .bool T.tu] 26)).alloc (.cells #[.int .i64 v.k, .int .i64 v.n, .string v.t, .int .i64 a, .int .i64 b] 28) = U := ⟨_, rfl⟩
  rw [hU] at hk ht hc hp
  have HK := Lib.hid hk; have HUU := Lib.hid hU; have HT := Lib.hid ht; have HC := Lib.hid hc; have HH := Lib.hid hp; have HRG := Lib.hid hr; have HTW := Lib.hid htr
  obtain ⟨l, hl⟩ := bool_of (¬ ShortT T)
  have AL := Lib.hid (fun w h => hlong_any A n c T w h hh l hl)
  have HL := Lib.hid hl
  clear h hh hk ht hc hp hU hl hr htr
  have t0 := HT.out.c0; have t1 := HT.out.c1; have t2 := HT.out.c2; have t3 := HT.out.c3; have t4 := HT.out.c4; have t5 := HT.out.c5; have t6 := HT.out.c6; have t7 := HT.out.c7; have t8 := HT.out.c8
  have c0 := HC.out.c0; have c1 := HC.out.c1; have c2 := HC.out.c2; have c3 := HC.out.c3; have c4 := HC.out.c4
  go_enter Tryd.func3, Tryd.ntmps3
  go_wp2_with fail
  rw [HUU.out]
  go_wp2_with fail
  go_at_call 7
  refine (AL.out _ HH.out).mono ?_
  rintro e w1 ⟨rfl, hk1⟩
  replace HK := Lib.hid (HK.out.trans hk1); replace HT := Lib.hid (HT.out.kept hk1); replace HC := Lib.hid (HC.out.kept hk1); replace HH := Lib.hid (HH.out.kept hk1)
  clear t0 t1 t2 t3 t4 t5 t6 t7 t8 c0 c1 c2 c3 c4
  clear hk1
  have t0 := HT.out.c0; have t1 := HT.out.c1; have t2 := HT.out.c2; have t3 := HT.out.c3; have t4 := HT.out.c4; have t5 := HT.out.c5; have t6 := HT.out.c6; have t7 := HT.out.c7; have t8 := HT.out.c8
  have c0 := HC.out.c0; have c1 := HC.out.c1; have c2 := HC.out.c2; have c3 := HC.out.c3; have c4 := HC.out.c4
  cases l with
  | true =>
    go_wp2_with fail
    go_at_call 8
    refine (hawake_any _).mono ?_
    rintro e w9 ⟨rfl, hk9⟩
    have HF := Lib.hid (HK.out.trans hk9)
    clear hk9
    go_wp2_with fail
    go_ret
    exact ⟨rfl, HF.out⟩
  | false =>
    have HS := Lib.hid (show ShortT T from Classical.not_not.1 fun k => by have := HL.out.2 k; cases this)
    by_cases h1 : 300 < v.t.size
    · have f11 : decide ((300 : Int) < (v.t.size : Int)) = true := decide_eq_true (by omega)
      have f12 : decide (300 < v.t.size) = true := decide_eq_true (by omega)
      clear h1
      go_wp2_with fail
      go_at_call 8
      refine (hawake_any _).mono ?_
      rintro e w9 ⟨rfl, hk9⟩
      have HF := Lib.hid (HK.out.trans hk9)
      clear hk9
      go_wp2_with fail
      go_ret
      exact ⟨rfl, HF.out⟩
    · by_cases h2 : 3000 < s.size
      · have f11 : decide ((300 : Int) < (v.t.size : Int)) = false := decide_eq_false (by omega)
        have f12 : decide (300 < v.t.size) = false := decide_eq_false (by omega)
        have g11 : decide ((3000 : Int) < (s.size : Int)) = true := decide_eq_true (by omega)
        have g12 : decide (3000 < s.size) = true := decide_eq_true (by omega)
        clear h1 h2
        go_wp2_with fail
        go_at_call 8
        refine (hawake_any _).mono ?_
        rintro e w9 ⟨rfl, hk9⟩
        have HF := Lib.hid (HK.out.trans hk9)
        clear hk9
        go_wp2_with fail
        go_ret
        exact ⟨rfl, HF.out⟩
      · have f11 : decide ((300 : Int) < (v.t.size : Int)) = false := decide_eq_false (by omega)
        have f12 : decide (300 < v.t.size) = false := decide_eq_false (by omega)
        have g11 : decide ((3000 : Int) < (s.size : Int)) = false := decide_eq_false (by omega)
        have g12 : decide (3000 < s.size) = false := decide_eq_false (by omega)
        clear hv hs
        obtain ⟨X, R, Z, hX⟩ : ∃ X R Z, ttbL s = (X, R, Z) := ⟨_, _, _, rfl⟩
        obtain ⟨NX, hN⟩ : ∃ N, X.L.length = N := ⟨_, rfl⟩
        have B1 := Lib.hid (fun w => (httake_any s w (by omega)).mono fun e w' k => takH_x hX hN k)
        have B2 := Lib.hid (fun w => (rttake_any s w (by omega)).mono fun e w' k => takH_x hX hN k)
        have HTBS := Lib.hid (HS.out.tbs HRG.out)
        obtain ⟨x1, hx1⟩ : ∃ x, applyT T v = x := ⟨_, rfl⟩
        obtain ⟨y1, hy1⟩ : ∃ x, wayT T v = x := ⟨_, rfl⟩
        obtain ⟨q1, hq1⟩ := bool_of (RightT T a b)
        obtain ⟨q2, hq2⟩ := bool_of (LossT T a b)
        obtain ⟨q3, hq3⟩ := bool_of (T = X)
        obtain ⟨P, hP⟩ : ∃ p, putTb ⟨#[]⟩ T = p := ⟨_, rfl⟩
        have HSZ := Lib.hid HS.out.szT
        have D1 := Lib.hid (fun A' c' A2 c2 w h h' => rtsame_any A' NX c' X A2 NX c2 X w h h' true (by simp))
        have D2 := Lib.hid (fun w h => htapply_any A n c T v x1 hx1 (by omega) w h HSZ.out)
        have D3 := Lib.hid (fun w h => rapply_any A n c T v w h x1 hx1)
        have D4 := Lib.hid (fun w h => htway_any A n c T v y1 hy1 (by omega) w h HSZ.out)
        have D5 := Lib.hid (fun w h => rway_any A n c T v w h y1 hy1)
        have D6 := Lib.hid (fun w h => htturn_any A n c T w h HSZ.out)
        have D7 := Lib.hid (fun w => rturn_any A n c T w)
        have D8 := Lib.hid (fun A' c' w h h' => rtsame_any A' n c' (turnT T) A n c (turnT T) w h h' true (by simp))
        have D9 := Lib.hid (fun w h => htright_any A n c T a b w h HSZ.out q1 hq1)
        have DA := Lib.hid (fun w h => rtr_any A n c T a b w h HSZ.out.L HSZ.out.d HSZ.out.b q1 hq1)
        have DB := Lib.hid (fun w h k => htloss_any A n c T a b w h HSZ.out q2 hq2 (fun _ _ _ => k))
        have DC := Lib.hid (fun w h => rtl_any A n c T a b w h HSZ.out.L HSZ.out.d HSZ.out.b q2 hq2)
        have DD := Lib.hid (fun w h => htput_any ⟨#[]⟩ A n c T w h HTBS.out (by decide) P hP)
        have DE := Lib.hid (fun w h => rtput_any ⟨#[]⟩ A n c T w h HTBS.out (by decide) P hP)
        have DF := Lib.hid (fun A' c' w h h' => htsame_any A n c T A' NX c' X w h h' q3 hq3)
        have DG := Lib.hid (fun A' c' w h h' => rtsame_any A n c T A' NX c' X w h h' q3 hq3)
        clear hX hN hx1 hy1 hq1 hq2 hq3 hP
        go_wp2_with fail
        clear f11 f12 h1 h2 g11 g12
        go_at_call 9
        refine (B1.out _).mono ?_
        rintro e w2 ⟨A5, c5, rfl, hp5, hk⟩
        replace HK := Lib.hid (HK.out.trans hk); replace HT := Lib.hid (HT.out.kept hk); replace HC := Lib.hid (HC.out.kept hk); replace HH := Lib.hid (HH.out.kept hk)
        clear t0 t1 t2 t3 t4 t5 t6 t7 t8 c0 c1 c2 c3 c4
        have HP5 := Lib.hid hp5
        have hka := (Kept.refl w2).alloc #[.slice A5 NX c5, .bool X.keep, .int .i64 X.d.k, .int .i64 X.d.n, .string X.d.t, .int .i64 X.b.k, .int .i64 X.b.n, .string X.b.t, .bool X.tu] 26
        have ht := TabB.new w2 A5 NX c5 X 26
        replace HP5 := Lib.hid (HP5.out.kept hka)
        replace HK := Lib.hid (HK.out.trans hka); replace HT := Lib.hid (HT.out.kept hka); replace HC := Lib.hid (HC.out.kept hka); replace HH := Lib.hid (HH.out.kept hka)
        have HX1 := Lib.hid ht
        clear hp5 hk hka ht
        go_wp2_with fail
        go_at_call 10
        refine (B2.out _).mono ?_
        rintro e w3 ⟨A6, c6, rfl, hp6, hk⟩
        replace HK := Lib.hid (HK.out.trans hk); replace HT := Lib.hid (HT.out.kept hk); replace HC := Lib.hid (HC.out.kept hk); replace HH := Lib.hid (HH.out.kept hk)
        replace HP5 := Lib.hid (HP5.out.kept hk)
        replace HX1 := Lib.hid (HX1.out.kept hk)
        have HP6 := Lib.hid hp6
        have hka := (Kept.refl w3).alloc #[.slice A6 NX c6, .bool X.keep, .int .i64 X.d.k, .int .i64 X.d.n, .string X.d.t, .int .i64 X.b.k, .int .i64 X.b.n, .string X.b.t, .bool X.tu] 26
        have ht := TabB.new w3 A6 NX c6 X 26
        replace HP6 := Lib.hid (HP6.out.kept hka)
        replace HK := Lib.hid (HK.out.trans hka); replace HT := Lib.hid (HT.out.kept hka); replace HC := Lib.hid (HC.out.kept hka); replace HH := Lib.hid (HH.out.kept hka)
        replace HP5 := Lib.hid (HP5.out.kept hka)
        replace HX1 := Lib.hid (HX1.out.kept hka)
        have HX2 := Lib.hid ht
        clear hp6 hk hka ht B1 B2
        go_wp2_with fail
        obtain ⟨V, hV⟩ : ∃ V, w3.alloc (.cells #[.slice A6 NX c6, .bool X.keep, .int .i64 X.d.k, .int .i64 X.d.n, .string X.d.t, .int .i64 X.b.k, .int .i64 X.b.n, .string X.b.t, .bool X.tu] 26) = V := ⟨_, rfl⟩
        rw [hV] at HK HT HC HH HP5 HX1 HP6 HX2 ⊢
        clear hV
        have t0 := KExt.cell HT.out.c0; have t1 := KExt.cell HT.out.c1; have t2 := KExt.cell HT.out.c2; have t3 := KExt.cell HT.out.c3; have t4 := KExt.cell HT.out.c4; have t5 := KExt.cell HT.out.c5; have t6 := KExt.cell HT.out.c6; have t7 := KExt.cell HT.out.c7; have t8 := KExt.cell HT.out.c8
        have c0 := KExt.cell HC.out.c0; have c1 := KExt.cell HC.out.c1; have c2 := KExt.cell HC.out.c2; have c3 := KExt.cell HC.out.c3; have c4 := KExt.cell HC.out.c4
        have p0 := KExt.cell HX1.out.c0; have p1 := KExt.cell HX1.out.c1; have p2 := KExt.cell HX1.out.c2; have p3 := KExt.cell HX1.out.c3; have p4 := KExt.cell HX1.out.c4; have p5 := KExt.cell HX1.out.c5; have p6 := KExt.cell HX1.out.c6; have p7 := KExt.cell HX1.out.c7; have p8 := KExt.cell HX1.out.c8
        have r0 := KExt.cell HX2.out.c0; have r1 := KExt.cell HX2.out.c1; have r2 := KExt.cell HX2.out.c2; have r3 := KExt.cell HX2.out.c3; have r4 := KExt.cell HX2.out.c4; have r5 := KExt.cell HX2.out.c5; have r6 := KExt.cell HX2.out.c6; have r7 := KExt.cell HX2.out.c7; have r8 := KExt.cell HX2.out.c8
        (try dsimp only [List.append])
        refine region_plan V 92 (.read [0, 1] (.one 2 (.read [3, 4, 5, 6, 7, 8, 9, 10, 11, 12, 13, 14, 15, 16, 18, 19, 20] (.one 17 (.one 21 (.read [22, 23, 24, 25, 26, 27, 29, 30, 31] (.one 28 (.one 32 (.read [33, 34, 35, 36, 38] (.one 37 (.one 39 (.one 40 (.read [41, 42, 43, 44, 45, 46, 47, 49, 50, 51, 52, 53] (.one 48 (.one 54 (.read [55, 56, 57, 58, 59, 60, 61, 62, 64, 65, 66, 67, 68] (.one 63 (.one 69 (.read [70, 71, 72, 73, 75] (.one 74 (.one 76 (.read [77, 78, 79, 80, 81, 83, 84] (.one 82 (.one 85 (.read [86, 87, 88] (.one 89 (.read [90, 91] .stop))))))))))))))))))))))))))) (by kernel_rfl) (by kernel_rfl) (by kernel_rfl) (by kernel_rfl) (by kernel_rfl) (fun _ d _ _ _ h => by cases d <;> exact h) (Kept.refl _) ?_
        intro wd hwd
        have HV := Lib.hid hwd
        clear hwd
        rw [wpPlan_read]
        simp only [pickOps_cons, pickOps_nil, consO_some, List.getElem?_cons_zero, List.getElem?_cons_succ]
        repeat (go_big_quiet_step (fail))
        refine wpQuiet_nil ?_
        rw [wpPlan_one]
        simp only [pickOps_cons, pickOps_nil, consO_some, List.getElem?_cons_zero, List.getElem?_cons_succ]
        go_wp2_with (go_at_call 11; refine (D1.out _ _ _ _ _ (HP5.out.kept HV.out) (HP6.out.kept HV.out)).mono ?_; rintro e v1 ⟨rfl, hkz⟩)
        replace HV := Lib.hid (HV.out.trans hkz)
        clear hkz
        refine soloP HV.out ?_
        rw [wpPlan_read]
        simp only [pickOps_cons, pickOps_nil, consO_some, List.getElem?_cons_zero, List.getElem?_cons_succ]
        repeat (go_big_quiet_step (fail))
        refine wpQuiet_nil ?_
        rw [wpPlan_one]
        simp only [pickOps_cons, pickOps_nil, consO_some, List.getElem?_cons_zero, List.getElem?_cons_succ]
        go_wp2_with (go_at_call 12; refine (D2.out _ (HH.out.kept HV.out)).mono ?_; rintro e v2 ⟨rfl, hkz⟩)
        replace HV := Lib.hid (HV.out.trans hkz)
        clear hkz
        refine soloP HV.out ?_
        rw [wpPlan_one]
        simp only [pickOps_cons, pickOps_nil, consO_some, List.getElem?_cons_zero, List.getElem?_cons_succ]
        go_wp2_with (go_at_call 13; refine (D3.out _ (HH.out.kept HV.out)).mono ?_; rintro e v3 ⟨rfl, hkz⟩)
        replace HV := Lib.hid (HV.out.trans hkz)
        clear hkz
        refine soloP HV.out ?_
        rw [wpPlan_read]
        simp only [pickOps_cons, pickOps_nil, consO_some, List.getElem?_cons_zero, List.getElem?_cons_succ]
        repeat (go_big_quiet_step (fail))
        refine wpQuiet_nil ?_
        rw [wpPlan_one]
        simp only [pickOps_cons, pickOps_nil, consO_some, List.getElem?_cons_zero, List.getElem?_cons_succ]
        go_wp2_with (go_at_call 14; refine (D4.out _ (HH.out.kept HV.out)).mono ?_; rintro e v4 ⟨rfl, hkz⟩)
        replace HV := Lib.hid (HV.out.trans hkz)
        clear hkz
        refine soloP HV.out ?_
        rw [wpPlan_one]
        simp only [pickOps_cons, pickOps_nil, consO_some, List.getElem?_cons_zero, List.getElem?_cons_succ]
        go_wp2_with (go_at_call 15; refine (D5.out _ (HH.out.kept HV.out)).mono ?_; rintro e v5 ⟨rfl, hkz⟩)
        replace HV := Lib.hid (HV.out.trans hkz)
        clear hkz
        refine soloP HV.out ?_
        rw [wpPlan_read]
        simp only [pickOps_cons, pickOps_nil, consO_some, List.getElem?_cons_zero, List.getElem?_cons_succ]
        repeat (go_big_quiet_step (fail))
        refine wpQuiet_nil ?_
        rw [wpPlan_one]
        simp only [pickOps_cons, pickOps_nil, consO_some, List.getElem?_cons_zero, List.getElem?_cons_succ]
        go_wp2_with (go_at_call 16; refine (D6.out _ (HH.out.kept HV.out)).mono ?_; rintro e v6 ⟨AQ, cq, rfl, hpq, hkz⟩)
        have HPQ := Lib.hid hpq
        clear hpq
        replace HV := Lib.hid (HV.out.trans hkz)
        clear hkz
        refine soloP HV.out ?_
        rw [wpPlan_one]
        simp only [pickOps_cons, pickOps_nil, consO_some, List.getElem?_cons_zero, List.getElem?_cons_succ]
        go_wp2_with (go_at_call 17; refine (D7.out _).mono ?_; rintro e v7 ⟨rfl, hkz⟩)
        replace HPQ := Lib.hid (HPQ.out.kept hkz)
        replace HV := Lib.hid (HV.out.trans hkz)
        clear hkz
        refine soloP HV.out ?_
        rw [wpPlan_one]
        simp only [pickOps_cons, pickOps_nil, consO_some, List.getElem?_cons_zero, List.getElem?_cons_succ]
        go_wp2_with (go_at_call 11; refine (D8.out AQ cq _ HPQ.out (HH.out.kept HV.out)).mono ?_; rintro e v8 ⟨rfl, hkz⟩)
        clear HPQ
        replace HV := Lib.hid (HV.out.trans hkz)
        clear hkz
        refine soloP HV.out ?_
        rw [wpPlan_read]
        simp only [pickOps_cons, pickOps_nil, consO_some, List.getElem?_cons_zero, List.getElem?_cons_succ]
        repeat (go_big_quiet_step (fail))
        refine wpQuiet_nil ?_
        rw [wpPlan_one]
        simp only [pickOps_cons, pickOps_nil, consO_some, List.getElem?_cons_zero, List.getElem?_cons_succ]
        go_wp2_with (go_at_call 18; refine (D9.out _ (HH.out.kept HV.out)).mono ?_; rintro e v9 ⟨rfl, hkz⟩)
        replace HV := Lib.hid (HV.out.trans hkz)
        clear hkz
        refine soloP HV.out ?_
        rw [wpPlan_one]
        simp only [pickOps_cons, pickOps_nil, consO_some, List.getElem?_cons_zero, List.getElem?_cons_succ]
        go_wp2_with (go_at_call 19; refine (DA.out _ (HH.out.kept HV.out)).mono ?_; rintro e v10 ⟨rfl, hkz⟩)
        replace HV := Lib.hid (HV.out.trans hkz)
        clear hkz
        refine soloP HV.out ?_
        rw [wpPlan_read]
        simp only [pickOps_cons, pickOps_nil, consO_some, List.getElem?_cons_zero, List.getElem?_cons_succ]
        repeat (go_big_quiet_step (fail))
        refine wpQuiet_nil ?_
        rw [wpPlan_one]
        simp only [pickOps_cons, pickOps_nil, consO_some, List.getElem?_cons_zero, List.getElem?_cons_succ]
        go_wp2_with (go_at_call 20; refine (DB.out _ (HH.out.kept HV.out) (HTW.out.kept (HK.out.trans HV.out))).mono ?_; rintro e v11 ⟨rfl, hkz⟩)
        replace HV := Lib.hid (HV.out.trans hkz)
        clear hkz
        refine soloP HV.out ?_
        rw [wpPlan_one]
        simp only [pickOps_cons, pickOps_nil, consO_some, List.getElem?_cons_zero, List.getElem?_cons_succ]
        go_wp2_with (go_at_call 21; refine (DC.out _ (HH.out.kept HV.out)).mono ?_; rintro e v12 ⟨rfl, hkz⟩)
        replace HV := Lib.hid (HV.out.trans hkz)
        clear hkz
        refine soloP HV.out ?_
        rw [wpPlan_read]
        simp only [pickOps_cons, pickOps_nil, consO_some, List.getElem?_cons_zero, List.getElem?_cons_succ]
        repeat (go_big_quiet_step (fail))
        refine wpQuiet_nil ?_
        rw [wpPlan_one]
        simp only [pickOps_cons, pickOps_nil, consO_some, List.getElem?_cons_zero, List.getElem?_cons_succ]
        go_wp2_with (go_at_call 22; refine (DD.out _ (HH.out.kept HV.out)).mono ?_; rintro e v13 ⟨rfl, hkz⟩)
        replace HV := Lib.hid (HV.out.trans hkz)
        clear hkz
        refine soloP HV.out ?_
        rw [wpPlan_one]
        simp only [pickOps_cons, pickOps_nil, consO_some, List.getElem?_cons_zero, List.getElem?_cons_succ]
        go_wp2_with (go_at_call 23; refine (DE.out _ (HH.out.kept HV.out)).mono ?_; rintro e v14 ⟨rfl, hkz⟩)
        replace HV := Lib.hid (HV.out.trans hkz)
        clear hkz
        refine soloP HV.out ?_
        rw [wpPlan_read]
        simp only [pickOps_cons, pickOps_nil, consO_some, List.getElem?_cons_zero, List.getElem?_cons_succ]
        repeat (go_big_quiet_step (fail))
        refine wpQuiet_nil ?_
        rw [wpPlan_one]
        simp only [pickOps_cons, pickOps_nil, consO_some, List.getElem?_cons_zero, List.getElem?_cons_succ]
        go_wp2_with (go_at_call 24; refine (DF.out A5 c5 _ (HH.out.kept HV.out) (HP5.out.kept HV.out)).mono ?_; rintro e v15 ⟨rfl, hkz⟩)
        replace HV := Lib.hid (HV.out.trans hkz)
        clear hkz
        refine soloP HV.out ?_
        rw [wpPlan_one]
        simp only [pickOps_cons, pickOps_nil, consO_some, List.getElem?_cons_zero, List.getElem?_cons_succ]
        go_wp2_with (go_at_call 11; refine (DG.out A6 c6 _ (HH.out.kept HV.out) (HP6.out.kept HV.out)).mono ?_; rintro e v16 ⟨rfl, hkz⟩)
        replace HV := Lib.hid (HV.out.trans hkz)
        clear hkz
        refine soloP HV.out ?_
        rw [wpPlan_read]
        simp only [pickOps_cons, pickOps_nil, consO_some, List.getElem?_cons_zero, List.getElem?_cons_succ]
        repeat (go_big_quiet_step (fail))
        refine wpQuiet_nil ?_
        rw [wpPlan_one]
        simp only [pickOps_cons, pickOps_nil, consO_some, List.getElem?_cons_zero, List.getElem?_cons_succ]
        go_wp2_with (go_at_call 8; refine (hawake_any _).mono ?_; rintro e v17 ⟨rfl, hkz⟩)
        replace HV := Lib.hid (HV.out.trans hkz)
        clear hkz
        refine soloP HV.out ?_
        rw [wpPlan_read]
        simp only [pickOps_cons, pickOps_nil, consO_some, List.getElem?_cons_zero, List.getElem?_cons_succ]
        repeat (go_big_quiet_step (fail))
        refine wpQuiet_nil ?_
        refine wpPlan_stop ?_
        clear t0 t1 t2 t3 t4 t5 t6 t7 t8 c0 c1 c2 c3 c4
        clear p0 p1 p2 p3 p4 p5 p6 p7 p8 r0 r1 r2 r3 r4 r5 r6 r7 r8
        go_wp2_with fail
        go_ret
        exact ⟨rfl, HK.out.trans HV.out⟩
end Go.Proofs.YtjcnjmlgedmmoaaDoor
