/-
  What is proved: the law TableThrice of layer 13, called with any table, case and value that a machine can hold, returns true; the world has new blocks at most.
-/
import Derived.Test.YtjcnjmlgedmmoaaDoorM24
import Derived.Test.YtjcnjmlgedmmoaaDoorM6
import Derived.Deep.DeepCutAuto
namespace Go.Proofs.YtjcnjmlgedmmoaaDoor
open Go.RowKit
set_option linter.unusedVariables false

def TwoV (V : World) (x y : Va) (p q : Value) (wx : World) : Prop := ∃ b c, p = .pointer (some ⟨b, 0, none⟩) ∧ q = .pointer (some ⟨c, 0, none⟩) ∧ Kept V wx ∧ VaO wx b x ∧ VaO wx c y
theorem hturn_back (A : Option Addr) (n c : Nat) (T : Tb) (w : World) (h : Pal w A n c T.L) (hz : SzT T) :
    Calls Tryd.prog 16 #[.agg #[.slice A n c, .bool T.keep, .int .i64 T.d.k, .int .i64 T.d.n, .string T.d.t, .int .i64 T.b.k, .int .i64 T.b.n, .string T.b.t, .bool (!T.tu)]] w fun e w' => ∃ A' c', e = .returned (.agg #[.slice A' n c', .bool T.keep, .int .i64 T.d.k, .int .i64 T.d.n, .string T.d.t, .int .i64 T.b.k, .int .i64 T.b.n, .string T.b.t, .bool T.tu]) ∧ Pal w' A' n c' T.L ∧ Kept w w' := by
  refine (htturn_any A n c (turnT T) w h hz.turn).mono fun e w' k => ?_
  obtain ⟨A', c', he, hp, hk⟩ := k
  refine ⟨A', c', ?_, hp, hk⟩
  rw [he]
  simp only [turnT, Bool.not_not]
set_option maxRecDepth 100000 in
set_option maxHeartbeats 8000000 in
theorem hthrice_any (A : Option Addr) (n c : Nat) (T : Tb) (v : Va) (a b : Int) (u : Va) (w : World) (h : Pal w A n c T.L) (hh : HoldT T) (hv : v.t.size ≤ 140737488355328) (hu : u.t.size ≤ 140737488355328) :
    Calls Tryd.prog 4 #[.agg #[.slice A n c, .bool T.keep, .int .i64 T.d.k, .int .i64 T.d.n, .string T.d.t, .int .i64 T.b.k, .int .i64 T.b.n, .string T.b.t, .bool T.tu], .agg #[.int .i64 v.k, .int .i64 v.n, .string v.t, .int .i64 a, .int .i64 b], .agg #[.int .i64 u.k, .int .i64 u.n, .string u.t]] w fun e w' => e = .returned (.bool true) ∧ Kept w w' := by
  have hk := (((Kept.refl w).alloc #[.slice A n c, .bool T.keep, .int .i64 T.d.k, .int .i64 T.d.n, .string T.d.t, .int .i64 T.b.k, .int .i64 T.b.n, .string T.b.t, .bool T.tu] 26).alloc #[.int .i64 v.k, .int .i64 v.n, .string v.t, .int .i64 a, .int .i64 b] 28).alloc #[.int .i64 u.k, .int .i64 u.n, .string u.t] 24
  have k1 := ((Kept.refl (w.alloc (.cells #[.slice A n c, .bool T.keep, .int .i64 T.d.k, .int .i64 T.d.n, .string T.d.t, .int .i64 T.b.k, .int .i64 T.b.n, .string T.b.t, .bool T.tu] 26))).alloc #[.int .i64 v.k, .int .i64 v.n, .string v.t, .int .i64 a, .int .i64 b] 28).alloc #[.int .i64 u.k, .int .i64 u.n, .string u.t] 24
  have k2 := (Kept.refl ((w.alloc (.cells #[.slice A n c, .bool T.keep, .int .i64 T.d.k, .int .i64 T.d.n, .string T.d.t, .int .i64 T.b.k, .int .i64 T.b.n, .string T.b.t, .bool T.tu] 26)).alloc (.cells #[.int .i64 v.k, .int .i64 v.n, .string v.t, .int .i64 a, .int .i64 b] 28))).alloc #[.int .i64 u.k, .int .i64 u.n, .string u.t] 24
  have ht := (TabB.new w A n c T 26).kept k1
  have hc := (CasB.new (w.alloc (.cells #[.slice A n c, .bool T.keep, .int .i64 T.d.k, .int .i64 T.d.n, .string T.d.t, .int .i64 T.b.k, .int .i64 T.b.n, .string T.b.t, .bool T.tu] 26)) v a b 28).kept k2
  have hx := VaO.new ((w.alloc (.cells #[.slice A n c, .bool T.keep, .int .i64 T.d.k, .int .i64 T.d.n, .string T.d.t, .int .i64 T.b.k, .int .i64 T.b.n, .string T.b.t, .bool T.tu] 26)).alloc (.cells #[.int .i64 v.k, .int .i64 v.n, .string v.t, .int .i64 a, .int .i64 b] 28)) u 24
  rw [show (w.alloc (.cells #[.slice A n c, .bool T.keep, .int .i64 T.d.k, .int .i64 T.d.n, .string T.d.t, .int .i64 T.b.k, .int .i64 T.b.n, .string T.b.t, .bool T.tu] 26)).heap.size = w.heap.size + 1 by simp] at hc
  rw [show ((w.alloc (.cells #[.slice A n c, .bool T.keep, .int .i64 T.d.k, .int .i64 T.d.n, .string T.d.t, .int .i64 T.b.k, .int .i64 T.b.n, .string T.b.t, .bool T.tu] 26)).alloc (.cells #[.int .i64 v.k, .int .i64 v.n, .string v.t, .int .i64 a, .int .i64 b] 28)).heap.size = w.heap.size + 1 + 1 by simp] at hx
  have hp := h.kept hk
  have HLN := Lib.hid h.1; have hcap := h.cap.1; have hcap2 := h.cap.2
  obtain ⟨U, hU⟩ : ∃ U, ((w.alloc (.cells #[.slice A n c, .bool T.keep, .int .i64 T.d.k, .int .i64 T.d.n, .string T.d.t, .int .i64 T.b.k, .int .i64 T.b.n, .string T.b.t, .bool T.tu] 26)).alloc (.cells #[.int .i64 v.k, .int .i64 v.n, .string v.t, .int .i64 a, .int .i64 b] 28)).alloc (.cells #[.int .i64 u.k, .int .i64 u.n, .string u.t] 24) = U := ⟨_, rfl⟩
  rw [hU] at hk ht hc hx hp
  have HK := Lib.hid hk; have HUU := Lib.hid hU; have HT := Lib.hid ht; have HC := Lib.hid hc; have HU := Lib.hid hx; have HH := Lib.hid hp
  obtain ⟨l, hl⟩ := bool_of (¬ ShortT T)
  have AL := Lib.hid (fun w h => hlong_any A n c T w h hh l hl)
  have HL := Lib.hid hl
  obtain ⟨m, hm⟩ : ∃ m, v.t.size + u.t.size = m := ⟨_, rfl⟩
  have hwr : IntKind.i64.wrap ((v.t.size : Int) + (u.t.size : Int)) = (m : Int) := by rw [IntWalk.i64_in _ (by omega)]; omega
  have HM := Lib.hid hm
  clear h hh hk k1 k2 ht hc hx hp hU hl hm hv hu
  have t0 := HT.out.c0; have t1 := HT.out.c1; have t2 := HT.out.c2; have t3 := HT.out.c3; have t4 := HT.out.c4; have t5 := HT.out.c5; have t6 := HT.out.c6; have t7 := HT.out.c7; have t8 := HT.out.c8
  have c0 := HC.out.c0; have c1 := HC.out.c1; have c2 := HC.out.c2; have c3 := HC.out.c3; have c4 := HC.out.c4
  have u0 := HU.out.c0; have u1 := HU.out.c1; have u2 := HU.out.c2
  go_enter Tryd.func4, Tryd.ntmps4
  go_wp2_with fail
  rw [HUU.out]
  go_wp2_with fail
  go_at_call 7
  refine (AL.out _ HH.out).mono ?_
  rintro e w1 ⟨rfl, hk1⟩
  replace HK := Lib.hid (HK.out.trans hk1); replace HT := Lib.hid (HT.out.kept hk1); replace HC := Lib.hid (HC.out.kept hk1); replace HU := Lib.hid (HU.out.kept hk1); replace HH := Lib.hid (HH.out.kept hk1)
  clear t0 t1 t2 t3 t4 t5 t6 t7 t8 c0 c1 c2 c3 c4 u0 u1 u2
  clear hk1
  have t0 := HT.out.c0; have t1 := HT.out.c1; have t2 := HT.out.c2; have t3 := HT.out.c3; have t4 := HT.out.c4; have t5 := HT.out.c5; have t6 := HT.out.c6; have t7 := HT.out.c7; have t8 := HT.out.c8
  have c0 := HC.out.c0; have c1 := HC.out.c1; have c2 := HC.out.c2; have c3 := HC.out.c3; have c4 := HC.out.c4
  have u0 := HU.out.c0; have u1 := HU.out.c1; have u2 := HU.out.c2
  cases l with
  | true =>
    go_wp2_with fail
    go_at_call 8
    refine (hawake_any _).mono ?_
    rintro e w9 ⟨rfl, hk9⟩
    have HF := Lib.hid (HK.out.trans hk9)
    clear hk9
    go_wp2_with fail
    go_ret
    exact ⟨rfl, HF.out⟩
  | false =>
    have HS := Lib.hid (show ShortT T from Classical.not_not.1 fun k => by have := HL.out.2 k; cases this)
    by_cases h1 : 600 < m
    · have f1 : decide ((600 : Int) < (m : Int)) = true := decide_eq_true (by omega)
      have f2 : decide (600 < m) = true := decide_eq_true h1
      clear h1
      go_wp2_with fail
      go_at_call 8
      refine (hawake_any _).mono ?_
      rintro e w9 ⟨rfl, hk9⟩
      have HF := Lib.hid (HK.out.trans hk9)
      clear hk9
      go_wp2_with fail
      go_ret
      exact ⟨rfl, HF.out⟩
    · have f1 : decide ((600 : Int) < (m : Int)) = false := decide_eq_false (by omega)
      have f2 : decide (600 < m) = false := decide_eq_false h1
      have HZV := Lib.hid (show v.t.size ≤ 600 by have := HM.out; omega); have HZU := Lib.hid (show u.t.size ≤ 600 by have := HM.out; omega)
      clear h1
      obtain ⟨z, hz⟩ := bool_of (RightT T a b)
      have AZ := Lib.hid (fun w h => htright_any A n c T a b w h HS.out.szT z hz)
      have HZ := Lib.hid hz
      clear hz
      go_wp2_with fail
      go_at_call 18
      refine (AZ.out _ HH.out).mono ?_
      rintro e w2 ⟨rfl, hk2⟩
      replace HK := Lib.hid (HK.out.trans hk2); replace HT := Lib.hid (HT.out.kept hk2); replace HC := Lib.hid (HC.out.kept hk2); replace HU := Lib.hid (HU.out.kept hk2); replace HH := Lib.hid (HH.out.kept hk2)
      clear t0 t1 t2 t3 t4 t5 t6 t7 t8 c0 c1 c2 c3 c4 u0 u1 u2
      clear hk2 f1 f2 hwr
      have t0 := HT.out.c0; have t1 := HT.out.c1; have t2 := HT.out.c2; have t3 := HT.out.c3; have t4 := HT.out.c4; have t5 := HT.out.c5; have t6 := HT.out.c6; have t7 := HT.out.c7; have t8 := HT.out.c8
      have c0 := HC.out.c0; have c1 := HC.out.c1; have c2 := HC.out.c2; have c3 := HC.out.c3; have c4 := HC.out.c4
      have u0 := HU.out.c0; have u1 := HU.out.c1; have u2 := HU.out.c2
      cases z with
      | false =>
        go_wp2_with fail
        go_at_call 8
        refine (hawake_any _).mono ?_
        rintro e w9 ⟨rfl, hk9⟩
        have HF := Lib.hid (HK.out.trans hk9)
        clear hk9
        go_wp2_with fail
        go_ret
        exact ⟨rfl, HF.out⟩
      | true =>
        have HSP := Lib.hid (show RightT T a b by simpa using HZ.out)
        obtain ⟨q1, hq1⟩ : ∃ q, rightVa v = q := ⟨_, rfl⟩
        obtain ⟨q2, hq2⟩ : ∃ q, rightVa u = q := ⟨_, rfl⟩
        have A1 := Lib.hid (fun w => vrightK v q1 hq1 (by have := HZV.out; omega) w)
        have A2 := Lib.hid (fun w => vrightK u q2 hq2 (by have := HZU.out; omega) w)
        have HQ1 := Lib.hid hq1; have HQ2 := Lib.hid hq2
        clear hq1 hq2
        go_wp2_with fail
        go_at_call 25
        refine (A1.out _).mono ?_
        rintro e w3 ⟨rfl, hk3⟩
        replace HK := Lib.hid (HK.out.trans hk3); replace HT := Lib.hid (HT.out.kept hk3); replace HC := Lib.hid (HC.out.kept hk3); replace HU := Lib.hid (HU.out.kept hk3); replace HH := Lib.hid (HH.out.kept hk3)
        clear t0 t1 t2 t3 t4 t5 t6 t7 t8 c0 c1 c2 c3 c4 u0 u1 u2
        clear hk3
        have t0 := HT.out.c0; have t1 := HT.out.c1; have t2 := HT.out.c2; have t3 := HT.out.c3; have t4 := HT.out.c4; have t5 := HT.out.c5; have t6 := HT.out.c6; have t7 := HT.out.c7; have t8 := HT.out.c8
        have c0 := HC.out.c0; have c1 := HC.out.c1; have c2 := HC.out.c2; have c3 := HC.out.c3; have c4 := HC.out.c4
        have u0 := HU.out.c0; have u1 := HU.out.c1; have u2 := HU.out.c2
        cases q1 with
        | false =>
          go_wp2_with fail
          go_at_call 8
          refine (hawake_any _).mono ?_
          rintro e w9 ⟨rfl, hk9⟩
          have HF := Lib.hid (HK.out.trans hk9)
          clear hk9
          go_wp2_with fail
          go_ret
          exact ⟨rfl, HF.out⟩
        | true =>
          go_wp2_with fail
          go_at_call 25
          refine (A2.out _).mono ?_
          rintro e w4 ⟨rfl, hk4⟩
          replace HK := Lib.hid (HK.out.trans hk4); replace HT := Lib.hid (HT.out.kept hk4); replace HC := Lib.hid (HC.out.kept hk4); replace HU := Lib.hid (HU.out.kept hk4); replace HH := Lib.hid (HH.out.kept hk4)
          clear t0 t1 t2 t3 t4 t5 t6 t7 t8 c0 c1 c2 c3 c4 u0 u1 u2
          clear hk4
          have t0 := HT.out.c0; have t1 := HT.out.c1; have t2 := HT.out.c2; have t3 := HT.out.c3; have t4 := HT.out.c4; have t5 := HT.out.c5; have t6 := HT.out.c6; have t7 := HT.out.c7; have t8 := HT.out.c8
          have c0 := HC.out.c0; have c1 := HC.out.c1; have c2 := HC.out.c2; have c3 := HC.out.c3; have c4 := HC.out.c4
          have u0 := HU.out.c0; have u1 := HU.out.c1; have u2 := HU.out.c2
          cases q2 with
          | false =>
            go_wp2_with fail
            go_at_call 8
            refine (hawake_any _).mono ?_
            rintro e w9 ⟨rfl, hk9⟩
            have HF := Lib.hid (HK.out.trans hk9)
            clear hk9
            go_wp2_with fail
            go_ret
            exact ⟨rfl, HF.out⟩
          | true =>
            by_cases q3 : v.k = a
            · by_cases q4 : u.k = b
              · have HVA := Lib.hid q3; have HUB := Lib.hid q4
                have q31 : (v.k == a) = true := by rw [q3]; simp
                have q32 : (v.k != a) = false := by rw [q3]; simp
                have q33 : decide (v.k = a) = true := decide_eq_true q3
                have q41 : (u.k == b) = true := by rw [q4]; simp
                have q42 : (u.k != b) = false := by rw [q4]; simp
                have q43 : decide (u.k = b) = true := decide_eq_true q4
                clear q3 q4
                obtain ⟨x1, hx1⟩ : ∃ x, applyT T v = x := ⟨_, rfl⟩
                obtain ⟨y1, hy1⟩ : ∃ y, wayT T u = y := ⟨_, rfl⟩
                obtain ⟨z1, hz1⟩ : ∃ y, wayT T x1 = y := ⟨_, rfl⟩
                obtain ⟨z2, hz2⟩ : ∃ y, applyT T y1 = y := ⟨_, rfl⟩
                have hr1 := HSP.out.apply HQ1.out HVA.out
                have hr2 := HSP.out.way HQ2.out HUB.out
                rw [hx1] at hr1
                rw [hy1] at hr2
                have hr3 := (HSP.out.way hr1.1 hr1.2).1
                have hr4 := (HSP.out.apply hr2.1 hr2.2).1
                rw [hz1] at hr3
                rw [hz2] at hr4
                have g1 : applyT T z1 = x1 := by rw [← hz1, ← hx1]; exact HSP.out.thrice v
                have g2 : wayT T z2 = y1 := by rw [← hz2, ← hy1]; exact HSP.out.back3 u
                have g3 : applyT (turnT T) u = y1 := by rw [(apply_turn T u).1]; exact hy1
                have k1 : (x1.k == b) = true := by rw [hr1.2]; simp
                have k2 : (y1.k == a) = true := by rw [hr2.2]; simp
                have B1 := Lib.hid (fun w h => htapply_any A n c T v x1 hx1 (by have := HZV.out; omega) w h HS.out.szT)
                have B2 := Lib.hid (fun w h => htway_any A n c T u y1 hy1 (by have := HZU.out; omega) w h HS.out.szT)
                have D1 := Lib.hid (fun w => vrightK x1 true hr1.1 (by have := right_size hr1.1; omega) w)
                have D2 := Lib.hid (fun w => vrightK y1 true hr2.1 (by have := right_size hr2.1; omega) w)
                have B3 := Lib.hid (fun w h => htway_any A n c T x1 z1 hz1 (by have := right_size hr1.1; omega) w h HS.out.szT)
                have B4 := Lib.hid (fun w h => htapply_any A n c T z1 x1 g1 (by have := right_size hr3; omega) w h HS.out.szT)
                have B5 := Lib.hid (fun w h => htapply_any A n c T y1 z2 hz2 (by have := right_size hr2.1; omega) w h HS.out.szT)
                have B6 := Lib.hid (fun w h => htway_any A n c T z2 y1 g2 (by have := right_size hr4; omega) w h HS.out.szT)
                have B7 := Lib.hid (fun w h => htturn_any A n c T w h HS.out.szT)
                have B8 := Lib.hid (fun A c w h => htapply_any A n c (turnT T) u y1 g3 (by have := HZU.out; omega) w h HS.out.szT.turn)
                have B9 := Lib.hid (fun A c w h => htright_any A n c (turnT T) b a w h HS.out.szT.turn true (by simp [HSP.out.turn]))
                have BA := Lib.hid (fun A c w h => hturn_back A n c T w h HS.out.szT)
                have BB := Lib.hid (fun A' c' w h h' => htsame_any A' n c' T A n c T w h h' true (by simp))
                have HK1 := Lib.hid k1; have HK2 := Lib.hid k2
                clear hx1 hy1 hz1 hz2 hr1 hr2 hr3 hr4 g1 g2 g3 k1 k2
                go_wp2_with fail
                clear q31 q32 q33 q41 q42 q43
                clear t0 t1 t2 t3 t4 t5 t6 t7 t8 c0 c1 c2 c3 c4 u0 u1 u2
                obtain ⟨V, hV⟩ : ∃ V, w4 = V := ⟨_, rfl⟩
                rw [hV] at HK HT HC HU HH ⊢
                clear hV
                have t0 := KExt.cell HT.out.c0; have t1 := KExt.cell HT.out.c1; have t2 := KExt.cell HT.out.c2; have t3 := KExt.cell HT.out.c3; have t4 := KExt.cell HT.out.c4; have t5 := KExt.cell HT.out.c5; have t6 := KExt.cell HT.out.c6; have t7 := KExt.cell HT.out.c7; have t8 := KExt.cell HT.out.c8
                have c0 := KExt.cell HC.out.c0; have c1 := KExt.cell HC.out.c1; have c2 := KExt.cell HC.out.c2; have c3 := KExt.cell HC.out.c3; have c4 := KExt.cell HC.out.c4
                have u0 := KExt.cell HU.out.c0; have u1 := KExt.cell HU.out.c1; have u2 := KExt.cell HU.out.c2
                go_cut [7, 8] (fun p q wx => TwoV V x1 y1 p q wx)
                case first =>
                  refine region_plan V 11 (.read [0, 1, 2, 4, 5] (.three 3 (.three 6 (.two 7 (.one 8 (.one 9 (.one 10 .stop))) 8 (.one 7 (.one 9 (.one 10 .stop)))) 7 (.two 6 (.one 8 (.one 9 (.one 10 .stop))) 8 (.one 6 (.one 9 (.one 10 .stop)))) 8 (.two 6 (.one 7 (.one 9 (.one 10 .stop))) 7 (.one 6 (.one 9 (.one 10 .stop))))) 7 (.two 3 (.two 6 (.one 8 (.one 9 (.one 10 .stop))) 8 (.one 6 (.one 9 (.one 10 .stop)))) 8 (.one 3 (.one 6 (.one 9 (.one 10 .stop))))) 8 (.two 3 (.two 6 (.one 7 (.one 9 (.one 10 .stop))) 7 (.one 6 (.one 9 (.one 10 .stop)))) 7 (.one 3 (.one 6 (.one 9 (.one 10 .stop))))))) (by kernel_rfl) (by kernel_rfl) (by kernel_rfl) (by kernel_rfl) (by kernel_rfl) (fun _ d _ _ _ h => by cases d <;> exact h) (Kept.refl _) ?_
                  intro wd hwd
                  have HV := Lib.hid hwd
                  clear hwd
                  rw [wpPlan_read]
                  simp only [pickOps_cons, pickOps_nil, consO_some, List.getElem?_cons_zero, List.getElem?_cons_succ]
                  repeat (go_big_quiet_step (fail))
                  refine wpQuiet_nil ?_
                  clear t0 t1 t2 t3 t4 t5 t6 t7 t8 c0 c1 c2 c3 c4 u0 u1 u2
                  rw [wpPlan_three]
                  simp only [pickOps_cons, pickOps_nil, consO_some, List.getElem?_cons_zero, List.getElem?_cons_succ]
                  refine ⟨?_, ?_, ?_⟩
                  · go_wp2_with (go_at_call 12; refine (B1.out _ (HH.out.kept HV.out)).mono ?_; rintro e u1 ⟨rfl, hkz⟩)
                    replace HV := Lib.hid (HV.out.trans hkz)
                    clear hkz
                    refine soloP HV.out ?_
                    rw [wpPlan_three]
                    simp only [pickOps_cons, pickOps_nil, consO_some, List.getElem?_cons_zero, List.getElem?_cons_succ]
                    refine ⟨?_, ?_, ?_⟩
                    · go_wp2_with (go_at_call 14; refine (B2.out _ (HH.out.kept HV.out)).mono ?_; rintro e u2 ⟨rfl, hkz⟩)
                      replace HV := Lib.hid (HV.out.trans hkz)
                      clear hkz
                      refine soloP HV.out ?_
                      rw [wpPlan_two]
                      simp only [pickOps_cons, pickOps_nil, consO_some, List.getElem?_cons_zero, List.getElem?_cons_succ]
                      constructor
                      · go_wp2_with fail
                        have hkz := (Kept.refl u2).alloc #[.int .i64 0, .int .i64 0, .string ⟨#[]⟩] 24
                        have hzz := VaO.new u2 .zero 24
                        simp only [Va.zero] at hzz
                        have HLC := Lib.hid HV.out.2.2
                        replace HV := Lib.hid (HV.out.trans hkz)
                        obtain ⟨bC, hbz⟩ : ∃ b, (World.heap u2).size = b := ⟨_, rfl⟩
                        obtain ⟨u3, hwz⟩ : ∃ u, World.alloc u2 (.cells #[.int .i64 0, .int .i64 0, .string ⟨#[]⟩] 24) = u := ⟨_, rfl⟩
                        have HBC := Lib.hid (show VaO _ _ .zero from hzz)
                        clear hzz
                        rw [hwz] at HV HBC ⊢
                        rw [hbz] at HBC HLC ⊢
                        clear hkz hbz hwz
                        refine soloP HV.out ?_
                        rw [wpPlan_one]
                        simp only [pickOps_cons, pickOps_nil, consO_some, List.getElem?_cons_zero, List.getElem?_cons_succ]
                        go_wp2_with fail
                        have hkz := (Kept.refl u3).alloc #[.int .i64 0, .int .i64 0, .string ⟨#[]⟩] 24
                        have HNE := Lib.hid (show bC ≠ u3.heap.size from fun e => by have := HBC.out.lt; omega)
                        replace HBC := Lib.hid (HBC.out.kept hkz)
                        have hzz := VaO.new u3 .zero 24
                        simp only [Va.zero] at hzz
                        have HLD := Lib.hid HV.out.2.2
                        replace HV := Lib.hid (HV.out.trans hkz)
                        obtain ⟨bD, hbz⟩ : ∃ b, (World.heap u3).size = b := ⟨_, rfl⟩
                        obtain ⟨u4, hwz⟩ : ∃ u, World.alloc u3 (.cells #[.int .i64 0, .int .i64 0, .string ⟨#[]⟩] 24) = u := ⟨_, rfl⟩
                        have HBD := Lib.hid (show VaO _ _ .zero from hzz)
                        clear hzz
                        rw [hwz] at HV HBD HBC ⊢
                        rw [hbz] at HBD HLD HNE ⊢
                        clear hkz hbz hwz
                        refine soloP HV.out ?_
                        rw [wpPlan_one]
                        simp only [pickOps_cons, pickOps_nil, consO_some, List.getElem?_cons_zero, List.getElem?_cons_succ]
                        have hl := HLC.out
                        have e0 := HBC.out.c0; have e1 := HBC.out.c1; have e2 := HBC.out.c2; have ef := HBC.out.f
                        go_wp2_with fail
                        clear e0 e1 e2 ef
                        replace HBD := Lib.hid (HBD.out.far bC HNE.out x1)
                        replace HBC := Lib.hid (HBC.out.set x1)
                        replace HV := Lib.hid (((HV.out.setCell (a := ⟨bC, 0, none⟩) hl (.int .i64 x1.k)).setCell (a := ⟨bC, 1, none⟩) hl (.int .i64 x1.n)).setCell (a := ⟨bC, 2, none⟩) hl (.string x1.t))
                        obtain ⟨u5, hwz⟩ : ∃ u, ((World.setCell u4 ⟨bC, 0, none⟩ (.int .i64 x1.k)).setCell ⟨bC, 1, none⟩ (.int .i64 x1.n)).setCell ⟨bC, 2, none⟩ (.string x1.t) = u := ⟨_, rfl⟩
                        rw [hwz] at HV HBC HBD ⊢
                        clear hl hwz
                        refine soloP HV.out ?_
                        rw [wpPlan_one]
                        simp only [pickOps_cons, pickOps_nil, consO_some, List.getElem?_cons_zero, List.getElem?_cons_succ]
                        have hl := HLD.out
                        have e0 := HBD.out.c0; have e1 := HBD.out.c1; have e2 := HBD.out.c2; have ef := HBD.out.f
                        go_wp2_with fail
                        clear e0 e1 e2 ef
                        replace HBC := Lib.hid (HBC.out.far bD HNE.out.symm y1)
                        replace HBD := Lib.hid (HBD.out.set y1)
                        replace HV := Lib.hid (((HV.out.setCell (a := ⟨bD, 0, none⟩) hl (.int .i64 y1.k)).setCell (a := ⟨bD, 1, none⟩) hl (.int .i64 y1.n)).setCell (a := ⟨bD, 2, none⟩) hl (.string y1.t))
                        obtain ⟨u6, hwz⟩ : ∃ u, ((World.setCell u5 ⟨bD, 0, none⟩ (.int .i64 y1.k)).setCell ⟨bD, 1, none⟩ (.int .i64 y1.n)).setCell ⟨bD, 2, none⟩ (.string y1.t) = u := ⟨_, rfl⟩
                        rw [hwz] at HV HBC HBD ⊢
                        clear hl hwz
                        refine soloP HV.out ?_
                        have HF := Lib.hid (show TwoV V x1 y1 (.pointer (some ⟨bC, 0, none⟩)) (.pointer (some ⟨bD, 0, none⟩)) u6 from ⟨bC, bD, rfl, rfl, HV.out, HBC.out, HBD.out⟩)
                        refine wpPlan_stop ?_
                        go_wp2_with fail
                        go_meet
                        exact HF.out
                      · go_wp2_with fail
                        have hkz := (Kept.refl u2).alloc #[.int .i64 0, .int .i64 0, .string ⟨#[]⟩] 24
                        have hzz := VaO.new u2 .zero 24
                        simp only [Va.zero] at hzz
                        have HLD := Lib.hid HV.out.2.2
                        replace HV := Lib.hid (HV.out.trans hkz)
                        obtain ⟨bD, hbz⟩ : ∃ b, (World.heap u2).size = b := ⟨_, rfl⟩
                        obtain ⟨u3, hwz⟩ : ∃ u, World.alloc u2 (.cells #[.int .i64 0, .int .i64 0, .string ⟨#[]⟩] 24) = u := ⟨_, rfl⟩
                        have HBD := Lib.hid (show VaO _ _ .zero from hzz)
                        clear hzz
                        rw [hwz] at HV HBD ⊢
                        rw [hbz] at HBD HLD ⊢
                        clear hkz hbz hwz
                        refine soloP HV.out ?_
                        rw [wpPlan_one]
                        simp only [pickOps_cons, pickOps_nil, consO_some, List.getElem?_cons_zero, List.getElem?_cons_succ]
                        go_wp2_with fail
                        have hkz := (Kept.refl u3).alloc #[.int .i64 0, .int .i64 0, .string ⟨#[]⟩] 24
                        have HNE := Lib.hid (show bD ≠ u3.heap.size from fun e => by have := HBD.out.lt; omega)
                        replace HBD := Lib.hid (HBD.out.kept hkz)
                        have hzz := VaO.new u3 .zero 24
                        simp only [Va.zero] at hzz
                        have HLC := Lib.hid HV.out.2.2
                        replace HV := Lib.hid (HV.out.trans hkz)
                        obtain ⟨bC, hbz⟩ : ∃ b, (World.heap u3).size = b := ⟨_, rfl⟩
                        obtain ⟨u4, hwz⟩ : ∃ u, World.alloc u3 (.cells #[.int .i64 0, .int .i64 0, .string ⟨#[]⟩] 24) = u := ⟨_, rfl⟩
                        have HBC := Lib.hid (show VaO _ _ .zero from hzz)
                        clear hzz
                        rw [hwz] at HV HBC HBD ⊢
                        rw [hbz] at HBC HLC HNE ⊢
                        clear hkz hbz hwz
                        refine soloP HV.out ?_
                        rw [wpPlan_one]
                        simp only [pickOps_cons, pickOps_nil, consO_some, List.getElem?_cons_zero, List.getElem?_cons_succ]
                        have hl := HLC.out
                        have e0 := HBC.out.c0; have e1 := HBC.out.c1; have e2 := HBC.out.c2; have ef := HBC.out.f
                        go_wp2_with fail
                        clear e0 e1 e2 ef
                        replace HBD := Lib.hid (HBD.out.far bC HNE.out.symm x1)
                        replace HBC := Lib.hid (HBC.out.set x1)
                        replace HV := Lib.hid (((HV.out.setCell (a := ⟨bC, 0, none⟩) hl (.int .i64 x1.k)).setCell (a := ⟨bC, 1, none⟩) hl (.int .i64 x1.n)).setCell (a := ⟨bC, 2, none⟩) hl (.string x1.t))
                        obtain ⟨u5, hwz⟩ : ∃ u, ((World.setCell u4 ⟨bC, 0, none⟩ (.int .i64 x1.k)).setCell ⟨bC, 1, none⟩ (.int .i64 x1.n)).setCell ⟨bC, 2, none⟩ (.string x1.t) = u := ⟨_, rfl⟩
                        rw [hwz] at HV HBC HBD ⊢
                        clear hl hwz
                        refine soloP HV.out ?_
                        rw [wpPlan_one]
                        simp only [pickOps_cons, pickOps_nil, consO_some, List.getElem?_cons_zero, List.getElem?_cons_succ]
                        have hl := HLD.out
                        have e0 := HBD.out.c0; have e1 := HBD.out.c1; have e2 := HBD.out.c2; have ef := HBD.out.f
                        go_wp2_with fail
                        clear e0 e1 e2 ef
                        replace HBC := Lib.hid (HBC.out.far bD HNE.out y1)
                        replace HBD := Lib.hid (HBD.out.set y1)
                        replace HV := Lib.hid (((HV.out.setCell (a := ⟨bD, 0, none⟩) hl (.int .i64 y1.k)).setCell (a := ⟨bD, 1, none⟩) hl (.int .i64 y1.n)).setCell (a := ⟨bD, 2, none⟩) hl (.string y1.t))
                        obtain ⟨u6, hwz⟩ : ∃ u, ((World.setCell u5 ⟨bD, 0, none⟩ (.int .i64 y1.k)).setCell ⟨bD, 1, none⟩ (.int .i64 y1.n)).setCell ⟨bD, 2, none⟩ (.string y1.t) = u := ⟨_, rfl⟩
                        rw [hwz] at HV HBC HBD ⊢
                        clear hl hwz
                        refine soloP HV.out ?_
                        have HF := Lib.hid (show TwoV V x1 y1 (.pointer (some ⟨bC, 0, none⟩)) (.pointer (some ⟨bD, 0, none⟩)) u6 from ⟨bC, bD, rfl, rfl, HV.out, HBC.out, HBD.out⟩)
                        refine wpPlan_stop ?_
                        go_wp2_with fail
                        go_meet
                        exact HF.out
                    · go_wp2_with fail
                      have hkz := (Kept.refl u1).alloc #[.int .i64 0, .int .i64 0, .string ⟨#[]⟩] 24
                      have hzz := VaO.new u1 .zero 24
                      simp only [Va.zero] at hzz
                      have HLC := Lib.hid HV.out.2.2
                      replace HV := Lib.hid (HV.out.trans hkz)
                      obtain ⟨bC, hbz⟩ : ∃ b, (World.heap u1).size = b := ⟨_, rfl⟩
                      obtain ⟨u2, hwz⟩ : ∃ u, World.alloc u1 (.cells #[.int .i64 0, .int .i64 0, .string ⟨#[]⟩] 24) = u := ⟨_, rfl⟩
                      have HBC := Lib.hid (show VaO _ _ .zero from hzz)
                      clear hzz
                      rw [hwz] at HV HBC ⊢
                      rw [hbz] at HBC HLC ⊢
                      clear hkz hbz hwz
                      refine soloP HV.out ?_
                      rw [wpPlan_two]
                      simp only [pickOps_cons, pickOps_nil, consO_some, List.getElem?_cons_zero, List.getElem?_cons_succ]
                      constructor
                      · go_wp2_with (go_at_call 14; refine (B2.out _ (HH.out.kept HV.out)).mono ?_; rintro e u3 ⟨rfl, hkz⟩)
                        replace HBC := Lib.hid (HBC.out.kept hkz)
                        replace HV := Lib.hid (HV.out.trans hkz)
                        clear hkz
                        refine soloP HV.out ?_
                        rw [wpPlan_one]
                        simp only [pickOps_cons, pickOps_nil, consO_some, List.getElem?_cons_zero, List.getElem?_cons_succ]
                        go_wp2_with fail
                        have hkz := (Kept.refl u3).alloc #[.int .i64 0, .int .i64 0, .string ⟨#[]⟩] 24
                        have HNE := Lib.hid (show bC ≠ u3.heap.size from fun e => by have := HBC.out.lt; omega)
                        replace HBC := Lib.hid (HBC.out.kept hkz)
                        have hzz := VaO.new u3 .zero 24
                        simp only [Va.zero] at hzz
                        have HLD := Lib.hid HV.out.2.2
                        replace HV := Lib.hid (HV.out.trans hkz)
                        obtain ⟨bD, hbz⟩ : ∃ b, (World.heap u3).size = b := ⟨_, rfl⟩
                        obtain ⟨u4, hwz⟩ : ∃ u, World.alloc u3 (.cells #[.int .i64 0, .int .i64 0, .string ⟨#[]⟩] 24) = u := ⟨_, rfl⟩
                        have HBD := Lib.hid (show VaO _ _ .zero from hzz)
                        clear hzz
                        rw [hwz] at HV HBD HBC ⊢
                        rw [hbz] at HBD HLD HNE ⊢
                        clear hkz hbz hwz
                        refine soloP HV.out ?_
                        rw [wpPlan_one]
                        simp only [pickOps_cons, pickOps_nil, consO_some, List.getElem?_cons_zero, List.getElem?_cons_succ]
                        have hl := HLC.out
                        have e0 := HBC.out.c0; have e1 := HBC.out.c1; have e2 := HBC.out.c2; have ef := HBC.out.f
                        go_wp2_with fail
                        clear e0 e1 e2 ef
                        replace HBD := Lib.hid (HBD.out.far bC HNE.out x1)
                        replace HBC := Lib.hid (HBC.out.set x1)
                        replace HV := Lib.hid (((HV.out.setCell (a := ⟨bC, 0, none⟩) hl (.int .i64 x1.k)).setCell (a := ⟨bC, 1, none⟩) hl (.int .i64 x1.n)).setCell (a := ⟨bC, 2, none⟩) hl (.string x1.t))
                        obtain ⟨u5, hwz⟩ : ∃ u, ((World.setCell u4 ⟨bC, 0, none⟩ (.int .i64 x1.k)).setCell ⟨bC, 1, none⟩ (.int .i64 x1.n)).setCell ⟨bC, 2, none⟩ (.string x1.t) = u := ⟨_, rfl⟩
                        rw [hwz] at HV HBC HBD ⊢
                        clear hl hwz
                        refine soloP HV.out ?_
                        rw [wpPlan_one]
                        simp only [pickOps_cons, pickOps_nil, consO_some, List.getElem?_cons_zero, List.getElem?_cons_succ]
                        have hl := HLD.out
                        have e0 := HBD.out.c0; have e1 := HBD.out.c1; have e2 := HBD.out.c2; have ef := HBD.out.f
                        go_wp2_with fail
                        clear e0 e1 e2 ef
                        replace HBC := Lib.hid (HBC.out.far bD HNE.out.symm y1)
                        replace HBD := Lib.hid (HBD.out.set y1)
                        replace HV := Lib.hid (((HV.out.setCell (a := ⟨bD, 0, none⟩) hl (.int .i64 y1.k)).setCell (a := ⟨bD, 1, none⟩) hl (.int .i64 y1.n)).setCell (a := ⟨bD, 2, none⟩) hl (.string y1.t))
                        obtain ⟨u6, hwz⟩ : ∃ u, ((World.setCell u5 ⟨bD, 0, none⟩ (.int .i64 y1.k)).setCell ⟨bD, 1, none⟩ (.int .i64 y1.n)).setCell ⟨bD, 2, none⟩ (.string y1.t) = u := ⟨_, rfl⟩
                        rw [hwz] at HV HBC HBD ⊢
                        clear hl hwz
                        refine soloP HV.out ?_
                        have HF := Lib.hid (show TwoV V x1 y1 (.pointer (some ⟨bC, 0, none⟩)) (.pointer (some ⟨bD, 0, none⟩)) u6 from ⟨bC, bD, rfl, rfl, HV.out, HBC.out, HBD.out⟩)
                        refine wpPlan_stop ?_
                        go_wp2_with fail
                        go_meet
                        exact HF.out
                      · go_wp2_with fail
                        have hkz := (Kept.refl u2).alloc #[.int .i64 0, .int .i64 0, .string ⟨#[]⟩] 24
                        have HNE := Lib.hid (show bC ≠ u2.heap.size from fun e => by have := HBC.out.lt; omega)
                        replace HBC := Lib.hid (HBC.out.kept hkz)
                        have hzz := VaO.new u2 .zero 24
                        simp only [Va.zero] at hzz
                        have HLD := Lib.hid HV.out.2.2
                        replace HV := Lib.hid (HV.out.trans hkz)
                        obtain ⟨bD, hbz⟩ : ∃ b, (World.heap u2).size = b := ⟨_, rfl⟩
                        obtain ⟨u3, hwz⟩ : ∃ u, World.alloc u2 (.cells #[.int .i64 0, .int .i64 0, .string ⟨#[]⟩] 24) = u := ⟨_, rfl⟩
                        have HBD := Lib.hid (show VaO _ _ .zero from hzz)
                        clear hzz
                        rw [hwz] at HV HBD HBC ⊢
                        rw [hbz] at HBD HLD HNE ⊢
                        clear hkz hbz hwz
                        refine soloP HV.out ?_
                        rw [wpPlan_one]
                        simp only [pickOps_cons, pickOps_nil, consO_some, List.getElem?_cons_zero, List.getElem?_cons_succ]
                        go_wp2_with (go_at_call 14; refine (B2.out _ (HH.out.kept HV.out)).mono ?_; rintro e u4 ⟨rfl, hkz⟩)
                        replace HBC := Lib.hid (HBC.out.kept hkz)
                        replace HBD := Lib.hid (HBD.out.kept hkz)
                        replace HV := Lib.hid (HV.out.trans hkz)
                        clear hkz
                        refine soloP HV.out ?_
                        rw [wpPlan_one]
                        simp only [pickOps_cons, pickOps_nil, consO_some, List.getElem?_cons_zero, List.getElem?_cons_succ]
                        have hl := HLC.out
                        have e0 := HBC.out.c0; have e1 := HBC.out.c1; have e2 := HBC.out.c2; have ef := HBC.out.f
                        go_wp2_with fail
                        clear e0 e1 e2 ef
                        replace HBD := Lib.hid (HBD.out.far bC HNE.out x1)
                        replace HBC := Lib.hid (HBC.out.set x1)
                        replace HV := Lib.hid (((HV.out.setCell (a := ⟨bC, 0, none⟩) hl (.int .i64 x1.k)).setCell (a := ⟨bC, 1, none⟩) hl (.int .i64 x1.n)).setCell (a := ⟨bC, 2, none⟩) hl (.string x1.t))
                        obtain ⟨u5, hwz⟩ : ∃ u, ((World.setCell u4 ⟨bC, 0, none⟩ (.int .i64 x1.k)).setCell ⟨bC, 1, none⟩ (.int .i64 x1.n)).setCell ⟨bC, 2, none⟩ (.string x1.t) = u := ⟨_, rfl⟩
                        rw [hwz] at HV HBC HBD ⊢
                        clear hl hwz
                        refine soloP HV.out ?_
                        rw [wpPlan_one]
                        simp only [pickOps_cons, pickOps_nil, consO_some, List.getElem?_cons_zero, List.getElem?_cons_succ]
                        have hl := HLD.out
                        have e0 := HBD.out.c0; have e1 := HBD.out.c1; have e2 := HBD.out.c2; have ef := HBD.out.f
                        go_wp2_with fail
                        clear e0 e1 e2 ef
                        replace HBC := Lib.hid (HBC.out.far bD HNE.out.symm y1)
                        replace HBD := Lib.hid (HBD.out.set y1)
                        replace HV := Lib.hid (((HV.out.setCell (a := ⟨bD, 0, none⟩) hl (.int .i64 y1.k)).setCell (a := ⟨bD, 1, none⟩) hl (.int .i64 y1.n)).setCell (a := ⟨bD, 2, none⟩) hl (.string y1.t))
                        obtain ⟨u6, hwz⟩ : ∃ u, ((World.setCell u5 ⟨bD, 0, none⟩ (.int .i64 y1.k)).setCell ⟨bD, 1, none⟩ (.int .i64 y1.n)).setCell ⟨bD, 2, none⟩ (.string y1.t) = u := ⟨_, rfl⟩
                        rw [hwz] at HV HBC HBD ⊢
                        clear hl hwz
                        refine soloP HV.out ?_
                        have HF := Lib.hid (show TwoV V x1 y1 (.pointer (some ⟨bC, 0, none⟩)) (.pointer (some ⟨bD, 0, none⟩)) u6 from ⟨bC, bD, rfl, rfl, HV.out, HBC.out, HBD.out⟩)
                        refine wpPlan_stop ?_
                        go_wp2_with fail
                        go_meet
                        exact HF.out
                    · go_wp2_with fail
                      have hkz := (Kept.refl u1).alloc #[.int .i64 0, .int .i64 0, .string ⟨#[]⟩] 24
                      have hzz := VaO.new u1 .zero 24
                      simp only [Va.zero] at hzz
                      have HLD := Lib.hid HV.out.2.2
                      replace HV := Lib.hid (HV.out.trans hkz)
                      obtain ⟨bD, hbz⟩ : ∃ b, (World.heap u1).size = b := ⟨_, rfl⟩
                      obtain ⟨u2, hwz⟩ : ∃ u, World.alloc u1 (.cells #[.int .i64 0, .int .i64 0, .string ⟨#[]⟩] 24) = u := ⟨_, rfl⟩
                      have HBD := Lib.hid (show VaO _ _ .zero from hzz)
                      clear hzz
                      rw [hwz] at HV HBD ⊢
                      rw [hbz] at HBD HLD ⊢
                      clear hkz hbz hwz
                      refine soloP HV.out ?_
                      rw [wpPlan_two]
                      simp only [pickOps_cons, pickOps_nil, consO_some, List.getElem?_cons_zero, List.getElem?_cons_succ]
                      constructor
                      · go_wp2_with (go_at_call 14; refine (B2.out _ (HH.out.kept HV.out)).mono ?_; rintro e u3 ⟨rfl, hkz⟩)
                        replace HBD := Lib.hid (HBD.out.kept hkz)
                        replace HV := Lib.hid (HV.out.trans hkz)
                        clear hkz
                        refine soloP HV.out ?_
                        rw [wpPlan_one]
                        simp only [pickOps_cons, pickOps_nil, consO_some, List.getElem?_cons_zero, List.getElem?_cons_succ]
                        go_wp2_with fail
                        have hkz := (Kept.refl u3).alloc #[.int .i64 0, .int .i64 0, .string ⟨#[]⟩] 24
                        have HNE := Lib.hid (show bD ≠ u3.heap.size from fun e => by have := HBD.out.lt; omega)
                        replace HBD := Lib.hid (HBD.out.kept hkz)
                        have hzz := VaO.new u3 .zero 24
                        simp only [Va.zero] at hzz
                        have HLC := Lib.hid HV.out.2.2
                        replace HV := Lib.hid (HV.out.trans hkz)
                        obtain ⟨bC, hbz⟩ : ∃ b, (World.heap u3).size = b := ⟨_, rfl⟩
                        obtain ⟨u4, hwz⟩ : ∃ u, World.alloc u3 (.cells #[.int .i64 0, .int .i64 0, .string ⟨#[]⟩] 24) = u := ⟨_, rfl⟩
                        have HBC := Lib.hid (show VaO _ _ .zero from hzz)
                        clear hzz
                        rw [hwz] at HV HBC HBD ⊢
                        rw [hbz] at HBC HLC HNE ⊢
                        clear hkz hbz hwz
                        refine soloP HV.out ?_
                        rw [wpPlan_one]
                        simp only [pickOps_cons, pickOps_nil, consO_some, List.getElem?_cons_zero, List.getElem?_cons_succ]
                        have hl := HLC.out
                        have e0 := HBC.out.c0; have e1 := HBC.out.c1; have e2 := HBC.out.c2; have ef := HBC.out.f
                        go_wp2_with fail
                        clear e0 e1 e2 ef
                        replace HBD := Lib.hid (HBD.out.far bC HNE.out.symm x1)
                        replace HBC := Lib.hid (HBC.out.set x1)
                        replace HV := Lib.hid (((HV.out.setCell (a := ⟨bC, 0, none⟩) hl (.int .i64 x1.k)).setCell (a := ⟨bC, 1, none⟩) hl (.int .i64 x1.n)).setCell (a := ⟨bC, 2, none⟩) hl (.string x1.t))
                        obtain ⟨u5, hwz⟩ : ∃ u, ((World.setCell u4 ⟨bC, 0, none⟩ (.int .i64 x1.k)).setCell ⟨bC, 1, none⟩ (.int .i64 x1.n)).setCell ⟨bC, 2, none⟩ (.string x1.t) = u := ⟨_, rfl⟩
                        rw [hwz] at HV HBC HBD ⊢
                        clear hl hwz
                        refine soloP HV.out ?_
                        rw [wpPlan_one]
                        simp only [pickOps_cons, pickOps_nil, consO_some, List.getElem?_cons_zero, List.getElem?_cons_succ]
                        have hl := HLD.out
                        have e0 := HBD.out.c0; have e1 := HBD.out.c1; have e2 := HBD.out.c2; have ef := HBD.out.f
                        go_wp2_with fail
                        clear e0 e1 e2 ef
                        replace HBC := Lib.hid (HBC.out.far bD HNE.out y1)
                        replace HBD := Lib.hid (HBD.out.set y1)
                        replace HV := Lib.hid (((HV.out.setCell (a := ⟨bD, 0, none⟩) hl (.int .i64 y1.k)).setCell (a := ⟨bD, 1, none⟩) hl (.int .i64 y1.n)).setCell (a := ⟨bD, 2, none⟩) hl (.string y1.t))
                        obtain ⟨u6, hwz⟩ : ∃ u, ((World.setCell u5 ⟨bD, 0, none⟩ (.int .i64 y1.k)).setCell ⟨bD, 1, none⟩ (.int .i64 y1.n)).setCell ⟨bD, 2, none⟩ (.string y1.t) = u := ⟨_, rfl⟩
                        rw [hwz] at HV HBC HBD ⊢
                        clear hl hwz
                        refine soloP HV.out ?_
                        have HF := Lib.hid (show TwoV V x1 y1 (.pointer (some ⟨bC, 0, none⟩)) (.pointer (some ⟨bD, 0, none⟩)) u6 from ⟨bC, bD, rfl, rfl, HV.out, HBC.out, HBD.out⟩)
                        refine wpPlan_stop ?_
                        go_wp2_with fail
                        go_meet
                        exact HF.out
                      · go_wp2_with fail
                        have hkz := (Kept.refl u2).alloc #[.int .i64 0, .int .i64 0, .string ⟨#[]⟩] 24
                        have HNE := Lib.hid (show bD ≠ u2.heap.size from fun e => by have := HBD.out.lt; omega)
                        replace HBD := Lib.hid (HBD.out.kept hkz)
                        have hzz := VaO.new u2 .zero 24
                        simp only [Va.zero] at hzz
                        have HLC := Lib.hid HV.out.2.2
                        replace HV := Lib.hid (HV.out.trans hkz)
                        obtain ⟨bC, hbz⟩ : ∃ b, (World.heap u2).size = b := ⟨_, rfl⟩
                        obtain ⟨u3, hwz⟩ : ∃ u, World.alloc u2 (.cells #[.int .i64 0, .int .i64 0, .string ⟨#[]⟩] 24) = u := ⟨_, rfl⟩
                        have HBC := Lib.hid (show VaO _ _ .zero from hzz)
                        clear hzz
                        rw [hwz] at HV HBC HBD ⊢
                        rw [hbz] at HBC HLC HNE ⊢
                        clear hkz hbz hwz
                        refine soloP HV.out ?_
                        rw [wpPlan_one]
                        simp only [pickOps_cons, pickOps_nil, consO_some, List.getElem?_cons_zero, List.getElem?_cons_succ]
                        go_wp2_with (go_at_call 14; refine (B2.out _ (HH.out.kept HV.out)).mono ?_; rintro e u4 ⟨rfl, hkz⟩)
                        replace HBC := Lib.hid (HBC.out.kept hkz)
                        replace HBD := Lib.hid (HBD.out.kept hkz)
                        replace HV := Lib.hid (HV.out.trans hkz)
                        clear hkz
                        refine soloP HV.out ?_
                        rw [wpPlan_one]
                        simp only [pickOps_cons, pickOps_nil, consO_some, List.getElem?_cons_zero, List.getElem?_cons_succ]
                        have hl := HLC.out
                        have e0 := HBC.out.c0; have e1 := HBC.out.c1; have e2 := HBC.out.c2; have ef := HBC.out.f
                        go_wp2_with fail
                        clear e0 e1 e2 ef
                        replace HBD := Lib.hid (HBD.out.far bC HNE.out.symm x1)
                        replace HBC := Lib.hid (HBC.out.set x1)
                        replace HV := Lib.hid (((HV.out.setCell (a := ⟨bC, 0, none⟩) hl (.int .i64 x1.k)).setCell (a := ⟨bC, 1, none⟩) hl (.int .i64 x1.n)).setCell (a := ⟨bC, 2, none⟩) hl (.string x1.t))
                        obtain ⟨u5, hwz⟩ : ∃ u, ((World.setCell u4 ⟨bC, 0, none⟩ (.int .i64 x1.k)).setCell ⟨bC, 1, none⟩ (.int .i64 x1.n)).setCell ⟨bC, 2, none⟩ (.string x1.t) = u := ⟨_, rfl⟩
                        rw [hwz] at HV HBC HBD ⊢
                        clear hl hwz
                        refine soloP HV.out ?_
                        rw [wpPlan_one]
                        simp only [pickOps_cons, pickOps_nil, consO_some, List.getElem?_cons_zero, List.getElem?_cons_succ]
                        have hl := HLD.out
                        have e0 := HBD.out.c0; have e1 := HBD.out.c1; have e2 := HBD.out.c2; have ef := HBD.out.f
                        go_wp2_with fail
                        clear e0 e1 e2 ef
                        replace HBC := Lib.hid (HBC.out.far bD HNE.out y1)
                        replace HBD := Lib.hid (HBD.out.set y1)
                        replace HV := Lib.hid (((HV.out.setCell (a := ⟨bD, 0, none⟩) hl (.int .i64 y1.k)).setCell (a := ⟨bD, 1, none⟩) hl (.int .i64 y1.n)).setCell (a := ⟨bD, 2, none⟩) hl (.string y1.t))
                        obtain ⟨u6, hwz⟩ : ∃ u, ((World.setCell u5 ⟨bD, 0, none⟩ (.int .i64 y1.k)).setCell ⟨bD, 1, none⟩ (.int .i64 y1.n)).setCell ⟨bD, 2, none⟩ (.string y1.t) = u := ⟨_, rfl⟩
                        rw [hwz] at HV HBC HBD ⊢
                        clear hl hwz
                        refine soloP HV.out ?_
                        have HF := Lib.hid (show TwoV V x1 y1 (.pointer (some ⟨bC, 0, none⟩)) (.pointer (some ⟨bD, 0, none⟩)) u6 from ⟨bC, bD, rfl, rfl, HV.out, HBC.out, HBD.out⟩)
                        refine wpPlan_stop ?_
                        go_wp2_with fail
                        go_meet
                        exact HF.out
                  · go_wp2_with fail
                    have hkz := (Kept.refl wd).alloc #[.int .i64 0, .int .i64 0, .string ⟨#[]⟩] 24
                    have hzz := VaO.new wd .zero 24
                    simp only [Va.zero] at hzz
                    have HLC := Lib.hid HV.out.2.2
                    replace HV := Lib.hid (HV.out.trans hkz)
                    obtain ⟨bC, hbz⟩ : ∃ b, (World.heap wd).size = b := ⟨_, rfl⟩
                    obtain ⟨u1, hwz⟩ : ∃ u, World.alloc wd (.cells #[.int .i64 0, .int .i64 0, .string ⟨#[]⟩] 24) = u := ⟨_, rfl⟩
                    have HBC := Lib.hid (show VaO _ _ .zero from hzz)
                    clear hzz
                    rw [hwz] at HV HBC ⊢
                    rw [hbz] at HBC HLC ⊢
                    clear hkz hbz hwz
                    refine soloP HV.out ?_
                    rw [wpPlan_two]
                    simp only [pickOps_cons, pickOps_nil, consO_some, List.getElem?_cons_zero, List.getElem?_cons_succ]
                    constructor
                    · go_wp2_with (go_at_call 12; refine (B1.out _ (HH.out.kept HV.out)).mono ?_; rintro e u2 ⟨rfl, hkz⟩)
                      replace HBC := Lib.hid (HBC.out.kept hkz)
                      replace HV := Lib.hid (HV.out.trans hkz)
                      clear hkz
                      refine soloP HV.out ?_
                      rw [wpPlan_two]
                      simp only [pickOps_cons, pickOps_nil, consO_some, List.getElem?_cons_zero, List.getElem?_cons_succ]
                      constructor
                      · go_wp2_with (go_at_call 14; refine (B2.out _ (HH.out.kept HV.out)).mono ?_; rintro e u3 ⟨rfl, hkz⟩)
                        replace HBC := Lib.hid (HBC.out.kept hkz)
                        replace HV := Lib.hid (HV.out.trans hkz)
                        clear hkz
                        refine soloP HV.out ?_
                        rw [wpPlan_one]
                        simp only [pickOps_cons, pickOps_nil, consO_some, List.getElem?_cons_zero, List.getElem?_cons_succ]
                        go_wp2_with fail
                        have hkz := (Kept.refl u3).alloc #[.int .i64 0, .int .i64 0, .string ⟨#[]⟩] 24
                        have HNE := Lib.hid (show bC ≠ u3.heap.size from fun e => by have := HBC.out.lt; omega)
                        replace HBC := Lib.hid (HBC.out.kept hkz)
                        have hzz := VaO.new u3 .zero 24
                        simp only [Va.zero] at hzz
                        have HLD := Lib.hid HV.out.2.2
                        replace HV := Lib.hid (HV.out.trans hkz)
                        obtain ⟨bD, hbz⟩ : ∃ b, (World.heap u3).size = b := ⟨_, rfl⟩
                        obtain ⟨u4, hwz⟩ : ∃ u, World.alloc u3 (.cells #[.int .i64 0, .int .i64 0, .string ⟨#[]⟩] 24) = u := ⟨_, rfl⟩
                        have HBD := Lib.hid (show VaO _ _ .zero from hzz)
                        clear hzz
                        rw [hwz] at HV HBD HBC ⊢
                        rw [hbz] at HBD HLD HNE ⊢
                        clear hkz hbz hwz
                        refine soloP HV.out ?_
                        rw [wpPlan_one]
                        simp only [pickOps_cons, pickOps_nil, consO_some, List.getElem?_cons_zero, List.getElem?_cons_succ]
                        have hl := HLC.out
                        have e0 := HBC.out.c0; have e1 := HBC.out.c1; have e2 := HBC.out.c2; have ef := HBC.out.f
                        go_wp2_with fail
                        clear e0 e1 e2 ef
                        replace HBD := Lib.hid (HBD.out.far bC HNE.out x1)
                        replace HBC := Lib.hid (HBC.out.set x1)
                        replace HV := Lib.hid (((HV.out.setCell (a := ⟨bC, 0, none⟩) hl (.int .i64 x1.k)).setCell (a := ⟨bC, 1, none⟩) hl (.int .i64 x1.n)).setCell (a := ⟨bC, 2, none⟩) hl (.string x1.t))
                        obtain ⟨u5, hwz⟩ : ∃ u, ((World.setCell u4 ⟨bC, 0, none⟩ (.int .i64 x1.k)).setCell ⟨bC, 1, none⟩ (.int .i64 x1.n)).setCell ⟨bC, 2, none⟩ (.string x1.t) = u := ⟨_, rfl⟩
                        rw [hwz] at HV HBC HBD ⊢
                        clear hl hwz
                        refine soloP HV.out ?_
                        rw [wpPlan_one]
                        simp only [pickOps_cons, pickOps_nil, consO_some, List.getElem?_cons_zero, List.getElem?_cons_succ]
                        have hl := HLD.out
                        have e0 := HBD.out.c0; have e1 := HBD.out.c1; have e2 := HBD.out.c2; have ef := HBD.out.f
                        go_wp2_with fail
                        clear e0 e1 e2 ef
                        replace HBC := Lib.hid (HBC.out.far bD HNE.out.symm y1)
                        replace HBD := Lib.hid (HBD.out.set y1)
                        replace HV := Lib.hid (((HV.out.setCell (a := ⟨bD, 0, none⟩) hl (.int .i64 y1.k)).setCell (a := ⟨bD, 1, none⟩) hl (.int .i64 y1.n)).setCell (a := ⟨bD, 2, none⟩) hl (.string y1.t))
                        obtain ⟨u6, hwz⟩ : ∃ u, ((World.setCell u5 ⟨bD, 0, none⟩ (.int .i64 y1.k)).setCell ⟨bD, 1, none⟩ (.int .i64 y1.n)).setCell ⟨bD, 2, none⟩ (.string y1.t) = u := ⟨_, rfl⟩
                        rw [hwz] at HV HBC HBD ⊢
                        clear hl hwz
                        refine soloP HV.out ?_
                        have HF := Lib.hid (show TwoV V x1 y1 (.pointer (some ⟨bC, 0, none⟩)) (.pointer (some ⟨bD, 0, none⟩)) u6 from ⟨bC, bD, rfl, rfl, HV.out, HBC.out, HBD.out⟩)
                        refine wpPlan_stop ?_
                        go_wp2_with fail
                        go_meet
                        exact HF.out
                      · go_wp2_with fail
                        have hkz := (Kept.refl u2).alloc #[.int .i64 0, .int .i64 0, .string ⟨#[]⟩] 24
                        have HNE := Lib.hid (show bC ≠ u2.heap.size from fun e => by have := HBC.out.lt; omega)
                        replace HBC := Lib.hid (HBC.out.kept hkz)
                        have hzz := VaO.new u2 .zero 24
                        simp only [Va.zero] at hzz
                        have HLD := Lib.hid HV.out.2.2
                        replace HV := Lib.hid (HV.out.trans hkz)
                        obtain ⟨bD, hbz⟩ : ∃ b, (World.heap u2).size = b := ⟨_, rfl⟩
                        obtain ⟨u3, hwz⟩ : ∃ u, World.alloc u2 (.cells #[.int .i64 0, .int .i64 0, .string ⟨#[]⟩] 24) = u := ⟨_, rfl⟩
                        have HBD := Lib.hid (show VaO _ _ .zero from hzz)
                        clear hzz
                        rw [hwz] at HV HBD HBC ⊢
                        rw [hbz] at HBD HLD HNE ⊢
                        clear hkz hbz hwz
                        refine soloP HV.out ?_
                        rw [wpPlan_one]
                        simp only [pickOps_cons, pickOps_nil, consO_some, List.getElem?_cons_zero, List.getElem?_cons_succ]
                        go_wp2_with (go_at_call 14; refine (B2.out _ (HH.out.kept HV.out)).mono ?_; rintro e u4 ⟨rfl, hkz⟩)
                        replace HBC := Lib.hid (HBC.out.kept hkz)
                        replace HBD := Lib.hid (HBD.out.kept hkz)
                        replace HV := Lib.hid (HV.out.trans hkz)
                        clear hkz
                        refine soloP HV.out ?_
                        rw [wpPlan_one]
                        simp only [pickOps_cons, pickOps_nil, consO_some, List.getElem?_cons_zero, List.getElem?_cons_succ]
                        have hl := HLC.out
                        have e0 := HBC.out.c0; have e1 := HBC.out.c1; have e2 := HBC.out.c2; have ef := HBC.out.f
                        go_wp2_with fail
                        clear e0 e1 e2 ef
                        replace HBD := Lib.hid (HBD.out.far bC HNE.out x1)
                        replace HBC := Lib.hid (HBC.out.set x1)
                        replace HV := Lib.hid (((HV.out.setCell (a := ⟨bC, 0, none⟩) hl (.int .i64 x1.k)).setCell (a := ⟨bC, 1, none⟩) hl (.int .i64 x1.n)).setCell (a := ⟨bC, 2, none⟩) hl (.string x1.t))
                        obtain ⟨u5, hwz⟩ : ∃ u, ((World.setCell u4 ⟨bC, 0, none⟩ (.int .i64 x1.k)).setCell ⟨bC, 1, none⟩ (.int .i64 x1.n)).setCell ⟨bC, 2, none⟩ (.string x1.t) = u := ⟨_, rfl⟩
                        rw [hwz] at HV HBC HBD ⊢
                        clear hl hwz
                        refine soloP HV.out ?_
                        rw [wpPlan_one]
                        simp only [pickOps_cons, pickOps_nil, consO_some, List.getElem?_cons_zero, List.getElem?_cons_succ]
                        have hl := HLD.out
                        have e0 := HBD.out.c0; have e1 := HBD.out.c1; have e2 := HBD.out.c2; have ef := HBD.out.f
                        go_wp2_with fail
                        clear e0 e1 e2 ef
                        replace HBC := Lib.hid (HBC.out.far bD HNE.out.symm y1)
                        replace HBD := Lib.hid (HBD.out.set y1)
                        replace HV := Lib.hid (((HV.out.setCell (a := ⟨bD, 0, none⟩) hl (.int .i64 y1.k)).setCell (a := ⟨bD, 1, none⟩) hl (.int .i64 y1.n)).setCell (a := ⟨bD, 2, none⟩) hl (.string y1.t))
                        obtain ⟨u6, hwz⟩ : ∃ u, ((World.setCell u5 ⟨bD, 0, none⟩ (.int .i64 y1.k)).setCell ⟨bD, 1, none⟩ (.int .i64 y1.n)).setCell ⟨bD, 2, none⟩ (.string y1.t) = u := ⟨_, rfl⟩
                        rw [hwz] at HV HBC HBD ⊢
                        clear hl hwz
                        refine soloP HV.out ?_
                        have HF := Lib.hid (show TwoV V x1 y1 (.pointer (some ⟨bC, 0, none⟩)) (.pointer (some ⟨bD, 0, none⟩)) u6 from ⟨bC, bD, rfl, rfl, HV.out, HBC.out, HBD.out⟩)
                        refine wpPlan_stop ?_
                        go_wp2_with fail
                        go_meet
                        exact HF.out
                    · go_wp2_with fail
                      have hkz := (Kept.refl u1).alloc #[.int .i64 0, .int .i64 0, .string ⟨#[]⟩] 24
                      have HNE := Lib.hid (show bC ≠ u1.heap.size from fun e => by have := HBC.out.lt; omega)
                      replace HBC := Lib.hid (HBC.out.kept hkz)
                      have hzz := VaO.new u1 .zero 24
                      simp only [Va.zero] at hzz
                      have HLD := Lib.hid HV.out.2.2
                      replace HV := Lib.hid (HV.out.trans hkz)
                      obtain ⟨bD, hbz⟩ : ∃ b, (World.heap u1).size = b := ⟨_, rfl⟩
                      obtain ⟨u2, hwz⟩ : ∃ u, World.alloc u1 (.cells #[.int .i64 0, .int .i64 0, .string ⟨#[]⟩] 24) = u := ⟨_, rfl⟩
                      have HBD := Lib.hid (show VaO _ _ .zero from hzz)
                      clear hzz
                      rw [hwz] at HV HBD HBC ⊢
                      rw [hbz] at HBD HLD HNE ⊢
                      clear hkz hbz hwz
                      refine soloP HV.out ?_
                      rw [wpPlan_one]
                      simp only [pickOps_cons, pickOps_nil, consO_some, List.getElem?_cons_zero, List.getElem?_cons_succ]
                      go_wp2_with (go_at_call 12; refine (B1.out _ (HH.out.kept HV.out)).mono ?_; rintro e u3 ⟨rfl, hkz⟩)
                      replace HBC := Lib.hid (HBC.out.kept hkz)
                      replace HBD := Lib.hid (HBD.out.kept hkz)
                      replace HV := Lib.hid (HV.out.trans hkz)
                      clear hkz
                      refine soloP HV.out ?_
                      rw [wpPlan_one]
                      simp only [pickOps_cons, pickOps_nil, consO_some, List.getElem?_cons_zero, List.getElem?_cons_succ]
                      go_wp2_with (go_at_call 14; refine (B2.out _ (HH.out.kept HV.out)).mono ?_; rintro e u4 ⟨rfl, hkz⟩)
                      replace HBC := Lib.hid (HBC.out.kept hkz)
                      replace HBD := Lib.hid (HBD.out.kept hkz)
                      replace HV := Lib.hid (HV.out.trans hkz)
                      clear hkz
                      refine soloP HV.out ?_
                      rw [wpPlan_one]
                      simp only [pickOps_cons, pickOps_nil, consO_some, List.getElem?_cons_zero, List.getElem?_cons_succ]
                      have hl := HLC.out
                      have e0 := HBC.out.c0; have e1 := HBC.out.c1; have e2 := HBC.out.c2; have ef := HBC.out.f
                      go_wp2_with fail
                      clear e0 e1 e2 ef
                      replace HBD := Lib.hid (HBD.out.far bC HNE.out x1)
                      replace HBC := Lib.hid (HBC.out.set x1)
                      replace HV := Lib.hid (((HV.out.setCell (a := ⟨bC, 0, none⟩) hl (.int .i64 x1.k)).setCell (a := ⟨bC, 1, none⟩) hl (.int .i64 x1.n)).setCell (a := ⟨bC, 2, none⟩) hl (.string x1.t))
                      obtain ⟨u5, hwz⟩ : ∃ u, ((World.setCell u4 ⟨bC, 0, none⟩ (.int .i64 x1.k)).setCell ⟨bC, 1, none⟩ (.int .i64 x1.n)).setCell ⟨bC, 2, none⟩ (.string x1.t) = u := ⟨_, rfl⟩
                      rw [hwz] at HV HBC HBD ⊢
                      clear hl hwz
                      refine soloP HV.out ?_
                      rw [wpPlan_one]
                      simp only [pickOps_cons, pickOps_nil, consO_some, List.getElem?_cons_zero, List.getElem?_cons_succ]
                      have hl := HLD.out
                      have e0 := HBD.out.c0; have e1 := HBD.out.c1; have e2 := HBD.out.c2; have ef := HBD.out.f
                      go_wp2_with fail
                      clear e0 e1 e2 ef
                      replace HBC := Lib.hid (HBC.out.far bD HNE.out.symm y1)
                      replace HBD := Lib.hid (HBD.out.set y1)
                      replace HV := Lib.hid (((HV.out.setCell (a := ⟨bD, 0, none⟩) hl (.int .i64 y1.k)).setCell (a := ⟨bD, 1, none⟩) hl (.int .i64 y1.n)).setCell (a := ⟨bD, 2, none⟩) hl (.string y1.t))
                      obtain ⟨u6, hwz⟩ : ∃ u, ((World.setCell u5 ⟨bD, 0, none⟩ (.int .i64 y1.k)).setCell ⟨bD, 1, none⟩ (.int .i64 y1.n)).setCell ⟨bD, 2, none⟩ (.string y1.t) = u := ⟨_, rfl⟩
                      rw [hwz] at HV HBC HBD ⊢
                      clear hl hwz
                      refine soloP HV.out ?_
                      have HF := Lib.hid (show TwoV V x1 y1 (.pointer (some ⟨bC, 0, none⟩)) (.pointer (some ⟨bD, 0, none⟩)) u6 from ⟨bC, bD, rfl, rfl, HV.out, HBC.out, HBD.out⟩)
                      refine wpPlan_stop ?_
                      go_wp2_with fail
                      go_meet
                      exact HF.out
                  · go_wp2_with fail
                    have hkz := (Kept.refl wd).alloc #[.int .i64 0, .int .i64 0, .string ⟨#[]⟩] 24
                    have hzz := VaO.new wd .zero 24
                    simp only [Va.zero] at hzz
                    have HLD := Lib.hid HV.out.2.2
                    replace HV := Lib.hid (HV.out.trans hkz)
                    obtain ⟨bD, hbz⟩ : ∃ b, (World.heap wd).size = b := ⟨_, rfl⟩
                    obtain ⟨u1, hwz⟩ : ∃ u, World.alloc wd (.cells #[.int .i64 0, .int .i64 0, .string ⟨#[]⟩] 24) = u := ⟨_, rfl⟩
                    have HBD := Lib.hid (show VaO _ _ .zero from hzz)
                    clear hzz
                    rw [hwz] at HV HBD ⊢
                    rw [hbz] at HBD HLD ⊢
                    clear hkz hbz hwz
                    refine soloP HV.out ?_
                    rw [wpPlan_two]
                    simp only [pickOps_cons, pickOps_nil, consO_some, List.getElem?_cons_zero, List.getElem?_cons_succ]
                    constructor
                    · go_wp2_with (go_at_call 12; refine (B1.out _ (HH.out.kept HV.out)).mono ?_; rintro e u2 ⟨rfl, hkz⟩)
                      replace HBD := Lib.hid (HBD.out.kept hkz)
                      replace HV := Lib.hid (HV.out.trans hkz)
                      clear hkz
                      refine soloP HV.out ?_
                      rw [wpPlan_two]
                      simp only [pickOps_cons, pickOps_nil, consO_some, List.getElem?_cons_zero, List.getElem?_cons_succ]
                      constructor
                      · go_wp2_with (go_at_call 14; refine (B2.out _ (HH.out.kept HV.out)).mono ?_; rintro e u3 ⟨rfl, hkz⟩)
                        replace HBD := Lib.hid (HBD.out.kept hkz)
                        replace HV := Lib.hid (HV.out.trans hkz)
                        clear hkz
                        refine soloP HV.out ?_
                        rw [wpPlan_one]
                        simp only [pickOps_cons, pickOps_nil, consO_some, List.getElem?_cons_zero, List.getElem?_cons_succ]
                        go_wp2_with fail
                        have hkz := (Kept.refl u3).alloc #[.int .i64 0, .int .i64 0, .string ⟨#[]⟩] 24
                        have HNE := Lib.hid (show bD ≠ u3.heap.size from fun e => by have := HBD.out.lt; omega)
                        replace HBD := Lib.hid (HBD.out.kept hkz)
                        have hzz := VaO.new u3 .zero 24
                        simp only [Va.zero] at hzz
                        have HLC := Lib.hid HV.out.2.2
                        replace HV := Lib.hid (HV.out.trans hkz)
                        obtain ⟨bC, hbz⟩ : ∃ b, (World.heap u3).size = b := ⟨_, rfl⟩
                        obtain ⟨u4, hwz⟩ : ∃ u, World.alloc u3 (.cells #[.int .i64 0, .int .i64 0, .string ⟨#[]⟩] 24) = u := ⟨_, rfl⟩
                        have HBC := Lib.hid (show VaO _ _ .zero from hzz)
                        clear hzz
                        rw [hwz] at HV HBC HBD ⊢
                        rw [hbz] at HBC HLC HNE ⊢
                        clear hkz hbz hwz
                        refine soloP HV.out ?_
                        rw [wpPlan_one]
                        simp only [pickOps_cons, pickOps_nil, consO_some, List.getElem?_cons_zero, List.getElem?_cons_succ]
                        have hl := HLC.out
                        have e0 := HBC.out.c0; have e1 := HBC.out.c1; have e2 := HBC.out.c2; have ef := HBC.out.f
                        go_wp2_with fail
                        clear e0 e1 e2 ef
                        replace HBD := Lib.hid (HBD.out.far bC HNE.out.symm x1)
                        replace HBC := Lib.hid (HBC.out.set x1)
                        replace HV := Lib.hid (((HV.out.setCell (a := ⟨bC, 0, none⟩) hl (.int .i64 x1.k)).setCell (a := ⟨bC, 1, none⟩) hl (.int .i64 x1.n)).setCell (a := ⟨bC, 2, none⟩) hl (.string x1.t))
                        obtain ⟨u5, hwz⟩ : ∃ u, ((World.setCell u4 ⟨bC, 0, none⟩ (.int .i64 x1.k)).setCell ⟨bC, 1, none⟩ (.int .i64 x1.n)).setCell ⟨bC, 2, none⟩ (.string x1.t) = u := ⟨_, rfl⟩
                        rw [hwz] at HV HBC HBD ⊢
                        clear hl hwz
                        refine soloP HV.out ?_
                        rw [wpPlan_one]
                        simp only [pickOps_cons, pickOps_nil, consO_some, List.getElem?_cons_zero, List.getElem?_cons_succ]
                        have hl := HLD.out
                        have e0 := HBD.out.c0; have e1 := HBD.out.c1; have e2 := HBD.out.c2; have ef := HBD.out.f
                        go_wp2_with fail
                        clear e0 e1 e2 ef
                        replace HBC := Lib.hid (HBC.out.far bD HNE.out y1)
                        replace HBD := Lib.hid (HBD.out.set y1)
                        replace HV := Lib.hid (((HV.out.setCell (a := ⟨bD, 0, none⟩) hl (.int .i64 y1.k)).setCell (a := ⟨bD, 1, none⟩) hl (.int .i64 y1.n)).setCell (a := ⟨bD, 2, none⟩) hl (.string y1.t))
                        obtain ⟨u6, hwz⟩ : ∃ u, ((World.setCell u5 ⟨bD, 0, none⟩ (.int .i64 y1.k)).setCell ⟨bD, 1, none⟩ (.int .i64 y1.n)).setCell ⟨bD, 2, none⟩ (.string y1.t) = u := ⟨_, rfl⟩
                        rw [hwz] at HV HBC HBD ⊢
                        clear hl hwz
                        refine soloP HV.out ?_
                        have HF := Lib.hid (show TwoV V x1 y1 (.pointer (some ⟨bC, 0, none⟩)) (.pointer (some ⟨bD, 0, none⟩)) u6 from ⟨bC, bD, rfl, rfl, HV.out, HBC.out, HBD.out⟩)
                        refine wpPlan_stop ?_
                        go_wp2_with fail
                        go_meet
                        exact HF.out
                      · go_wp2_with fail
                        have hkz := (Kept.refl u2).alloc #[.int .i64 0, .int .i64 0, .string ⟨#[]⟩] 24
                        have HNE := Lib.hid (show bD ≠ u2.heap.size from fun e => by have := HBD.out.lt; omega)
                        replace HBD := Lib.hid (HBD.out.kept hkz)
                        have hzz := VaO.new u2 .zero 24
                        simp only [Va.zero] at hzz
                        have HLC := Lib.hid HV.out.2.2
                        replace HV := Lib.hid (HV.out.trans hkz)
                        obtain ⟨bC, hbz⟩ : ∃ b, (World.heap u2).size = b := ⟨_, rfl⟩
                        obtain ⟨u3, hwz⟩ : ∃ u, World.alloc u2 (.cells #[.int .i64 0, .int .i64 0, .string ⟨#[]⟩] 24) = u := ⟨_, rfl⟩
                        have HBC := Lib.hid (show VaO _ _ .zero from hzz)
                        clear hzz
                        rw [hwz] at HV HBC HBD ⊢
                        rw [hbz] at HBC HLC HNE ⊢
                        clear hkz hbz hwz
                        refine soloP HV.out ?_
                        rw [wpPlan_one]
                        simp only [pickOps_cons, pickOps_nil, consO_some, List.getElem?_cons_zero, List.getElem?_cons_succ]
                        go_wp2_with (go_at_call 14; refine (B2.out _ (HH.out.kept HV.out)).mono ?_; rintro e u4 ⟨rfl, hkz⟩)
                        replace HBC := Lib.hid (HBC.out.kept hkz)
                        replace HBD := Lib.hid (HBD.out.kept hkz)
                        replace HV := Lib.hid (HV.out.trans hkz)
                        clear hkz
                        refine soloP HV.out ?_
                        rw [wpPlan_one]
                        simp only [pickOps_cons, pickOps_nil, consO_some, List.getElem?_cons_zero, List.getElem?_cons_succ]
                        have hl := HLC.out
                        have e0 := HBC.out.c0; have e1 := HBC.out.c1; have e2 := HBC.out.c2; have ef := HBC.out.f
                        go_wp2_with fail
                        clear e0 e1 e2 ef
                        replace HBD := Lib.hid (HBD.out.far bC HNE.out.symm x1)
                        replace HBC := Lib.hid (HBC.out.set x1)
                        replace HV := Lib.hid (((HV.out.setCell (a := ⟨bC, 0, none⟩) hl (.int .i64 x1.k)).setCell (a := ⟨bC, 1, none⟩) hl (.int .i64 x1.n)).setCell (a := ⟨bC, 2, none⟩) hl (.string x1.t))
                        obtain ⟨u5, hwz⟩ : ∃ u, ((World.setCell u4 ⟨bC, 0, none⟩ (.int .i64 x1.k)).setCell ⟨bC, 1, none⟩ (.int .i64 x1.n)).setCell ⟨bC, 2, none⟩ (.string x1.t) = u := ⟨_, rfl⟩
                        rw [hwz] at HV HBC HBD ⊢
                        clear hl hwz
                        refine soloP HV.out ?_
                        rw [wpPlan_one]
                        simp only [pickOps_cons, pickOps_nil, consO_some, List.getElem?_cons_zero, List.getElem?_cons_succ]
                        have hl := HLD.out
                        have e0 := HBD.out.c0; have e1 := HBD.out.c1; have e2 := HBD.out.c2; have ef := HBD.out.f
                        go_wp2_with fail
                        clear e0 e1 e2 ef
                        replace HBC := Lib.hid (HBC.out.far bD HNE.out y1)
                        replace HBD := Lib.hid (HBD.out.set y1)
                        replace HV := Lib.hid (((HV.out.setCell (a := ⟨bD, 0, none⟩) hl (.int .i64 y1.k)).setCell (a := ⟨bD, 1, none⟩) hl (.int .i64 y1.n)).setCell (a := ⟨bD, 2, none⟩) hl (.string y1.t))
                        obtain ⟨u6, hwz⟩ : ∃ u, ((World.setCell u5 ⟨bD, 0, none⟩ (.int .i64 y1.k)).setCell ⟨bD, 1, none⟩ (.int .i64 y1.n)).setCell ⟨bD, 2, none⟩ (.string y1.t) = u := ⟨_, rfl⟩
                        rw [hwz] at HV HBC HBD ⊢
                        clear hl hwz
                        refine soloP HV.out ?_
                        have HF := Lib.hid (show TwoV V x1 y1 (.pointer (some ⟨bC, 0, none⟩)) (.pointer (some ⟨bD, 0, none⟩)) u6 from ⟨bC, bD, rfl, rfl, HV.out, HBC.out, HBD.out⟩)
                        refine wpPlan_stop ?_
                        go_wp2_with fail
                        go_meet
                        exact HF.out
                    · go_wp2_with fail
                      have hkz := (Kept.refl u1).alloc #[.int .i64 0, .int .i64 0, .string ⟨#[]⟩] 24
                      have HNE := Lib.hid (show bD ≠ u1.heap.size from fun e => by have := HBD.out.lt; omega)
                      replace HBD := Lib.hid (HBD.out.kept hkz)
                      have hzz := VaO.new u1 .zero 24
                      simp only [Va.zero] at hzz
                      have HLC := Lib.hid HV.out.2.2
                      replace HV := Lib.hid (HV.out.trans hkz)
                      obtain ⟨bC, hbz⟩ : ∃ b, (World.heap u1).size = b := ⟨_, rfl⟩
                      obtain ⟨u2, hwz⟩ : ∃ u, World.alloc u1 (.cells #[.int .i64 0, .int .i64 0, .string ⟨#[]⟩] 24) = u := ⟨_, rfl⟩
                      have HBC := Lib.hid (show VaO _ _ .zero from hzz)
                      clear hzz
                      rw [hwz] at HV HBC HBD ⊢
                      rw [hbz] at HBC HLC HNE ⊢
                      clear hkz hbz hwz
                      refine soloP HV.out ?_
                      rw [wpPlan_one]
                      simp only [pickOps_cons, pickOps_nil, consO_some, List.getElem?_cons_zero, List.getElem?_cons_succ]
                      go_wp2_with (go_at_call 12; refine (B1.out _ (HH.out.kept HV.out)).mono ?_; rintro e u3 ⟨rfl, hkz⟩)
                      replace HBC := Lib.hid (HBC.out.kept hkz)
                      replace HBD := Lib.hid (HBD.out.kept hkz)
                      replace HV := Lib.hid (HV.out.trans hkz)
                      clear hkz
                      refine soloP HV.out ?_
                      rw [wpPlan_one]
                      simp only [pickOps_cons, pickOps_nil, consO_some, List.getElem?_cons_zero, List.getElem?_cons_succ]
                      go_wp2_with (go_at_call 14; refine (B2.out _ (HH.out.kept HV.out)).mono ?_; rintro e u4 ⟨rfl, hkz⟩)
                      replace HBC := Lib.hid (HBC.out.kept hkz)
                      replace HBD := Lib.hid (HBD.out.kept hkz)
                      replace HV := Lib.hid (HV.out.trans hkz)
                      clear hkz
                      refine soloP HV.out ?_
                      rw [wpPlan_one]
                      simp only [pickOps_cons, pickOps_nil, consO_some, List.getElem?_cons_zero, List.getElem?_cons_succ]
                      have hl := HLC.out
                      have e0 := HBC.out.c0; have e1 := HBC.out.c1; have e2 := HBC.out.c2; have ef := HBC.out.f
                      go_wp2_with fail
                      clear e0 e1 e2 ef
                      replace HBD := Lib.hid (HBD.out.far bC HNE.out.symm x1)
                      replace HBC := Lib.hid (HBC.out.set x1)
                      replace HV := Lib.hid (((HV.out.setCell (a := ⟨bC, 0, none⟩) hl (.int .i64 x1.k)).setCell (a := ⟨bC, 1, none⟩) hl (.int .i64 x1.n)).setCell (a := ⟨bC, 2, none⟩) hl (.string x1.t))
                      obtain ⟨u5, hwz⟩ : ∃ u, ((World.setCell u4 ⟨bC, 0, none⟩ (.int .i64 x1.k)).setCell ⟨bC, 1, none⟩ (.int .i64 x1.n)).setCell ⟨bC, 2, none⟩ (.string x1.t) = u := ⟨_, rfl⟩
                      rw [hwz] at HV HBC HBD ⊢
                      clear hl hwz
                      refine soloP HV.out ?_
                      rw [wpPlan_one]
                      simp only [pickOps_cons, pickOps_nil, consO_some, List.getElem?_cons_zero, List.getElem?_cons_succ]
                      have hl := HLD.out
                      have e0 := HBD.out.c0; have e1 := HBD.out.c1; have e2 := HBD.out.c2; have ef := HBD.out.f
                      go_wp2_with fail
                      clear e0 e1 e2 ef
                      replace HBC := Lib.hid (HBC.out.far bD HNE.out y1)
                      replace HBD := Lib.hid (HBD.out.set y1)
                      replace HV := Lib.hid (((HV.out.setCell (a := ⟨bD, 0, none⟩) hl (.int .i64 y1.k)).setCell (a := ⟨bD, 1, none⟩) hl (.int .i64 y1.n)).setCell (a := ⟨bD, 2, none⟩) hl (.string y1.t))
                      obtain ⟨u6, hwz⟩ : ∃ u, ((World.setCell u5 ⟨bD, 0, none⟩ (.int .i64 y1.k)).setCell ⟨bD, 1, none⟩ (.int .i64 y1.n)).setCell ⟨bD, 2, none⟩ (.string y1.t) = u := ⟨_, rfl⟩
                      rw [hwz] at HV HBC HBD ⊢
                      clear hl hwz
                      refine soloP HV.out ?_
                      have HF := Lib.hid (show TwoV V x1 y1 (.pointer (some ⟨bC, 0, none⟩)) (.pointer (some ⟨bD, 0, none⟩)) u6 from ⟨bC, bD, rfl, rfl, HV.out, HBC.out, HBD.out⟩)
                      refine wpPlan_stop ?_
                      go_wp2_with fail
                      go_meet
                      exact HF.out
                case rest =>
                  obtain ⟨b7, b8, rfl, rfl, hkz, h7, h8⟩ := hcut
                  clear t0 t1 t2 t3 t4 t5 t6 t7 t8 c0 c1 c2 c3 c4 u0 u1 u2
                  replace HK := Lib.hid (HK.out.trans hkz); replace HT := Lib.hid (HT.out.kept hkz); replace HC := Lib.hid (HC.out.kept hkz); replace HU := Lib.hid (HU.out.kept hkz); replace HH := Lib.hid (HH.out.kept hkz)
                  have H7 := Lib.hid h7; have H8 := Lib.hid h8
                  clear hkz h7 h8
                  obtain ⟨V2, hV2⟩ : ∃ V2, wc = V2 := ⟨_, rfl⟩
                  rw [hV2] at HK HT HC HU HH H7 H8 ⊢
                  clear hV2
                  have t0 := KExt.cell HT.out.c0; have t1 := KExt.cell HT.out.c1; have t2 := KExt.cell HT.out.c2; have t3 := KExt.cell HT.out.c3; have t4 := KExt.cell HT.out.c4; have t5 := KExt.cell HT.out.c5; have t6 := KExt.cell HT.out.c6; have t7 := KExt.cell HT.out.c7; have t8 := KExt.cell HT.out.c8
                  have c0 := KExt.cell HC.out.c0; have c1 := KExt.cell HC.out.c1; have c2 := KExt.cell HC.out.c2; have c3 := KExt.cell HC.out.c3; have c4 := KExt.cell HC.out.c4
                  have u0 := KExt.cell HU.out.c0; have u1 := KExt.cell HU.out.c1; have u2 := KExt.cell HU.out.c2
                  have p0 := KExt.cell H7.out.c0; have p1 := KExt.cell H7.out.c1; have p2 := KExt.cell H7.out.c2
                  have r0 := KExt.cell H8.out.c0; have r1 := KExt.cell H8.out.c1; have r2 := KExt.cell H8.out.c2
                  have k1 := HK1.out; have k2 := HK2.out
                  go_wp2_with fail
                  (try dsimp only [List.append])
                  refine region_plan V2 66 (.read [0] (.one 1 (.read [2, 3, 4, 5, 6, 7, 8, 9, 10] (.one 11 (.read [12, 13, 14, 15, 16, 17, 18, 19, 20, 21, 22, 23, 26] (.one 24 (.one 25 (.read [27, 28, 29, 30, 31, 32, 35] (.one 33 (.one 34 (.read [36, 37, 38, 39, 41, 43] (.one 40 (.one 42 (.read [44, 45, 46, 47, 49, 50, 51, 52] (.one 48 (.one 53 (.read [54, 55, 56, 59] (.one 57 (.one 58 (.one 60 (.read [61, 62] (.one 63 (.read [64, 65] .stop))))))))))))))))))))))) (by kernel_rfl) (by kernel_rfl) (by kernel_rfl) (by kernel_rfl) (by kernel_rfl) (fun _ d _ _ _ h => by cases d <;> exact h) (Kept.refl _) ?_
                  intro wd hwd
                  have HV := Lib.hid hwd
                  clear hwd
                  rw [wpPlan_read]
                  simp only [pickOps_cons, pickOps_nil, consO_some, List.getElem?_cons_zero]
                  repeat (go_big_quiet_step (fail))
                  refine wpQuiet_nil ?_
                  rw [wpPlan_one]
                  simp only [pickOps_cons, pickOps_nil, consO_some, List.getElem?_cons_zero, List.getElem?_cons_succ]
                  go_wp2_with (go_at_call 25; refine (D1.out _).mono ?_; rintro e v10 ⟨rfl, hkz⟩)
                  replace HV := Lib.hid (HV.out.trans hkz)
                  clear hkz
                  refine soloP HV.out ?_
                  rw [wpPlan_read]
                  simp only [pickOps_cons, pickOps_nil, consO_some, List.getElem?_cons_zero, List.getElem?_cons_succ]
                  repeat (go_big_quiet_step (fail))
                  refine wpQuiet_nil ?_
                  rw [wpPlan_one]
                  simp only [pickOps_cons, pickOps_nil, consO_some, List.getElem?_cons_zero, List.getElem?_cons_succ]
                  go_wp2_with (go_at_call 25; refine (D2.out _).mono ?_; rintro e v11 ⟨rfl, hkz⟩)
                  replace HV := Lib.hid (HV.out.trans hkz)
                  clear hkz
                  refine soloP HV.out ?_
                  rw [wpPlan_read]
                  simp only [pickOps_cons, pickOps_nil, consO_some, List.getElem?_cons_zero, List.getElem?_cons_succ]
                  repeat (go_big_quiet_step (fail))
                  refine wpQuiet_nil ?_
                  rw [wpPlan_one]
                  simp only [pickOps_cons, pickOps_nil, consO_some, List.getElem?_cons_zero, List.getElem?_cons_succ]
                  go_wp2_with (go_at_call 14; refine (B3.out _ (HH.out.kept HV.out)).mono ?_; rintro e v12 ⟨rfl, hkz⟩)
                  replace HV := Lib.hid (HV.out.trans hkz)
                  clear hkz
                  refine soloP HV.out ?_
                  rw [wpPlan_one]
                  simp only [pickOps_cons, pickOps_nil, consO_some, List.getElem?_cons_zero, List.getElem?_cons_succ]
                  go_wp2_with (go_at_call 12; refine (B4.out _ (HH.out.kept HV.out)).mono ?_; rintro e v13 ⟨rfl, hkz⟩)
                  replace HV := Lib.hid (HV.out.trans hkz)
                  clear hkz
                  refine soloP HV.out ?_
                  rw [wpPlan_read]
                  simp only [pickOps_cons, pickOps_nil, consO_some, List.getElem?_cons_zero, List.getElem?_cons_succ]
                  repeat (go_big_quiet_step (fail))
                  refine wpQuiet_nil ?_
                  rw [wpPlan_one]
                  simp only [pickOps_cons, pickOps_nil, consO_some, List.getElem?_cons_zero, List.getElem?_cons_succ]
                  go_wp2_with (go_at_call 12; refine (B5.out _ (HH.out.kept HV.out)).mono ?_; rintro e v14 ⟨rfl, hkz⟩)
                  replace HV := Lib.hid (HV.out.trans hkz)
                  clear hkz
                  refine soloP HV.out ?_
                  rw [wpPlan_one]
                  simp only [pickOps_cons, pickOps_nil, consO_some, List.getElem?_cons_zero, List.getElem?_cons_succ]
                  go_wp2_with (go_at_call 14; refine (B6.out _ (HH.out.kept HV.out)).mono ?_; rintro e v15 ⟨rfl, hkz⟩)
                  replace HV := Lib.hid (HV.out.trans hkz)
                  clear hkz
                  refine soloP HV.out ?_
                  rw [wpPlan_read]
                  simp only [pickOps_cons, pickOps_nil, consO_some, List.getElem?_cons_zero, List.getElem?_cons_succ]
                  repeat (go_big_quiet_step (fail))
                  refine wpQuiet_nil ?_
                  rw [wpPlan_one]
                  simp only [pickOps_cons, pickOps_nil, consO_some, List.getElem?_cons_zero, List.getElem?_cons_succ]
                  go_wp2_with (go_at_call 16; refine (B7.out _ (HH.out.kept HV.out)).mono ?_; rintro e v9 ⟨AQ, cq, rfl, hpq, hkz⟩)
                  have HPQ := Lib.hid hpq
                  clear hpq
                  replace HV := Lib.hid (HV.out.trans hkz)
                  clear hkz
                  refine soloP HV.out ?_
                  rw [wpPlan_one]
                  simp only [pickOps_cons, pickOps_nil, consO_some, List.getElem?_cons_zero, List.getElem?_cons_succ]
                  go_wp2_with (go_at_call 12; refine (B8.out AQ cq _ HPQ.out).mono ?_; rintro e v16 ⟨rfl, hkz⟩)
                  clear HPQ
                  replace HV := Lib.hid (HV.out.trans hkz)
                  clear hkz
                  refine soloP HV.out ?_
                  rw [wpPlan_read]
                  simp only [pickOps_cons, pickOps_nil, consO_some, List.getElem?_cons_zero, List.getElem?_cons_succ]
                  repeat (go_big_quiet_step (fail))
                  refine wpQuiet_nil ?_
                  rw [wpPlan_one]
                  simp only [pickOps_cons, pickOps_nil, consO_some, List.getElem?_cons_zero, List.getElem?_cons_succ]
                  go_wp2_with (go_at_call 16; refine (B7.out _ (HH.out.kept HV.out)).mono ?_; rintro e v9 ⟨AQ, cq, rfl, hpq, hkz⟩)
                  have HPQ := Lib.hid hpq
                  clear hpq
                  replace HV := Lib.hid (HV.out.trans hkz)
                  clear hkz
                  refine soloP HV.out ?_
                  rw [wpPlan_one]
                  simp only [pickOps_cons, pickOps_nil, consO_some, List.getElem?_cons_zero, List.getElem?_cons_succ]
                  go_wp2_with (go_at_call 18; refine (B9.out AQ cq _ HPQ.out).mono ?_; rintro e v17 ⟨rfl, hkz⟩)
                  clear HPQ
                  replace HV := Lib.hid (HV.out.trans hkz)
                  clear hkz
                  refine soloP HV.out ?_
                  rw [wpPlan_read]
                  simp only [pickOps_cons, pickOps_nil, consO_some, List.getElem?_cons_zero, List.getElem?_cons_succ]
                  repeat (go_big_quiet_step (fail))
                  refine wpQuiet_nil ?_
                  rw [wpPlan_one]
                  simp only [pickOps_cons, pickOps_nil, consO_some, List.getElem?_cons_zero, List.getElem?_cons_succ]
                  go_wp2_with (go_at_call 16; refine (B7.out _ (HH.out.kept HV.out)).mono ?_; rintro e v9 ⟨AQ, cq, rfl, hpq, hkz⟩)
                  have HPQ := Lib.hid hpq
                  clear hpq
                  replace HV := Lib.hid (HV.out.trans hkz)
                  clear hkz
                  refine soloP HV.out ?_
                  rw [wpPlan_one]
                  simp only [pickOps_cons, pickOps_nil, consO_some, List.getElem?_cons_zero, List.getElem?_cons_succ]
                  go_wp2_with (go_at_call 16; refine (BA.out AQ cq _ HPQ.out).mono ?_; rintro e v8 ⟨AR, cr, rfl, hpr, hkz⟩)
                  have HPR := Lib.hid hpr
                  clear hpr HPQ
                  replace HV := Lib.hid (HV.out.trans hkz)
                  clear hkz
                  refine soloP HV.out ?_
                  rw [wpPlan_one]
                  simp only [pickOps_cons, pickOps_nil, consO_some, List.getElem?_cons_zero, List.getElem?_cons_succ]
                  go_wp2_with (go_at_call 24; refine (BB.out AR cr _ HPR.out (HH.out.kept HV.out)).mono ?_; rintro e v18 ⟨rfl, hkz⟩)
                  replace HV := Lib.hid (HV.out.trans hkz)
                  clear hkz
                  refine soloP HV.out ?_
                  rw [wpPlan_read]
                  simp only [pickOps_cons, pickOps_nil, consO_some, List.getElem?_cons_zero, List.getElem?_cons_succ]
                  repeat (go_big_quiet_step (fail))
                  refine wpQuiet_nil ?_
                  rw [wpPlan_one]
                  simp only [pickOps_cons, pickOps_nil, consO_some, List.getElem?_cons_zero, List.getElem?_cons_succ]
                  go_wp2_with (go_at_call 8; refine (hawake_any _).mono ?_; rintro e v19 ⟨rfl, hkz⟩)
                  replace HV := Lib.hid (HV.out.trans hkz)
                  clear hkz
                  refine soloP HV.out ?_
                  rw [wpPlan_read]
                  simp only [pickOps_cons, pickOps_nil, consO_some, List.getElem?_cons_zero, List.getElem?_cons_succ]
                  repeat (go_big_quiet_step (fail))
                  refine wpQuiet_nil ?_
                  refine wpPlan_stop ?_
                  clear t0 t1 t2 t3 t4 t5 t6 t7 t8 c0 c1 c2 c3 c4 u0 u1 u2
                  clear p0 p1 p2 r0 r1 r2 k1 k2
                  go_wp2_with fail
                  go_ret
                  exact ⟨rfl, HK.out.trans HV.out⟩
              · have q31 : (v.k == a) = true := by rw [q3]; simp
                have q32 : (v.k != a) = false := by rw [q3]; simp
                have q33 : decide (v.k = a) = true := decide_eq_true q3
                have q41 : (u.k == b) = false := by simpa using q4
                have q42 : (u.k != b) = true := by simpa using q4
                have q43 : decide (u.k = b) = false := decide_eq_false q4
                clear q3 q4
                go_wp2_with fail
                go_at_call 8
                refine (hawake_any _).mono ?_
                rintro e w9 ⟨rfl, hk9⟩
                have HF := Lib.hid (HK.out.trans hk9)
                clear hk9
                go_wp2_with fail
                go_ret
                exact ⟨rfl, HF.out⟩
            · have q31 : (v.k == a) = false := by simpa using q3
              have q32 : (v.k != a) = true := by simpa using q3
              have q33 : decide (v.k = a) = false := decide_eq_false q3
              clear q3
              go_wp2_with fail
              go_at_call 8
              refine (hawake_any _).mono ?_
              rintro e w9 ⟨rfl, hk9⟩
              have HF := Lib.hid (HK.out.trans hk9)
              clear hk9
              go_wp2_with fail
              go_ret
              exact ⟨rfl, HF.out⟩
end Go.Proofs.YtjcnjmlgedmmoaaDoor
