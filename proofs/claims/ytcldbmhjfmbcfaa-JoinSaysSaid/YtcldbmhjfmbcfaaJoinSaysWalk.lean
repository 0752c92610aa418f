/-
  What is proved: the Go function JoinSays of layer 9's laws, called with any two states and any set of dots, returns true; the world has new blocks at most.
-/
import Derived.Test.YtcldbmhjfmbcfaaM32
import Derived.Test.YtcldbmhjfmbcfaaM33
import Derived.Test.YtcldbmhjfmbcfaaM34
import Derived.Test.YtcldbmhjfmbcfaaCLong
import Derived.Test.YtcldbmhjfmbcfaaM17
import Derived.Test.YtcldbmhjfmbcfaaM6
namespace Go.Proofs.Ytcldbmhjfmbcfaa
open Go.RowKit
set_option linter.unusedVariables false

/-- Two values that hold the same state. -/
def TwoS (v u : Value) (w : World) : Prop :=
  ∃ A n c B m k D p q A' n' c' B' m' k' D' p' q' s, v = .agg #[.slice A n c, .slice B m k, .slice D p q] ∧ u = .agg #[.slice A' n' c', .slice B' m' k', .slice D' p' q'] ∧ Stt w A n c B m k D p q (Sta.L s) (Sta.V s) (Sta.C s) ∧ Stt w A' n' c' B' m' k' D' p' q' (Sta.L s) (Sta.V s) (Sta.C s)
def TwoE (X : List En) (N : Nat) (v u : Value) (w : World) : Prop := ∃ A c A' c', v = .slice A N c ∧ u = .slice A' N c' ∧ El w A N c X ∧ El w A' N c' X
def TwoD (X : List (Int × Int)) (N : Nat) (v u : Value) (w : World) : Prop := ∃ A c A' c', v = .slice A N c ∧ u = .slice A' N c' ∧ Dl w A N c X ∧ Dl w A' N c' X
open Classical in
set_option maxRecDepth 100000 in
set_option maxHeartbeats 32000000 in
theorem joinSays_any (Aa : Option Addr) (na ca : Nat) (Ba : Option Addr) (ma ka : Nat) (Da : Option Addr) (pa qa : Nat) (a : Sta) (Ab : Option Addr) (nb cb : Nat) (Bb : Option Addr) (mb kb : Nat) (Db : Option Addr) (pb qb : Nat) (b : Sta) (Bc : Option Addr) (mc kc : Nat) (Vc : List Int) (Dc : Option Addr) (pc qc : Nat) (Cc : List (Int × Int)) (w : World)
    (ha : Stt w Aa na ca Ba ma ka Da pa qa a.L a.V a.C) (hb : Stt w Ab nb cb Bb mb kb Db pb qb b.L b.V b.C) (hi : Il w Bc mc kc Vc) (hd : Dl w Dc pc qc Cc) (hwa : ∀ x ∈ a.L, x.p.size ≤ 9223372036854775807 ∧ x.vt.size ≤ 9223372036854775807) (hwb : ∀ x ∈ b.L, x.p.size ≤ 9223372036854775807 ∧ x.vt.size ≤ 9223372036854775807) :
    Calls Try.prog 3 #[.agg #[.slice Aa na ca, .slice Ba ma ka, .slice Da pa qa], .agg #[.slice Ab nb cb, .slice Bb mb kb, .slice Db pb qb], .agg #[.slice Bc mc kc, .slice Dc pc qc]] w fun e w' => e = .returned (.bool true) ∧ Kept w w' := by
  have k0 := (Kept.refl w).alloc #[.slice Aa na ca, .slice Ba ma ka, .slice Da pa qa] 28
  have k1 := (Kept.refl (w.alloc (.cells #[.slice Aa na ca, .slice Ba ma ka, .slice Da pa qa] 28))).alloc #[.slice Ab nb cb, .slice Bb mb kb, .slice Db pb qb] 28
  have k2 := (Kept.refl ((w.alloc (.cells #[.slice Aa na ca, .slice Ba ma ka, .slice Da pa qa] 28)).alloc (.cells #[.slice Ab nb cb, .slice Bb mb kb, .slice Db pb qb] 28))).alloc #[.slice Bc mc kc, .slice Dc pc qc] 26
  have b0 := (Box3.new w (.slice Aa na ca) (.slice Ba ma ka) (.slice Da pa qa) 28).kept (k1.trans k2)
  have b1 := (Box3.new (w.alloc (.cells #[.slice Aa na ca, .slice Ba ma ka, .slice Da pa qa] 28)) (.slice Ab nb cb) (.slice Bb mb kb) (.slice Db pb qb) 28).kept k2
  have b2 := Box2.new ((w.alloc (.cells #[.slice Aa na ca, .slice Ba ma ka, .slice Da pa qa] 28)).alloc (.cells #[.slice Ab nb cb, .slice Bb mb kb, .slice Db pb qb] 28)) (.slice Bc mc kc) (.slice Dc pc qc) 26
  rw [show (w.alloc (.cells #[.slice Aa na ca, .slice Ba ma ka, .slice Da pa qa] 28)).heap.size = w.heap.size + 1 by simp] at b1
  rw [show ((w.alloc (.cells #[.slice Aa na ca, .slice Ba ma ka, .slice Da pa qa] 28)).alloc (.cells #[.slice Ab nb cb, .slice Bb mb kb, .slice Db pb qb] 28)).heap.size = w.heap.size + 2 by simp] at b2
  have hk := k0.trans (k1.trans k2)
  obtain ⟨fa, hfa⟩ : ∃ r : Bool, r = true ↔ ShortS a.L na ma pa ∧ StOk a.L a.V a.C := ⟨decide (ShortS a.L na ma pa ∧ StOk a.L a.V a.C), decide_eq_true_iff⟩
  obtain ⟨fb, hfb⟩ : ∃ r : Bool, r = true ↔ ShortS b.L nb mb pb ∧ StOk b.L b.V b.C := ⟨decide (ShortS b.L nb mb pb ∧ StOk b.L b.V b.C), decide_eq_true_iff⟩
  obtain ⟨fc, hfc⟩ : ∃ r : Bool, r = true ↔ ¬ Short Vc Cc mc pc := ⟨decide (¬ Short Vc Cc mc pc), decide_eq_true_iff⟩
  have HBa := Lib.hid b0; have HBb := Lib.hid b1; have HBc := Lib.hid b2
  have HSa := Lib.hid (ha.kept hk); have HSb := Lib.hid (hb.kept hk); have HIc := Lib.hid (hi.kept hk); have HDc := Lib.hid (hd.kept hk)
  have HK := Lib.hid hk
  have HFA := Lib.hid hfa; have HFB := Lib.hid hfb; have HFC := Lib.hid hfc
  have FA1 := fun w h => fine_any Aa na ca Ba ma ka Da pa qa a w h hwa fa hfa
  have FB1 := fun w h => fine_any Ab nb cb Bb mb kb Db pb qb b w h hwb fb hfb
  have FC1 := fun w h h' => long_any Bc mc kc Vc Dc pc qc Cc w h h' fc hfc
  replace FA1 := Lib.hid FA1; replace FB1 := Lib.hid FB1; replace FC1 := Lib.hid FC1
  clear ha hb hi hd hwa hwb k0 k1 k2 b0 b1 b2 hk hfa hfb hfc
  have ya0 := HBa.out.c0; have ya1 := HBa.out.c1; have ya2 := HBa.out.c2; have yb0 := HBb.out.c0; have yb1 := HBb.out.c1; have yb2 := HBb.out.c2; have yc0 := HBc.out.c0; have yc1 := HBc.out.c1
  cases fa with
  | false =>
    go_enter Try.func3, Try.ntmps3
    go_wp2_with fail
    go_at_call 4
    refine (FA1.out _ HSa.out).mono ?_
    rintro e w1 ⟨rfl, hkz⟩
    replace HK := Lib.hid (HK.out.trans hkz)
    replace HBa := Lib.hid (HBa.out.kept hkz)
    replace HBb := Lib.hid (HBb.out.kept hkz)
    replace HBc := Lib.hid (HBc.out.kept hkz)
    replace HSa := Lib.hid (HSa.out.kept hkz)
    replace HSb := Lib.hid (HSb.out.kept hkz)
    replace HIc := Lib.hid (HIc.out.kept hkz)
    replace HDc := Lib.hid (HDc.out.kept hkz)
    clear hkz
    clear ya0 ya1 ya2 yb0 yb1 yb2 yc0 yc1
    go_wp2_with fail
    go_at_call 6
    refine (jawake_any _).mono ?_
    rintro e wz ⟨rfl, hkz⟩
    replace HK := Lib.hid (HK.out.trans hkz)
    clear hkz
    go_wp2_with fail
    go_ret
    exact ⟨rfl, HK.out⟩
  | true =>
    cases fb with
    | false =>
      go_enter Try.func3, Try.ntmps3
      go_wp2_with fail
      go_at_call 4
      refine (FA1.out _ HSa.out).mono ?_
      rintro e w1 ⟨rfl, hkz⟩
      replace HK := Lib.hid (HK.out.trans hkz)
      replace HBa := Lib.hid (HBa.out.kept hkz)
      replace HBb := Lib.hid (HBb.out.kept hkz)
      replace HBc := Lib.hid (HBc.out.kept hkz)
      replace HSa := Lib.hid (HSa.out.kept hkz)
      replace HSb := Lib.hid (HSb.out.kept hkz)
      replace HIc := Lib.hid (HIc.out.kept hkz)
      replace HDc := Lib.hid (HDc.out.kept hkz)
      clear hkz
      clear ya0 ya1 ya2 yb0 yb1 yb2 yc0 yc1
      have ya0 := HBa.out.c0; have ya1 := HBa.out.c1; have ya2 := HBa.out.c2; have yb0 := HBb.out.c0; have yb1 := HBb.out.c1; have yb2 := HBb.out.c2; have yc0 := HBc.out.c0; have yc1 := HBc.out.c1
      go_wp2_with fail
      go_at_call 4
      refine (FB1.out _ HSb.out).mono ?_
      rintro e w2 ⟨rfl, hkz⟩
      replace HK := Lib.hid (HK.out.trans hkz)
      replace HBa := Lib.hid (HBa.out.kept hkz)
      replace HBb := Lib.hid (HBb.out.kept hkz)
      replace HBc := Lib.hid (HBc.out.kept hkz)
      replace HSa := Lib.hid (HSa.out.kept hkz)
      replace HSb := Lib.hid (HSb.out.kept hkz)
      replace HIc := Lib.hid (HIc.out.kept hkz)
      replace HDc := Lib.hid (HDc.out.kept hkz)
      clear hkz
      clear ya0 ya1 ya2 yb0 yb1 yb2 yc0 yc1
      go_wp2_with fail
      go_at_call 6
      refine (jawake_any _).mono ?_
      rintro e wz ⟨rfl, hkz⟩
      replace HK := Lib.hid (HK.out.trans hkz)
      clear hkz
      go_wp2_with fail
      go_ret
      exact ⟨rfl, HK.out⟩
    | true =>
      cases fc with
      | true =>
        go_enter Try.func3, Try.ntmps3
        go_wp2_with fail
        go_at_call 4
        refine (FA1.out _ HSa.out).mono ?_
        rintro e w1 ⟨rfl, hkz⟩
        replace HK := Lib.hid (HK.out.trans hkz)
        replace HBa := Lib.hid (HBa.out.kept hkz)
        replace HBb := Lib.hid (HBb.out.kept hkz)
        replace HBc := Lib.hid (HBc.out.kept hkz)
        replace HSa := Lib.hid (HSa.out.kept hkz)
        replace HSb := Lib.hid (HSb.out.kept hkz)
        replace HIc := Lib.hid (HIc.out.kept hkz)
        replace HDc := Lib.hid (HDc.out.kept hkz)
        clear hkz
        clear ya0 ya1 ya2 yb0 yb1 yb2 yc0 yc1
        have ya0 := HBa.out.c0; have ya1 := HBa.out.c1; have ya2 := HBa.out.c2; have yb0 := HBb.out.c0; have yb1 := HBb.out.c1; have yb2 := HBb.out.c2; have yc0 := HBc.out.c0; have yc1 := HBc.out.c1
        go_wp2_with fail
        go_at_call 4
        refine (FB1.out _ HSb.out).mono ?_
        rintro e w2 ⟨rfl, hkz⟩
        replace HK := Lib.hid (HK.out.trans hkz)
        replace HBa := Lib.hid (HBa.out.kept hkz)
        replace HBb := Lib.hid (HBb.out.kept hkz)
        replace HBc := Lib.hid (HBc.out.kept hkz)
        replace HSa := Lib.hid (HSa.out.kept hkz)
        replace HSb := Lib.hid (HSb.out.kept hkz)
        replace HIc := Lib.hid (HIc.out.kept hkz)
        replace HDc := Lib.hid (HDc.out.kept hkz)
        clear hkz
        clear ya0 ya1 ya2 yb0 yb1 yb2 yc0 yc1
        have ya0 := HBa.out.c0; have ya1 := HBa.out.c1; have ya2 := HBa.out.c2; have yb0 := HBb.out.c0; have yb1 := HBb.out.c1; have yb2 := HBb.out.c2; have yc0 := HBc.out.c0; have yc1 := HBc.out.c1
        go_wp2_with fail
        go_at_call 5
        refine (FC1.out _ HIc.out HDc.out).mono ?_
        rintro e w3 ⟨rfl, hkz⟩
        replace HK := Lib.hid (HK.out.trans hkz)
        replace HBa := Lib.hid (HBa.out.kept hkz)
        replace HBb := Lib.hid (HBb.out.kept hkz)
        replace HBc := Lib.hid (HBc.out.kept hkz)
        replace HSa := Lib.hid (HSa.out.kept hkz)
        replace HSb := Lib.hid (HSb.out.kept hkz)
        replace HIc := Lib.hid (HIc.out.kept hkz)
        replace HDc := Lib.hid (HDc.out.kept hkz)
        clear hkz
        clear ya0 ya1 ya2 yb0 yb1 yb2 yc0 yc1
        go_wp2_with fail
        go_at_call 6
        refine (jawake_any _).mono ?_
        rintro e wz ⟨rfl, hkz⟩
        replace HK := Lib.hid (HK.out.trans hkz)
        clear hkz
        go_wp2_with fail
        go_ret
        exact ⟨rfl, HK.out⟩
      | false =>
        obtain ⟨hsha, hoka⟩ := HFA.out.1 rfl
        obtain ⟨hshb, hokb⟩ := HFB.out.1 rfl
        have hshc : Short Vc Cc mc pc := Classical.byContradiction fun hh => by have := HFC.out.2 hh; cases this
        have hna : na ≤ 60 := hsha.2.1; have hma : ma ≤ 64 := hsha.2.2.1; have hpa : pa ≤ 60 := hsha.2.2.2
        have hnb : nb ≤ 60 := hshb.2.1; have hmb : mb ≤ 64 := hshb.2.2.1; have hpb : pb ≤ 60 := hshb.2.2.2
        have hmc : mc ≤ 64 := hshc.1; have hpc : pc ≤ 60 := hshc.2.1
        have HOa := Lib.hid (show Ord a from hoka.ord); have HOb := Lib.hid (show Ord b from hokb.ord)
        have HWC := Lib.hid (show ∀ d ∈ Cc, WfD d from fun d hd => wf_right (hshc.2.2.right d hd))
        have HAL := Lib.hid (show ∀ s ∈ [a, b, a], Ord s ∧ s.L.length ≤ 60 ∧ s.C.length ≤ 60 from fun s hs => by
          have la := HSa.out.el.1; have lb := HSb.out.el.1; have da := HSa.out.dl.1; have db := HSb.out.dl.1
          simp only [List.mem_cons, List.not_mem_nil, or_false] at hs
          rcases hs with rfl | rfl | rfl
          · exact ⟨HOa.out, by omega, by omega⟩
          · exact ⟨HOb.out, by omega, by omega⟩
          · exact ⟨HOa.out, by omega, by omega⟩)
        obtain ⟨z, hz⟩ : ∃ z : Bool, z = true ↔ JoinOf a b a := by
          by_cases e : JoinOf a b a
          · exact ⟨true, fun _ => e, fun _ => rfl⟩
          · exact ⟨false, (fun h => by cases h), fun h => absurd h e⟩
        have HZ := Lib.hid hz
        obtain ⟨X1, hX1⟩ : ∃ X, a.L.filter (newE Vc Cc) = X := ⟨_, rfl⟩
        obtain ⟨N1, hN1⟩ : ∃ N, X1.length = N := ⟨_, rfl⟩
        obtain ⟨N2, hN2⟩ : ∃ N, (goneE a b).length = N := ⟨_, rfl⟩
        have HX1 := Lib.hid hX1; have HN1 := Lib.hid hN1; have HN2 := Lib.hid hN2
        clear hsha hshb hshc hoka hokb hz hX1 hN1 hN2
        go_enter Try.func3, Try.ntmps3
        go_wp2_with fail
        go_at_call 4
        refine (FA1.out _ HSa.out).mono ?_
        rintro e w1 ⟨rfl, hkz⟩
        replace HK := Lib.hid (HK.out.trans hkz)
        replace HBa := Lib.hid (HBa.out.kept hkz)
        replace HBb := Lib.hid (HBb.out.kept hkz)
        replace HBc := Lib.hid (HBc.out.kept hkz)
        replace HSa := Lib.hid (HSa.out.kept hkz)
        replace HSb := Lib.hid (HSb.out.kept hkz)
        replace HIc := Lib.hid (HIc.out.kept hkz)
        replace HDc := Lib.hid (HDc.out.kept hkz)
        clear hkz
        clear ya0 ya1 ya2 yb0 yb1 yb2 yc0 yc1
        have ya0 := HBa.out.c0; have ya1 := HBa.out.c1; have ya2 := HBa.out.c2; have yb0 := HBb.out.c0; have yb1 := HBb.out.c1; have yb2 := HBb.out.c2; have yc0 := HBc.out.c0; have yc1 := HBc.out.c1
        go_wp2_with fail
        go_at_call 4
        refine (FB1.out _ HSb.out).mono ?_
        rintro e w2 ⟨rfl, hkz⟩
        replace HK := Lib.hid (HK.out.trans hkz)
        replace HBa := Lib.hid (HBa.out.kept hkz)
        replace HBb := Lib.hid (HBb.out.kept hkz)
        replace HBc := Lib.hid (HBc.out.kept hkz)
        replace HSa := Lib.hid (HSa.out.kept hkz)
        replace HSb := Lib.hid (HSb.out.kept hkz)
        replace HIc := Lib.hid (HIc.out.kept hkz)
        replace HDc := Lib.hid (HDc.out.kept hkz)
        clear hkz
        clear ya0 ya1 ya2 yb0 yb1 yb2 yc0 yc1
        have ya0 := HBa.out.c0; have ya1 := HBa.out.c1; have ya2 := HBa.out.c2; have yb0 := HBb.out.c0; have yb1 := HBb.out.c1; have yb2 := HBb.out.c2; have yc0 := HBc.out.c0; have yc1 := HBc.out.c1
        go_wp2_with fail
        go_at_call 5
        refine (FC1.out _ HIc.out HDc.out).mono ?_
        rintro e w3 ⟨rfl, hkz⟩
        replace HK := Lib.hid (HK.out.trans hkz)
        replace HBa := Lib.hid (HBa.out.kept hkz)
        replace HBb := Lib.hid (HBb.out.kept hkz)
        replace HBc := Lib.hid (HBc.out.kept hkz)
        replace HSa := Lib.hid (HSa.out.kept hkz)
        replace HSb := Lib.hid (HSb.out.kept hkz)
        replace HIc := Lib.hid (HIc.out.kept hkz)
        replace HDc := Lib.hid (HDc.out.kept hkz)
        clear hkz
        clear ya0 ya1 ya2 yb0 yb1 yb2 yc0 yc1
        have Xa0 := KExt.cell HBa.out.c0; have Xa1 := KExt.cell HBa.out.c1; have Xa2 := KExt.cell HBa.out.c2; have Xb0 := KExt.cell HBb.out.c0; have Xb1 := KExt.cell HBb.out.c1; have Xb2 := KExt.cell HBb.out.c2; have Xc0 := KExt.cell HBc.out.c0; have Xc1 := KExt.cell HBc.out.c1
        go_wp2_with fail
        refine region_seq w3 51 [(.read [0, 1, 3, 4] .stop, 27), (.one 2 (.one 5 .stop), 63), (.one 6 (.read [7, 8, 9, 10, 13, 14, 15] .stop), 59391), (.two 11 (.two 12 (.one 16 (.one 17 .stop)) 16 (.one 12 (.one 17 .stop))) 16 (.one 11 (.one 12 (.one 17 .stop))), 262143), (.one 18 (.read [19, 20, 21, 22, 24, 25] .stop), 58720255), (.one 23 (.one 26 .stop), 134217727), (.read [27, 28, 29, 30, 31, 33, 34] .stop, 30064771071), (.one 32 (.one 35 .stop), 68719476735), (.one 36 (.read [37, 38, 39, 40, 42, 43] .stop), 15393162788863), (.one 41 (.one 44 .stop), 35184372088831)] (.one 45 (.read [46, 47] (.one 48 (.read [49, 50] .stop)))) (by kernel_rfl) (by kernel_rfl) (by kernel_rfl) (by kernel_rfl) (by kernel_rfl) (fun _ d _ _ _ h => by cases d <;> exact h) (Kept.refl _) ?_
        intro wd hwd
        have HV := Lib.hid hwd
        clear hwd
        refine wpSeq_go ?_
        rw [wpPlan_read]
        simp only [pickOps_cons, pickOps_nil, consO_some, List.getElem?_cons_zero, List.getElem?_cons_succ]
        repeat (go_big_quiet_step (fail))
        refine wpQuiet_nil ?_
        refine wpPlan_stop ?_
        refine wpSeq_two 22 25 TwoS ?_ ?_
        · rw [wpPlan_one]
          simp only [pickOps_cons, pickOps_nil, consO_some, List.getElem?_cons_zero, List.getElem?_cons_succ]
          go_wp2_with (go_at_call 8; refine (join_any Aa na ca Ba ma ka Da pa qa a Ab nb cb Bb mb kb Db pb qb b _ (HSa.out.kept HV.out) (HSb.out.kept HV.out) HOa.out HOb.out (by omega) (by omega) (by omega) (by omega)).mono ?_; rintro e ug ⟨Ag, ng, cg, Bg, mg, kg, Dg, pg, qg, sg, rfl, hsg, hjg, hkz⟩)
          have HJg := Lib.hid hjg.1
          have HSg := Lib.hid hsg
          replace HV := Lib.hid (HV.out.trans hkz)
          clear hsg hjg hkz
          refine soloP HV.out ?_
          rw [wpPlan_one]
          simp only [pickOps_cons, pickOps_nil, consO_some, List.getElem?_cons_zero, List.getElem?_cons_succ]
          go_wp2_with (go_at_call 9; refine (rjoin_st Aa na ca Ba ma ka Da pa qa a Ab nb cb Bb mb kb Db pb qb b _ (HSa.out.kept HV.out) (HSb.out.kept HV.out) HOa.out HOb.out (by omega) (by omega) (by omega) (by omega)).mono ?_; rintro e uh ⟨Ah, nh, ch, Bh, mh, kh, Dh, ph, qh, sh, rfl, hsh, hjh, hkz⟩)
          rw [hjh.1.one HJg.out] at hsh
          have HSh := Lib.hid hsh
          replace HV := Lib.hid (HV.out.trans hkz)
          replace HSg := Lib.hid (HSg.out.kept hkz)
          clear hsh hjh hkz
          refine soloP HV.out ?_
          refine wpPlan_stop ?_
          exact ⟨.agg #[.slice Ag ng cg, .slice Bg mg kg, .slice Dg pg qg], .agg #[.slice Ah nh ch, .slice Bh mh kh, .slice Dh ph qh], (by simp only [Act.put, List.setIfInBounds_toArray, List.set_cons_succ, List.set_cons_zero]), Ag, ng, cg, Bg, mg, kg, Dg, pg, qg, Ah, nh, ch, Bh, mh, kh, Dh, ph, qh, sg, rfl, rfl, HSg.out, HSh.out⟩
        intro v u w4 hc hR
        obtain ⟨gx, hgx⟩ := hc
        have HV := Lib.hid (show Kept w3 w4 by rw [hgx]; exact gx.g)
        clear hgx gx
        simp only [Act.put, List.setIfInBounds_toArray, List.set_cons_succ, List.set_cons_zero]
        obtain ⟨Ag, ng, cg, Bg, mg, kg, Dg, pg, qg, Ah, nh, ch, Bh, mh, kh, Dh, ph, qh, sg, rfl, rfl, hsg, hsh⟩ := hR
        have HSg := Lib.hid hsg; have HSh := Lib.hid hsh
        clear hsg hsh
        refine wpSeq_go ?_
        rw [wpPlan_one]
        simp only [pickOps_cons, pickOps_nil, consO_some, List.getElem?_cons_zero, List.getElem?_cons_succ]
        go_wp2_with (go_at_call 7; refine (rsame_any Ag ng cg Bg mg kg Dg pg qg sg Ah nh ch Bh mh kh Dh ph qh sg _ HSg.out HSh.out true ⟨fun _ => ⟨rfl, rfl, rfl⟩, fun _ => rfl⟩).mono ?_; rintro e uz ⟨rfl, hkz⟩)
        replace HV := Lib.hid (HV.out.trans hkz)
        clear hkz HSg HSh
        refine soloP HV.out ?_
        rw [wpPlan_read]
        simp only [pickOps_cons, pickOps_nil, consO_some, List.getElem?_cons_zero, List.getElem?_cons_succ]
        repeat (go_big_quiet_step (fail))
        refine wpQuiet_nil ?_
        refine wpPlan_stop ?_
        obtain ⟨w5, hw5⟩ : ∃ w5, uz = w5 := ⟨_, rfl⟩
        rw [hw5] at HV ⊢
        clear hw5
        refine wpSeq_four 31 32 36 37 TwoS ?_ ?_
        · rw [wpPlan_two]
          simp only [pickOps_cons, pickOps_nil, consO_some, List.getElem?_cons_zero, List.getElem?_cons_succ]
          constructor
          · go_wp2_with fail
            have HL1 := Lib.hid (ss_three 28 (HSa.out.kept HV.out) (HSb.out.kept HV.out) (HSa.out.kept HV.out))
            have hkz := (Kept.refl w5).alloc #[.slice Aa na ca, .slice Ba ma ka, .slice Da pa qa, .slice Ab nb cb, .slice Bb mb kb, .slice Db pb qb, .slice Aa na ca, .slice Ba ma ka, .slice Da pa qa] 28
            obtain ⟨zL1, hz⟩ : ∃ z, (World.heap w5).size = z := ⟨_, rfl⟩
            replace HV := Lib.hid (HV.out.trans hkz)
            obtain ⟨yL1, hy⟩ : ∃ y, World.alloc w5 (.cells #[.slice Aa na ca, .slice Ba ma ka, .slice Da pa qa, .slice Ab nb cb, .slice Bb mb kb, .slice Db pb qb, .slice Aa na ca, .slice Ba ma ka, .slice Da pa qa] 28) = y := ⟨_, rfl⟩
            rw [hz, hy] at HL1
            rw [hy] at HV ⊢
            rw [hz]
            clear hkz hz hy
            refine soloP HV.out ?_
            rw [wpPlan_two]
            simp only [pickOps_cons, pickOps_nil, consO_some, List.getElem?_cons_zero, List.getElem?_cons_succ]
            constructor
            · go_wp2_with (go_at_call 10; refine (all_any 60 3 (by decide) _ 3 3 [a, b, a] _ HL1.out HAL.out rfl).mono ?_; rintro e ug ⟨Ag, ng, cg, Bg, mg, kg, Dg, pg, qg, sg, rfl, hsg, hjg, hkz⟩)
              have HJg := Lib.hid hjg.1
              have HSg := Lib.hid hsg
              replace HV := Lib.hid (HV.out.trans hkz)
              clear HL1 hsg hjg hkz
              refine soloP HV.out ?_
              rw [wpPlan_one]
              simp only [pickOps_cons, pickOps_nil, consO_some, List.getElem?_cons_zero, List.getElem?_cons_succ]
              go_wp2_with fail
              have HL2 := Lib.hid (ss_three 28 (HSa.out.kept HV.out) (HSb.out.kept HV.out) (HSa.out.kept HV.out))
              have hkz := (Kept.refl ug).alloc #[.slice Aa na ca, .slice Ba ma ka, .slice Da pa qa, .slice Ab nb cb, .slice Bb mb kb, .slice Db pb qb, .slice Aa na ca, .slice Ba ma ka, .slice Da pa qa] 28
              obtain ⟨zL2, hz⟩ : ∃ z, (World.heap ug).size = z := ⟨_, rfl⟩
              replace HV := Lib.hid (HV.out.trans hkz)
              replace HSg := Lib.hid (HSg.out.kept hkz)
              obtain ⟨yL2, hy⟩ : ∃ y, World.alloc ug (.cells #[.slice Aa na ca, .slice Ba ma ka, .slice Da pa qa, .slice Ab nb cb, .slice Bb mb kb, .slice Db pb qb, .slice Aa na ca, .slice Ba ma ka, .slice Da pa qa] 28) = y := ⟨_, rfl⟩
              rw [hz, hy] at HL2
              rw [hy] at HSg HV ⊢
              rw [hz]
              clear hkz hz hy
              refine soloP HV.out ?_
              rw [wpPlan_one]
              simp only [pickOps_cons, pickOps_nil, consO_some, List.getElem?_cons_zero, List.getElem?_cons_succ]
              go_wp2_with (go_at_call 11; refine (rall_any 60 _ 3 3 [a, b, a] _ HL2.out HAL.out (by decide)).mono ?_; rintro e uh ⟨Ah, nh, ch, Bh, mh, kh, Dh, ph, qh, sh, rfl, hsh, hjh, hkz⟩)
              rw [hjh.1.one HJg.out] at hsh
              have HSh := Lib.hid hsh
              replace HV := Lib.hid (HV.out.trans hkz)
              replace HSg := Lib.hid (HSg.out.kept hkz)
              clear HL2 hsh hjh hkz
              refine soloP HV.out ?_
              refine wpPlan_stop ?_
              exact ⟨.slice (some ⟨zL1, 0, none⟩) 3 3, .agg #[.slice Ag ng cg, .slice Bg mg kg, .slice Dg pg qg], .slice (some ⟨zL2, 0, none⟩) 3 3, .agg #[.slice Ah nh ch, .slice Bh mh kh, .slice Dh ph qh], (by simp only [Act.put, List.setIfInBounds_toArray, List.set_cons_succ, List.set_cons_zero]), Ag, ng, cg, Bg, mg, kg, Dg, pg, qg, Ah, nh, ch, Bh, mh, kh, Dh, ph, qh, sg, rfl, rfl, HSg.out, HSh.out⟩
            · go_wp2_with fail
              have HL2 := Lib.hid (ss_three 28 (HSa.out.kept HV.out) (HSb.out.kept HV.out) (HSa.out.kept HV.out))
              have hkz := (Kept.refl yL1).alloc #[.slice Aa na ca, .slice Ba ma ka, .slice Da pa qa, .slice Ab nb cb, .slice Bb mb kb, .slice Db pb qb, .slice Aa na ca, .slice Ba ma ka, .slice Da pa qa] 28
              obtain ⟨zL2, hz⟩ : ∃ z, (World.heap yL1).size = z := ⟨_, rfl⟩
              replace HV := Lib.hid (HV.out.trans hkz)
              replace HL1 := Lib.hid (HL1.out.kept hkz)
              obtain ⟨yL2, hy⟩ : ∃ y, World.alloc yL1 (.cells #[.slice Aa na ca, .slice Ba ma ka, .slice Da pa qa, .slice Ab nb cb, .slice Bb mb kb, .slice Db pb qb, .slice Aa na ca, .slice Ba ma ka, .slice Da pa qa] 28) = y := ⟨_, rfl⟩
              rw [hz, hy] at HL2
              rw [hy] at HL1 HV ⊢
              rw [hz]
              clear hkz hz hy
              refine soloP HV.out ?_
              rw [wpPlan_one]
              simp only [pickOps_cons, pickOps_nil, consO_some, List.getElem?_cons_zero, List.getElem?_cons_succ]
              go_wp2_with (go_at_call 10; refine (all_any 60 3 (by decide) _ 3 3 [a, b, a] _ HL1.out HAL.out rfl).mono ?_; rintro e ug ⟨Ag, ng, cg, Bg, mg, kg, Dg, pg, qg, sg, rfl, hsg, hjg, hkz⟩)
              have HJg := Lib.hid hjg.1
              have HSg := Lib.hid hsg
              replace HV := Lib.hid (HV.out.trans hkz)
              replace HL2 := Lib.hid (HL2.out.kept hkz)
              clear HL1 hsg hjg hkz
              refine soloP HV.out ?_
              rw [wpPlan_one]
              simp only [pickOps_cons, pickOps_nil, consO_some, List.getElem?_cons_zero, List.getElem?_cons_succ]
              go_wp2_with (go_at_call 11; refine (rall_any 60 _ 3 3 [a, b, a] _ HL2.out HAL.out (by decide)).mono ?_; rintro e uh ⟨Ah, nh, ch, Bh, mh, kh, Dh, ph, qh, sh, rfl, hsh, hjh, hkz⟩)
              rw [hjh.1.one HJg.out] at hsh
              have HSh := Lib.hid hsh
              replace HV := Lib.hid (HV.out.trans hkz)
              replace HSg := Lib.hid (HSg.out.kept hkz)
              clear HL2 hsh hjh hkz
              refine soloP HV.out ?_
              refine wpPlan_stop ?_
              exact ⟨.slice (some ⟨zL1, 0, none⟩) 3 3, .agg #[.slice Ag ng cg, .slice Bg mg kg, .slice Dg pg qg], .slice (some ⟨zL2, 0, none⟩) 3 3, .agg #[.slice Ah nh ch, .slice Bh mh kh, .slice Dh ph qh], (by simp only [Act.put, List.setIfInBounds_toArray, List.set_cons_succ, List.set_cons_zero]), Ag, ng, cg, Bg, mg, kg, Dg, pg, qg, Ah, nh, ch, Bh, mh, kh, Dh, ph, qh, sg, rfl, rfl, HSg.out, HSh.out⟩
          · go_wp2_with fail
            have HL2 := Lib.hid (ss_three 28 (HSa.out.kept HV.out) (HSb.out.kept HV.out) (HSa.out.kept HV.out))
            have hkz := (Kept.refl w5).alloc #[.slice Aa na ca, .slice Ba ma ka, .slice Da pa qa, .slice Ab nb cb, .slice Bb mb kb, .slice Db pb qb, .slice Aa na ca, .slice Ba ma ka, .slice Da pa qa] 28
            obtain ⟨zL2, hz⟩ : ∃ z, (World.heap w5).size = z := ⟨_, rfl⟩
            replace HV := Lib.hid (HV.out.trans hkz)
            obtain ⟨yL2, hy⟩ : ∃ y, World.alloc w5 (.cells #[.slice Aa na ca, .slice Ba ma ka, .slice Da pa qa, .slice Ab nb cb, .slice Bb mb kb, .slice Db pb qb, .slice Aa na ca, .slice Ba ma ka, .slice Da pa qa] 28) = y := ⟨_, rfl⟩
            rw [hz, hy] at HL2
            rw [hy] at HV ⊢
            rw [hz]
            clear hkz hz hy
            refine soloP HV.out ?_
            rw [wpPlan_one]
            simp only [pickOps_cons, pickOps_nil, consO_some, List.getElem?_cons_zero, List.getElem?_cons_succ]
            go_wp2_with fail
            have HL1 := Lib.hid (ss_three 28 (HSa.out.kept HV.out) (HSb.out.kept HV.out) (HSa.out.kept HV.out))
            have hkz := (Kept.refl yL2).alloc #[.slice Aa na ca, .slice Ba ma ka, .slice Da pa qa, .slice Ab nb cb, .slice Bb mb kb, .slice Db pb qb, .slice Aa na ca, .slice Ba ma ka, .slice Da pa qa] 28
            obtain ⟨zL1, hz⟩ : ∃ z, (World.heap yL2).size = z := ⟨_, rfl⟩
            replace HV := Lib.hid (HV.out.trans hkz)
            replace HL2 := Lib.hid (HL2.out.kept hkz)
            obtain ⟨yL1, hy⟩ : ∃ y, World.alloc yL2 (.cells #[.slice Aa na ca, .slice Ba ma ka, .slice Da pa qa, .slice Ab nb cb, .slice Bb mb kb, .slice Db pb qb, .slice Aa na ca, .slice Ba ma ka, .slice Da pa qa] 28) = y := ⟨_, rfl⟩
            rw [hz, hy] at HL1
            rw [hy] at HL2 HV ⊢
            rw [hz]
            clear hkz hz hy
            refine soloP HV.out ?_
            rw [wpPlan_one]
            simp only [pickOps_cons, pickOps_nil, consO_some, List.getElem?_cons_zero, List.getElem?_cons_succ]
            go_wp2_with (go_at_call 10; refine (all_any 60 3 (by decide) _ 3 3 [a, b, a] _ HL1.out HAL.out rfl).mono ?_; rintro e ug ⟨Ag, ng, cg, Bg, mg, kg, Dg, pg, qg, sg, rfl, hsg, hjg, hkz⟩)
            have HJg := Lib.hid hjg.1
            have HSg := Lib.hid hsg
            replace HV := Lib.hid (HV.out.trans hkz)
            replace HL2 := Lib.hid (HL2.out.kept hkz)
            clear HL1 hsg hjg hkz
            refine soloP HV.out ?_
            rw [wpPlan_one]
            simp only [pickOps_cons, pickOps_nil, consO_some, List.getElem?_cons_zero, List.getElem?_cons_succ]
            go_wp2_with (go_at_call 11; refine (rall_any 60 _ 3 3 [a, b, a] _ HL2.out HAL.out (by decide)).mono ?_; rintro e uh ⟨Ah, nh, ch, Bh, mh, kh, Dh, ph, qh, sh, rfl, hsh, hjh, hkz⟩)
            rw [hjh.1.one HJg.out] at hsh
            have HSh := Lib.hid hsh
            replace HV := Lib.hid (HV.out.trans hkz)
            replace HSg := Lib.hid (HSg.out.kept hkz)
            clear HL2 hsh hjh hkz
            refine soloP HV.out ?_
            refine wpPlan_stop ?_
            exact ⟨.slice (some ⟨zL1, 0, none⟩) 3 3, .agg #[.slice Ag ng cg, .slice Bg mg kg, .slice Dg pg qg], .slice (some ⟨zL2, 0, none⟩) 3 3, .agg #[.slice Ah nh ch, .slice Bh mh kh, .slice Dh ph qh], (by simp only [Act.put, List.setIfInBounds_toArray, List.set_cons_succ, List.set_cons_zero]), Ag, ng, cg, Bg, mg, kg, Dg, pg, qg, Ah, nh, ch, Bh, mh, kh, Dh, ph, qh, sg, rfl, rfl, HSg.out, HSh.out⟩
        intro v0 v u0 u w6 hc hR
        obtain ⟨gx, hgx⟩ := hc
        have HV := Lib.hid (show Kept w3 w6 by rw [hgx]; exact gx.g)
        clear hgx gx
        simp only [Act.put, List.setIfInBounds_toArray, List.set_cons_succ, List.set_cons_zero]
        obtain ⟨Ag, ng, cg, Bg, mg, kg, Dg, pg, qg, Ah, nh, ch, Bh, mh, kh, Dh, ph, qh, sg, rfl, rfl, hsg, hsh⟩ := hR
        have HSg := Lib.hid hsg; have HSh := Lib.hid hsh
        clear hsg hsh
        refine wpSeq_go ?_
        rw [wpPlan_one]
        simp only [pickOps_cons, pickOps_nil, consO_some, List.getElem?_cons_zero, List.getElem?_cons_succ]
        go_wp2_with (go_at_call 7; refine (rsame_any Ag ng cg Bg mg kg Dg pg qg sg Ah nh ch Bh mh kh Dh ph qh sg _ HSg.out HSh.out true ⟨fun _ => ⟨rfl, rfl, rfl⟩, fun _ => rfl⟩).mono ?_; rintro e uz ⟨rfl, hkz⟩)
        replace HV := Lib.hid (HV.out.trans hkz)
        clear hkz HSg HSh
        refine soloP HV.out ?_
        rw [wpPlan_read]
        simp only [pickOps_cons, pickOps_nil, consO_some, List.getElem?_cons_zero, List.getElem?_cons_succ]
        repeat (go_big_quiet_step (fail))
        refine wpQuiet_nil ?_
        refine wpPlan_stop ?_
        refine wpSeq_two 43 46 (fun v u _ => v = .bool z ∧ u = .bool z) ?_ ?_
        · rw [wpPlan_one]
          simp only [pickOps_cons, pickOps_nil, consO_some, List.getElem?_cons_zero, List.getElem?_cons_succ]
          go_wp2_with (go_at_call 12; refine (covers_any Aa na ca Ba ma ka Da pa qa a Ab nb cb Bb mb kb Db pb qb b _ (HSa.out.kept HV.out) (HSb.out.kept HV.out) HOa.out HOb.out (by omega) (by omega) (by omega) (by omega) z HZ.out).mono ?_; rintro e uz ⟨rfl, hkz⟩)
          replace HV := Lib.hid (HV.out.trans hkz)
          clear hkz
          refine soloP HV.out ?_
          rw [wpPlan_one]
          simp only [pickOps_cons, pickOps_nil, consO_some, List.getElem?_cons_zero, List.getElem?_cons_succ]
          go_wp2_with (go_at_call 13; refine (rcovers_any Aa na ca Ba ma ka Da pa qa a Ab nb cb Bb mb kb Db pb qb b _ (HSa.out.kept HV.out) (HSb.out.kept HV.out) HOa.out HOb.out (by omega) (by omega) (by omega) (by omega) z HZ.out).mono ?_; rintro e uz ⟨rfl, hkz⟩)
          replace HV := Lib.hid (HV.out.trans hkz)
          clear hkz
          refine soloP HV.out ?_
          refine wpPlan_stop ?_
          exact ⟨.bool z, .bool z, (by simp only [Act.put, List.setIfInBounds_toArray, List.set_cons_succ, List.set_cons_zero]), rfl, rfl⟩
        intro v u w7 hc hR
        obtain ⟨gx, hgx⟩ := hc
        have HV := Lib.hid (show Kept w3 w7 by rw [hgx]; exact gx.g)
        clear hgx gx
        simp only [Act.put, List.setIfInBounds_toArray, List.set_cons_succ, List.set_cons_zero]
        obtain ⟨rfl, rfl⟩ := hR
        refine wpSeq_go ?_
        rw [wpPlan_read]
        simp only [pickOps_cons, pickOps_nil, consO_some, List.getElem?_cons_zero, List.getElem?_cons_succ]
        repeat (go_big_quiet_step (fail))
        refine wpQuiet_nil ?_
        refine wpPlan_stop ?_
        refine wpSeq_two 52 55 (TwoE X1 N1) ?_ ?_
        · rw [wpPlan_one]
          simp only [pickOps_cons, pickOps_nil, consO_some, List.getElem?_cons_zero, List.getElem?_cons_succ]
          go_wp2_with (go_at_call 15; refine (beyond_any Aa na ca a.L (.slice Ba ma ka) (.slice Da pa qa) Bc mc kc Vc Dc pc qc Cc _ (HSa.out.el.kept HV.out) (HIc.out.kept HV.out) (HDc.out.kept HV.out) (by omega) (by omega) HWC.out HOa.out.wfL).mono ?_; rintro e ug ⟨Ag, cg, rfl, heg, hkz⟩)
          rw [HX1.out, HN1.out] at heg ⊢
          have HEg := Lib.hid heg
          replace HV := Lib.hid (HV.out.trans hkz)
          clear heg hkz
          refine soloP HV.out ?_
          rw [wpPlan_one]
          simp only [pickOps_cons, pickOps_nil, consO_some, List.getElem?_cons_zero, List.getElem?_cons_succ]
          go_wp2_with (go_at_call 16; refine (rbeyond_any Aa na ca a.L (.slice Ba ma ka) (.slice Da pa qa) Bc mc kc Vc Dc pc qc Cc _ (HSa.out.el.kept HV.out) (HIc.out.kept HV.out) (HDc.out.kept HV.out) (by omega)).mono ?_; rintro e uh ⟨Ah, ch, rfl, heh, hkz⟩)
          rw [HX1.out, HN1.out] at heh ⊢
          have HEh := Lib.hid heh
          replace HV := Lib.hid (HV.out.trans hkz)
          replace HEg := Lib.hid (HEg.out.kept hkz)
          clear heh hkz
          refine soloP HV.out ?_
          refine wpPlan_stop ?_
          exact ⟨.slice Ag N1 cg, .slice Ah N1 ch, (by simp only [Act.put, List.setIfInBounds_toArray, List.set_cons_succ, List.set_cons_zero]), Ag, cg, Ah, ch, rfl, rfl, HEg.out, HEh.out⟩
        intro v u w8 hc hR
        obtain ⟨gx, hgx⟩ := hc
        have HV := Lib.hid (show Kept w3 w8 by rw [hgx]; exact gx.g)
        clear hgx gx
        simp only [Act.put, List.setIfInBounds_toArray, List.set_cons_succ, List.set_cons_zero]
        obtain ⟨Ag, cg, Ah, ch, rfl, rfl, heg, heh⟩ := hR
        have HEg := Lib.hid heg; have HEh := Lib.hid heh
        clear heg heh
        refine wpSeq_go ?_
        rw [wpPlan_one]
        simp only [pickOps_cons, pickOps_nil, consO_some, List.getElem?_cons_zero, List.getElem?_cons_succ]
        go_wp2_with (go_at_call 14; refine (entries_yes Ag N1 cg Ah N1 ch X1 X1 _ HEg.out HEh.out rfl).mono ?_; rintro e uz ⟨rfl, hkz⟩)
        replace HV := Lib.hid (HV.out.trans hkz)
        clear hkz HEg HEh
        refine soloP HV.out ?_
        rw [wpPlan_read]
        simp only [pickOps_cons, pickOps_nil, consO_some, List.getElem?_cons_zero, List.getElem?_cons_succ]
        repeat (go_big_quiet_step (fail))
        refine wpQuiet_nil ?_
        refine wpPlan_stop ?_
        refine wpSeq_two 61 64 (TwoD (goneE a b) N2) ?_ ?_
        · rw [wpPlan_one]
          simp only [pickOps_cons, pickOps_nil, consO_some, List.getElem?_cons_zero, List.getElem?_cons_succ]
          go_wp2_with (go_at_call 18; refine (gone_any Aa na ca Ba ma ka Da pa qa a Ab nb cb (.slice Bb mb kb) (.slice Db pb qb) b _ (HSa.out.kept HV.out) (HSb.out.el.kept HV.out) HOa.out HOb.out.wfL (by omega) (by omega) (by omega)).mono ?_; rintro e ug ⟨Ag, cg, rfl, heg, hkz⟩)
          rw [HN2.out] at heg ⊢
          have HEg := Lib.hid heg
          replace HV := Lib.hid (HV.out.trans hkz)
          clear heg hkz
          refine soloP HV.out ?_
          rw [wpPlan_one]
          simp only [pickOps_cons, pickOps_nil, consO_some, List.getElem?_cons_zero, List.getElem?_cons_succ]
          go_wp2_with (go_at_call 19; refine (rgone_any Aa na ca Ba ma ka Da pa qa a Ab nb cb (.slice Bb mb kb) (.slice Db pb qb) b _ (HSa.out.kept HV.out) (HSb.out.el.kept HV.out) HOa.out (by omega) (by omega)).mono ?_; rintro e uh ⟨Ah, ch, rfl, heh, hkz⟩)
          rw [HN2.out] at heh ⊢
          have HEh := Lib.hid heh
          replace HV := Lib.hid (HV.out.trans hkz)
          replace HEg := Lib.hid (HEg.out.kept hkz)
          clear heh hkz
          refine soloP HV.out ?_
          refine wpPlan_stop ?_
          exact ⟨.slice Ag N2 cg, .slice Ah N2 ch, (by simp only [Act.put, List.setIfInBounds_toArray, List.set_cons_succ, List.set_cons_zero]), Ag, cg, Ah, ch, rfl, rfl, HEg.out, HEh.out⟩
        intro v u w9 hc hR
        obtain ⟨gx, hgx⟩ := hc
        have HV := Lib.hid (show Kept w3 w9 by rw [hgx]; exact gx.g)
        clear hgx gx
        simp only [Act.put, List.setIfInBounds_toArray, List.set_cons_succ, List.set_cons_zero]
        obtain ⟨Ag, cg, Ah, ch, rfl, rfl, heg, heh⟩ := hR
        have HEg := Lib.hid heg; have HEh := Lib.hid heh
        clear heg heh
        refine wpSeq_nil ?_
        rw [wpPlan_one]
        simp only [pickOps_cons, pickOps_nil, consO_some, List.getElem?_cons_zero, List.getElem?_cons_succ]
        go_wp2_with (go_at_call 17; refine (same_of Ag Ah cg ch N2 N2 (goneE a b) (goneE a b) _ HEg.out HEh.out rfl).mono ?_; rintro e uz ⟨rfl, hkz⟩)
        replace HV := Lib.hid (HV.out.trans hkz)
        clear hkz HEg HEh
        refine soloP HV.out ?_
        rw [wpPlan_read]
        simp only [pickOps_cons, pickOps_nil, consO_some, List.getElem?_cons_zero, List.getElem?_cons_succ]
        repeat (go_big_quiet_step (fail))
        refine wpQuiet_nil ?_
        rw [wpPlan_one]
        simp only [pickOps_cons, pickOps_nil, consO_some, List.getElem?_cons_zero, List.getElem?_cons_succ]
        go_wp2_with (go_at_call 6; refine (jawake_any _).mono ?_; rintro e uz ⟨rfl, hkz⟩)
        replace HV := Lib.hid (HV.out.trans hkz)
        clear hkz
        refine soloP HV.out ?_
        rw [wpPlan_read]
        simp only [pickOps_cons, pickOps_nil, consO_some, List.getElem?_cons_zero, List.getElem?_cons_succ]
        repeat (go_big_quiet_step (fail))
        refine wpQuiet_nil ?_
        refine wpPlan_stop ?_
        clear Xa0 Xa1 Xa2 Xb0 Xb1 Xb2 Xc0 Xc1
        go_wp2_with fail
        go_ret
        exact ⟨rfl, HK.out.trans HV.out⟩
end Go.Proofs.Ytcldbmhjfmbcfaa
