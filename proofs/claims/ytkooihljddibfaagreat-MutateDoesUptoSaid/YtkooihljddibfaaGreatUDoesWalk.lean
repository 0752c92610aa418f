/-
  What is proved: the Go function MutateDoes of layer 10's laws, called with any state, any entry and any small number, returns true; the world has new blocks at most.
-/
import Derived.Test.YtkooihljddibfaaGreatUAwake
import Derived.Test.YtkooihljddibfaaGreatUDoesM
import Derived.Test.YtkooihljddibfaaGreatM33
import Derived.Test.YtkooihljddibfaaGreatM19
import Derived.Test.YtkooihljddibfaaGreatM7
import Derived.Test.YtkooihljddibfaaGreatERight
namespace Go.Proofs.YtkooihljddibfaaGreat
open Go.RowKit
set_option linter.unusedVariables false

open Classical in
set_option maxRecDepth 100000 in
set_option maxHeartbeats 32000000 in
theorem mutateDoes_any (Aa : Option Addr) (na ca : Nat) (Ba : Option Addr) (ma ka : Nat) (Da : Option Addr) (pa qa : Nat) (a : Sta) (x : En) (m : Int) (w : World)
    (ha : Stt w Aa na ca Ba ma ka Da pa qa a.L a.V a.C) (hwa : ∀ y ∈ a.L, y.p.size ≤ 9223372036854775807 ∧ y.vt.size ≤ 9223372036854775807) (hxp : x.p.size ≤ 1048576) (hxt : x.vt.size ≤ 1048576) (hm : 0 ≤ m ∧ m ≤ 255) :
    Calls Tryz.prog 4 #[.agg #[.slice Aa na ca, .slice Ba ma ka, .slice Da pa qa], .agg #[.int .i64 x.d.1, .int .i64 x.d.2, .string x.p, .int .i64 x.k, .int .i64 x.vk, .int .i64 x.vn, .string x.vt, .int .i64 x.e.1, .int .i64 x.e.2], .int .u8 m] w fun e w' => e = .returned (.bool true) ∧ Kept w w' := by
  have hk := ((Kept.refl w).alloc #[.slice Aa na ca, .slice Ba ma ka, .slice Da pa qa] 28).alloc #[.int .i64 x.d.1, .int .i64 x.d.2, .string x.p, .int .i64 x.k, .int .i64 x.vk, .int .i64 x.vn, .string x.vt, .int .i64 x.e.1, .int .i64 x.e.2] 34
  have hka := (Kept.refl (w.alloc (.cells #[.slice Aa na ca, .slice Ba ma ka, .slice Da pa qa] 28))).alloc #[.int .i64 x.d.1, .int .i64 x.d.2, .string x.p, .int .i64 x.k, .int .i64 x.vk, .int .i64 x.vn, .string x.vt, .int .i64 x.e.1, .int .i64 x.e.2] 34
  have HBa := Lib.hid ((Box3.new w (.slice Aa na ca) (.slice Ba ma ka) (.slice Da pa qa) 28).kept hka)
  have hx := EntF.new (w.alloc (.cells #[.slice Aa na ca, .slice Ba ma ka, .slice Da pa qa] 28)) x 34
  rw [show (w.alloc (.cells #[.slice Aa na ca, .slice Ba ma ka, .slice Da pa qa] 28)).heap.size = w.heap.size + 1 by simp] at hx
  have HX := Lib.hid hx
  have HK := Lib.hid hk
  have HSa := Lib.hid (ha.kept hk); have ha0 := Lib.hid ha
  obtain ⟨fl, hfl⟩ : ∃ r : Bool, r = true ↔ ¬ ShortS a.L na ma pa := ⟨decide (¬ ShortS a.L na ma pa), decide_eq_true_iff⟩
  obtain ⟨fr, hfr⟩ : ∃ r : Bool, r = true ↔ StOk a.L a.V a.C := ⟨decide (StOk a.L a.V a.C), decide_eq_true_iff⟩
  obtain ⟨fx, hfx⟩ : ∃ r : Bool, rightE x = r := ⟨_, rfl⟩
  have FL := Lib.hid (fun w (h : Stt w Aa na ca Ba ma ka Da pa qa a.L a.V a.C) => slong_any Aa na ca Ba ma ka Da pa qa a.L a.V a.C w h.el h.il h.dl hwa fl hfl)
  have FX := Lib.hid (fun w => eright_c x fx hfx w (by omega) (by omega))
  have HFL := Lib.hid hfl; have HFR := Lib.hid hfr; have HFX := Lib.hid hfx
  have HXZ := Lib.hid (And.intro hxp hxt); have HM := Lib.hid hm
  clear ha hwa hk hka hx hfl hfr hfx hxp hxt hm
  cases fl with
  | true =>
    have ya0 := HBa.out.c0; have ya1 := HBa.out.c1; have ya2 := HBa.out.c2
    have xc0 := HX.out.ent.c0; have xc1 := HX.out.ent.c1; have xc2 := HX.out.ent.c2; have xc3 := HX.out.ent.c3; have xc4 := HX.out.ent.c4; have xc5 := HX.out.ent.c5; have xc6 := HX.out.ent.c6; have xc7 := HX.out.ent.c7; have xc8 := HX.out.ent.c8
    go_enter Tryz.func4, Tryz.ntmps4
    go_wp2_with fail
    go_at_call 5
    refine (FL.out _ HSa.out).mono ?_
    rintro e w1 ⟨rfl, hkz⟩
    replace HK := Lib.hid (HK.out.trans hkz)
    replace HBa := Lib.hid (HBa.out.kept hkz); replace HX := Lib.hid (HX.out.kept hkz); replace HSa := Lib.hid (HSa.out.kept hkz)
    clear hkz
    clear ya0 ya1 ya2
    clear xc0 xc1 xc2 xc3 xc4 xc5 xc6 xc7 xc8
    go_wp2_with fail
    go_at_call 7
    refine (uawake_any _).mono ?_
    rintro e wz ⟨rfl, hkz⟩
    replace HK := Lib.hid (HK.out.trans hkz)
    clear hkz
    go_wp2_with fail
    go_ret
    exact ⟨rfl, HK.out⟩
  | false =>
    have hsh : ShortS a.L na ma pa := Classical.byContradiction fun hh => by have := HFL.out.2 hh; cases this
    have hna : na ≤ 60 := hsh.2.1; have hpa : pa ≤ 60 := hsh.2.2.2
    have HSZ := Lib.hid hsh.1
    have FR := Lib.hid (fun w (h : Stt w Aa na ca Ba ma ka Da pa qa a.L a.V a.C) => rsright_any Aa na ca a.L Ba ma ka a.V Da pa qa a.C w h.el h.il h.dl (fun y hy => ⟨Nat.le_trans (hsh.1 y hy).1 (by decide), Nat.le_trans (hsh.1 y hy).2 (by decide)⟩) fr HFR.out)
    clear hsh
    cases fr with
    | false =>
      have ya0 := HBa.out.c0; have ya1 := HBa.out.c1; have ya2 := HBa.out.c2
      have xc0 := HX.out.ent.c0; have xc1 := HX.out.ent.c1; have xc2 := HX.out.ent.c2; have xc3 := HX.out.ent.c3; have xc4 := HX.out.ent.c4; have xc5 := HX.out.ent.c5; have xc6 := HX.out.ent.c6; have xc7 := HX.out.ent.c7; have xc8 := HX.out.ent.c8
      go_enter Tryz.func4, Tryz.ntmps4
      go_wp2_with fail
      go_at_call 5
      refine (FL.out _ HSa.out).mono ?_
      rintro e w1 ⟨rfl, hkz⟩
      replace HK := Lib.hid (HK.out.trans hkz)
      replace HBa := Lib.hid (HBa.out.kept hkz); replace HX := Lib.hid (HX.out.kept hkz); replace HSa := Lib.hid (HSa.out.kept hkz)
      clear hkz
      clear ya0 ya1 ya2
      clear xc0 xc1 xc2 xc3 xc4 xc5 xc6 xc7 xc8
      have ya0 := HBa.out.c0; have ya1 := HBa.out.c1; have ya2 := HBa.out.c2
      have xc0 := HX.out.ent.c0; have xc1 := HX.out.ent.c1; have xc2 := HX.out.ent.c2; have xc3 := HX.out.ent.c3; have xc4 := HX.out.ent.c4; have xc5 := HX.out.ent.c5; have xc6 := HX.out.ent.c6; have xc7 := HX.out.ent.c7; have xc8 := HX.out.ent.c8
      go_wp2_with fail
      go_at_call 6
      refine (FR.out _ HSa.out).mono ?_
      rintro e w2 ⟨rfl, hkz⟩
      replace HK := Lib.hid (HK.out.trans hkz)
      replace HBa := Lib.hid (HBa.out.kept hkz); replace HX := Lib.hid (HX.out.kept hkz); replace HSa := Lib.hid (HSa.out.kept hkz)
      clear hkz
      clear ya0 ya1 ya2
      clear xc0 xc1 xc2 xc3 xc4 xc5 xc6 xc7 xc8
      go_wp2_with fail
      go_at_call 7
      refine (uawake_any _).mono ?_
      rintro e wz ⟨rfl, hkz⟩
      replace HK := Lib.hid (HK.out.trans hkz)
      clear hkz
      go_wp2_with fail
      go_ret
      exact ⟨rfl, HK.out⟩
    | true =>
      have HOK := Lib.hid (HFR.out.1 rfl)
      have HOa := Lib.hid (show Ord a from HOK.out.ord)
      cases fx with
      | false =>
        have ya0 := HBa.out.c0; have ya1 := HBa.out.c1; have ya2 := HBa.out.c2
        have xc0 := HX.out.ent.c0; have xc1 := HX.out.ent.c1; have xc2 := HX.out.ent.c2; have xc3 := HX.out.ent.c3; have xc4 := HX.out.ent.c4; have xc5 := HX.out.ent.c5; have xc6 := HX.out.ent.c6; have xc7 := HX.out.ent.c7; have xc8 := HX.out.ent.c8
        go_enter Tryz.func4, Tryz.ntmps4
        go_wp2_with fail
        go_at_call 5
        refine (FL.out _ HSa.out).mono ?_
        rintro e w1 ⟨rfl, hkz⟩
        replace HK := Lib.hid (HK.out.trans hkz)
        replace HBa := Lib.hid (HBa.out.kept hkz); replace HX := Lib.hid (HX.out.kept hkz); replace HSa := Lib.hid (HSa.out.kept hkz)
        clear hkz
        clear ya0 ya1 ya2
        clear xc0 xc1 xc2 xc3 xc4 xc5 xc6 xc7 xc8
        have ya0 := HBa.out.c0; have ya1 := HBa.out.c1; have ya2 := HBa.out.c2
        have xc0 := HX.out.ent.c0; have xc1 := HX.out.ent.c1; have xc2 := HX.out.ent.c2; have xc3 := HX.out.ent.c3; have xc4 := HX.out.ent.c4; have xc5 := HX.out.ent.c5; have xc6 := HX.out.ent.c6; have xc7 := HX.out.ent.c7; have xc8 := HX.out.ent.c8
        go_wp2_with fail
        go_at_call 6
        refine (FR.out _ HSa.out).mono ?_
        rintro e w2 ⟨rfl, hkz⟩
        replace HK := Lib.hid (HK.out.trans hkz)
        replace HBa := Lib.hid (HBa.out.kept hkz); replace HX := Lib.hid (HX.out.kept hkz); replace HSa := Lib.hid (HSa.out.kept hkz)
        clear hkz
        clear ya0 ya1 ya2
        clear xc0 xc1 xc2 xc3 xc4 xc5 xc6 xc7 xc8
        have ya0 := HBa.out.c0; have ya1 := HBa.out.c1; have ya2 := HBa.out.c2
        have xc0 := HX.out.ent.c0; have xc1 := HX.out.ent.c1; have xc2 := HX.out.ent.c2; have xc3 := HX.out.ent.c3; have xc4 := HX.out.ent.c4; have xc5 := HX.out.ent.c5; have xc6 := HX.out.ent.c6; have xc7 := HX.out.ent.c7; have xc8 := HX.out.ent.c8
        go_wp2_with fail
        go_at_call 17
        refine (FX.out _).mono ?_
        rintro e w3 ⟨rfl, hkz⟩
        replace HK := Lib.hid (HK.out.trans hkz)
        replace HBa := Lib.hid (HBa.out.kept hkz); replace HX := Lib.hid (HX.out.kept hkz); replace HSa := Lib.hid (HSa.out.kept hkz)
        clear hkz
        clear ya0 ya1 ya2
        clear xc0 xc1 xc2 xc3 xc4 xc5 xc6 xc7 xc8
        go_wp2_with fail
        go_at_call 7
        refine (uawake_any _).mono ?_
        rintro e wz ⟨rfl, hkz⟩
        replace HK := Lib.hid (HK.out.trans hkz)
        clear hkz
        go_wp2_with fail
        go_ret
        exact ⟨rfl, HK.out⟩
      | true =>
        by_cases hP : 0 ≤ x.d.1 ∧ x.d.1 < 64 ∧ mostC a.V a.C x.d.1 < 1073741824
        · obtain ⟨y, hy⟩ : ∃ y : En, y = ⟨(x.d.1, mostC a.V a.C x.d.1 + 1), x.p, x.k, x.vk, x.vn, x.vt, x.e⟩ := ⟨_, rfl⟩
          have HNX := Lib.hid (show nx a.V a.C x.d.1 = ((y.d.1, y.d.2), (0 : Int)) by unfold nx; rw [if_pos hP, hy])
          have HNEW := Lib.hid (show ¬ hasC a.V a.C y.d by rw [hy]; exact next_new)
          have HRD := Lib.hid (show rightD y.d = true by
            have h1 := most_bd HOa.out.ctx x.d.1
            rw [hy]
            unfold rightD
            rw [decide_eq_true_iff]
            simp only
            omega)
          have HRY := Lib.hid (show rightE y = true by
            obtain ⟨h1, h2, h3, h4, h5⟩ := rightE_of.1 HFX.out
            refine rightE_of.2 ⟨HRD.out, ?_⟩
            rw [hy]
            exact ⟨h2, h3, h4, h5⟩)
          have hyp : y.p = x.p := by rw [hy]
          have hyk : y.k = x.k := by rw [hy]
          have hyv : y.vk = x.vk := by rw [hy]
          have hyn : y.vn = x.vn := by rw [hy]
          have hyt : y.vt = x.vt := by rw [hy]
          have hye : y.e = x.e := by rw [hy]
          have HYE := Lib.hid (And.intro hyp (And.intro hyk (And.intro hyv (And.intro hyn (And.intro hyt hye)))))
          clear hy hP hyp hyk hyv hyn hyt hye
          have ya0 := HBa.out.c0; have ya1 := HBa.out.c1; have ya2 := HBa.out.c2
          have xc0 := HX.out.ent.c0; have xc1 := HX.out.ent.c1; have xc2 := HX.out.ent.c2; have xc3 := HX.out.ent.c3; have xc4 := HX.out.ent.c4; have xc5 := HX.out.ent.c5; have xc6 := HX.out.ent.c6; have xc7 := HX.out.ent.c7; have xc8 := HX.out.ent.c8
          go_enter Tryz.func4, Tryz.ntmps4
          go_wp2_with fail
          go_at_call 5
          refine (FL.out _ HSa.out).mono ?_
          rintro e w1 ⟨rfl, hkz⟩
          replace HK := Lib.hid (HK.out.trans hkz)
          replace HBa := Lib.hid (HBa.out.kept hkz); replace HX := Lib.hid (HX.out.kept hkz); replace HSa := Lib.hid (HSa.out.kept hkz)
          clear hkz
          clear ya0 ya1 ya2
          clear xc0 xc1 xc2 xc3 xc4 xc5 xc6 xc7 xc8
          have ya0 := HBa.out.c0; have ya1 := HBa.out.c1; have ya2 := HBa.out.c2
          have xc0 := HX.out.ent.c0; have xc1 := HX.out.ent.c1; have xc2 := HX.out.ent.c2; have xc3 := HX.out.ent.c3; have xc4 := HX.out.ent.c4; have xc5 := HX.out.ent.c5; have xc6 := HX.out.ent.c6; have xc7 := HX.out.ent.c7; have xc8 := HX.out.ent.c8
          go_wp2_with fail
          go_at_call 6
          refine (FR.out _ HSa.out).mono ?_
          rintro e w2 ⟨rfl, hkz⟩
          replace HK := Lib.hid (HK.out.trans hkz)
          replace HBa := Lib.hid (HBa.out.kept hkz); replace HX := Lib.hid (HX.out.kept hkz); replace HSa := Lib.hid (HSa.out.kept hkz)
          clear hkz
          clear ya0 ya1 ya2
          clear xc0 xc1 xc2 xc3 xc4 xc5 xc6 xc7 xc8
          have ya0 := HBa.out.c0; have ya1 := HBa.out.c1; have ya2 := HBa.out.c2
          have xc0 := HX.out.ent.c0; have xc1 := HX.out.ent.c1; have xc2 := HX.out.ent.c2; have xc3 := HX.out.ent.c3; have xc4 := HX.out.ent.c4; have xc5 := HX.out.ent.c5; have xc6 := HX.out.ent.c6; have xc7 := HX.out.ent.c7; have xc8 := HX.out.ent.c8
          go_wp2_with fail
          go_at_call 17
          refine (FX.out _).mono ?_
          rintro e w3 ⟨rfl, hkz⟩
          replace HK := Lib.hid (HK.out.trans hkz)
          replace HBa := Lib.hid (HBa.out.kept hkz); replace HX := Lib.hid (HX.out.kept hkz); replace HSa := Lib.hid (HSa.out.kept hkz)
          clear hkz
          clear ya0 ya1 ya2
          clear xc0 xc1 xc2 xc3 xc4 xc5 xc6 xc7 xc8
          have ya0 := HBa.out.c0; have ya1 := HBa.out.c1; have ya2 := HBa.out.c2
          have xc0 := HX.out.ent.c0; have xc1 := HX.out.ent.c1; have xc2 := HX.out.ent.c2; have xc3 := HX.out.ent.c3; have xc4 := HX.out.ent.c4; have xc5 := HX.out.ent.c5; have xc6 := HX.out.ent.c6; have xc7 := HX.out.ent.c7; have xc8 := HX.out.ent.c8
          go_wp2_with fail
          go_at_call 8
          refine (unext_any (.slice Aa na ca) Ba ma ka a.V Da pa qa a.C x.d.1 _ HSa.out.il HSa.out.dl HOa.out.ctx).mono ?_
          rintro e w4 ⟨hN, hkz⟩
          obtain rfl := hN.nx HNX.out
          have hka := (Kept.refl w4).alloc #[.int .i64 y.d.1, .int .i64 y.d.2] 30
          have hkk := hkz.trans hka
          replace HK := Lib.hid (HK.out.trans hkk)
          have HX0 := HX
          have HS0 := Lib.hid ha0.out
          replace HBa := Lib.hid (HBa.out.kept hkk); replace HX := Lib.hid (HX.out.kept hkk); replace HSa := Lib.hid (HSa.out.kept hkk)
          have HD := Lib.hid (Box2.new w4 (.int .i64 y.d.1) (.int .i64 y.d.2) 30)
          have HLT := Lib.hid (show w.heap.size + 1 < w4.heap.size from Nat.lt_of_lt_of_le (World.block_lt_of_cell? _ _ HX0.out.ent.c0) hkz.2.2)
          clear hN hkz hka hkk
          clear ya0 ya1 ya2
          clear xc0 xc1 xc2 xc3 xc4 xc5 xc6 xc7 xc8
          have xf := HX.out.f
          have ya0 := HBa.out.c0; have ya1 := HBa.out.c1; have ya2 := HBa.out.c2
          have xc0 := HX.out.ent.c0; have xc1 := HX.out.ent.c1; have xc2 := HX.out.ent.c2; have xc3 := HX.out.ent.c3; have xc4 := HX.out.ent.c4; have xc5 := HX.out.ent.c5; have xc6 := HX.out.ent.c6; have xc7 := HX.out.ent.c7; have xc8 := HX.out.ent.c8
          obtain ⟨U, hU⟩ : ∃ U, ((w4.alloc (.cells #[.int .i64 y.d.1, .int .i64 y.d.2] 30)).setCell ⟨w.heap.size + 1, 0, none⟩ (.int .i64 y.d.1)).setCell ⟨w.heap.size + 1, 1, none⟩ (.int .i64 y.d.2) = U := ⟨_, rfl⟩
          have hBU := HBa.out.far2 (b' := w.heap.size + 1) (by omega) (.int .i64 y.d.1) (.int .i64 y.d.2)
          have hXU := HX.out.redot HYE.out.1 HYE.out.2.1 HYE.out.2.2.1 HYE.out.2.2.2.1 HYE.out.2.2.2.2.1 HYE.out.2.2.2.2.2
          have hDU := (HD.out.far (c := w.heap.size + 1) (o := 0) (by have := HLT.out; omega) (.int .i64 y.d.1)).far (c := w.heap.size + 1) (o := 1) (by have := HLT.out; omega) (.int .i64 y.d.2)
          have hKU := (HK.out.setCell (a := ⟨w.heap.size + 1, 0, none⟩) (Nat.le_add_right _ 1) (.int .i64 y.d.1)).setCell (a := ⟨w.heap.size + 1, 1, none⟩) (Nat.le_add_right _ 1) (.int .i64 y.d.2)
          rw [hU] at hBU hXU hDU hKU
          have ub0 := hBU.c0
          rw [← hU] at ub0
          replace HBa := Lib.hid hBU; replace HX := Lib.hid hXU; replace HD := Lib.hid hDU; replace HK := Lib.hid hKU; replace HSa := Lib.hid (HS0.out.kept hKU)
          have HUU := Lib.hid hU
          clear hBU hXU hDU hKU hU HLT HX0 HS0
          go_wp2_with fail
          rw [HUU.out]
          clear ub0 xf HUU
          clear ya0 ya1 ya2
          clear xc0 xc1 xc2 xc3 xc4 xc5 xc6 xc7 xc8
          have hcap := HSa.out.el.cap.1; have hcap2 := HSa.out.el.cap.2
          go_loopw [9, 49] (fun v i wr => ∃ k : Nat, k ≤ na ∧ i = .int .i64 k ∧ OutG U wr v (pickE (bitB m) a.L k)) (fun _ i _ => na - (intOf i).toNat)
          case atStart => exact ⟨0, Nat.zero_le _, rfl, OutG.start U⟩
          case round =>
            obtain ⟨k, hk, rfl, ho⟩ := hrel
            obtain ⟨Av, cv, rfl, hdv⟩ := ho.form
            obtain ⟨nv, hnv⟩ : ∃ n, (pickE (bitB m) a.L k).length = n := ⟨_, rfl⟩
            have hnk := pickE_len (bitB m) a.L k
            rw [hnv] at ho hnk ⊢
            have hvc := hdv.cap.1; have hvc2 := hdv.cap.2
            rw [hnv] at hvc
            have HO := Lib.hid ho
            clear ho hdv hnv
            by_cases hlt : k < na
            · obtain ⟨g, o, z, rfl, hz, EZ⟩ := (HSa.out.kept HO.out.ke).el.get hlt
              have z0 := EZ.c0; have z1 := EZ.c1; have z2 := EZ.c2; have z3 := EZ.c3; have z4 := EZ.c4; have z5 := EZ.c5; have z6 := EZ.c6; have z7 := EZ.c7; have z8 := EZ.c8
              have hka := (Kept.refl wr).alloc #[.int .i64 z.d.1, .int .i64 z.d.2, .string z.p, .int .i64 z.k, .int .i64 z.vk, .int .i64 z.vn, .string z.vt, .int .i64 z.e.1, .int .i64 z.e.2] 34
              have hps := pickE_step (b := bitB m) hz
              obtain ⟨bt, hbt⟩ : ∃ r, bitB m k = r := ⟨_, rfl⟩
              rw [hbt] at hps
              clear EZ hz
              cases bt with
              | false =>
                have ht : (Go.bits BinOp.and IntKind.u8 (m / 2 ^ (k % 8)) 1 == 1) = false := hbt
                have HN := Lib.hid (show OutG U (wr.alloc (.cells #[.int .i64 z.d.1, .int .i64 z.d.2, .string z.p, .int .i64 z.k, .int .i64 z.vk, .int .i64 z.vn, .string z.vt, .int .i64 z.e.1, .int .i64 z.e.2] 34)) (.slice Av nv cv) (pickE (bitB m) a.L (k + 1)) by rw [hps, if_neg (by decide)]; exact HO.out.kept hka)
                clear hka hps hbt
                go_wp2_with fail
                go_roundw
                case rel => exact ⟨k + 1, hlt, by go_num, HN.out⟩
                case measure => simp [intOf]; omega
              | true =>
                have ht : (Go.bits BinOp.and IntKind.u8 (m / 2 ^ (k % 8)) 1 == 1) = true := hbt
                have hk2 := hka.trans ((Kept.refl (wr.alloc (.cells #[.int .i64 z.d.1, .int .i64 z.d.2, .string z.p, .int .i64 z.k, .int .i64 z.vk, .int .i64 z.vn, .string z.vt, .int .i64 z.e.1, .int .i64 z.e.2] 34))).alloc #[.int .i64 z.d.1, .int .i64 z.d.2] 30)
                obtain ⟨v8, w8, hr8, ho8, _⟩ := (HO.out.kept hk2).app _ 1 1 [(z.d.1, z.d.2)] (dl_one (wr.alloc (.cells #[.int .i64 z.d.1, .int .i64 z.d.2, .string z.p, .int .i64 z.k, .int .i64 z.vk, .int .i64 z.vn, .string z.vt, .int .i64 z.e.1, .int .i64 z.e.2] 34)) z.d.1 z.d.2 30) (by have := pickE_len (bitB m) a.L k; omega)
                rw [show (wr.alloc (.cells #[.int .i64 z.d.1, .int .i64 z.d.2, .string z.p, .int .i64 z.k, .int .i64 z.vk, .int .i64 z.vn, .string z.vt, .int .i64 z.e.1, .int .i64 z.e.2] 34)).heap.size = wr.heap.size + 1 by simp] at hr8
                have HN := Lib.hid (show OutG U w8 v8 (pickE (bitB m) a.L (k + 1)) by rw [hps, if_pos rfl]; exact ho8)
                have HR8 := Lib.hid hr8
                clear hka hk2 hps hbt hr8 ho8
                go_wp2_with (at_builtin; refine Lib.wpList_append_run _ rfl (.tmp 61) (.tmp 64) _ _ rfl _ _ rfl rfl _ _ HR8.out ?_)
                go_roundw
                case rel => exact ⟨k + 1, hlt, by go_num, HN.out⟩
                case measure => simp [intOf]; omega
            · skip
              have hkna : k = na := by omega
              rw [hkna] at HO ⊢
              obtain ⟨G, hG⟩ : ∃ G, pickE (bitB m) a.L na = G := ⟨_, rfl⟩
              have hpl := pickE_len (bitB m) a.L na
              have hsub : (pickE (bitB m) a.L na).Sublist (a.L.map (·.d)) := by rw [HSa.out.el.1]; exact pickE_sub
              rw [hG] at HO hpl hsub
              have HSUB := Lib.hid hsub
              replace HK := Lib.hid (HK.out.trans HO.out.ke)
              replace HBa := Lib.hid (HBa.out.kept HO.out.ke); replace HX := Lib.hid (HX.out.kept HO.out.ke); replace HSa := Lib.hid (HSa.out.kept HO.out.ke); replace HD := Lib.hid (HD.out.kept HO.out.ke)
              obtain ⟨Ao, co, hvv, hdo⟩ := HO.out.form
              rw [hvv]
              obtain ⟨no, hno⟩ : ∃ n, G.length = n := ⟨_, rfl⟩
              rw [hno] at hdo hpl ⊢
              clear hvv hvc hvc2 hnk
              have HG := Lib.hid hdo; have HGL := Lib.hid hdo.1
              have hno9 : no ≤ 900000 := by omega
              have hoc := hdo.cap.1; have hoc2 := hdo.cap.2
              obtain ⟨W1, hW1⟩ : ∃ W1, wr = W1 := ⟨_, rfl⟩
              rw [hW1] at HK HBa HX HD HSa HG ⊢
              clear hW1 HO hG hsub hdo hno hkna hlt hk
              have Y0 := KExt.cell HBa.out.c0; have Y1 := KExt.cell HBa.out.c1; have Y2 := KExt.cell HBa.out.c2
              have X0 := KExt.cell HX.out.ent.c0; have X1 := KExt.cell HX.out.ent.c1; have X2 := KExt.cell HX.out.ent.c2; have X3 := KExt.cell HX.out.ent.c3; have X4 := KExt.cell HX.out.ent.c4; have X5 := KExt.cell HX.out.ent.c5; have X6 := KExt.cell HX.out.ent.c6; have X7 := KExt.cell HX.out.ent.c7; have X8 := KExt.cell HX.out.ent.c8
              have D0 := KExt.cell HD.out.c0; have D1 := KExt.cell HD.out.c1
              go_wp2_with fail
              go_cut [12, 13] (fun v u wx => TwoB W1 (fun p q => DoesR a y G p q) v u wx)
              case first =>
                refine region_plan W1 14 (.read [0, 1, 2, 5, 6, 7] (.three 3 (.three 4 (.three 8 (.three 9 (.two 10 (.one 11 (.one 12 (.one 13 .stop))) 11 (.one 10 (.one 12 (.one 13 .stop)))) 10 (.two 9 (.one 11 (.one 12 (.one 13 .stop))) 11 (.one 9 (.one 12 (.one 13 .stop)))) 11 (.two 9 (.one 10 (.one 12 (.one 13 .stop))) 10 (.one 9 (.one 12 (.one 13 .stop))))) 10 (.two 8 (.two 9 (.one 11 (.one 12 (.one 13 .stop))) 11 (.one 9 (.one 12 (.one 13 .stop)))) 11 (.one 8 (.one 9 (.one 12 (.one 13 .stop))))) 11 (.two 8 (.two 9 (.one 10 (.one 12 (.one 13 .stop))) 10 (.one 9 (.one 12 (.one 13 .stop)))) 10 (.one 8 (.one 9 (.one 12 (.one 13 .stop)))))) 10 (.two 4 (.two 8 (.two 9 (.one 11 (.one 12 (.one 13 .stop))) 11 (.one 9 (.one 12 (.one 13 .stop)))) 11 (.one 8 (.one 9 (.one 12 (.one 13 .stop))))) 11 (.one 4 (.one 8 (.one 9 (.one 12 (.one 13 .stop)))))) 11 (.two 4 (.two 8 (.two 9 (.one 10 (.one 12 (.one 13 .stop))) 10 (.one 9 (.one 12 (.one 13 .stop)))) 10 (.one 8 (.one 9 (.one 12 (.one 13 .stop))))) 10 (.one 4 (.one 8 (.one 9 (.one 12 (.one 13 .stop))))))) 10 (.two 3 (.two 4 (.two 8 (.two 9 (.one 11 (.one 12 (.one 13 .stop))) 11 (.one 9 (.one 12 (.one 13 .stop)))) 11 (.one 8 (.one 9 (.one 12 (.one 13 .stop))))) 11 (.one 4 (.one 8 (.one 9 (.one 12 (.one 13 .stop)))))) 11 (.one 3 (.one 4 (.one 8 (.one 9 (.one 12 (.one 13 .stop))))))) 11 (.two 3 (.two 4 (.two 8 (.two 9 (.one 10 (.one 12 (.one 13 .stop))) 10 (.one 9 (.one 12 (.one 13 .stop)))) 10 (.one 8 (.one 9 (.one 12 (.one 13 .stop))))) 10 (.one 4 (.one 8 (.one 9 (.one 12 (.one 13 .stop)))))) 10 (.one 3 (.one 4 (.one 8 (.one 9 (.one 12 (.one 13 .stop))))))))) (by kernel_rfl) (by kernel_rfl) (by kernel_rfl) (by kernel_rfl) (by kernel_rfl) (fun _ d _ _ _ h => by cases d <;> exact h) (Kept.refl _) ?_
                intro wd hwd
                have HV := Lib.hid hwd
                clear hwd
                rw [wpPlan_read]
                simp only [pickOps_cons, pickOps_nil, consO_some, List.getElem?_cons_zero, List.getElem?_cons_succ]
                repeat (go_big_quiet_step (fail))
                refine wpQuiet_nil ?_
                clear Y0 Y1 Y2
                clear X0 X1 X2 X3 X4 X5 X6 X7 X8
                clear D0 D1
                rw [wpPlan_three]
                simp only [pickOps_cons, pickOps_nil, consO_some, List.getElem?_cons_zero, List.getElem?_cons_succ]
                refine ⟨?_, ?_, ?_⟩
                · go_wp2_with (go_at_call 10; refine (uleave_any y Ao no co G _ (HG.out.kept HV.out) hno9).mono ?_; rintro e u1 ⟨Al, nl, cl, Bl, ml, kl, Dl, pl, ql, sl, rfl, hsl, hjl, hkz⟩)
                  have HSl := Lib.hid hsl
                  have HJl := Lib.hid hjl
                  replace HV := Lib.hid (HV.out.trans hkz)
                  clear hsl hjl hkz
                  have hnl : nl ≤ 100000 := by have h1 := HSl.out.el.1; have h2 := HJl.out.1; rw [h2] at h1; simp at h1; omega
                  have hpl : pl ≤ 100000 := by have h1 := HSl.out.dl.1; have h2 := HJl.out.2.2; have h3 := HGL.out; omega
                  refine soloP HV.out ?_
                  rw [wpPlan_three]
                  simp only [pickOps_cons, pickOps_nil, consO_some, List.getElem?_cons_zero, List.getElem?_cons_succ]
                  refine ⟨?_, ?_, ?_⟩
                  · go_wp2_with (go_at_call 15; refine (uplay_any Aa na ca Ba ma ka Da pa qa a Al nl cl Bl ml kl Dl pl ql sl _ (HSa.out.kept HV.out) HSl.out HOa.out (leave_ord HRD.out HJl.out.1 HJl.out.2.1) (by omega) (by omega) hnl hpl).mono ?_; rintro e u2 ⟨Ag, ng, cg, Bg, mg, kg, Dg, pg, qg, sg, rfl, hsg, hjg, hkz⟩)
                    clear HSl
                    have HSg := Lib.hid hsg
                    have HJg := Lib.hid hjg
                    replace HV := Lib.hid (HV.out.trans hkz)
                    clear hsg hjg hkz
                    refine soloP HV.out ?_
                    rw [wpPlan_three]
                    simp only [pickOps_cons, pickOps_nil, consO_some, List.getElem?_cons_zero, List.getElem?_cons_succ]
                    refine ⟨?_, ?_, ?_⟩
                    · go_wp2_with (go_at_call 12; refine (utake_any y.d Ao no co G _ (HG.out.kept HV.out) hno9).mono ?_; rintro e u3 ⟨At, nt, ct, Bt, mt, kt, Dt, pt, qt, st, rfl, hst, hjt, hkz⟩)
                      replace HSg := Lib.hid (HSg.out.kept hkz)
                      have HSt := Lib.hid hst
                      have HJt := Lib.hid hjt
                      replace HV := Lib.hid (HV.out.trans hkz)
                      clear hst hjt hkz
                      have hnt : nt ≤ 100000 := by have h1 := HSt.out.el.1; have h2 := HJt.out.1; rw [h2] at h1; simp at h1; omega
                      have hpt : pt ≤ 100000 := by have h1 := HSt.out.dl.1; have h2 := HJt.out.2.2; have h3 := HGL.out; omega
                      refine soloP HV.out ?_
                      rw [wpPlan_three]
                      simp only [pickOps_cons, pickOps_nil, consO_some, List.getElem?_cons_zero, List.getElem?_cons_succ]
                      refine ⟨?_, ?_, ?_⟩
                      · go_wp2_with (go_at_call 15; refine (uplay_any Aa na ca Ba ma ka Da pa qa a At nt ct Bt mt kt Dt pt qt st _ (HSa.out.kept HV.out) HSt.out HOa.out (take_ord HJt.out.1 HJt.out.2.1) (by omega) (by omega) hnt hpt).mono ?_; rintro e u4 ⟨Ah, nh, ch, Bh, mh, kh, Dh, ph, qh, sh, rfl, hsh, hjh, hkz⟩)
                        clear HSt
                        replace HSg := Lib.hid (HSg.out.kept hkz)
                        have HSh := Lib.hid hsh
                        have HJh := Lib.hid hjh
                        replace HV := Lib.hid (HV.out.trans hkz)
                        clear hsh hjh hkz
                        refine soloP HV.out ?_
                        rw [wpPlan_two]
                        simp only [pickOps_cons, pickOps_nil, consO_some, List.getElem?_cons_zero, List.getElem?_cons_succ]
                        constructor
                        · go_wp2_with fail
                          have hkz := (Kept.refl u4).alloc #[.slice none 0 0, .slice none 0 0, .slice none 0 0] 28
                          replace HSg := Lib.hid (HSg.out.kept hkz)
                          replace HSh := Lib.hid (HSh.out.kept hkz)
                          have HBC := Lib.hid (Box3.new u4 (.slice none 0 0) (.slice none 0 0) (.slice none 0 0) 28)
                          have HLC := Lib.hid HV.out.2.2
                          replace HV := Lib.hid (HV.out.trans hkz)
                          obtain ⟨bC, hbz⟩ : ∃ b, (World.heap u4).size = b := ⟨_, rfl⟩
                          obtain ⟨u5, hwz⟩ : ∃ u, World.alloc u4 (.cells #[.slice none 0 0, .slice none 0 0, .slice none 0 0] 28) = u := ⟨_, rfl⟩
                          rw [hwz] at HBC HV HSg HSh ⊢
                          rw [hbz] at HBC HLC ⊢
                          clear hkz hbz hwz
                          refine soloP HV.out ?_
                          rw [wpPlan_one]
                          simp only [pickOps_cons, pickOps_nil, consO_some, List.getElem?_cons_zero, List.getElem?_cons_succ]
                          go_wp2_with fail
                          have hkz := (Kept.refl u5).alloc #[.slice none 0 0, .slice none 0 0, .slice none 0 0] 28
                          have HNE := Lib.hid (show bC ≠ u5.heap.size from fun e => by have := HBC.out.lt; omega)
                          replace HSg := Lib.hid (HSg.out.kept hkz)
                          replace HSh := Lib.hid (HSh.out.kept hkz)
                          replace HBC := Lib.hid (HBC.out.kept hkz)
                          have HBD := Lib.hid (Box3.new u5 (.slice none 0 0) (.slice none 0 0) (.slice none 0 0) 28)
                          have HLD := Lib.hid HV.out.2.2
                          replace HV := Lib.hid (HV.out.trans hkz)
                          obtain ⟨bD, hbz⟩ : ∃ b, (World.heap u5).size = b := ⟨_, rfl⟩
                          obtain ⟨u6, hwz⟩ : ∃ u, World.alloc u5 (.cells #[.slice none 0 0, .slice none 0 0, .slice none 0 0] 28) = u := ⟨_, rfl⟩
                          rw [hwz] at HBD HV HSg HSh HBC ⊢
                          rw [hbz] at HBD HLD HNE ⊢
                          clear hkz hbz hwz
                          refine soloP HV.out ?_
                          rw [wpPlan_one]
                          simp only [pickOps_cons, pickOps_nil, consO_some, List.getElem?_cons_zero, List.getElem?_cons_succ]
                          have hl := HLC.out
                          have e0 := HBC.out.c0; have e1 := HBC.out.c1; have e2 := HBC.out.c2; have ef0 := HBC.out.f 0; have ef1 := HBC.out.f 1; have ef2 := HBC.out.f 2
                          go_wp2_with fail
                          clear e0 e1 e2 ef0 ef1 ef2
                          replace HSg := Lib.hid (HBC.out.stt (.slice Ag ng cg) (.slice Bg mg kg) (.slice Dg pg qg) HSg.out)
                          replace HSh := Lib.hid (HBC.out.stt (.slice Ag ng cg) (.slice Bg mg kg) (.slice Dg pg qg) HSh.out)
                          replace HBD := Lib.hid (HBD.out.set_far HNE.out.symm (.slice Ag ng cg) (.slice Bg mg kg) (.slice Dg pg qg))
                          replace HBC := Lib.hid (HBC.out.set3 (.slice Ag ng cg) (.slice Bg mg kg) (.slice Dg pg qg))
                          replace HV := Lib.hid (((HV.out.setCell (a := ⟨bC, 0, none⟩) hl (.slice Ag ng cg)).setCell (a := ⟨bC, 1, none⟩) hl (.slice Bg mg kg)).setCell (a := ⟨bC, 2, none⟩) hl (.slice Dg pg qg))
                          obtain ⟨u7, hwz⟩ : ∃ u, ((World.setCell u6 ⟨bC, 0, none⟩ (.slice Ag ng cg)).setCell ⟨bC, 1, none⟩ (.slice Bg mg kg)).setCell ⟨bC, 2, none⟩ (.slice Dg pg qg) = u := ⟨_, rfl⟩
                          rw [hwz] at HV HBC HBD HSg HSh ⊢
                          clear hl hwz
                          refine soloP HV.out ?_
                          rw [wpPlan_one]
                          simp only [pickOps_cons, pickOps_nil, consO_some, List.getElem?_cons_zero, List.getElem?_cons_succ]
                          have hl := HLD.out
                          have e0 := HBD.out.c0; have e1 := HBD.out.c1; have e2 := HBD.out.c2; have ef0 := HBD.out.f 0; have ef1 := HBD.out.f 1; have ef2 := HBD.out.f 2
                          go_wp2_with fail
                          clear e0 e1 e2 ef0 ef1 ef2
                          replace HSg := Lib.hid (HBD.out.stt (.slice Ah nh ch) (.slice Bh mh kh) (.slice Dh ph qh) HSg.out)
                          replace HSh := Lib.hid (HBD.out.stt (.slice Ah nh ch) (.slice Bh mh kh) (.slice Dh ph qh) HSh.out)
                          replace HBC := Lib.hid (HBC.out.set_far HNE.out (.slice Ah nh ch) (.slice Bh mh kh) (.slice Dh ph qh))
                          replace HBD := Lib.hid (HBD.out.set3 (.slice Ah nh ch) (.slice Bh mh kh) (.slice Dh ph qh))
                          replace HV := Lib.hid (((HV.out.setCell (a := ⟨bD, 0, none⟩) hl (.slice Ah nh ch)).setCell (a := ⟨bD, 1, none⟩) hl (.slice Bh mh kh)).setCell (a := ⟨bD, 2, none⟩) hl (.slice Dh ph qh))
                          obtain ⟨u8, hwz⟩ : ∃ u, ((World.setCell u7 ⟨bD, 0, none⟩ (.slice Ah nh ch)).setCell ⟨bD, 1, none⟩ (.slice Bh mh kh)).setCell ⟨bD, 2, none⟩ (.slice Dh ph qh) = u := ⟨_, rfl⟩
                          rw [hwz] at HV HBC HBD HSg HSh ⊢
                          clear hl hwz
                          refine soloP HV.out ?_
                          have HF := Lib.hid (show TwoB W1 (fun p q => DoesR a y G p q) (.pointer (some ⟨bC, 0, none⟩)) (.pointer (some ⟨bD, 0, none⟩)) u8 from ⟨bC, bD, Ag, ng, cg, Bg, mg, kg, Dg, pg, qg, Ah, nh, ch, Bh, mh, kh, Dh, ph, qh, sg, sh, rfl, rfl, HV.out, HBC.out, HBD.out, HSg.out, HSh.out, ⟨sl, st, HJl.out, HJt.out, HJg.out, HJh.out⟩⟩)
                          refine wpPlan_stop ?_
                          go_wp2_with fail
                          go_meet
                          exact HF.out
                        · go_wp2_with fail
                          have hkz := (Kept.refl u4).alloc #[.slice none 0 0, .slice none 0 0, .slice none 0 0] 28
                          replace HSg := Lib.hid (HSg.out.kept hkz)
                          replace HSh := Lib.hid (HSh.out.kept hkz)
                          have HBD := Lib.hid (Box3.new u4 (.slice none 0 0) (.slice none 0 0) (.slice none 0 0) 28)
                          have HLD := Lib.hid HV.out.2.2
                          replace HV := Lib.hid (HV.out.trans hkz)
                          obtain ⟨bD, hbz⟩ : ∃ b, (World.heap u4).size = b := ⟨_, rfl⟩
                          obtain ⟨u5, hwz⟩ : ∃ u, World.alloc u4 (.cells #[.slice none 0 0, .slice none 0 0, .slice none 0 0] 28) = u := ⟨_, rfl⟩
                          rw [hwz] at HBD HV HSg HSh ⊢
                          rw [hbz] at HBD HLD ⊢
                          clear hkz hbz hwz
                          refine soloP HV.out ?_
                          rw [wpPlan_one]
                          simp only [pickOps_cons, pickOps_nil, consO_some, List.getElem?_cons_zero, List.getElem?_cons_succ]
                          go_wp2_with fail
                          have hkz := (Kept.refl u5).alloc #[.slice none 0 0, .slice none 0 0, .slice none 0 0] 28
                          have HNE := Lib.hid (show bD ≠ u5.heap.size from fun e => by have := HBD.out.lt; omega)
                          replace HSg := Lib.hid (HSg.out.kept hkz)
                          replace HSh := Lib.hid (HSh.out.kept hkz)
                          replace HBD := Lib.hid (HBD.out.kept hkz)
                          have HBC := Lib.hid (Box3.new u5 (.slice none 0 0) (.slice none 0 0) (.slice none 0 0) 28)
                          have HLC := Lib.hid HV.out.2.2
                          replace HV := Lib.hid (HV.out.trans hkz)
                          obtain ⟨bC, hbz⟩ : ∃ b, (World.heap u5).size = b := ⟨_, rfl⟩
                          obtain ⟨u6, hwz⟩ : ∃ u, World.alloc u5 (.cells #[.slice none 0 0, .slice none 0 0, .slice none 0 0] 28) = u := ⟨_, rfl⟩
                          rw [hwz] at HBC HV HSg HSh HBD ⊢
                          rw [hbz] at HBC HLC HNE ⊢
                          clear hkz hbz hwz
                          refine soloP HV.out ?_
                          rw [wpPlan_one]
                          simp only [pickOps_cons, pickOps_nil, consO_some, List.getElem?_cons_zero, List.getElem?_cons_succ]
                          have hl := HLC.out
                          have e0 := HBC.out.c0; have e1 := HBC.out.c1; have e2 := HBC.out.c2; have ef0 := HBC.out.f 0; have ef1 := HBC.out.f 1; have ef2 := HBC.out.f 2
                          go_wp2_with fail
                          clear e0 e1 e2 ef0 ef1 ef2
                          replace HSg := Lib.hid (HBC.out.stt (.slice Ag ng cg) (.slice Bg mg kg) (.slice Dg pg qg) HSg.out)
                          replace HSh := Lib.hid (HBC.out.stt (.slice Ag ng cg) (.slice Bg mg kg) (.slice Dg pg qg) HSh.out)
                          replace HBD := Lib.hid (HBD.out.set_far HNE.out (.slice Ag ng cg) (.slice Bg mg kg) (.slice Dg pg qg))
                          replace HBC := Lib.hid (HBC.out.set3 (.slice Ag ng cg) (.slice Bg mg kg) (.slice Dg pg qg))
                          replace HV := Lib.hid (((HV.out.setCell (a := ⟨bC, 0, none⟩) hl (.slice Ag ng cg)).setCell (a := ⟨bC, 1, none⟩) hl (.slice Bg mg kg)).setCell (a := ⟨bC, 2, none⟩) hl (.slice Dg pg qg))
                          obtain ⟨u7, hwz⟩ : ∃ u, ((World.setCell u6 ⟨bC, 0, none⟩ (.slice Ag ng cg)).setCell ⟨bC, 1, none⟩ (.slice Bg mg kg)).setCell ⟨bC, 2, none⟩ (.slice Dg pg qg) = u := ⟨_, rfl⟩
                          rw [hwz] at HV HBC HBD HSg HSh ⊢
                          clear hl hwz
                          refine soloP HV.out ?_
                          rw [wpPlan_one]
                          simp only [pickOps_cons, pickOps_nil, consO_some, List.getElem?_cons_zero, List.getElem?_cons_succ]
                          have hl := HLD.out
                          have e0 := HBD.out.c0; have e1 := HBD.out.c1; have e2 := HBD.out.c2; have ef0 := HBD.out.f 0; have ef1 := HBD.out.f 1; have ef2 := HBD.out.f 2
                          go_wp2_with fail
                          clear e0 e1 e2 ef0 ef1 ef2
                          replace HSg := Lib.hid (HBD.out.stt (.slice Ah nh ch) (.slice Bh mh kh) (.slice Dh ph qh) HSg.out)
                          replace HSh := Lib.hid (HBD.out.stt (.slice Ah nh ch) (.slice Bh mh kh) (.slice Dh ph qh) HSh.out)
                          replace HBC := Lib.hid (HBC.out.set_far HNE.out.symm (.slice Ah nh ch) (.slice Bh mh kh) (.slice Dh ph qh))
                          replace HBD := Lib.hid (HBD.out.set3 (.slice Ah nh ch) (.slice Bh mh kh) (.slice Dh ph qh))
                          replace HV := Lib.hid (((HV.out.setCell (a := ⟨bD, 0, none⟩) hl (.slice Ah nh ch)).setCell (a := ⟨bD, 1, none⟩) hl (.slice Bh mh kh)).setCell (a := ⟨bD, 2, none⟩) hl (.slice Dh ph qh))
                          obtain ⟨u8, hwz⟩ : ∃ u, ((World.setCell u7 ⟨bD, 0, none⟩ (.slice Ah nh ch)).setCell ⟨bD, 1, none⟩ (.slice Bh mh kh)).setCell ⟨bD, 2, none⟩ (.slice Dh ph qh) = u := ⟨_, rfl⟩
                          rw [hwz] at HV HBC HBD HSg HSh ⊢
                          clear hl hwz
                          refine soloP HV.out ?_
                          have HF := Lib.hid (show TwoB W1 (fun p q => DoesR a y G p q) (.pointer (some ⟨bC, 0, none⟩)) (.pointer (some ⟨bD, 0, none⟩)) u8 from ⟨bC, bD, Ag, ng, cg, Bg, mg, kg, Dg, pg, qg, Ah, nh, ch, Bh, mh, kh, Dh, ph, qh, sg, sh, rfl, rfl, HV.out, HBC.out, HBD.out, HSg.out, HSh.out, ⟨sl, st, HJl.out, HJt.out, HJg.out, HJh.out⟩⟩)
                          refine wpPlan_stop ?_
                          go_wp2_with fail
                          go_meet
                          exact HF.out
                      · go_wp2_with fail
                        have hkz := (Kept.refl u3).alloc #[.slice none 0 0, .slice none 0 0, .slice none 0 0] 28
                        replace HSg := Lib.hid (HSg.out.kept hkz)
                        replace HSt := Lib.hid (HSt.out.kept hkz)
                        have HBC := Lib.hid (Box3.new u3 (.slice none 0 0) (.slice none 0 0) (.slice none 0 0) 28)
                        have HLC := Lib.hid HV.out.2.2
                        replace HV := Lib.hid (HV.out.trans hkz)
                        obtain ⟨bC, hbz⟩ : ∃ b, (World.heap u3).size = b := ⟨_, rfl⟩
                        obtain ⟨u4, hwz⟩ : ∃ u, World.alloc u3 (.cells #[.slice none 0 0, .slice none 0 0, .slice none 0 0] 28) = u := ⟨_, rfl⟩
                        rw [hwz] at HBC HV HSg HSt ⊢
                        rw [hbz] at HBC HLC ⊢
                        clear hkz hbz hwz
                        refine soloP HV.out ?_
                        rw [wpPlan_two]
                        simp only [pickOps_cons, pickOps_nil, consO_some, List.getElem?_cons_zero, List.getElem?_cons_succ]
                        constructor
                        · go_wp2_with (go_at_call 15; refine (uplay_any Aa na ca Ba ma ka Da pa qa a At nt ct Bt mt kt Dt pt qt st _ (HSa.out.kept HV.out) HSt.out HOa.out (take_ord HJt.out.1 HJt.out.2.1) (by omega) (by omega) hnt hpt).mono ?_; rintro e u5 ⟨Ah, nh, ch, Bh, mh, kh, Dh, ph, qh, sh, rfl, hsh, hjh, hkz⟩)
                          clear HSt
                          replace HSg := Lib.hid (HSg.out.kept hkz)
                          replace HBC := Lib.hid (HBC.out.kept hkz)
                          have HSh := Lib.hid hsh
                          have HJh := Lib.hid hjh
                          replace HV := Lib.hid (HV.out.trans hkz)
                          clear hsh hjh hkz
                          refine soloP HV.out ?_
                          rw [wpPlan_one]
                          simp only [pickOps_cons, pickOps_nil, consO_some, List.getElem?_cons_zero, List.getElem?_cons_succ]
                          go_wp2_with fail
                          have hkz := (Kept.refl u5).alloc #[.slice none 0 0, .slice none 0 0, .slice none 0 0] 28
                          have HNE := Lib.hid (show bC ≠ u5.heap.size from fun e => by have := HBC.out.lt; omega)
                          replace HSg := Lib.hid (HSg.out.kept hkz)
                          replace HSh := Lib.hid (HSh.out.kept hkz)
                          replace HBC := Lib.hid (HBC.out.kept hkz)
                          have HBD := Lib.hid (Box3.new u5 (.slice none 0 0) (.slice none 0 0) (.slice none 0 0) 28)
                          have HLD := Lib.hid HV.out.2.2
                          replace HV := Lib.hid (HV.out.trans hkz)
                          obtain ⟨bD, hbz⟩ : ∃ b, (World.heap u5).size = b := ⟨_, rfl⟩
                          obtain ⟨u6, hwz⟩ : ∃ u, World.alloc u5 (.cells #[.slice none 0 0, .slice none 0 0, .slice none 0 0] 28) = u := ⟨_, rfl⟩
                          rw [hwz] at HBD HV HSg HSh HBC ⊢
                          rw [hbz] at HBD HLD HNE ⊢
                          clear hkz hbz hwz
                          refine soloP HV.out ?_
                          rw [wpPlan_one]
                          simp only [pickOps_cons, pickOps_nil, consO_some, List.getElem?_cons_zero, List.getElem?_cons_succ]
                          have hl := HLC.out
                          have e0 := HBC.out.c0; have e1 := HBC.out.c1; have e2 := HBC.out.c2; have ef0 := HBC.out.f 0; have ef1 := HBC.out.f 1; have ef2 := HBC.out.f 2
                          go_wp2_with fail
                          clear e0 e1 e2 ef0 ef1 ef2
                          replace HSg := Lib.hid (HBC.out.stt (.slice Ag ng cg) (.slice Bg mg kg) (.slice Dg pg qg) HSg.out)
                          replace HSh := Lib.hid (HBC.out.stt (.slice Ag ng cg) (.slice Bg mg kg) (.slice Dg pg qg) HSh.out)
                          replace HBD := Lib.hid (HBD.out.set_far HNE.out.symm (.slice Ag ng cg) (.slice Bg mg kg) (.slice Dg pg qg))
                          replace HBC := Lib.hid (HBC.out.set3 (.slice Ag ng cg) (.slice Bg mg kg) (.slice Dg pg qg))
                          replace HV := Lib.hid (((HV.out.setCell (a := ⟨bC, 0, none⟩) hl (.slice Ag ng cg)).setCell (a := ⟨bC, 1, none⟩) hl (.slice Bg mg kg)).setCell (a := ⟨bC, 2, none⟩) hl (.slice Dg pg qg))
                          obtain ⟨u7, hwz⟩ : ∃ u, ((World.setCell u6 ⟨bC, 0, none⟩ (.slice Ag ng cg)).setCell ⟨bC, 1, none⟩ (.slice Bg mg kg)).setCell ⟨bC, 2, none⟩ (.slice Dg pg qg) = u := ⟨_, rfl⟩
                          rw [hwz] at HV HBC HBD HSg HSh ⊢
                          clear hl hwz
                          refine soloP HV.out ?_
                          rw [wpPlan_one]
                          simp only [pickOps_cons, pickOps_nil, consO_some, List.getElem?_cons_zero, List.getElem?_cons_succ]
                          have hl := HLD.out
                          have e0 := HBD.out.c0; have e1 := HBD.out.c1; have e2 := HBD.out.c2; have ef0 := HBD.out.f 0; have ef1 := HBD.out.f 1; have ef2 := HBD.out.f 2
                          go_wp2_with fail
                          clear e0 e1 e2 ef0 ef1 ef2
                          replace HSg := Lib.hid (HBD.out.stt (.slice Ah nh ch) (.slice Bh mh kh) (.slice Dh ph qh) HSg.out)
                          replace HSh := Lib.hid (HBD.out.stt (.slice Ah nh ch) (.slice Bh mh kh) (.slice Dh ph qh) HSh.out)
                          replace HBC := Lib.hid (HBC.out.set_far HNE.out (.slice Ah nh ch) (.slice Bh mh kh) (.slice Dh ph qh))
                          replace HBD := Lib.hid (HBD.out.set3 (.slice Ah nh ch) (.slice Bh mh kh) (.slice Dh ph qh))
                          replace HV := Lib.hid (((HV.out.setCell (a := ⟨bD, 0, none⟩) hl (.slice Ah nh ch)).setCell (a := ⟨bD, 1, none⟩) hl (.slice Bh mh kh)).setCell (a := ⟨bD, 2, none⟩) hl (.slice Dh ph qh))
                          obtain ⟨u8, hwz⟩ : ∃ u, ((World.setCell u7 ⟨bD, 0, none⟩ (.slice Ah nh ch)).setCell ⟨bD, 1, none⟩ (.slice Bh mh kh)).setCell ⟨bD, 2, none⟩ (.slice Dh ph qh) = u := ⟨_, rfl⟩
                          rw [hwz] at HV HBC HBD HSg HSh ⊢
                          clear hl hwz
                          refine soloP HV.out ?_
                          have HF := Lib.hid (show TwoB W1 (fun p q => DoesR a y G p q) (.pointer (some ⟨bC, 0, none⟩)) (.pointer (some ⟨bD, 0, none⟩)) u8 from ⟨bC, bD, Ag, ng, cg, Bg, mg, kg, Dg, pg, qg, Ah, nh, ch, Bh, mh, kh, Dh, ph, qh, sg, sh, rfl, rfl, HV.out, HBC.out, HBD.out, HSg.out, HSh.out, ⟨sl, st, HJl.out, HJt.out, HJg.out, HJh.out⟩⟩)
                          refine wpPlan_stop ?_
                          go_wp2_with fail
                          go_meet
                          exact HF.out
                        · go_wp2_with fail
                          have hkz := (Kept.refl u4).alloc #[.slice none 0 0, .slice none 0 0, .slice none 0 0] 28
                          have HNE := Lib.hid (show bC ≠ u4.heap.size from fun e => by have := HBC.out.lt; omega)
                          replace HSg := Lib.hid (HSg.out.kept hkz)
                          replace HSt := Lib.hid (HSt.out.kept hkz)
                          replace HBC := Lib.hid (HBC.out.kept hkz)
                          have HBD := Lib.hid (Box3.new u4 (.slice none 0 0) (.slice none 0 0) (.slice none 0 0) 28)
                          have HLD := Lib.hid HV.out.2.2
                          replace HV := Lib.hid (HV.out.trans hkz)
                          obtain ⟨bD, hbz⟩ : ∃ b, (World.heap u4).size = b := ⟨_, rfl⟩
                          obtain ⟨u5, hwz⟩ : ∃ u, World.alloc u4 (.cells #[.slice none 0 0, .slice none 0 0, .slice none 0 0] 28) = u := ⟨_, rfl⟩
                          rw [hwz] at HBD HV HSg HSt HBC ⊢
                          rw [hbz] at HBD HLD HNE ⊢
                          clear hkz hbz hwz
                          refine soloP HV.out ?_
                          rw [wpPlan_one]
                          simp only [pickOps_cons, pickOps_nil, consO_some, List.getElem?_cons_zero, List.getElem?_cons_succ]
                          go_wp2_with (go_at_call 15; refine (uplay_any Aa na ca Ba ma ka Da pa qa a At nt ct Bt mt kt Dt pt qt st _ (HSa.out.kept HV.out) HSt.out HOa.out (take_ord HJt.out.1 HJt.out.2.1) (by omega) (by omega) hnt hpt).mono ?_; rintro e u6 ⟨Ah, nh, ch, Bh, mh, kh, Dh, ph, qh, sh, rfl, hsh, hjh, hkz⟩)
                          clear HSt
                          replace HSg := Lib.hid (HSg.out.kept hkz)
                          replace HBC := Lib.hid (HBC.out.kept hkz)
                          replace HBD := Lib.hid (HBD.out.kept hkz)
                          have HSh := Lib.hid hsh
                          have HJh := Lib.hid hjh
                          replace HV := Lib.hid (HV.out.trans hkz)
                          clear hsh hjh hkz
                          refine soloP HV.out ?_
                          rw [wpPlan_one]
                          simp only [pickOps_cons, pickOps_nil, consO_some, List.getElem?_cons_zero, List.getElem?_cons_succ]
                          have hl := HLC.out
                          have e0 := HBC.out.c0; have e1 := HBC.out.c1; have e2 := HBC.out.c2; have ef0 := HBC.out.f 0; have ef1 := HBC.out.f 1; have ef2 := HBC.out.f 2
                          go_wp2_with fail
                          clear e0 e1 e2 ef0 ef1 ef2
                          replace HSg := Lib.hid (HBC.out.stt (.slice Ag ng cg) (.slice Bg mg kg) (.slice Dg pg qg) HSg.out)
                          replace HSh := Lib.hid (HBC.out.stt (.slice Ag ng cg) (.slice Bg mg kg) (.slice Dg pg qg) HSh.out)
                          replace HBD := Lib.hid (HBD.out.set_far HNE.out.symm (.slice Ag ng cg) (.slice Bg mg kg) (.slice Dg pg qg))
                          replace HBC := Lib.hid (HBC.out.set3 (.slice Ag ng cg) (.slice Bg mg kg) (.slice Dg pg qg))
                          replace HV := Lib.hid (((HV.out.setCell (a := ⟨bC, 0, none⟩) hl (.slice Ag ng cg)).setCell (a := ⟨bC, 1, none⟩) hl (.slice Bg mg kg)).setCell (a := ⟨bC, 2, none⟩) hl (.slice Dg pg qg))
                          obtain ⟨u7, hwz⟩ : ∃ u, ((World.setCell u6 ⟨bC, 0, none⟩ (.slice Ag ng cg)).setCell ⟨bC, 1, none⟩ (.slice Bg mg kg)).setCell ⟨bC, 2, none⟩ (.slice Dg pg qg) = u := ⟨_, rfl⟩
                          rw [hwz] at HV HBC HBD HSg HSh ⊢
                          clear hl hwz
                          refine soloP HV.out ?_
                          rw [wpPlan_one]
                          simp only [pickOps_cons, pickOps_nil, consO_some, List.getElem?_cons_zero, List.getElem?_cons_succ]
                          have hl := HLD.out
                          have e0 := HBD.out.c0; have e1 := HBD.out.c1; have e2 := HBD.out.c2; have ef0 := HBD.out.f 0; have ef1 := HBD.out.f 1; have ef2 := HBD.out.f 2
                          go_wp2_with fail
                          clear e0 e1 e2 ef0 ef1 ef2
                          replace HSg := Lib.hid (HBD.out.stt (.slice Ah nh ch) (.slice Bh mh kh) (.slice Dh ph qh) HSg.out)
                          replace HSh := Lib.hid (HBD.out.stt (.slice Ah nh ch) (.slice Bh mh kh) (.slice Dh ph qh) HSh.out)
                          replace HBC := Lib.hid (HBC.out.set_far HNE.out (.slice Ah nh ch) (.slice Bh mh kh) (.slice Dh ph qh))
                          replace HBD := Lib.hid (HBD.out.set3 (.slice Ah nh ch) (.slice Bh mh kh) (.slice Dh ph qh))
                          replace HV := Lib.hid (((HV.out.setCell (a := ⟨bD, 0, none⟩) hl (.slice Ah nh ch)).setCell (a := ⟨bD, 1, none⟩) hl (.slice Bh mh kh)).setCell (a := ⟨bD, 2, none⟩) hl (.slice Dh ph qh))
                          obtain ⟨u8, hwz⟩ : ∃ u, ((World.setCell u7 ⟨bD, 0, none⟩ (.slice Ah nh ch)).setCell ⟨bD, 1, none⟩ (.slice Bh mh kh)).setCell ⟨bD, 2, none⟩ (.slice Dh ph qh) = u := ⟨_, rfl⟩
                          rw [hwz] at HV HBC HBD HSg HSh ⊢
                          clear hl hwz
                          refine soloP HV.out ?_
                          have HF := Lib.hid (show TwoB W1 (fun p q => DoesR a y G p q) (.pointer (some ⟨bC, 0, none⟩)) (.pointer (some ⟨bD, 0, none⟩)) u8 from ⟨bC, bD, Ag, ng, cg, Bg, mg, kg, Dg, pg, qg, Ah, nh, ch, Bh, mh, kh, Dh, ph, qh, sg, sh, rfl, rfl, HV.out, HBC.out, HBD.out, HSg.out, HSh.out, ⟨sl, st, HJl.out, HJt.out, HJg.out, HJh.out⟩⟩)
                          refine wpPlan_stop ?_
                          go_wp2_with fail
                          go_meet
                          exact HF.out
                      · go_wp2_with fail
                        have hkz := (Kept.refl u3).alloc #[.slice none 0 0, .slice none 0 0, .slice none 0 0] 28
                        replace HSg := Lib.hid (HSg.out.kept hkz)
                        replace HSt := Lib.hid (HSt.out.kept hkz)
                        have HBD := Lib.hid (Box3.new u3 (.slice none 0 0) (.slice none 0 0) (.slice none 0 0) 28)
                        have HLD := Lib.hid HV.out.2.2
                        replace HV := Lib.hid (HV.out.trans hkz)
                        obtain ⟨bD, hbz⟩ : ∃ b, (World.heap u3).size = b := ⟨_, rfl⟩
                        obtain ⟨u4, hwz⟩ : ∃ u, World.alloc u3 (.cells #[.slice none 0 0, .slice none 0 0, .slice none 0 0] 28) = u := ⟨_, rfl⟩
                        rw [hwz] at HBD HV HSg HSt ⊢
                        rw [hbz] at HBD HLD ⊢
                        clear hkz hbz hwz
                        refine soloP HV.out ?_
                        rw [wpPlan_two]
                        simp only [pickOps_cons, pickOps_nil, consO_some, List.getElem?_cons_zero, List.getElem?_cons_succ]
                        constructor
                        · go_wp2_with (go_at_call 15; refine (uplay_any Aa na ca Ba ma ka Da pa qa a At nt ct Bt mt kt Dt pt qt st _ (HSa.out.kept HV.out) HSt.out HOa.out (take_ord HJt.out.1 HJt.out.2.1) (by omega) (by omega) hnt hpt).mono ?_; rintro e u5 ⟨Ah, nh, ch, Bh, mh, kh, Dh, ph, qh, sh, rfl, hsh, hjh, hkz⟩)
                          clear HSt
                          replace HSg := Lib.hid (HSg.out.kept hkz)
                          replace HBD := Lib.hid (HBD.out.kept hkz)
                          have HSh := Lib.hid hsh
                          have HJh := Lib.hid hjh
                          replace HV := Lib.hid (HV.out.trans hkz)
                          clear hsh hjh hkz
                          refine soloP HV.out ?_
                          rw [wpPlan_one]
                          simp only [pickOps_cons, pickOps_nil, consO_some, List.getElem?_cons_zero, List.getElem?_cons_succ]
                          go_wp2_with fail
                          have hkz := (Kept.refl u5).alloc #[.slice none 0 0, .slice none 0 0, .slice none 0 0] 28
                          have HNE := Lib.hid (show bD ≠ u5.heap.size from fun e => by have := HBD.out.lt; omega)
                          replace HSg := Lib.hid (HSg.out.kept hkz)
                          replace HSh := Lib.hid (HSh.out.kept hkz)
                          replace HBD := Lib.hid (HBD.out.kept hkz)
                          have HBC := Lib.hid (Box3.new u5 (.slice none 0 0) (.slice none 0 0) (.slice none 0 0) 28)
                          have HLC := Lib.hid HV.out.2.2
                          replace HV := Lib.hid (HV.out.trans hkz)
                          obtain ⟨bC, hbz⟩ : ∃ b, (World.heap u5).size = b := ⟨_, rfl⟩
                          obtain ⟨u6, hwz⟩ : ∃ u, World.alloc u5 (.cells #[.slice none 0 0, .slice none 0 0, .slice none 0 0] 28) = u := ⟨_, rfl⟩
                          rw [hwz] at HBC HV HSg HSh HBD ⊢
                          rw [hbz] at HBC HLC HNE ⊢
                          clear hkz hbz hwz
                          refine soloP HV.out ?_
                          rw [wpPlan_one]
                          simp only [pickOps_cons, pickOps_nil, consO_some, List.getElem?_cons_zero, List.getElem?_cons_succ]
                          have hl := HLC.out
                          have e0 := HBC.out.c0; have e1 := HBC.out.c1; have e2 := HBC.out.c2; have ef0 := HBC.out.f 0; have ef1 := HBC.out.f 1; have ef2 := HBC.out.f 2
                          go_wp2_with fail
                          clear e0 e1 e2 ef0 ef1 ef2
                          replace HSg := Lib.hid (HBC.out.stt (.slice Ag ng cg) (.slice Bg mg kg) (.slice Dg pg qg) HSg.out)
                          replace HSh := Lib.hid (HBC.out.stt (.slice Ag ng cg) (.slice Bg mg kg) (.slice Dg pg qg) HSh.out)
                          replace HBD := Lib.hid (HBD.out.set_far HNE.out (.slice Ag ng cg) (.slice Bg mg kg) (.slice Dg pg qg))
                          replace HBC := Lib.hid (HBC.out.set3 (.slice Ag ng cg) (.slice Bg mg kg) (.slice Dg pg qg))
                          replace HV := Lib.hid (((HV.out.setCell (a := ⟨bC, 0, none⟩) hl (.slice Ag ng cg)).setCell (a := ⟨bC, 1, none⟩) hl (.slice Bg mg kg)).setCell (a := ⟨bC, 2, none⟩) hl (.slice Dg pg qg))
                          obtain ⟨u7, hwz⟩ : ∃ u, ((World.setCell u6 ⟨bC, 0, none⟩ (.slice Ag ng cg)).setCell ⟨bC, 1, none⟩ (.slice Bg mg kg)).setCell ⟨bC, 2, none⟩ (.slice Dg pg qg) = u := ⟨_, rfl⟩
                          rw [hwz] at HV HBC HBD HSg HSh ⊢
                          clear hl hwz
                          refine soloP HV.out ?_
                          rw [wpPlan_one]
                          simp only [pickOps_cons, pickOps_nil, consO_some, List.getElem?_cons_zero, List.getElem?_cons_succ]
                          have hl := HLD.out
                          have e0 := HBD.out.c0; have e1 := HBD.out.c1; have e2 := HBD.out.c2; have ef0 := HBD.out.f 0; have ef1 := HBD.out.f 1; have ef2 := HBD.out.f 2
                          go_wp2_with fail
                          clear e0 e1 e2 ef0 ef1 ef2
                          replace HSg := Lib.hid (HBD.out.stt (.slice Ah nh ch) (.slice Bh mh kh) (.slice Dh ph qh) HSg.out)
                          replace HSh := Lib.hid (HBD.out.stt (.slice Ah nh ch) (.slice Bh mh kh) (.slice Dh ph qh) HSh.out)
                          replace HBC := Lib.hid (HBC.out.set_far HNE.out.symm (.slice Ah nh ch) (.slice Bh mh kh) (.slice Dh ph qh))
                          replace HBD := Lib.hid (HBD.out.set3 (.slice Ah nh ch) (.slice Bh mh kh) (.slice Dh ph qh))
                          replace HV := Lib.hid (((HV.out.setCell (a := ⟨bD, 0, none⟩) hl (.slice Ah nh ch)).setCell (a := ⟨bD, 1, none⟩) hl (.slice Bh mh kh)).setCell (a := ⟨bD, 2, none⟩) hl (.slice Dh ph qh))
                          obtain ⟨u8, hwz⟩ : ∃ u, ((World.setCell u7 ⟨bD, 0, none⟩ (.slice Ah nh ch)).setCell ⟨bD, 1, none⟩ (.slice Bh mh kh)).setCell ⟨bD, 2, none⟩ (.slice Dh ph qh) = u := ⟨_, rfl⟩
                          rw [hwz] at HV HBC HBD HSg HSh ⊢
                          clear hl hwz
                          refine soloP HV.out ?_
                          have HF := Lib.hid (show TwoB W1 (fun p q => DoesR a y G p q) (.pointer (some ⟨bC, 0, none⟩)) (.pointer (some ⟨bD, 0, none⟩)) u8 from ⟨bC, bD, Ag, ng, cg, Bg, mg, kg, Dg, pg, qg, Ah, nh, ch, Bh, mh, kh, Dh, ph, qh, sg, sh, rfl, rfl, HV.out, HBC.out, HBD.out, HSg.out, HSh.out, ⟨sl, st, HJl.out, HJt.out, HJg.out, HJh.out⟩⟩)
                          refine wpPlan_stop ?_
                          go_wp2_with fail
                          go_meet
                          exact HF.out
                        · go_wp2_with fail
                          have hkz := (Kept.refl u4).alloc #[.slice none 0 0, .slice none 0 0, .slice none 0 0] 28
                          have HNE := Lib.hid (show bD ≠ u4.heap.size from fun e => by have := HBD.out.lt; omega)
                          replace HSg := Lib.hid (HSg.out.kept hkz)
                          replace HSt := Lib.hid (HSt.out.kept hkz)
                          replace HBD := Lib.hid (HBD.out.kept hkz)
                          have HBC := Lib.hid (Box3.new u4 (.slice none 0 0) (.slice none 0 0) (.slice none 0 0) 28)
                          have HLC := Lib.hid HV.out.2.2
                          replace HV := Lib.hid (HV.out.trans hkz)
                          obtain ⟨bC, hbz⟩ : ∃ b, (World.heap u4).size = b := ⟨_, rfl⟩
                          obtain ⟨u5, hwz⟩ : ∃ u, World.alloc u4 (.cells #[.slice none 0 0, .slice none 0 0, .slice none 0 0] 28) = u := ⟨_, rfl⟩
                          rw [hwz] at HBC HV HSg HSt HBD ⊢
                          rw [hbz] at HBC HLC HNE ⊢
                          clear hkz hbz hwz
                          refine soloP HV.out ?_
                          rw [wpPlan_one]
                          simp only [pickOps_cons, pickOps_nil, consO_some, List.getElem?_cons_zero, List.getElem?_cons_succ]
                          go_wp2_with (go_at_call 15; refine (uplay_any Aa na ca Ba ma ka Da pa qa a At nt ct Bt mt kt Dt pt qt st _ (HSa.out.kept HV.out) HSt.out HOa.out (take_ord HJt.out.1 HJt.out.2.1) (by omega) (by omega) hnt hpt).mono ?_; rintro e u6 ⟨Ah, nh, ch, Bh, mh, kh, Dh, ph, qh, sh, rfl, hsh, hjh, hkz⟩)
                          clear HSt
                          replace HSg := Lib.hid (HSg.out.kept hkz)
                          replace HBC := Lib.hid (HBC.out.kept hkz)
                          replace HBD := Lib.hid (HBD.out.kept hkz)
                          have HSh := Lib.hid hsh
                          have HJh := Lib.hid hjh
                          replace HV := Lib.hid (HV.out.trans hkz)
                          clear hsh hjh hkz
                          refine soloP HV.out ?_
                          rw [wpPlan_one]
                          simp only [pickOps_cons, pickOps_nil, consO_some, List.getElem?_cons_zero, List.getElem?_cons_succ]
                          have hl := HLC.out
                          have e0 := HBC.out.c0; have e1 := HBC.out.c1; have e2 := HBC.out.c2; have ef0 := HBC.out.f 0; have ef1 := HBC.out.f 1; have ef2 := HBC.out.f 2
                          go_wp2_with fail
                          clear e0 e1 e2 ef0 ef1 ef2
                          replace HSg := Lib.hid (HBC.out.stt (.slice Ag ng cg) (.slice Bg mg kg) (.slice Dg pg qg) HSg.out)
                          replace HSh := Lib.hid (HBC.out.stt (.slice Ag ng cg) (.slice Bg mg kg) (.slice Dg pg qg) HSh.out)
                          replace HBD := Lib.hid (HBD.out.set_far HNE.out (.slice Ag ng cg) (.slice Bg mg kg) (.slice Dg pg qg))
                          replace HBC := Lib.hid (HBC.out.set3 (.slice Ag ng cg) (.slice Bg mg kg) (.slice Dg pg qg))
                          replace HV := Lib.hid (((HV.out.setCell (a := ⟨bC, 0, none⟩) hl (.slice Ag ng cg)).setCell (a := ⟨bC, 1, none⟩) hl (.slice Bg mg kg)).setCell (a := ⟨bC, 2, none⟩) hl (.slice Dg pg qg))
                          obtain ⟨u7, hwz⟩ : ∃ u, ((World.setCell u6 ⟨bC, 0, none⟩ (.slice Ag ng cg)).setCell ⟨bC, 1, none⟩ (.slice Bg mg kg)).setCell ⟨bC, 2, none⟩ (.slice Dg pg qg) = u := ⟨_, rfl⟩
                          rw [hwz] at HV HBC HBD HSg HSh ⊢
                          clear hl hwz
                          refine soloP HV.out ?_
                          rw [wpPlan_one]
                          simp only [pickOps_cons, pickOps_nil, consO_some, List.getElem?_cons_zero, List.getElem?_cons_succ]
                          have hl := HLD.out
                          have e0 := HBD.out.c0; have e1 := HBD.out.c1; have e2 := HBD.out.c2; have ef0 := HBD.out.f 0; have ef1 := HBD.out.f 1; have ef2 := HBD.out.f 2
                          go_wp2_with fail
                          clear e0 e1 e2 ef0 ef1 ef2
                          replace HSg := Lib.hid (HBD.out.stt (.slice Ah nh ch) (.slice Bh mh kh) (.slice Dh ph qh) HSg.out)
                          replace HSh := Lib.hid (HBD.out.stt (.slice Ah nh ch) (.slice Bh mh kh) (.slice Dh ph qh) HSh.out)
                          replace HBC := Lib.hid (HBC.out.set_far HNE.out.symm (.slice Ah nh ch) (.slice Bh mh kh) (.slice Dh ph qh))
                          replace HBD := Lib.hid (HBD.out.set3 (.slice Ah nh ch) (.slice Bh mh kh) (.slice Dh ph qh))
                          replace HV := Lib.hid (((HV.out.setCell (a := ⟨bD, 0, none⟩) hl (.slice Ah nh ch)).setCell (a := ⟨bD, 1, none⟩) hl (.slice Bh mh kh)).setCell (a := ⟨bD, 2, none⟩) hl (.slice Dh ph qh))
                          obtain ⟨u8, hwz⟩ : ∃ u, ((World.setCell u7 ⟨bD, 0, none⟩ (.slice Ah nh ch)).setCell ⟨bD, 1, none⟩ (.slice Bh mh kh)).setCell ⟨bD, 2, none⟩ (.slice Dh ph qh) = u := ⟨_, rfl⟩
                          rw [hwz] at HV HBC HBD HSg HSh ⊢
                          clear hl hwz
                          refine soloP HV.out ?_
                          have HF := Lib.hid (show TwoB W1 (fun p q => DoesR a y G p q) (.pointer (some ⟨bC, 0, none⟩)) (.pointer (some ⟨bD, 0, none⟩)) u8 from ⟨bC, bD, Ag, ng, cg, Bg, mg, kg, Dg, pg, qg, Ah, nh, ch, Bh, mh, kh, Dh, ph, qh, sg, sh, rfl, rfl, HV.out, HBC.out, HBD.out, HSg.out, HSh.out, ⟨sl, st, HJl.out, HJt.out, HJg.out, HJh.out⟩⟩)
                          refine wpPlan_stop ?_
                          go_wp2_with fail
                          go_meet
                          exact HF.out
                    · go_wp2_with fail
                      have hkz := (Kept.refl u2).alloc #[.slice none 0 0, .slice none 0 0, .slice none 0 0] 28
                      replace HSg := Lib.hid (HSg.out.kept hkz)
                      have HBC := Lib.hid (Box3.new u2 (.slice none 0 0) (.slice none 0 0) (.slice none 0 0) 28)
                      have HLC := Lib.hid HV.out.2.2
                      replace HV := Lib.hid (HV.out.trans hkz)
                      obtain ⟨bC, hbz⟩ : ∃ b, (World.heap u2).size = b := ⟨_, rfl⟩
                      obtain ⟨u3, hwz⟩ : ∃ u, World.alloc u2 (.cells #[.slice none 0 0, .slice none 0 0, .slice none 0 0] 28) = u := ⟨_, rfl⟩
                      rw [hwz] at HBC HV HSg ⊢
                      rw [hbz] at HBC HLC ⊢
                      clear hkz hbz hwz
                      refine soloP HV.out ?_
                      rw [wpPlan_two]
                      simp only [pickOps_cons, pickOps_nil, consO_some, List.getElem?_cons_zero, List.getElem?_cons_succ]
                      constructor
                      · go_wp2_with (go_at_call 12; refine (utake_any y.d Ao no co G _ (HG.out.kept HV.out) hno9).mono ?_; rintro e u4 ⟨At, nt, ct, Bt, mt, kt, Dt, pt, qt, st, rfl, hst, hjt, hkz⟩)
                        replace HSg := Lib.hid (HSg.out.kept hkz)
                        replace HBC := Lib.hid (HBC.out.kept hkz)
                        have HSt := Lib.hid hst
                        have HJt := Lib.hid hjt
                        replace HV := Lib.hid (HV.out.trans hkz)
                        clear hst hjt hkz
                        have hnt : nt ≤ 100000 := by have h1 := HSt.out.el.1; have h2 := HJt.out.1; rw [h2] at h1; simp at h1; omega
                        have hpt : pt ≤ 100000 := by have h1 := HSt.out.dl.1; have h2 := HJt.out.2.2; have h3 := HGL.out; omega
                        refine soloP HV.out ?_
                        rw [wpPlan_two]
                        simp only [pickOps_cons, pickOps_nil, consO_some, List.getElem?_cons_zero, List.getElem?_cons_succ]
                        constructor
                        · go_wp2_with (go_at_call 15; refine (uplay_any Aa na ca Ba ma ka Da pa qa a At nt ct Bt mt kt Dt pt qt st _ (HSa.out.kept HV.out) HSt.out HOa.out (take_ord HJt.out.1 HJt.out.2.1) (by omega) (by omega) hnt hpt).mono ?_; rintro e u5 ⟨Ah, nh, ch, Bh, mh, kh, Dh, ph, qh, sh, rfl, hsh, hjh, hkz⟩)
                          clear HSt
                          replace HSg := Lib.hid (HSg.out.kept hkz)
                          replace HBC := Lib.hid (HBC.out.kept hkz)
                          have HSh := Lib.hid hsh
                          have HJh := Lib.hid hjh
                          replace HV := Lib.hid (HV.out.trans hkz)
                          clear hsh hjh hkz
                          refine soloP HV.out ?_
                          rw [wpPlan_one]
                          simp only [pickOps_cons, pickOps_nil, consO_some, List.getElem?_cons_zero, List.getElem?_cons_succ]
                          go_wp2_with fail
                          have hkz := (Kept.refl u5).alloc #[.slice none 0 0, .slice none 0 0, .slice none 0 0] 28
                          have HNE := Lib.hid (show bC ≠ u5.heap.size from fun e => by have := HBC.out.lt; omega)
                          replace HSg := Lib.hid (HSg.out.kept hkz)
                          replace HSh := Lib.hid (HSh.out.kept hkz)
                          replace HBC := Lib.hid (HBC.out.kept hkz)
                          have HBD := Lib.hid (Box3.new u5 (.slice none 0 0) (.slice none 0 0) (.slice none 0 0) 28)
                          have HLD := Lib.hid HV.out.2.2
                          replace HV := Lib.hid (HV.out.trans hkz)
                          obtain ⟨bD, hbz⟩ : ∃ b, (World.heap u5).size = b := ⟨_, rfl⟩
                          obtain ⟨u6, hwz⟩ : ∃ u, World.alloc u5 (.cells #[.slice none 0 0, .slice none 0 0, .slice none 0 0] 28) = u := ⟨_, rfl⟩
                          rw [hwz] at HBD HV HSg HSh HBC ⊢
                          rw [hbz] at HBD HLD HNE ⊢
                          clear hkz hbz hwz
                          refine soloP HV.out ?_
                          rw [wpPlan_one]
                          simp only [pickOps_cons, pickOps_nil, consO_some, List.getElem?_cons_zero, List.getElem?_cons_succ]
                          have hl := HLC.out
                          have e0 := HBC.out.c0; have e1 := HBC.out.c1; have e2 := HBC.out.c2; have ef0 := HBC.out.f 0; have ef1 := HBC.out.f 1; have ef2 := HBC.out.f 2
                          go_wp2_with fail
                          clear e0 e1 e2 ef0 ef1 ef2
                          replace HSg := Lib.hid (HBC.out.stt (.slice Ag ng cg) (.slice Bg mg kg) (.slice Dg pg qg) HSg.out)
                          replace HSh := Lib.hid (HBC.out.stt (.slice Ag ng cg) (.slice Bg mg kg) (.slice Dg pg qg) HSh.out)
                          replace HBD := Lib.hid (HBD.out.set_far HNE.out.symm (.slice Ag ng cg) (.slice Bg mg kg) (.slice Dg pg qg))
                          replace HBC := Lib.hid (HBC.out.set3 (.slice Ag ng cg) (.slice Bg mg kg) (.slice Dg pg qg))
                          replace HV := Lib.hid (((HV.out.setCell (a := ⟨bC, 0, none⟩) hl (.slice Ag ng cg)).setCell (a := ⟨bC, 1, none⟩) hl (.slice Bg mg kg)).setCell (a := ⟨bC, 2, none⟩) hl (.slice Dg pg qg))
                          obtain ⟨u7, hwz⟩ : ∃ u, ((World.setCell u6 ⟨bC, 0, none⟩ (.slice Ag ng cg)).setCell ⟨bC, 1, none⟩ (.slice Bg mg kg)).setCell ⟨bC, 2, none⟩ (.slice Dg pg qg) = u := ⟨_, rfl⟩
                          rw [hwz] at HV HBC HBD HSg HSh ⊢
                          clear hl hwz
                          refine soloP HV.out ?_
                          rw [wpPlan_one]
                          simp only [pickOps_cons, pickOps_nil, consO_some, List.getElem?_cons_zero, List.getElem?_cons_succ]
                          have hl := HLD.out
                          have e0 := HBD.out.c0; have e1 := HBD.out.c1; have e2 := HBD.out.c2; have ef0 := HBD.out.f 0; have ef1 := HBD.out.f 1; have ef2 := HBD.out.f 2
                          go_wp2_with fail
                          clear e0 e1 e2 ef0 ef1 ef2
                          replace HSg := Lib.hid (HBD.out.stt (.slice Ah nh ch) (.slice Bh mh kh) (.slice Dh ph qh) HSg.out)
                          replace HSh := Lib.hid (HBD.out.stt (.slice Ah nh ch) (.slice Bh mh kh) (.slice Dh ph qh) HSh.out)
                          replace HBC := Lib.hid (HBC.out.set_far HNE.out (.slice Ah nh ch) (.slice Bh mh kh) (.slice Dh ph qh))
                          replace HBD := Lib.hid (HBD.out.set3 (.slice Ah nh ch) (.slice Bh mh kh) (.slice Dh ph qh))
                          replace HV := Lib.hid (((HV.out.setCell (a := ⟨bD, 0, none⟩) hl (.slice Ah nh ch)).setCell (a := ⟨bD, 1, none⟩) hl (.slice Bh mh kh)).setCell (a := ⟨bD, 2, none⟩) hl (.slice Dh ph qh))
                          obtain ⟨u8, hwz⟩ : ∃ u, ((World.setCell u7 ⟨bD, 0, none⟩ (.slice Ah nh ch)).setCell ⟨bD, 1, none⟩ (.slice Bh mh kh)).setCell ⟨bD, 2, none⟩ (.slice Dh ph qh) = u := ⟨_, rfl⟩
                          rw [hwz] at HV HBC HBD HSg HSh ⊢
                          clear hl hwz
                          refine soloP HV.out ?_
                          have HF := Lib.hid (show TwoB W1 (fun p q => DoesR a y G p q) (.pointer (some ⟨bC, 0, none⟩)) (.pointer (some ⟨bD, 0, none⟩)) u8 from ⟨bC, bD, Ag, ng, cg, Bg, mg, kg, Dg, pg, qg, Ah, nh, ch, Bh, mh, kh, Dh, ph, qh, sg, sh, rfl, rfl, HV.out, HBC.out, HBD.out, HSg.out, HSh.out, ⟨sl, st, HJl.out, HJt.out, HJg.out, HJh.out⟩⟩)
                          refine wpPlan_stop ?_
                          go_wp2_with fail
                          go_meet
                          exact HF.out
                        · go_wp2_with fail
                          have hkz := (Kept.refl u4).alloc #[.slice none 0 0, .slice none 0 0, .slice none 0 0] 28
                          have HNE := Lib.hid (show bC ≠ u4.heap.size from fun e => by have := HBC.out.lt; omega)
                          replace HSg := Lib.hid (HSg.out.kept hkz)
                          replace HSt := Lib.hid (HSt.out.kept hkz)
                          replace HBC := Lib.hid (HBC.out.kept hkz)
                          have HBD := Lib.hid (Box3.new u4 (.slice none 0 0) (.slice none 0 0) (.slice none 0 0) 28)
                          have HLD := Lib.hid HV.out.2.2
                          replace HV := Lib.hid (HV.out.trans hkz)
                          obtain ⟨bD, hbz⟩ : ∃ b, (World.heap u4).size = b := ⟨_, rfl⟩
                          obtain ⟨u5, hwz⟩ : ∃ u, World.alloc u4 (.cells #[.slice none 0 0, .slice none 0 0, .slice none 0 0] 28) = u := ⟨_, rfl⟩
                          rw [hwz] at HBD HV HSg HSt HBC ⊢
                          rw [hbz] at HBD HLD HNE ⊢
                          clear hkz hbz hwz
                          refine soloP HV.out ?_
                          rw [wpPlan_one]
                          simp only [pickOps_cons, pickOps_nil, consO_some, List.getElem?_cons_zero, List.getElem?_cons_succ]
                          go_wp2_with (go_at_call 15; refine (uplay_any Aa na ca Ba ma ka Da pa qa a At nt ct Bt mt kt Dt pt qt st _ (HSa.out.kept HV.out) HSt.out HOa.out (take_ord HJt.out.1 HJt.out.2.1) (by omega) (by omega) hnt hpt).mono ?_; rintro e u6 ⟨Ah, nh, ch, Bh, mh, kh, Dh, ph, qh, sh, rfl, hsh, hjh, hkz⟩)
                          clear HSt
                          replace HSg := Lib.hid (HSg.out.kept hkz)
                          replace HBC := Lib.hid (HBC.out.kept hkz)
                          replace HBD := Lib.hid (HBD.out.kept hkz)
                          have HSh := Lib.hid hsh
                          have HJh := Lib.hid hjh
                          replace HV := Lib.hid (HV.out.trans hkz)
                          clear hsh hjh hkz
                          refine soloP HV.out ?_
                          rw [wpPlan_one]
                          simp only [pickOps_cons, pickOps_nil, consO_some, List.getElem?_cons_zero, List.getElem?_cons_succ]
                          have hl := HLC.out
                          have e0 := HBC.out.c0; have e1 := HBC.out.c1; have e2 := HBC.out.c2; have ef0 := HBC.out.f 0; have ef1 := HBC.out.f 1; have ef2 := HBC.out.f 2
                          go_wp2_with fail
                          clear e0 e1 e2 ef0 ef1 ef2
                          replace HSg := Lib.hid (HBC.out.stt (.slice Ag ng cg) (.slice Bg mg kg) (.slice Dg pg qg) HSg.out)
                          replace HSh := Lib.hid (HBC.out.stt (.slice Ag ng cg) (.slice Bg mg kg) (.slice Dg pg qg) HSh.out)
                          replace HBD := Lib.hid (HBD.out.set_far HNE.out.symm (.slice Ag ng cg) (.slice Bg mg kg) (.slice Dg pg qg))
                          replace HBC := Lib.hid (HBC.out.set3 (.slice Ag ng cg) (.slice Bg mg kg) (.slice Dg pg qg))
                          replace HV := Lib.hid (((HV.out.setCell (a := ⟨bC, 0, none⟩) hl (.slice Ag ng cg)).setCell (a := ⟨bC, 1, none⟩) hl (.slice Bg mg kg)).setCell (a := ⟨bC, 2, none⟩) hl (.slice Dg pg qg))
                          obtain ⟨u7, hwz⟩ : ∃ u, ((World.setCell u6 ⟨bC, 0, none⟩ (.slice Ag ng cg)).setCell ⟨bC, 1, none⟩ (.slice Bg mg kg)).setCell ⟨bC, 2, none⟩ (.slice Dg pg qg) = u := ⟨_, rfl⟩
                          rw [hwz] at HV HBC HBD HSg HSh ⊢
                          clear hl hwz
                          refine soloP HV.out ?_
                          rw [wpPlan_one]
                          simp only [pickOps_cons, pickOps_nil, consO_some, List.getElem?_cons_zero, List.getElem?_cons_succ]
                          have hl := HLD.out
                          have e0 := HBD.out.c0; have e1 := HBD.out.c1; have e2 := HBD.out.c2; have ef0 := HBD.out.f 0; have ef1 := HBD.out.f 1; have ef2 := HBD.out.f 2
                          go_wp2_with fail
                          clear e0 e1 e2 ef0 ef1 ef2
                          replace HSg := Lib.hid (HBD.out.stt (.slice Ah nh ch) (.slice Bh mh kh) (.slice Dh ph qh) HSg.out)
                          replace HSh := Lib.hid (HBD.out.stt (.slice Ah nh ch) (.slice Bh mh kh) (.slice Dh ph qh) HSh.out)
                          replace HBC := Lib.hid (HBC.out.set_far HNE.out (.slice Ah nh ch) (.slice Bh mh kh) (.slice Dh ph qh))
                          replace HBD := Lib.hid (HBD.out.set3 (.slice Ah nh ch) (.slice Bh mh kh) (.slice Dh ph qh))
                          replace HV := Lib.hid (((HV.out.setCell (a := ⟨bD, 0, none⟩) hl (.slice Ah nh ch)).setCell (a := ⟨bD, 1, none⟩) hl (.slice Bh mh kh)).setCell (a := ⟨bD, 2, none⟩) hl (.slice Dh ph qh))
                          obtain ⟨u8, hwz⟩ : ∃ u, ((World.setCell u7 ⟨bD, 0, none⟩ (.slice Ah nh ch)).setCell ⟨bD, 1, none⟩ (.slice Bh mh kh)).setCell ⟨bD, 2, none⟩ (.slice Dh ph qh) = u := ⟨_, rfl⟩
                          rw [hwz] at HV HBC HBD HSg HSh ⊢
                          clear hl hwz
                          refine soloP HV.out ?_
                          have HF := Lib.hid (show TwoB W1 (fun p q => DoesR a y G p q) (.pointer (some ⟨bC, 0, none⟩)) (.pointer (some ⟨bD, 0, none⟩)) u8 from ⟨bC, bD, Ag, ng, cg, Bg, mg, kg, Dg, pg, qg, Ah, nh, ch, Bh, mh, kh, Dh, ph, qh, sg, sh, rfl, rfl, HV.out, HBC.out, HBD.out, HSg.out, HSh.out, ⟨sl, st, HJl.out, HJt.out, HJg.out, HJh.out⟩⟩)
                          refine wpPlan_stop ?_
                          go_wp2_with fail
                          go_meet
                          exact HF.out
                      · go_wp2_with fail
                        have hkz := (Kept.refl u3).alloc #[.slice none 0 0, .slice none 0 0, .slice none 0 0] 28
                        have HNE := Lib.hid (show bC ≠ u3.heap.size from fun e => by have := HBC.out.lt; omega)
                        replace HSg := Lib.hid (HSg.out.kept hkz)
                        replace HBC := Lib.hid (HBC.out.kept hkz)
                        have HBD := Lib.hid (Box3.new u3 (.slice none 0 0) (.slice none 0 0) (.slice none 0 0) 28)
                        have HLD := Lib.hid HV.out.2.2
                        replace HV := Lib.hid (HV.out.trans hkz)
                        obtain ⟨bD, hbz⟩ : ∃ b, (World.heap u3).size = b := ⟨_, rfl⟩
                        obtain ⟨u4, hwz⟩ : ∃ u, World.alloc u3 (.cells #[.slice none 0 0, .slice none 0 0, .slice none 0 0] 28) = u := ⟨_, rfl⟩
                        rw [hwz] at HBD HV HSg HBC ⊢
                        rw [hbz] at HBD HLD HNE ⊢
                        clear hkz hbz hwz
                        refine soloP HV.out ?_
                        rw [wpPlan_one]
                        simp only [pickOps_cons, pickOps_nil, consO_some, List.getElem?_cons_zero, List.getElem?_cons_succ]
                        go_wp2_with (go_at_call 12; refine (utake_any y.d Ao no co G _ (HG.out.kept HV.out) hno9).mono ?_; rintro e u5 ⟨At, nt, ct, Bt, mt, kt, Dt, pt, qt, st, rfl, hst, hjt, hkz⟩)
                        replace HSg := Lib.hid (HSg.out.kept hkz)
                        replace HBC := Lib.hid (HBC.out.kept hkz)
                        replace HBD := Lib.hid (HBD.out.kept hkz)
                        have HSt := Lib.hid hst
                        have HJt := Lib.hid hjt
                        replace HV := Lib.hid (HV.out.trans hkz)
                        clear hst hjt hkz
                        have hnt : nt ≤ 100000 := by have h1 := HSt.out.el.1; have h2 := HJt.out.1; rw [h2] at h1; simp at h1; omega
                        have hpt : pt ≤ 100000 := by have h1 := HSt.out.dl.1; have h2 := HJt.out.2.2; have h3 := HGL.out; omega
                        refine soloP HV.out ?_
                        rw [wpPlan_one]
                        simp only [pickOps_cons, pickOps_nil, consO_some, List.getElem?_cons_zero, List.getElem?_cons_succ]
                        go_wp2_with (go_at_call 15; refine (uplay_any Aa na ca Ba ma ka Da pa qa a At nt ct Bt mt kt Dt pt qt st _ (HSa.out.kept HV.out) HSt.out HOa.out (take_ord HJt.out.1 HJt.out.2.1) (by omega) (by omega) hnt hpt).mono ?_; rintro e u6 ⟨Ah, nh, ch, Bh, mh, kh, Dh, ph, qh, sh, rfl, hsh, hjh, hkz⟩)
                        clear HSt
                        replace HSg := Lib.hid (HSg.out.kept hkz)
                        replace HBC := Lib.hid (HBC.out.kept hkz)
                        replace HBD := Lib.hid (HBD.out.kept hkz)
                        have HSh := Lib.hid hsh
                        have HJh := Lib.hid hjh
                        replace HV := Lib.hid (HV.out.trans hkz)
                        clear hsh hjh hkz
                        refine soloP HV.out ?_
                        rw [wpPlan_one]
                        simp only [pickOps_cons, pickOps_nil, consO_some, List.getElem?_cons_zero, List.getElem?_cons_succ]
                        have hl := HLC.out
                        have e0 := HBC.out.c0; have e1 := HBC.out.c1; have e2 := HBC.out.c2; have ef0 := HBC.out.f 0; have ef1 := HBC.out.f 1; have ef2 := HBC.out.f 2
                        go_wp2_with fail
                        clear e0 e1 e2 ef0 ef1 ef2
                        replace HSg := Lib.hid (HBC.out.stt (.slice Ag ng cg) (.slice Bg mg kg) (.slice Dg pg qg) HSg.out)
                        replace HSh := Lib.hid (HBC.out.stt (.slice Ag ng cg) (.slice Bg mg kg) (.slice Dg pg qg) HSh.out)
                        replace HBD := Lib.hid (HBD.out.set_far HNE.out.symm (.slice Ag ng cg) (.slice Bg mg kg) (.slice Dg pg qg))
                        replace HBC := Lib.hid (HBC.out.set3 (.slice Ag ng cg) (.slice Bg mg kg) (.slice Dg pg qg))
                        replace HV := Lib.hid (((HV.out.setCell (a := ⟨bC, 0, none⟩) hl (.slice Ag ng cg)).setCell (a := ⟨bC, 1, none⟩) hl (.slice Bg mg kg)).setCell (a := ⟨bC, 2, none⟩) hl (.slice Dg pg qg))
                        obtain ⟨u7, hwz⟩ : ∃ u, ((World.setCell u6 ⟨bC, 0, none⟩ (.slice Ag ng cg)).setCell ⟨bC, 1, none⟩ (.slice Bg mg kg)).setCell ⟨bC, 2, none⟩ (.slice Dg pg qg) = u := ⟨_, rfl⟩
                        rw [hwz] at HV HBC HBD HSg HSh ⊢
                        clear hl hwz
                        refine soloP HV.out ?_
                        rw [wpPlan_one]
                        simp only [pickOps_cons, pickOps_nil, consO_some, List.getElem?_cons_zero, List.getElem?_cons_succ]
                        have hl := HLD.out
                        have e0 := HBD.out.c0; have e1 := HBD.out.c1; have e2 := HBD.out.c2; have ef0 := HBD.out.f 0; have ef1 := HBD.out.f 1; have ef2 := HBD.out.f 2
                        go_wp2_with fail
                        clear e0 e1 e2 ef0 ef1 ef2
                        replace HSg := Lib.hid (HBD.out.stt (.slice Ah nh ch) (.slice Bh mh kh) (.slice Dh ph qh) HSg.out)
                        replace HSh := Lib.hid (HBD.out.stt (.slice Ah nh ch) (.slice Bh mh kh) (.slice Dh ph qh) HSh.out)
                        replace HBC := Lib.hid (HBC.out.set_far HNE.out (.slice Ah nh ch) (.slice Bh mh kh) (.slice Dh ph qh))
                        replace HBD := Lib.hid (HBD.out.set3 (.slice Ah nh ch) (.slice Bh mh kh) (.slice Dh ph qh))
                        replace HV := Lib.hid (((HV.out.setCell (a := ⟨bD, 0, none⟩) hl (.slice Ah nh ch)).setCell (a := ⟨bD, 1, none⟩) hl (.slice Bh mh kh)).setCell (a := ⟨bD, 2, none⟩) hl (.slice Dh ph qh))
                        obtain ⟨u8, hwz⟩ : ∃ u, ((World.setCell u7 ⟨bD, 0, none⟩ (.slice Ah nh ch)).setCell ⟨bD, 1, none⟩ (.slice Bh mh kh)).setCell ⟨bD, 2, none⟩ (.slice Dh ph qh) = u := ⟨_, rfl⟩
                        rw [hwz] at HV HBC HBD HSg HSh ⊢
                        clear hl hwz
                        refine soloP HV.out ?_
                        have HF := Lib.hid (show TwoB W1 (fun p q => DoesR a y G p q) (.pointer (some ⟨bC, 0, none⟩)) (.pointer (some ⟨bD, 0, none⟩)) u8 from ⟨bC, bD, Ag, ng, cg, Bg, mg, kg, Dg, pg, qg, Ah, nh, ch, Bh, mh, kh, Dh, ph, qh, sg, sh, rfl, rfl, HV.out, HBC.out, HBD.out, HSg.out, HSh.out, ⟨sl, st, HJl.out, HJt.out, HJg.out, HJh.out⟩⟩)
                        refine wpPlan_stop ?_
                        go_wp2_with fail
                        go_meet
                        exact HF.out
                    · go_wp2_with fail
                      have hkz := (Kept.refl u2).alloc #[.slice none 0 0, .slice none 0 0, .slice none 0 0] 28
                      replace HSg := Lib.hid (HSg.out.kept hkz)
                      have HBD := Lib.hid (Box3.new u2 (.slice none 0 0) (.slice none 0 0) (.slice none 0 0) 28)
                      have HLD := Lib.hid HV.out.2.2
                      replace HV := Lib.hid (HV.out.trans hkz)
                      obtain ⟨bD, hbz⟩ : ∃ b, (World.heap u2).size = b := ⟨_, rfl⟩
                      obtain ⟨u3, hwz⟩ : ∃ u, World.alloc u2 (.cells #[.slice none 0 0, .slice none 0 0, .slice none 0 0] 28) = u := ⟨_, rfl⟩
                      rw [hwz] at HBD HV HSg ⊢
                      rw [hbz] at HBD HLD ⊢
                      clear hkz hbz hwz
                      refine soloP HV.out ?_
                      rw [wpPlan_two]
                      simp only [pickOps_cons, pickOps_nil, consO_some, List.getElem?_cons_zero, List.getElem?_cons_succ]
                      constructor
                      · go_wp2_with (go_at_call 12; refine (utake_any y.d Ao no co G _ (HG.out.kept HV.out) hno9).mono ?_; rintro e u4 ⟨At, nt, ct, Bt, mt, kt, Dt, pt, qt, st, rfl, hst, hjt, hkz⟩)
                        replace HSg := Lib.hid (HSg.out.kept hkz)
                        replace HBD := Lib.hid (HBD.out.kept hkz)
                        have HSt := Lib.hid hst
                        have HJt := Lib.hid hjt
                        replace HV := Lib.hid (HV.out.trans hkz)
                        clear hst hjt hkz
                        have hnt : nt ≤ 100000 := by have h1 := HSt.out.el.1; have h2 := HJt.out.1; rw [h2] at h1; simp at h1; omega
                        have hpt : pt ≤ 100000 := by have h1 := HSt.out.dl.1; have h2 := HJt.out.2.2; have h3 := HGL.out; omega
                        refine soloP HV.out ?_
                        rw [wpPlan_two]
                        simp only [pickOps_cons, pickOps_nil, consO_some, List.getElem?_cons_zero, List.getElem?_cons_succ]
                        constructor
                        · go_wp2_with (go_at_call 15; refine (uplay_any Aa na ca Ba ma ka Da pa qa a At nt ct Bt mt kt Dt pt qt st _ (HSa.out.kept HV.out) HSt.out HOa.out (take_ord HJt.out.1 HJt.out.2.1) (by omega) (by omega) hnt hpt).mono ?_; rintro e u5 ⟨Ah, nh, ch, Bh, mh, kh, Dh, ph, qh, sh, rfl, hsh, hjh, hkz⟩)
                          clear HSt
                          replace HSg := Lib.hid (HSg.out.kept hkz)
                          replace HBD := Lib.hid (HBD.out.kept hkz)
                          have HSh := Lib.hid hsh
                          have HJh := Lib.hid hjh
                          replace HV := Lib.hid (HV.out.trans hkz)
                          clear hsh hjh hkz
                          refine soloP HV.out ?_
                          rw [wpPlan_one]
                          simp only [pickOps_cons, pickOps_nil, consO_some, List.getElem?_cons_zero, List.getElem?_cons_succ]
                          go_wp2_with fail
                          have hkz := (Kept.refl u5).alloc #[.slice none 0 0, .slice none 0 0, .slice none 0 0] 28
                          have HNE := Lib.hid (show bD ≠ u5.heap.size from fun e => by have := HBD.out.lt; omega)
                          replace HSg := Lib.hid (HSg.out.kept hkz)
                          replace HSh := Lib.hid (HSh.out.kept hkz)
                          replace HBD := Lib.hid (HBD.out.kept hkz)
                          have HBC := Lib.hid (Box3.new u5 (.slice none 0 0) (.slice none 0 0) (.slice none 0 0) 28)
                          have HLC := Lib.hid HV.out.2.2
                          replace HV := Lib.hid (HV.out.trans hkz)
                          obtain ⟨bC, hbz⟩ : ∃ b, (World.heap u5).size = b := ⟨_, rfl⟩
                          obtain ⟨u6, hwz⟩ : ∃ u, World.alloc u5 (.cells #[.slice none 0 0, .slice none 0 0, .slice none 0 0] 28) = u := ⟨_, rfl⟩
                          rw [hwz] at HBC HV HSg HSh HBD ⊢
                          rw [hbz] at HBC HLC HNE ⊢
                          clear hkz hbz hwz
                          refine soloP HV.out ?_
                          rw [wpPlan_one]
                          simp only [pickOps_cons, pickOps_nil, consO_some, List.getElem?_cons_zero, List.getElem?_cons_succ]
                          have hl := HLC.out
                          have e0 := HBC.out.c0; have e1 := HBC.out.c1; have e2 := HBC.out.c2; have ef0 := HBC.out.f 0; have ef1 := HBC.out.f 1; have ef2 := HBC.out.f 2
                          go_wp2_with fail
                          clear e0 e1 e2 ef0 ef1 ef2
                          replace HSg := Lib.hid (HBC.out.stt (.slice Ag ng cg) (.slice Bg mg kg) (.slice Dg pg qg) HSg.out)
                          replace HSh := Lib.hid (HBC.out.stt (.slice Ag ng cg) (.slice Bg mg kg) (.slice Dg pg qg) HSh.out)
                          replace HBD := Lib.hid (HBD.out.set_far HNE.out (.slice Ag ng cg) (.slice Bg mg kg) (.slice Dg pg qg))
                          replace HBC := Lib.hid (HBC.out.set3 (.slice Ag ng cg) (.slice Bg mg kg) (.slice Dg pg qg))
                          replace HV := Lib.hid (((HV.out.setCell (a := ⟨bC, 0, none⟩) hl (.slice Ag ng cg)).setCell (a := ⟨bC, 1, none⟩) hl (.slice Bg mg kg)).setCell (a := ⟨bC, 2, none⟩) hl (.slice Dg pg qg))
                          obtain ⟨u7, hwz⟩ : ∃ u, ((World.setCell u6 ⟨bC, 0, none⟩ (.slice Ag ng cg)).setCell ⟨bC, 1, none⟩ (.slice Bg mg kg)).setCell ⟨bC, 2, none⟩ (.slice Dg pg qg) = u := ⟨_, rfl⟩
                          rw [hwz] at HV HBC HBD HSg HSh ⊢
                          clear hl hwz
                          refine soloP HV.out ?_
                          rw [wpPlan_one]
                          simp only [pickOps_cons, pickOps_nil, consO_some, List.getElem?_cons_zero, List.getElem?_cons_succ]
                          have hl := HLD.out
                          have e0 := HBD.out.c0; have e1 := HBD.out.c1; have e2 := HBD.out.c2; have ef0 := HBD.out.f 0; have ef1 := HBD.out.f 1; have ef2 := HBD.out.f 2
                          go_wp2_with fail
                          clear e0 e1 e2 ef0 ef1 ef2
                          replace HSg := Lib.hid (HBD.out.stt (.slice Ah nh ch) (.slice Bh mh kh) (.slice Dh ph qh) HSg.out)
                          replace HSh := Lib.hid (HBD.out.stt (.slice Ah nh ch) (.slice Bh mh kh) (.slice Dh ph qh) HSh.out)
                          replace HBC := Lib.hid (HBC.out.set_far HNE.out.symm (.slice Ah nh ch) (.slice Bh mh kh) (.slice Dh ph qh))
                          replace HBD := Lib.hid (HBD.out.set3 (.slice Ah nh ch) (.slice Bh mh kh) (.slice Dh ph qh))
                          replace HV := Lib.hid (((HV.out.setCell (a := ⟨bD, 0, none⟩) hl (.slice Ah nh ch)).setCell (a := ⟨bD, 1, none⟩) hl (.slice Bh mh kh)).setCell (a := ⟨bD, 2, none⟩) hl (.slice Dh ph qh))
                          obtain ⟨u8, hwz⟩ : ∃ u, ((World.setCell u7 ⟨bD, 0, none⟩ (.slice Ah nh ch)).setCell ⟨bD, 1, none⟩ (.slice Bh mh kh)).setCell ⟨bD, 2, none⟩ (.slice Dh ph qh) = u := ⟨_, rfl⟩
                          rw [hwz] at HV HBC HBD HSg HSh ⊢
                          clear hl hwz
                          refine soloP HV.out ?_
                          have HF := Lib.hid (show TwoB W1 (fun p q => DoesR a y G p q) (.pointer (some ⟨bC, 0, none⟩)) (.pointer (some ⟨bD, 0, none⟩)) u8 from ⟨bC, bD, Ag, ng, cg, Bg, mg, kg, Dg, pg, qg, Ah, nh, ch, Bh, mh, kh, Dh, ph, qh, sg, sh, rfl, rfl, HV.out, HBC.out, HBD.out, HSg.out, HSh.out, ⟨sl, st, HJl.out, HJt.out, HJg.out, HJh.out⟩⟩)
                          refine wpPlan_stop ?_
                          go_wp2_with fail
                          go_meet
                          exact HF.out
                        · go_wp2_with fail
                          have hkz := (Kept.refl u4).alloc #[.slice none 0 0, .slice none 0 0, .slice none 0 0] 28
                          have HNE := Lib.hid (show bD ≠ u4.heap.size from fun e => by have := HBD.out.lt; omega)
                          replace HSg := Lib.hid (HSg.out.kept hkz)
                          replace HSt := Lib.hid (HSt.out.kept hkz)
                          replace HBD := Lib.hid (HBD.out.kept hkz)
                          have HBC := Lib.hid (Box3.new u4 (.slice none 0 0) (.slice none 0 0) (.slice none 0 0) 28)
                          have HLC := Lib.hid HV.out.2.2
                          replace HV := Lib.hid (HV.out.trans hkz)
                          obtain ⟨bC, hbz⟩ : ∃ b, (World.heap u4).size = b := ⟨_, rfl⟩
                          obtain ⟨u5, hwz⟩ : ∃ u, World.alloc u4 (.cells #[.slice none 0 0, .slice none 0 0, .slice none 0 0] 28) = u := ⟨_, rfl⟩
                          rw [hwz] at HBC HV HSg HSt HBD ⊢
                          rw [hbz] at HBC HLC HNE ⊢
                          clear hkz hbz hwz
                          refine soloP HV.out ?_
                          rw [wpPlan_one]
                          simp only [pickOps_cons, pickOps_nil, consO_some, List.getElem?_cons_zero, List.getElem?_cons_succ]
                          go_wp2_with (go_at_call 15; refine (uplay_any Aa na ca Ba ma ka Da pa qa a At nt ct Bt mt kt Dt pt qt st _ (HSa.out.kept HV.out) HSt.out HOa.out (take_ord HJt.out.1 HJt.out.2.1) (by omega) (by omega) hnt hpt).mono ?_; rintro e u6 ⟨Ah, nh, ch, Bh, mh, kh, Dh, ph, qh, sh, rfl, hsh, hjh, hkz⟩)
                          clear HSt
                          replace HSg := Lib.hid (HSg.out.kept hkz)
                          replace HBC := Lib.hid (HBC.out.kept hkz)
                          replace HBD := Lib.hid (HBD.out.kept hkz)
                          have HSh := Lib.hid hsh
                          have HJh := Lib.hid hjh
                          replace HV := Lib.hid (HV.out.trans hkz)
                          clear hsh hjh hkz
                          refine soloP HV.out ?_
                          rw [wpPlan_one]
                          simp only [pickOps_cons, pickOps_nil, consO_some, List.getElem?_cons_zero, List.getElem?_cons_succ]
                          have hl := HLC.out
                          have e0 := HBC.out.c0; have e1 := HBC.out.c1; have e2 := HBC.out.c2; have ef0 := HBC.out.f 0; have ef1 := HBC.out.f 1; have ef2 := HBC.out.f 2
                          go_wp2_with fail
                          clear e0 e1 e2 ef0 ef1 ef2
                          replace HSg := Lib.hid (HBC.out.stt (.slice Ag ng cg) (.slice Bg mg kg) (.slice Dg pg qg) HSg.out)
                          replace HSh := Lib.hid (HBC.out.stt (.slice Ag ng cg) (.slice Bg mg kg) (.slice Dg pg qg) HSh.out)
                          replace HBD := Lib.hid (HBD.out.set_far HNE.out (.slice Ag ng cg) (.slice Bg mg kg) (.slice Dg pg qg))
                          replace HBC := Lib.hid (HBC.out.set3 (.slice Ag ng cg) (.slice Bg mg kg) (.slice Dg pg qg))
                          replace HV := Lib.hid (((HV.out.setCell (a := ⟨bC, 0, none⟩) hl (.slice Ag ng cg)).setCell (a := ⟨bC, 1, none⟩) hl (.slice Bg mg kg)).setCell (a := ⟨bC, 2, none⟩) hl (.slice Dg pg qg))
                          obtain ⟨u7, hwz⟩ : ∃ u, ((World.setCell u6 ⟨bC, 0, none⟩ (.slice Ag ng cg)).setCell ⟨bC, 1, none⟩ (.slice Bg mg kg)).setCell ⟨bC, 2, none⟩ (.slice Dg pg qg) = u := ⟨_, rfl⟩
                          rw [hwz] at HV HBC HBD HSg HSh ⊢
                          clear hl hwz
                          refine soloP HV.out ?_
                          rw [wpPlan_one]
                          simp only [pickOps_cons, pickOps_nil, consO_some, List.getElem?_cons_zero, List.getElem?_cons_succ]
                          have hl := HLD.out
                          have e0 := HBD.out.c0; have e1 := HBD.out.c1; have e2 := HBD.out.c2; have ef0 := HBD.out.f 0; have ef1 := HBD.out.f 1; have ef2 := HBD.out.f 2
                          go_wp2_with fail
                          clear e0 e1 e2 ef0 ef1 ef2
                          replace HSg := Lib.hid (HBD.out.stt (.slice Ah nh ch) (.slice Bh mh kh) (.slice Dh ph qh) HSg.out)
                          replace HSh := Lib.hid (HBD.out.stt (.slice Ah nh ch) (.slice Bh mh kh) (.slice Dh ph qh) HSh.out)
                          replace HBC := Lib.hid (HBC.out.set_far HNE.out.symm (.slice Ah nh ch) (.slice Bh mh kh) (.slice Dh ph qh))
                          replace HBD := Lib.hid (HBD.out.set3 (.slice Ah nh ch) (.slice Bh mh kh) (.slice Dh ph qh))
                          replace HV := Lib.hid (((HV.out.setCell (a := ⟨bD, 0, none⟩) hl (.slice Ah nh ch)).setCell (a := ⟨bD, 1, none⟩) hl (.slice Bh mh kh)).setCell (a := ⟨bD, 2, none⟩) hl (.slice Dh ph qh))
                          obtain ⟨u8, hwz⟩ : ∃ u, ((World.setCell u7 ⟨bD, 0, none⟩ (.slice Ah nh ch)).setCell ⟨bD, 1, none⟩ (.slice Bh mh kh)).setCell ⟨bD, 2, none⟩ (.slice Dh ph qh) = u := ⟨_, rfl⟩
                          rw [hwz] at HV HBC HBD HSg HSh ⊢
                          clear hl hwz
                          refine soloP HV.out ?_
                          have HF := Lib.hid (show TwoB W1 (fun p q => DoesR a y G p q) (.pointer (some ⟨bC, 0, none⟩)) (.pointer (some ⟨bD, 0, none⟩)) u8 from ⟨bC, bD, Ag, ng, cg, Bg, mg, kg, Dg, pg, qg, Ah, nh, ch, Bh, mh, kh, Dh, ph, qh, sg, sh, rfl, rfl, HV.out, HBC.out, HBD.out, HSg.out, HSh.out, ⟨sl, st, HJl.out, HJt.out, HJg.out, HJh.out⟩⟩)
                          refine wpPlan_stop ?_
                          go_wp2_with fail
                          go_meet
                          exact HF.out
                      · go_wp2_with fail
                        have hkz := (Kept.refl u3).alloc #[.slice none 0 0, .slice none 0 0, .slice none 0 0] 28
                        have HNE := Lib.hid (show bD ≠ u3.heap.size from fun e => by have := HBD.out.lt; omega)
                        replace HSg := Lib.hid (HSg.out.kept hkz)
                        replace HBD := Lib.hid (HBD.out.kept hkz)
                        have HBC := Lib.hid (Box3.new u3 (.slice none 0 0) (.slice none 0 0) (.slice none 0 0) 28)
                        have HLC := Lib.hid HV.out.2.2
                        replace HV := Lib.hid (HV.out.trans hkz)
                        obtain ⟨bC, hbz⟩ : ∃ b, (World.heap u3).size = b := ⟨_, rfl⟩
                        obtain ⟨u4, hwz⟩ : ∃ u, World.alloc u3 (.cells #[.slice none 0 0, .slice none 0 0, .slice none 0 0] 28) = u := ⟨_, rfl⟩
                        rw [hwz] at HBC HV HSg HBD ⊢
                        rw [hbz] at HBC HLC HNE ⊢
                        clear hkz hbz hwz
                        refine soloP HV.out ?_
                        rw [wpPlan_one]
                        simp only [pickOps_cons, pickOps_nil, consO_some, List.getElem?_cons_zero, List.getElem?_cons_succ]
                        go_wp2_with (go_at_call 12; refine (utake_any y.d Ao no co G _ (HG.out.kept HV.out) hno9).mono ?_; rintro e u5 ⟨At, nt, ct, Bt, mt, kt, Dt, pt, qt, st, rfl, hst, hjt, hkz⟩)
                        replace HSg := Lib.hid (HSg.out.kept hkz)
                        replace HBC := Lib.hid (HBC.out.kept hkz)
                        replace HBD := Lib.hid (HBD.out.kept hkz)
                        have HSt := Lib.hid hst
                        have HJt := Lib.hid hjt
                        replace HV := Lib.hid (HV.out.trans hkz)
                        clear hst hjt hkz
                        have hnt : nt ≤ 100000 := by have h1 := HSt.out.el.1; have h2 := HJt.out.1; rw [h2] at h1; simp at h1; omega
                        have hpt : pt ≤ 100000 := by have h1 := HSt.out.dl.1; have h2 := HJt.out.2.2; have h3 := HGL.out; omega
                        refine soloP HV.out ?_
                        rw [wpPlan_one]
                        simp only [pickOps_cons, pickOps_nil, consO_some, List.getElem?_cons_zero, List.getElem?_cons_succ]
                        go_wp2_with (go_at_call 15; refine (uplay_any Aa na ca Ba ma ka Da pa qa a At nt ct Bt mt kt Dt pt qt st _ (HSa.out.kept HV.out) HSt.out HOa.out (take_ord HJt.out.1 HJt.out.2.1) (by omega) (by omega) hnt hpt).mono ?_; rintro e u6 ⟨Ah, nh, ch, Bh, mh, kh, Dh, ph, qh, sh, rfl, hsh, hjh, hkz⟩)
                        clear HSt
                        replace HSg := Lib.hid (HSg.out.kept hkz)
                        replace HBC := Lib.hid (HBC.out.kept hkz)
                        replace HBD := Lib.hid (HBD.out.kept hkz)
                        have HSh := Lib.hid hsh
                        have HJh := Lib.hid hjh
                        replace HV := Lib.hid (HV.out.trans hkz)
                        clear hsh hjh hkz
                        refine soloP HV.out ?_
                        rw [wpPlan_one]
                        simp only [pickOps_cons, pickOps_nil, consO_some, List.getElem?_cons_zero, List.getElem?_cons_succ]
                        have hl := HLC.out
                        have e0 := HBC.out.c0; have e1 := HBC.out.c1; have e2 := HBC.out.c2; have ef0 := HBC.out.f 0; have ef1 := HBC.out.f 1; have ef2 := HBC.out.f 2
                        go_wp2_with fail
                        clear e0 e1 e2 ef0 ef1 ef2
                        replace HSg := Lib.hid (HBC.out.stt (.slice Ag ng cg) (.slice Bg mg kg) (.slice Dg pg qg) HSg.out)
                        replace HSh := Lib.hid (HBC.out.stt (.slice Ag ng cg) (.slice Bg mg kg) (.slice Dg pg qg) HSh.out)
                        replace HBD := Lib.hid (HBD.out.set_far HNE.out (.slice Ag ng cg) (.slice Bg mg kg) (.slice Dg pg qg))
                        replace HBC := Lib.hid (HBC.out.set3 (.slice Ag ng cg) (.slice Bg mg kg) (.slice Dg pg qg))
                        replace HV := Lib.hid (((HV.out.setCell (a := ⟨bC, 0, none⟩) hl (.slice Ag ng cg)).setCell (a := ⟨bC, 1, none⟩) hl (.slice Bg mg kg)).setCell (a := ⟨bC, 2, none⟩) hl (.slice Dg pg qg))
                        obtain ⟨u7, hwz⟩ : ∃ u, ((World.setCell u6 ⟨bC, 0, none⟩ (.slice Ag ng cg)).setCell ⟨bC, 1, none⟩ (.slice Bg mg kg)).setCell ⟨bC, 2, none⟩ (.slice Dg pg qg) = u := ⟨_, rfl⟩
                        rw [hwz] at HV HBC HBD HSg HSh ⊢
                        clear hl hwz
                        refine soloP HV.out ?_
                        rw [wpPlan_one]
                        simp only [pickOps_cons, pickOps_nil, consO_some, List.getElem?_cons_zero, List.getElem?_cons_succ]
                        have hl := HLD.out
                        have e0 := HBD.out.c0; have e1 := HBD.out.c1; have e2 := HBD.out.c2; have ef0 := HBD.out.f 0; have ef1 := HBD.out.f 1; have ef2 := HBD.out.f 2
                        go_wp2_with fail
                        clear e0 e1 e2 ef0 ef1 ef2
                        replace HSg := Lib.hid (HBD.out.stt (.slice Ah nh ch) (.slice Bh mh kh) (.slice Dh ph qh) HSg.out)
                        replace HSh := Lib.hid (HBD.out.stt (.slice Ah nh ch) (.slice Bh mh kh) (.slice Dh ph qh) HSh.out)
                        replace HBC := Lib.hid (HBC.out.set_far HNE.out.symm (.slice Ah nh ch) (.slice Bh mh kh) (.slice Dh ph qh))
                        replace HBD := Lib.hid (HBD.out.set3 (.slice Ah nh ch) (.slice Bh mh kh) (.slice Dh ph qh))
                        replace HV := Lib.hid (((HV.out.setCell (a := ⟨bD, 0, none⟩) hl (.slice Ah nh ch)).setCell (a := ⟨bD, 1, none⟩) hl (.slice Bh mh kh)).setCell (a := ⟨bD, 2, none⟩) hl (.slice Dh ph qh))
                        obtain ⟨u8, hwz⟩ : ∃ u, ((World.setCell u7 ⟨bD, 0, none⟩ (.slice Ah nh ch)).setCell ⟨bD, 1, none⟩ (.slice Bh mh kh)).setCell ⟨bD, 2, none⟩ (.slice Dh ph qh) = u := ⟨_, rfl⟩
                        rw [hwz] at HV HBC HBD HSg HSh ⊢
                        clear hl hwz
                        refine soloP HV.out ?_
                        have HF := Lib.hid (show TwoB W1 (fun p q => DoesR a y G p q) (.pointer (some ⟨bC, 0, none⟩)) (.pointer (some ⟨bD, 0, none⟩)) u8 from ⟨bC, bD, Ag, ng, cg, Bg, mg, kg, Dg, pg, qg, Ah, nh, ch, Bh, mh, kh, Dh, ph, qh, sg, sh, rfl, rfl, HV.out, HBC.out, HBD.out, HSg.out, HSh.out, ⟨sl, st, HJl.out, HJt.out, HJg.out, HJh.out⟩⟩)
                        refine wpPlan_stop ?_
                        go_wp2_with fail
                        go_meet
                        exact HF.out
                  · go_wp2_with fail
                    have hkz := (Kept.refl u1).alloc #[.slice none 0 0, .slice none 0 0, .slice none 0 0] 28
                    replace HSl := Lib.hid (HSl.out.kept hkz)
                    have HBC := Lib.hid (Box3.new u1 (.slice none 0 0) (.slice none 0 0) (.slice none 0 0) 28)
                    have HLC := Lib.hid HV.out.2.2
                    replace HV := Lib.hid (HV.out.trans hkz)
                    obtain ⟨bC, hbz⟩ : ∃ b, (World.heap u1).size = b := ⟨_, rfl⟩
                    obtain ⟨u2, hwz⟩ : ∃ u, World.alloc u1 (.cells #[.slice none 0 0, .slice none 0 0, .slice none 0 0] 28) = u := ⟨_, rfl⟩
                    rw [hwz] at HBC HV HSl ⊢
                    rw [hbz] at HBC HLC ⊢
                    clear hkz hbz hwz
                    refine soloP HV.out ?_
                    rw [wpPlan_two]
                    simp only [pickOps_cons, pickOps_nil, consO_some, List.getElem?_cons_zero, List.getElem?_cons_succ]
                    constructor
                    · go_wp2_with (go_at_call 15; refine (uplay_any Aa na ca Ba ma ka Da pa qa a Al nl cl Bl ml kl Dl pl ql sl _ (HSa.out.kept HV.out) HSl.out HOa.out (leave_ord HRD.out HJl.out.1 HJl.out.2.1) (by omega) (by omega) hnl hpl).mono ?_; rintro e u3 ⟨Ag, ng, cg, Bg, mg, kg, Dg, pg, qg, sg, rfl, hsg, hjg, hkz⟩)
                      clear HSl
                      replace HBC := Lib.hid (HBC.out.kept hkz)
                      have HSg := Lib.hid hsg
                      have HJg := Lib.hid hjg
                      replace HV := Lib.hid (HV.out.trans hkz)
                      clear hsg hjg hkz
                      refine soloP HV.out ?_
                      rw [wpPlan_two]
                      simp only [pickOps_cons, pickOps_nil, consO_some, List.getElem?_cons_zero, List.getElem?_cons_succ]
                      constructor
                      · go_wp2_with (go_at_call 12; refine (utake_any y.d Ao no co G _ (HG.out.kept HV.out) hno9).mono ?_; rintro e u4 ⟨At, nt, ct, Bt, mt, kt, Dt, pt, qt, st, rfl, hst, hjt, hkz⟩)
                        replace HSg := Lib.hid (HSg.out.kept hkz)
                        replace HBC := Lib.hid (HBC.out.kept hkz)
                        have HSt := Lib.hid hst
                        have HJt := Lib.hid hjt
                        replace HV := Lib.hid (HV.out.trans hkz)
                        clear hst hjt hkz
                        have hnt : nt ≤ 100000 := by have h1 := HSt.out.el.1; have h2 := HJt.out.1; rw [h2] at h1; simp at h1; omega
                        have hpt : pt ≤ 100000 := by have h1 := HSt.out.dl.1; have h2 := HJt.out.2.2; have h3 := HGL.out; omega
                        refine soloP HV.out ?_
                        rw [wpPlan_two]
                        simp only [pickOps_cons, pickOps_nil, consO_some, List.getElem?_cons_zero, List.getElem?_cons_succ]
                        constructor
                        · go_wp2_with (go_at_call 15; refine (uplay_any Aa na ca Ba ma ka Da pa qa a At nt ct Bt mt kt Dt pt qt st _ (HSa.out.kept HV.out) HSt.out HOa.out (take_ord HJt.out.1 HJt.out.2.1) (by omega) (by omega) hnt hpt).mono ?_; rintro e u5 ⟨Ah, nh, ch, Bh, mh, kh, Dh, ph, qh, sh, rfl, hsh, hjh, hkz⟩)
                          clear HSt
                          replace HSg := Lib.hid (HSg.out.kept hkz)
                          replace HBC := Lib.hid (HBC.out.kept hkz)
                          have HSh := Lib.hid hsh
                          have HJh := Lib.hid hjh
                          replace HV := Lib.hid (HV.out.trans hkz)
                          clear hsh hjh hkz
                          refine soloP HV.out ?_
                          rw [wpPlan_one]
                          simp only [pickOps_cons, pickOps_nil, consO_some, List.getElem?_cons_zero, List.getElem?_cons_succ]
                          go_wp2_with fail
                          have hkz := (Kept.refl u5).alloc #[.slice none 0 0, .slice none 0 0, .slice none 0 0] 28
                          have HNE := Lib.hid (show bC ≠ u5.heap.size from fun e => by have := HBC.out.lt; omega)
                          replace HSg := Lib.hid (HSg.out.kept hkz)
                          replace HSh := Lib.hid (HSh.out.kept hkz)
                          replace HBC := Lib.hid (HBC.out.kept hkz)
                          have HBD := Lib.hid (Box3.new u5 (.slice none 0 0) (.slice none 0 0) (.slice none 0 0) 28)
                          have HLD := Lib.hid HV.out.2.2
                          replace HV := Lib.hid (HV.out.trans hkz)
                          obtain ⟨bD, hbz⟩ : ∃ b, (World.heap u5).size = b := ⟨_, rfl⟩
                          obtain ⟨u6, hwz⟩ : ∃ u, World.alloc u5 (.cells #[.slice none 0 0, .slice none 0 0, .slice none 0 0] 28) = u := ⟨_, rfl⟩
                          rw [hwz] at HBD HV HSg HSh HBC ⊢
                          rw [hbz] at HBD HLD HNE ⊢
                          clear hkz hbz hwz
                          refine soloP HV.out ?_
                          rw [wpPlan_one]
                          simp only [pickOps_cons, pickOps_nil, consO_some, List.getElem?_cons_zero, List.getElem?_cons_succ]
                          have hl := HLC.out
                          have e0 := HBC.out.c0; have e1 := HBC.out.c1; have e2 := HBC.out.c2; have ef0 := HBC.out.f 0; have ef1 := HBC.out.f 1; have ef2 := HBC.out.f 2
                          go_wp2_with fail
                          clear e0 e1 e2 ef0 ef1 ef2
                          replace HSg := Lib.hid (HBC.out.stt (.slice Ag ng cg) (.slice Bg mg kg) (.slice Dg pg qg) HSg.out)
                          replace HSh := Lib.hid (HBC.out.stt (.slice Ag ng cg) (.slice Bg mg kg) (.slice Dg pg qg) HSh.out)
                          replace HBD := Lib.hid (HBD.out.set_far HNE.out.symm (.slice Ag ng cg) (.slice Bg mg kg) (.slice Dg pg qg))
                          replace HBC := Lib.hid (HBC.out.set3 (.slice Ag ng cg) (.slice Bg mg kg) (.slice Dg pg qg))
                          replace HV := Lib.hid (((HV.out.setCell (a := ⟨bC, 0, none⟩) hl (.slice Ag ng cg)).setCell (a := ⟨bC, 1, none⟩) hl (.slice Bg mg kg)).setCell (a := ⟨bC, 2, none⟩) hl (.slice Dg pg qg))
                          obtain ⟨u7, hwz⟩ : ∃ u, ((World.setCell u6 ⟨bC, 0, none⟩ (.slice Ag ng cg)).setCell ⟨bC, 1, none⟩ (.slice Bg mg kg)).setCell ⟨bC, 2, none⟩ (.slice Dg pg qg) = u := ⟨_, rfl⟩
                          rw [hwz] at HV HBC HBD HSg HSh ⊢
                          clear hl hwz
                          refine soloP HV.out ?_
                          rw [wpPlan_one]
                          simp only [pickOps_cons, pickOps_nil, consO_some, List.getElem?_cons_zero, List.getElem?_cons_succ]
                          have hl := HLD.out
                          have e0 := HBD.out.c0; have e1 := HBD.out.c1; have e2 := HBD.out.c2; have ef0 := HBD.out.f 0; have ef1 := HBD.out.f 1; have ef2 := HBD.out.f 2
                          go_wp2_with fail
                          clear e0 e1 e2 ef0 ef1 ef2
                          replace HSg := Lib.hid (HBD.out.stt (.slice Ah nh ch) (.slice Bh mh kh) (.slice Dh ph qh) HSg.out)
                          replace HSh := Lib.hid (HBD.out.stt (.slice Ah nh ch) (.slice Bh mh kh) (.slice Dh ph qh) HSh.out)
                          replace HBC := Lib.hid (HBC.out.set_far HNE.out (.slice Ah nh ch) (.slice Bh mh kh) (.slice Dh ph qh))
                          replace HBD := Lib.hid (HBD.out.set3 (.slice Ah nh ch) (.slice Bh mh kh) (.slice Dh ph qh))
                          replace HV := Lib.hid (((HV.out.setCell (a := ⟨bD, 0, none⟩) hl (.slice Ah nh ch)).setCell (a := ⟨bD, 1, none⟩) hl (.slice Bh mh kh)).setCell (a := ⟨bD, 2, none⟩) hl (.slice Dh ph qh))
                          obtain ⟨u8, hwz⟩ : ∃ u, ((World.setCell u7 ⟨bD, 0, none⟩ (.slice Ah nh ch)).setCell ⟨bD, 1, none⟩ (.slice Bh mh kh)).setCell ⟨bD, 2, none⟩ (.slice Dh ph qh) = u := ⟨_, rfl⟩
                          rw [hwz] at HV HBC HBD HSg HSh ⊢
                          clear hl hwz
                          refine soloP HV.out ?_
                          have HF := Lib.hid (show TwoB W1 (fun p q => DoesR a y G p q) (.pointer (some ⟨bC, 0, none⟩)) (.pointer (some ⟨bD, 0, none⟩)) u8 from ⟨bC, bD, Ag, ng, cg, Bg, mg, kg, Dg, pg, qg, Ah, nh, ch, Bh, mh, kh, Dh, ph, qh, sg, sh, rfl, rfl, HV.out, HBC.out, HBD.out, HSg.out, HSh.out, ⟨sl, st, HJl.out, HJt.out, HJg.out, HJh.out⟩⟩)
                          refine wpPlan_stop ?_
                          go_wp2_with fail
                          go_meet
                          exact HF.out
                        · go_wp2_with fail
                          have hkz := (Kept.refl u4).alloc #[.slice none 0 0, .slice none 0 0, .slice none 0 0] 28
                          have HNE := Lib.hid (show bC ≠ u4.heap.size from fun e => by have := HBC.out.lt; omega)
                          replace HSg := Lib.hid (HSg.out.kept hkz)
                          replace HSt := Lib.hid (HSt.out.kept hkz)
                          replace HBC := Lib.hid (HBC.out.kept hkz)
                          have HBD := Lib.hid (Box3.new u4 (.slice none 0 0) (.slice none 0 0) (.slice none 0 0) 28)
                          have HLD := Lib.hid HV.out.2.2
                          replace HV := Lib.hid (HV.out.trans hkz)
                          obtain ⟨bD, hbz⟩ : ∃ b, (World.heap u4).size = b := ⟨_, rfl⟩
                          obtain ⟨u5, hwz⟩ : ∃ u, World.alloc u4 (.cells #[.slice none 0 0, .slice none 0 0, .slice none 0 0] 28) = u := ⟨_, rfl⟩
                          rw [hwz] at HBD HV HSg HSt HBC ⊢
                          rw [hbz] at HBD HLD HNE ⊢
                          clear hkz hbz hwz
                          refine soloP HV.out ?_
                          rw [wpPlan_one]
                          simp only [pickOps_cons, pickOps_nil, consO_some, List.getElem?_cons_zero, List.getElem?_cons_succ]
                          go_wp2_with (go_at_call 15; refine (uplay_any Aa na ca Ba ma ka Da pa qa a At nt ct Bt mt kt Dt pt qt st _ (HSa.out.kept HV.out) HSt.out HOa.out (take_ord HJt.out.1 HJt.out.2.1) (by omega) (by omega) hnt hpt).mono ?_; rintro e u6 ⟨Ah, nh, ch, Bh, mh, kh, Dh, ph, qh, sh, rfl, hsh, hjh, hkz⟩)
                          clear HSt
                          replace HSg := Lib.hid (HSg.out.kept hkz)
                          replace HBC := Lib.hid (HBC.out.kept hkz)
                          replace HBD := Lib.hid (HBD.out.kept hkz)
                          have HSh := Lib.hid hsh
                          have HJh := Lib.hid hjh
                          replace HV := Lib.hid (HV.out.trans hkz)
                          clear hsh hjh hkz
                          refine soloP HV.out ?_
                          rw [wpPlan_one]
                          simp only [pickOps_cons, pickOps_nil, consO_some, List.getElem?_cons_zero, List.getElem?_cons_succ]
                          have hl := HLC.out
                          have e0 := HBC.out.c0; have e1 := HBC.out.c1; have e2 := HBC.out.c2; have ef0 := HBC.out.f 0; have ef1 := HBC.out.f 1; have ef2 := HBC.out.f 2
                          go_wp2_with fail
                          clear e0 e1 e2 ef0 ef1 ef2
                          replace HSg := Lib.hid (HBC.out.stt (.slice Ag ng cg) (.slice Bg mg kg) (.slice Dg pg qg) HSg.out)
                          replace HSh := Lib.hid (HBC.out.stt (.slice Ag ng cg) (.slice Bg mg kg) (.slice Dg pg qg) HSh.out)
                          replace HBD := Lib.hid (HBD.out.set_far HNE.out.symm (.slice Ag ng cg) (.slice Bg mg kg) (.slice Dg pg qg))
                          replace HBC := Lib.hid (HBC.out.set3 (.slice Ag ng cg) (.slice Bg mg kg) (.slice Dg pg qg))
                          replace HV := Lib.hid (((HV.out.setCell (a := ⟨bC, 0, none⟩) hl (.slice Ag ng cg)).setCell (a := ⟨bC, 1, none⟩) hl (.slice Bg mg kg)).setCell (a := ⟨bC, 2, none⟩) hl (.slice Dg pg qg))
                          obtain ⟨u7, hwz⟩ : ∃ u, ((World.setCell u6 ⟨bC, 0, none⟩ (.slice Ag ng cg)).setCell ⟨bC, 1, none⟩ (.slice Bg mg kg)).setCell ⟨bC, 2, none⟩ (.slice Dg pg qg) = u := ⟨_, rfl⟩
                          rw [hwz] at HV HBC HBD HSg HSh ⊢
                          clear hl hwz
                          refine soloP HV.out ?_
                          rw [wpPlan_one]
                          simp only [pickOps_cons, pickOps_nil, consO_some, List.getElem?_cons_zero, List.getElem?_cons_succ]
                          have hl := HLD.out
                          have e0 := HBD.out.c0; have e1 := HBD.out.c1; have e2 := HBD.out.c2; have ef0 := HBD.out.f 0; have ef1 := HBD.out.f 1; have ef2 := HBD.out.f 2
                          go_wp2_with fail
                          clear e0 e1 e2 ef0 ef1 ef2
                          replace HSg := Lib.hid (HBD.out.stt (.slice Ah nh ch) (.slice Bh mh kh) (.slice Dh ph qh) HSg.out)
                          replace HSh := Lib.hid (HBD.out.stt (.slice Ah nh ch) (.slice Bh mh kh) (.slice Dh ph qh) HSh.out)
                          replace HBC := Lib.hid (HBC.out.set_far HNE.out (.slice Ah nh ch) (.slice Bh mh kh) (.slice Dh ph qh))
                          replace HBD := Lib.hid (HBD.out.set3 (.slice Ah nh ch) (.slice Bh mh kh) (.slice Dh ph qh))
                          replace HV := Lib.hid (((HV.out.setCell (a := ⟨bD, 0, none⟩) hl (.slice Ah nh ch)).setCell (a := ⟨bD, 1, none⟩) hl (.slice Bh mh kh)).setCell (a := ⟨bD, 2, none⟩) hl (.slice Dh ph qh))
                          obtain ⟨u8, hwz⟩ : ∃ u, ((World.setCell u7 ⟨bD, 0, none⟩ (.slice Ah nh ch)).setCell ⟨bD, 1, none⟩ (.slice Bh mh kh)).setCell ⟨bD, 2, none⟩ (.slice Dh ph qh) = u := ⟨_, rfl⟩
                          rw [hwz] at HV HBC HBD HSg HSh ⊢
                          clear hl hwz
                          refine soloP HV.out ?_
                          have HF := Lib.hid (show TwoB W1 (fun p q => DoesR a y G p q) (.pointer (some ⟨bC, 0, none⟩)) (.pointer (some ⟨bD, 0, none⟩)) u8 from ⟨bC, bD, Ag, ng, cg, Bg, mg, kg, Dg, pg, qg, Ah, nh, ch, Bh, mh, kh, Dh, ph, qh, sg, sh, rfl, rfl, HV.out, HBC.out, HBD.out, HSg.out, HSh.out, ⟨sl, st, HJl.out, HJt.out, HJg.out, HJh.out⟩⟩)
                          refine wpPlan_stop ?_
                          go_wp2_with fail
                          go_meet
                          exact HF.out
                      · go_wp2_with fail
                        have hkz := (Kept.refl u3).alloc #[.slice none 0 0, .slice none 0 0, .slice none 0 0] 28
                        have HNE := Lib.hid (show bC ≠ u3.heap.size from fun e => by have := HBC.out.lt; omega)
                        replace HSg := Lib.hid (HSg.out.kept hkz)
                        replace HBC := Lib.hid (HBC.out.kept hkz)
                        have HBD := Lib.hid (Box3.new u3 (.slice none 0 0) (.slice none 0 0) (.slice none 0 0) 28)
                        have HLD := Lib.hid HV.out.2.2
                        replace HV := Lib.hid (HV.out.trans hkz)
                        obtain ⟨bD, hbz⟩ : ∃ b, (World.heap u3).size = b := ⟨_, rfl⟩
                        obtain ⟨u4, hwz⟩ : ∃ u, World.alloc u3 (.cells #[.slice none 0 0, .slice none 0 0, .slice none 0 0] 28) = u := ⟨_, rfl⟩
                        rw [hwz] at HBD HV HSg HBC ⊢
                        rw [hbz] at HBD HLD HNE ⊢
                        clear hkz hbz hwz
                        refine soloP HV.out ?_
                        rw [wpPlan_one]
                        simp only [pickOps_cons, pickOps_nil, consO_some, List.getElem?_cons_zero, List.getElem?_cons_succ]
                        go_wp2_with (go_at_call 12; refine (utake_any y.d Ao no co G _ (HG.out.kept HV.out) hno9).mono ?_; rintro e u5 ⟨At, nt, ct, Bt, mt, kt, Dt, pt, qt, st, rfl, hst, hjt, hkz⟩)
                        replace HSg := Lib.hid (HSg.out.kept hkz)
                        replace HBC := Lib.hid (HBC.out.kept hkz)
                        replace HBD := Lib.hid (HBD.out.kept hkz)
                        have HSt := Lib.hid hst
                        have HJt := Lib.hid hjt
                        replace HV := Lib.hid (HV.out.trans hkz)
                        clear hst hjt hkz
                        have hnt : nt ≤ 100000 := by have h1 := HSt.out.el.1; have h2 := HJt.out.1; rw [h2] at h1; simp at h1; omega
                        have hpt : pt ≤ 100000 := by have h1 := HSt.out.dl.1; have h2 := HJt.out.2.2; have h3 := HGL.out; omega
                        refine soloP HV.out ?_
                        rw [wpPlan_one]
                        simp only [pickOps_cons, pickOps_nil, consO_some, List.getElem?_cons_zero, List.getElem?_cons_succ]
                        go_wp2_with (go_at_call 15; refine (uplay_any Aa na ca Ba ma ka Da pa qa a At nt ct Bt mt kt Dt pt qt st _ (HSa.out.kept HV.out) HSt.out HOa.out (take_ord HJt.out.1 HJt.out.2.1) (by omega) (by omega) hnt hpt).mono ?_; rintro e u6 ⟨Ah, nh, ch, Bh, mh, kh, Dh, ph, qh, sh, rfl, hsh, hjh, hkz⟩)
                        clear HSt
                        replace HSg := Lib.hid (HSg.out.kept hkz)
                        replace HBC := Lib.hid (HBC.out.kept hkz)
                        replace HBD := Lib.hid (HBD.out.kept hkz)
                        have HSh := Lib.hid hsh
                        have HJh := Lib.hid hjh
                        replace HV := Lib.hid (HV.out.trans hkz)
                        clear hsh hjh hkz
                        refine soloP HV.out ?_
                        rw [wpPlan_one]
                        simp only [pickOps_cons, pickOps_nil, consO_some, List.getElem?_cons_zero, List.getElem?_cons_succ]
                        have hl := HLC.out
                        have e0 := HBC.out.c0; have e1 := HBC.out.c1; have e2 := HBC.out.c2; have ef0 := HBC.out.f 0; have ef1 := HBC.out.f 1; have ef2 := HBC.out.f 2
                        go_wp2_with fail
                        clear e0 e1 e2 ef0 ef1 ef2
                        replace HSg := Lib.hid (HBC.out.stt (.slice Ag ng cg) (.slice Bg mg kg) (.slice Dg pg qg) HSg.out)
                        replace HSh := Lib.hid (HBC.out.stt (.slice Ag ng cg) (.slice Bg mg kg) (.slice Dg pg qg) HSh.out)
                        replace HBD := Lib.hid (HBD.out.set_far HNE.out.symm (.slice Ag ng cg) (.slice Bg mg kg) (.slice Dg pg qg))
                        replace HBC := Lib.hid (HBC.out.set3 (.slice Ag ng cg) (.slice Bg mg kg) (.slice Dg pg qg))
                        replace HV := Lib.hid (((HV.out.setCell (a := ⟨bC, 0, none⟩) hl (.slice Ag ng cg)).setCell (a := ⟨bC, 1, none⟩) hl (.slice Bg mg kg)).setCell (a := ⟨bC, 2, none⟩) hl (.slice Dg pg qg))
                        obtain ⟨u7, hwz⟩ : ∃ u, ((World.setCell u6 ⟨bC, 0, none⟩ (.slice Ag ng cg)).setCell ⟨bC, 1, none⟩ (.slice Bg mg kg)).setCell ⟨bC, 2, none⟩ (.slice Dg pg qg) = u := ⟨_, rfl⟩
                        rw [hwz] at HV HBC HBD HSg HSh ⊢
                        clear hl hwz
                        refine soloP HV.out ?_
                        rw [wpPlan_one]
                        simp only [pickOps_cons, pickOps_nil, consO_some, List.getElem?_cons_zero, List.getElem?_cons_succ]
                        have hl := HLD.out
                        have e0 := HBD.out.c0; have e1 := HBD.out.c1; have e2 := HBD.out.c2; have ef0 := HBD.out.f 0; have ef1 := HBD.out.f 1; have ef2 := HBD.out.f 2
                        go_wp2_with fail
                        clear e0 e1 e2 ef0 ef1 ef2
                        replace HSg := Lib.hid (HBD.out.stt (.slice Ah nh ch) (.slice Bh mh kh) (.slice Dh ph qh) HSg.out)
                        replace HSh := Lib.hid (HBD.out.stt (.slice Ah nh ch) (.slice Bh mh kh) (.slice Dh ph qh) HSh.out)
                        replace HBC := Lib.hid (HBC.out.set_far HNE.out (.slice Ah nh ch) (.slice Bh mh kh) (.slice Dh ph qh))
                        replace HBD := Lib.hid (HBD.out.set3 (.slice Ah nh ch) (.slice Bh mh kh) (.slice Dh ph qh))
                        replace HV := Lib.hid (((HV.out.setCell (a := ⟨bD, 0, none⟩) hl (.slice Ah nh ch)).setCell (a := ⟨bD, 1, none⟩) hl (.slice Bh mh kh)).setCell (a := ⟨bD, 2, none⟩) hl (.slice Dh ph qh))
                        obtain ⟨u8, hwz⟩ : ∃ u, ((World.setCell u7 ⟨bD, 0, none⟩ (.slice Ah nh ch)).setCell ⟨bD, 1, none⟩ (.slice Bh mh kh)).setCell ⟨bD, 2, none⟩ (.slice Dh ph qh) = u := ⟨_, rfl⟩
                        rw [hwz] at HV HBC HBD HSg HSh ⊢
                        clear hl hwz
                        refine soloP HV.out ?_
                        have HF := Lib.hid (show TwoB W1 (fun p q => DoesR a y G p q) (.pointer (some ⟨bC, 0, none⟩)) (.pointer (some ⟨bD, 0, none⟩)) u8 from ⟨bC, bD, Ag, ng, cg, Bg, mg, kg, Dg, pg, qg, Ah, nh, ch, Bh, mh, kh, Dh, ph, qh, sg, sh, rfl, rfl, HV.out, HBC.out, HBD.out, HSg.out, HSh.out, ⟨sl, st, HJl.out, HJt.out, HJg.out, HJh.out⟩⟩)
                        refine wpPlan_stop ?_
                        go_wp2_with fail
                        go_meet
                        exact HF.out
                    · go_wp2_with fail
                      have hkz := (Kept.refl u2).alloc #[.slice none 0 0, .slice none 0 0, .slice none 0 0] 28
                      have HNE := Lib.hid (show bC ≠ u2.heap.size from fun e => by have := HBC.out.lt; omega)
                      replace HSl := Lib.hid (HSl.out.kept hkz)
                      replace HBC := Lib.hid (HBC.out.kept hkz)
                      have HBD := Lib.hid (Box3.new u2 (.slice none 0 0) (.slice none 0 0) (.slice none 0 0) 28)
                      have HLD := Lib.hid HV.out.2.2
                      replace HV := Lib.hid (HV.out.trans hkz)
                      obtain ⟨bD, hbz⟩ : ∃ b, (World.heap u2).size = b := ⟨_, rfl⟩
                      obtain ⟨u3, hwz⟩ : ∃ u, World.alloc u2 (.cells #[.slice none 0 0, .slice none 0 0, .slice none 0 0] 28) = u := ⟨_, rfl⟩
                      rw [hwz] at HBD HV HSl HBC ⊢
                      rw [hbz] at HBD HLD HNE ⊢
                      clear hkz hbz hwz
                      refine soloP HV.out ?_
                      rw [wpPlan_one]
                      simp only [pickOps_cons, pickOps_nil, consO_some, List.getElem?_cons_zero, List.getElem?_cons_succ]
                      go_wp2_with (go_at_call 15; refine (uplay_any Aa na ca Ba ma ka Da pa qa a Al nl cl Bl ml kl Dl pl ql sl _ (HSa.out.kept HV.out) HSl.out HOa.out (leave_ord HRD.out HJl.out.1 HJl.out.2.1) (by omega) (by omega) hnl hpl).mono ?_; rintro e u4 ⟨Ag, ng, cg, Bg, mg, kg, Dg, pg, qg, sg, rfl, hsg, hjg, hkz⟩)
                      clear HSl
                      replace HBC := Lib.hid (HBC.out.kept hkz)
                      replace HBD := Lib.hid (HBD.out.kept hkz)
                      have HSg := Lib.hid hsg
                      have HJg := Lib.hid hjg
                      replace HV := Lib.hid (HV.out.trans hkz)
                      clear hsg hjg hkz
                      refine soloP HV.out ?_
                      rw [wpPlan_one]
                      simp only [pickOps_cons, pickOps_nil, consO_some, List.getElem?_cons_zero, List.getElem?_cons_succ]
                      go_wp2_with (go_at_call 12; refine (utake_any y.d Ao no co G _ (HG.out.kept HV.out) hno9).mono ?_; rintro e u5 ⟨At, nt, ct, Bt, mt, kt, Dt, pt, qt, st, rfl, hst, hjt, hkz⟩)
                      replace HSg := Lib.hid (HSg.out.kept hkz)
                      replace HBC := Lib.hid (HBC.out.kept hkz)
                      replace HBD := Lib.hid (HBD.out.kept hkz)
                      have HSt := Lib.hid hst
                      have HJt := Lib.hid hjt
                      replace HV := Lib.hid (HV.out.trans hkz)
                      clear hst hjt hkz
                      have hnt : nt ≤ 100000 := by have h1 := HSt.out.el.1; have h2 := HJt.out.1; rw [h2] at h1; simp at h1; omega
                      have hpt : pt ≤ 100000 := by have h1 := HSt.out.dl.1; have h2 := HJt.out.2.2; have h3 := HGL.out; omega
                      refine soloP HV.out ?_
                      rw [wpPlan_one]
                      simp only [pickOps_cons, pickOps_nil, consO_some, List.getElem?_cons_zero, List.getElem?_cons_succ]
                      go_wp2_with (go_at_call 15; refine (uplay_any Aa na ca Ba ma ka Da pa qa a At nt ct Bt mt kt Dt pt qt st _ (HSa.out.kept HV.out) HSt.out HOa.out (take_ord HJt.out.1 HJt.out.2.1) (by omega) (by omega) hnt hpt).mono ?_; rintro e u6 ⟨Ah, nh, ch, Bh, mh, kh, Dh, ph, qh, sh, rfl, hsh, hjh, hkz⟩)
                      clear HSt
                      replace HSg := Lib.hid (HSg.out.kept hkz)
                      replace HBC := Lib.hid (HBC.out.kept hkz)
                      replace HBD := Lib.hid (HBD.out.kept hkz)
                      have HSh := Lib.hid hsh
                      have HJh := Lib.hid hjh
                      replace HV := Lib.hid (HV.out.trans hkz)
                      clear hsh hjh hkz
                      refine soloP HV.out ?_
                      rw [wpPlan_one]
                      simp only [pickOps_cons, pickOps_nil, consO_some, List.getElem?_cons_zero, List.getElem?_cons_succ]
                      have hl := HLC.out
                      have e0 := HBC.out.c0; have e1 := HBC.out.c1; have e2 := HBC.out.c2; have ef0 := HBC.out.f 0; have ef1 := HBC.out.f 1; have ef2 := HBC.out.f 2
                      go_wp2_with fail
                      clear e0 e1 e2 ef0 ef1 ef2
                      replace HSg := Lib.hid (HBC.out.stt (.slice Ag ng cg) (.slice Bg mg kg) (.slice Dg pg qg) HSg.out)
                      replace HSh := Lib.hid (HBC.out.stt (.slice Ag ng cg) (.slice Bg mg kg) (.slice Dg pg qg) HSh.out)
                      replace HBD := Lib.hid (HBD.out.set_far HNE.out.symm (.slice Ag ng cg) (.slice Bg mg kg) (.slice Dg pg qg))
                      replace HBC := Lib.hid (HBC.out.set3 (.slice Ag ng cg) (.slice Bg mg kg) (.slice Dg pg qg))
                      replace HV := Lib.hid (((HV.out.setCell (a := ⟨bC, 0, none⟩) hl (.slice Ag ng cg)).setCell (a := ⟨bC, 1, none⟩) hl (.slice Bg mg kg)).setCell (a := ⟨bC, 2, none⟩) hl (.slice Dg pg qg))
                      obtain ⟨u7, hwz⟩ : ∃ u, ((World.setCell u6 ⟨bC, 0, none⟩ (.slice Ag ng cg)).setCell ⟨bC, 1, none⟩ (.slice Bg mg kg)).setCell ⟨bC, 2, none⟩ (.slice Dg pg qg) = u := ⟨_, rfl⟩
                      rw [hwz] at HV HBC HBD HSg HSh ⊢
                      clear hl hwz
                      refine soloP HV.out ?_
                      rw [wpPlan_one]
                      simp only [pickOps_cons, pickOps_nil, consO_some, List.getElem?_cons_zero, List.getElem?_cons_succ]
                      have hl := HLD.out
                      have e0 := HBD.out.c0; have e1 := HBD.out.c1; have e2 := HBD.out.c2; have ef0 := HBD.out.f 0; have ef1 := HBD.out.f 1; have ef2 := HBD.out.f 2
                      go_wp2_with fail
                      clear e0 e1 e2 ef0 ef1 ef2
                      replace HSg := Lib.hid (HBD.out.stt (.slice Ah nh ch) (.slice Bh mh kh) (.slice Dh ph qh) HSg.out)
                      replace HSh := Lib.hid (HBD.out.stt (.slice Ah nh ch) (.slice Bh mh kh) (.slice Dh ph qh) HSh.out)
                      replace HBC := Lib.hid (HBC.out.set_far HNE.out (.slice Ah nh ch) (.slice Bh mh kh) (.slice Dh ph qh))
                      replace HBD := Lib.hid (HBD.out.set3 (.slice Ah nh ch) (.slice Bh mh kh) (.slice Dh ph qh))
                      replace HV := Lib.hid (((HV.out.setCell (a := ⟨bD, 0, none⟩) hl (.slice Ah nh ch)).setCell (a := ⟨bD, 1, none⟩) hl (.slice Bh mh kh)).setCell (a := ⟨bD, 2, none⟩) hl (.slice Dh ph qh))
                      obtain ⟨u8, hwz⟩ : ∃ u, ((World.setCell u7 ⟨bD, 0, none⟩ (.slice Ah nh ch)).setCell ⟨bD, 1, none⟩ (.slice Bh mh kh)).setCell ⟨bD, 2, none⟩ (.slice Dh ph qh) = u := ⟨_, rfl⟩
                      rw [hwz] at HV HBC HBD HSg HSh ⊢
                      clear hl hwz
                      refine soloP HV.out ?_
                      have HF := Lib.hid (show TwoB W1 (fun p q => DoesR a y G p q) (.pointer (some ⟨bC, 0, none⟩)) (.pointer (some ⟨bD, 0, none⟩)) u8 from ⟨bC, bD, Ag, ng, cg, Bg, mg, kg, Dg, pg, qg, Ah, nh, ch, Bh, mh, kh, Dh, ph, qh, sg, sh, rfl, rfl, HV.out, HBC.out, HBD.out, HSg.out, HSh.out, ⟨sl, st, HJl.out, HJt.out, HJg.out, HJh.out⟩⟩)
                      refine wpPlan_stop ?_
                      go_wp2_with fail
                      go_meet
                      exact HF.out
                  · go_wp2_with fail
                    have hkz := (Kept.refl u1).alloc #[.slice none 0 0, .slice none 0 0, .slice none 0 0] 28
                    replace HSl := Lib.hid (HSl.out.kept hkz)
                    have HBD := Lib.hid (Box3.new u1 (.slice none 0 0) (.slice none 0 0) (.slice none 0 0) 28)
                    have HLD := Lib.hid HV.out.2.2
                    replace HV := Lib.hid (HV.out.trans hkz)
                    obtain ⟨bD, hbz⟩ : ∃ b, (World.heap u1).size = b := ⟨_, rfl⟩
                    obtain ⟨u2, hwz⟩ : ∃ u, World.alloc u1 (.cells #[.slice none 0 0, .slice none 0 0, .slice none 0 0] 28) = u := ⟨_, rfl⟩
                    rw [hwz] at HBD HV HSl ⊢
                    rw [hbz] at HBD HLD ⊢
                    clear hkz hbz hwz
                    refine soloP HV.out ?_
                    rw [wpPlan_two]
                    simp only [pickOps_cons, pickOps_nil, consO_some, List.getElem?_cons_zero, List.getElem?_cons_succ]
                    constructor
                    · go_wp2_with (go_at_call 15; refine (uplay_any Aa na ca Ba ma ka Da pa qa a Al nl cl Bl ml kl Dl pl ql sl _ (HSa.out.kept HV.out) HSl.out HOa.out (leave_ord HRD.out HJl.out.1 HJl.out.2.1) (by omega) (by omega) hnl hpl).mono ?_; rintro e u3 ⟨Ag, ng, cg, Bg, mg, kg, Dg, pg, qg, sg, rfl, hsg, hjg, hkz⟩)
                      clear HSl
                      replace HBD := Lib.hid (HBD.out.kept hkz)
                      have HSg := Lib.hid hsg
                      have HJg := Lib.hid hjg
                      replace HV := Lib.hid (HV.out.trans hkz)
                      clear hsg hjg hkz
                      refine soloP HV.out ?_
                      rw [wpPlan_two]
                      simp only [pickOps_cons, pickOps_nil, consO_some, List.getElem?_cons_zero, List.getElem?_cons_succ]
                      constructor
                      · go_wp2_with (go_at_call 12; refine (utake_any y.d Ao no co G _ (HG.out.kept HV.out) hno9).mono ?_; rintro e u4 ⟨At, nt, ct, Bt, mt, kt, Dt, pt, qt, st, rfl, hst, hjt, hkz⟩)
                        replace HSg := Lib.hid (HSg.out.kept hkz)
                        replace HBD := Lib.hid (HBD.out.kept hkz)
                        have HSt := Lib.hid hst
                        have HJt := Lib.hid hjt
                        replace HV := Lib.hid (HV.out.trans hkz)
                        clear hst hjt hkz
                        have hnt : nt ≤ 100000 := by have h1 := HSt.out.el.1; have h2 := HJt.out.1; rw [h2] at h1; simp at h1; omega
                        have hpt : pt ≤ 100000 := by have h1 := HSt.out.dl.1; have h2 := HJt.out.2.2; have h3 := HGL.out; omega
                        refine soloP HV.out ?_
                        rw [wpPlan_two]
                        simp only [pickOps_cons, pickOps_nil, consO_some, List.getElem?_cons_zero, List.getElem?_cons_succ]
                        constructor
                        · go_wp2_with (go_at_call 15; refine (uplay_any Aa na ca Ba ma ka Da pa qa a At nt ct Bt mt kt Dt pt qt st _ (HSa.out.kept HV.out) HSt.out HOa.out (take_ord HJt.out.1 HJt.out.2.1) (by omega) (by omega) hnt hpt).mono ?_; rintro e u5 ⟨Ah, nh, ch, Bh, mh, kh, Dh, ph, qh, sh, rfl, hsh, hjh, hkz⟩)
                          clear HSt
                          replace HSg := Lib.hid (HSg.out.kept hkz)
                          replace HBD := Lib.hid (HBD.out.kept hkz)
                          have HSh := Lib.hid hsh
                          have HJh := Lib.hid hjh
                          replace HV := Lib.hid (HV.out.trans hkz)
                          clear hsh hjh hkz
                          refine soloP HV.out ?_
                          rw [wpPlan_one]
                          simp only [pickOps_cons, pickOps_nil, consO_some, List.getElem?_cons_zero, List.getElem?_cons_succ]
                          go_wp2_with fail
                          have hkz := (Kept.refl u5).alloc #[.slice none 0 0, .slice none 0 0, .slice none 0 0] 28
                          have HNE := Lib.hid (show bD ≠ u5.heap.size from fun e => by have := HBD.out.lt; omega)
                          replace HSg := Lib.hid (HSg.out.kept hkz)
                          replace HSh := Lib.hid (HSh.out.kept hkz)
                          replace HBD := Lib.hid (HBD.out.kept hkz)
                          have HBC := Lib.hid (Box3.new u5 (.slice none 0 0) (.slice none 0 0) (.slice none 0 0) 28)
                          have HLC := Lib.hid HV.out.2.2
                          replace HV := Lib.hid (HV.out.trans hkz)
                          obtain ⟨bC, hbz⟩ : ∃ b, (World.heap u5).size = b := ⟨_, rfl⟩
                          obtain ⟨u6, hwz⟩ : ∃ u, World.alloc u5 (.cells #[.slice none 0 0, .slice none 0 0, .slice none 0 0] 28) = u := ⟨_, rfl⟩
                          rw [hwz] at HBC HV HSg HSh HBD ⊢
                          rw [hbz] at HBC HLC HNE ⊢
                          clear hkz hbz hwz
                          refine soloP HV.out ?_
                          rw [wpPlan_one]
                          simp only [pickOps_cons, pickOps_nil, consO_some, List.getElem?_cons_zero, List.getElem?_cons_succ]
                          have hl := HLC.out
                          have e0 := HBC.out.c0; have e1 := HBC.out.c1; have e2 := HBC.out.c2; have ef0 := HBC.out.f 0; have ef1 := HBC.out.f 1; have ef2 := HBC.out.f 2
                          go_wp2_with fail
                          clear e0 e1 e2 ef0 ef1 ef2
                          replace HSg := Lib.hid (HBC.out.stt (.slice Ag ng cg) (.slice Bg mg kg) (.slice Dg pg qg) HSg.out)
                          replace HSh := Lib.hid (HBC.out.stt (.slice Ag ng cg) (.slice Bg mg kg) (.slice Dg pg qg) HSh.out)
                          replace HBD := Lib.hid (HBD.out.set_far HNE.out (.slice Ag ng cg) (.slice Bg mg kg) (.slice Dg pg qg))
                          replace HBC := Lib.hid (HBC.out.set3 (.slice Ag ng cg) (.slice Bg mg kg) (.slice Dg pg qg))
                          replace HV := Lib.hid (((HV.out.setCell (a := ⟨bC, 0, none⟩) hl (.slice Ag ng cg)).setCell (a := ⟨bC, 1, none⟩) hl (.slice Bg mg kg)).setCell (a := ⟨bC, 2, none⟩) hl (.slice Dg pg qg))
                          obtain ⟨u7, hwz⟩ : ∃ u, ((World.setCell u6 ⟨bC, 0, none⟩ (.slice Ag ng cg)).setCell ⟨bC, 1, none⟩ (.slice Bg mg kg)).setCell ⟨bC, 2, none⟩ (.slice Dg pg qg) = u := ⟨_, rfl⟩
                          rw [hwz] at HV HBC HBD HSg HSh ⊢
                          clear hl hwz
                          refine soloP HV.out ?_
                          rw [wpPlan_one]
                          simp only [pickOps_cons, pickOps_nil, consO_some, List.getElem?_cons_zero, List.getElem?_cons_succ]
                          have hl := HLD.out
                          have e0 := HBD.out.c0; have e1 := HBD.out.c1; have e2 := HBD.out.c2; have ef0 := HBD.out.f 0; have ef1 := HBD.out.f 1; have ef2 := HBD.out.f 2
                          go_wp2_with fail
                          clear e0 e1 e2 ef0 ef1 ef2
                          replace HSg := Lib.hid (HBD.out.stt (.slice Ah nh ch) (.slice Bh mh kh) (.slice Dh ph qh) HSg.out)
                          replace HSh := Lib.hid (HBD.out.stt (.slice Ah nh ch) (.slice Bh mh kh) (.slice Dh ph qh) HSh.out)
                          replace HBC := Lib.hid (HBC.out.set_far HNE.out.symm (.slice Ah nh ch) (.slice Bh mh kh) (.slice Dh ph qh))
                          replace HBD := Lib.hid (HBD.out.set3 (.slice Ah nh ch) (.slice Bh mh kh) (.slice Dh ph qh))
                          replace HV := Lib.hid (((HV.out.setCell (a := ⟨bD, 0, none⟩) hl (.slice Ah nh ch)).setCell (a := ⟨bD, 1, none⟩) hl (.slice Bh mh kh)).setCell (a := ⟨bD, 2, none⟩) hl (.slice Dh ph qh))
                          obtain ⟨u8, hwz⟩ : ∃ u, ((World.setCell u7 ⟨bD, 0, none⟩ (.slice Ah nh ch)).setCell ⟨bD, 1, none⟩ (.slice Bh mh kh)).setCell ⟨bD, 2, none⟩ (.slice Dh ph qh) = u := ⟨_, rfl⟩
                          rw [hwz] at HV HBC HBD HSg HSh ⊢
                          clear hl hwz
                          refine soloP HV.out ?_
                          have HF := Lib.hid (show TwoB W1 (fun p q => DoesR a y G p q) (.pointer (some ⟨bC, 0, none⟩)) (.pointer (some ⟨bD, 0, none⟩)) u8 from ⟨bC, bD, Ag, ng, cg, Bg, mg, kg, Dg, pg, qg, Ah, nh, ch, Bh, mh, kh, Dh, ph, qh, sg, sh, rfl, rfl, HV.out, HBC.out, HBD.out, HSg.out, HSh.out, ⟨sl, st, HJl.out, HJt.out, HJg.out, HJh.out⟩⟩)
                          refine wpPlan_stop ?_
                          go_wp2_with fail
                          go_meet
                          exact HF.out
                        · go_wp2_with fail
                          have hkz := (Kept.refl u4).alloc #[.slice none 0 0, .slice none 0 0, .slice none 0 0] 28
                          have HNE := Lib.hid (show bD ≠ u4.heap.size from fun e => by have := HBD.out.lt; omega)
                          replace HSg := Lib.hid (HSg.out.kept hkz)
                          replace HSt := Lib.hid (HSt.out.kept hkz)
                          replace HBD := Lib.hid (HBD.out.kept hkz)
                          have HBC := Lib.hid (Box3.new u4 (.slice none 0 0) (.slice none 0 0) (.slice none 0 0) 28)
                          have HLC := Lib.hid HV.out.2.2
                          replace HV := Lib.hid (HV.out.trans hkz)
                          obtain ⟨bC, hbz⟩ : ∃ b, (World.heap u4).size = b := ⟨_, rfl⟩
                          obtain ⟨u5, hwz⟩ : ∃ u, World.alloc u4 (.cells #[.slice none 0 0, .slice none 0 0, .slice none 0 0] 28) = u := ⟨_, rfl⟩
                          rw [hwz] at HBC HV HSg HSt HBD ⊢
                          rw [hbz] at HBC HLC HNE ⊢
                          clear hkz hbz hwz
                          refine soloP HV.out ?_
                          rw [wpPlan_one]
                          simp only [pickOps_cons, pickOps_nil, consO_some, List.getElem?_cons_zero, List.getElem?_cons_succ]
                          go_wp2_with (go_at_call 15; refine (uplay_any Aa na ca Ba ma ka Da pa qa a At nt ct Bt mt kt Dt pt qt st _ (HSa.out.kept HV.out) HSt.out HOa.out (take_ord HJt.out.1 HJt.out.2.1) (by omega) (by omega) hnt hpt).mono ?_; rintro e u6 ⟨Ah, nh, ch, Bh, mh, kh, Dh, ph, qh, sh, rfl, hsh, hjh, hkz⟩)
                          clear HSt
                          replace HSg := Lib.hid (HSg.out.kept hkz)
                          replace HBC := Lib.hid (HBC.out.kept hkz)
                          replace HBD := Lib.hid (HBD.out.kept hkz)
                          have HSh := Lib.hid hsh
                          have HJh := Lib.hid hjh
                          replace HV := Lib.hid (HV.out.trans hkz)
                          clear hsh hjh hkz
                          refine soloP HV.out ?_
                          rw [wpPlan_one]
                          simp only [pickOps_cons, pickOps_nil, consO_some, List.getElem?_cons_zero, List.getElem?_cons_succ]
                          have hl := HLC.out
                          have e0 := HBC.out.c0; have e1 := HBC.out.c1; have e2 := HBC.out.c2; have ef0 := HBC.out.f 0; have ef1 := HBC.out.f 1; have ef2 := HBC.out.f 2
                          go_wp2_with fail
                          clear e0 e1 e2 ef0 ef1 ef2
                          replace HSg := Lib.hid (HBC.out.stt (.slice Ag ng cg) (.slice Bg mg kg) (.slice Dg pg qg) HSg.out)
                          replace HSh := Lib.hid (HBC.out.stt (.slice Ag ng cg) (.slice Bg mg kg) (.slice Dg pg qg) HSh.out)
                          replace HBD := Lib.hid (HBD.out.set_far HNE.out (.slice Ag ng cg) (.slice Bg mg kg) (.slice Dg pg qg))
                          replace HBC := Lib.hid (HBC.out.set3 (.slice Ag ng cg) (.slice Bg mg kg) (.slice Dg pg qg))
                          replace HV := Lib.hid (((HV.out.setCell (a := ⟨bC, 0, none⟩) hl (.slice Ag ng cg)).setCell (a := ⟨bC, 1, none⟩) hl (.slice Bg mg kg)).setCell (a := ⟨bC, 2, none⟩) hl (.slice Dg pg qg))
                          obtain ⟨u7, hwz⟩ : ∃ u, ((World.setCell u6 ⟨bC, 0, none⟩ (.slice Ag ng cg)).setCell ⟨bC, 1, none⟩ (.slice Bg mg kg)).setCell ⟨bC, 2, none⟩ (.slice Dg pg qg) = u := ⟨_, rfl⟩
                          rw [hwz] at HV HBC HBD HSg HSh ⊢
                          clear hl hwz
                          refine soloP HV.out ?_
                          rw [wpPlan_one]
                          simp only [pickOps_cons, pickOps_nil, consO_some, List.getElem?_cons_zero, List.getElem?_cons_succ]
                          have hl := HLD.out
                          have e0 := HBD.out.c0; have e1 := HBD.out.c1; have e2 := HBD.out.c2; have ef0 := HBD.out.f 0; have ef1 := HBD.out.f 1; have ef2 := HBD.out.f 2
                          go_wp2_with fail
                          clear e0 e1 e2 ef0 ef1 ef2
                          replace HSg := Lib.hid (HBD.out.stt (.slice Ah nh ch) (.slice Bh mh kh) (.slice Dh ph qh) HSg.out)
                          replace HSh := Lib.hid (HBD.out.stt (.slice Ah nh ch) (.slice Bh mh kh) (.slice Dh ph qh) HSh.out)
                          replace HBC := Lib.hid (HBC.out.set_far HNE.out.symm (.slice Ah nh ch) (.slice Bh mh kh) (.slice Dh ph qh))
                          replace HBD := Lib.hid (HBD.out.set3 (.slice Ah nh ch) (.slice Bh mh kh) (.slice Dh ph qh))
                          replace HV := Lib.hid (((HV.out.setCell (a := ⟨bD, 0, none⟩) hl (.slice Ah nh ch)).setCell (a := ⟨bD, 1, none⟩) hl (.slice Bh mh kh)).setCell (a := ⟨bD, 2, none⟩) hl (.slice Dh ph qh))
                          obtain ⟨u8, hwz⟩ : ∃ u, ((World.setCell u7 ⟨bD, 0, none⟩ (.slice Ah nh ch)).setCell ⟨bD, 1, none⟩ (.slice Bh mh kh)).setCell ⟨bD, 2, none⟩ (.slice Dh ph qh) = u := ⟨_, rfl⟩
                          rw [hwz] at HV HBC HBD HSg HSh ⊢
                          clear hl hwz
                          refine soloP HV.out ?_
                          have HF := Lib.hid (show TwoB W1 (fun p q => DoesR a y G p q) (.pointer (some ⟨bC, 0, none⟩)) (.pointer (some ⟨bD, 0, none⟩)) u8 from ⟨bC, bD, Ag, ng, cg, Bg, mg, kg, Dg, pg, qg, Ah, nh, ch, Bh, mh, kh, Dh, ph, qh, sg, sh, rfl, rfl, HV.out, HBC.out, HBD.out, HSg.out, HSh.out, ⟨sl, st, HJl.out, HJt.out, HJg.out, HJh.out⟩⟩)
                          refine wpPlan_stop ?_
                          go_wp2_with fail
                          go_meet
                          exact HF.out
                      · go_wp2_with fail
                        have hkz := (Kept.refl u3).alloc #[.slice none 0 0, .slice none 0 0, .slice none 0 0] 28
                        have HNE := Lib.hid (show bD ≠ u3.heap.size from fun e => by have := HBD.out.lt; omega)
                        replace HSg := Lib.hid (HSg.out.kept hkz)
                        replace HBD := Lib.hid (HBD.out.kept hkz)
                        have HBC := Lib.hid (Box3.new u3 (.slice none 0 0) (.slice none 0 0) (.slice none 0 0) 28)
                        have HLC := Lib.hid HV.out.2.2
                        replace HV := Lib.hid (HV.out.trans hkz)
                        obtain ⟨bC, hbz⟩ : ∃ b, (World.heap u3).size = b := ⟨_, rfl⟩
                        obtain ⟨u4, hwz⟩ : ∃ u, World.alloc u3 (.cells #[.slice none 0 0, .slice none 0 0, .slice none 0 0] 28) = u := ⟨_, rfl⟩
                        rw [hwz] at HBC HV HSg HBD ⊢
                        rw [hbz] at HBC HLC HNE ⊢
                        clear hkz hbz hwz
                        refine soloP HV.out ?_
                        rw [wpPlan_one]
                        simp only [pickOps_cons, pickOps_nil, consO_some, List.getElem?_cons_zero, List.getElem?_cons_succ]
                        go_wp2_with (go_at_call 12; refine (utake_any y.d Ao no co G _ (HG.out.kept HV.out) hno9).mono ?_; rintro e u5 ⟨At, nt, ct, Bt, mt, kt, Dt, pt, qt, st, rfl, hst, hjt, hkz⟩)
                        replace HSg := Lib.hid (HSg.out.kept hkz)
                        replace HBC := Lib.hid (HBC.out.kept hkz)
                        replace HBD := Lib.hid (HBD.out.kept hkz)
                        have HSt := Lib.hid hst
                        have HJt := Lib.hid hjt
                        replace HV := Lib.hid (HV.out.trans hkz)
                        clear hst hjt hkz
                        have hnt : nt ≤ 100000 := by have h1 := HSt.out.el.1; have h2 := HJt.out.1; rw [h2] at h1; simp at h1; omega
                        have hpt : pt ≤ 100000 := by have h1 := HSt.out.dl.1; have h2 := HJt.out.2.2; have h3 := HGL.out; omega
                        refine soloP HV.out ?_
                        rw [wpPlan_one]
                        simp only [pickOps_cons, pickOps_nil, consO_some, List.getElem?_cons_zero, List.getElem?_cons_succ]
                        go_wp2_with (go_at_call 15; refine (uplay_any Aa na ca Ba ma ka Da pa qa a At nt ct Bt mt kt Dt pt qt st _ (HSa.out.kept HV.out) HSt.out HOa.out (take_ord HJt.out.1 HJt.out.2.1) (by omega) (by omega) hnt hpt).mono ?_; rintro e u6 ⟨Ah, nh, ch, Bh, mh, kh, Dh, ph, qh, sh, rfl, hsh, hjh, hkz⟩)
                        clear HSt
                        replace HSg := Lib.hid (HSg.out.kept hkz)
                        replace HBC := Lib.hid (HBC.out.kept hkz)
                        replace HBD := Lib.hid (HBD.out.kept hkz)
                        have HSh := Lib.hid hsh
                        have HJh := Lib.hid hjh
                        replace HV := Lib.hid (HV.out.trans hkz)
                        clear hsh hjh hkz
                        refine soloP HV.out ?_
                        rw [wpPlan_one]
                        simp only [pickOps_cons, pickOps_nil, consO_some, List.getElem?_cons_zero, List.getElem?_cons_succ]
                        have hl := HLC.out
                        have e0 := HBC.out.c0; have e1 := HBC.out.c1; have e2 := HBC.out.c2; have ef0 := HBC.out.f 0; have ef1 := HBC.out.f 1; have ef2 := HBC.out.f 2
                        go_wp2_with fail
                        clear e0 e1 e2 ef0 ef1 ef2
                        replace HSg := Lib.hid (HBC.out.stt (.slice Ag ng cg) (.slice Bg mg kg) (.slice Dg pg qg) HSg.out)
                        replace HSh := Lib.hid (HBC.out.stt (.slice Ag ng cg) (.slice Bg mg kg) (.slice Dg pg qg) HSh.out)
                        replace HBD := Lib.hid (HBD.out.set_far HNE.out (.slice Ag ng cg) (.slice Bg mg kg) (.slice Dg pg qg))
                        replace HBC := Lib.hid (HBC.out.set3 (.slice Ag ng cg) (.slice Bg mg kg) (.slice Dg pg qg))
                        replace HV := Lib.hid (((HV.out.setCell (a := ⟨bC, 0, none⟩) hl (.slice Ag ng cg)).setCell (a := ⟨bC, 1, none⟩) hl (.slice Bg mg kg)).setCell (a := ⟨bC, 2, none⟩) hl (.slice Dg pg qg))
                        obtain ⟨u7, hwz⟩ : ∃ u, ((World.setCell u6 ⟨bC, 0, none⟩ (.slice Ag ng cg)).setCell ⟨bC, 1, none⟩ (.slice Bg mg kg)).setCell ⟨bC, 2, none⟩ (.slice Dg pg qg) = u := ⟨_, rfl⟩
                        rw [hwz] at HV HBC HBD HSg HSh ⊢
                        clear hl hwz
                        refine soloP HV.out ?_
                        rw [wpPlan_one]
                        simp only [pickOps_cons, pickOps_nil, consO_some, List.getElem?_cons_zero, List.getElem?_cons_succ]
                        have hl := HLD.out
                        have e0 := HBD.out.c0; have e1 := HBD.out.c1; have e2 := HBD.out.c2; have ef0 := HBD.out.f 0; have ef1 := HBD.out.f 1; have ef2 := HBD.out.f 2
                        go_wp2_with fail
                        clear e0 e1 e2 ef0 ef1 ef2
                        replace HSg := Lib.hid (HBD.out.stt (.slice Ah nh ch) (.slice Bh mh kh) (.slice Dh ph qh) HSg.out)
                        replace HSh := Lib.hid (HBD.out.stt (.slice Ah nh ch) (.slice Bh mh kh) (.slice Dh ph qh) HSh.out)
                        replace HBC := Lib.hid (HBC.out.set_far HNE.out.symm (.slice Ah nh ch) (.slice Bh mh kh) (.slice Dh ph qh))
                        replace HBD := Lib.hid (HBD.out.set3 (.slice Ah nh ch) (.slice Bh mh kh) (.slice Dh ph qh))
                        replace HV := Lib.hid (((HV.out.setCell (a := ⟨bD, 0, none⟩) hl (.slice Ah nh ch)).setCell (a := ⟨bD, 1, none⟩) hl (.slice Bh mh kh)).setCell (a := ⟨bD, 2, none⟩) hl (.slice Dh ph qh))
                        obtain ⟨u8, hwz⟩ : ∃ u, ((World.setCell u7 ⟨bD, 0, none⟩ (.slice Ah nh ch)).setCell ⟨bD, 1, none⟩ (.slice Bh mh kh)).setCell ⟨bD, 2, none⟩ (.slice Dh ph qh) = u := ⟨_, rfl⟩
                        rw [hwz] at HV HBC HBD HSg HSh ⊢
                        clear hl hwz
                        refine soloP HV.out ?_
                        have HF := Lib.hid (show TwoB W1 (fun p q => DoesR a y G p q) (.pointer (some ⟨bC, 0, none⟩)) (.pointer (some ⟨bD, 0, none⟩)) u8 from ⟨bC, bD, Ag, ng, cg, Bg, mg, kg, Dg, pg, qg, Ah, nh, ch, Bh, mh, kh, Dh, ph, qh, sg, sh, rfl, rfl, HV.out, HBC.out, HBD.out, HSg.out, HSh.out, ⟨sl, st, HJl.out, HJt.out, HJg.out, HJh.out⟩⟩)
                        refine wpPlan_stop ?_
                        go_wp2_with fail
                        go_meet
                        exact HF.out
                    · go_wp2_with fail
                      have hkz := (Kept.refl u2).alloc #[.slice none 0 0, .slice none 0 0, .slice none 0 0] 28
                      have HNE := Lib.hid (show bD ≠ u2.heap.size from fun e => by have := HBD.out.lt; omega)
                      replace HSl := Lib.hid (HSl.out.kept hkz)
                      replace HBD := Lib.hid (HBD.out.kept hkz)
                      have HBC := Lib.hid (Box3.new u2 (.slice none 0 0) (.slice none 0 0) (.slice none 0 0) 28)
                      have HLC := Lib.hid HV.out.2.2
                      replace HV := Lib.hid (HV.out.trans hkz)
                      obtain ⟨bC, hbz⟩ : ∃ b, (World.heap u2).size = b := ⟨_, rfl⟩
                      obtain ⟨u3, hwz⟩ : ∃ u, World.alloc u2 (.cells #[.slice none 0 0, .slice none 0 0, .slice none 0 0] 28) = u := ⟨_, rfl⟩
                      rw [hwz] at HBC HV HSl HBD ⊢
                      rw [hbz] at HBC HLC HNE ⊢
                      clear hkz hbz hwz
                      refine soloP HV.out ?_
                      rw [wpPlan_one]
                      simp only [pickOps_cons, pickOps_nil, consO_some, List.getElem?_cons_zero, List.getElem?_cons_succ]
                      go_wp2_with (go_at_call 15; refine (uplay_any Aa na ca Ba ma ka Da pa qa a Al nl cl Bl ml kl Dl pl ql sl _ (HSa.out.kept HV.out) HSl.out HOa.out (leave_ord HRD.out HJl.out.1 HJl.out.2.1) (by omega) (by omega) hnl hpl).mono ?_; rintro e u4 ⟨Ag, ng, cg, Bg, mg, kg, Dg, pg, qg, sg, rfl, hsg, hjg, hkz⟩)
                      clear HSl
                      replace HBC := Lib.hid (HBC.out.kept hkz)
                      replace HBD := Lib.hid (HBD.out.kept hkz)
                      have HSg := Lib.hid hsg
                      have HJg := Lib.hid hjg
                      replace HV := Lib.hid (HV.out.trans hkz)
                      clear hsg hjg hkz
                      refine soloP HV.out ?_
                      rw [wpPlan_one]
                      simp only [pickOps_cons, pickOps_nil, consO_some, List.getElem?_cons_zero, List.getElem?_cons_succ]
                      go_wp2_with (go_at_call 12; refine (utake_any y.d Ao no co G _ (HG.out.kept HV.out) hno9).mono ?_; rintro e u5 ⟨At, nt, ct, Bt, mt, kt, Dt, pt, qt, st, rfl, hst, hjt, hkz⟩)
                      replace HSg := Lib.hid (HSg.out.kept hkz)
                      replace HBC := Lib.hid (HBC.out.kept hkz)
                      replace HBD := Lib.hid (HBD.out.kept hkz)
                      have HSt := Lib.hid hst
                      have HJt := Lib.hid hjt
                      replace HV := Lib.hid (HV.out.trans hkz)
                      clear hst hjt hkz
                      have hnt : nt ≤ 100000 := by have h1 := HSt.out.el.1; have h2 := HJt.out.1; rw [h2] at h1; simp at h1; omega
                      have hpt : pt ≤ 100000 := by have h1 := HSt.out.dl.1; have h2 := HJt.out.2.2; have h3 := HGL.out; omega
                      refine soloP HV.out ?_
                      rw [wpPlan_one]
                      simp only [pickOps_cons, pickOps_nil, consO_some, List.getElem?_cons_zero, List.getElem?_cons_succ]
                      go_wp2_with (go_at_call 15; refine (uplay_any Aa na ca Ba ma ka Da pa qa a At nt ct Bt mt kt Dt pt qt st _ (HSa.out.kept HV.out) HSt.out HOa.out (take_ord HJt.out.1 HJt.out.2.1) (by omega) (by omega) hnt hpt).mono ?_; rintro e u6 ⟨Ah, nh, ch, Bh, mh, kh, Dh, ph, qh, sh, rfl, hsh, hjh, hkz⟩)
                      clear HSt
                      replace HSg := Lib.hid (HSg.out.kept hkz)
                      replace HBC := Lib.hid (HBC.out.kept hkz)
                      replace HBD := Lib.hid (HBD.out.kept hkz)
                      have HSh := Lib.hid hsh
                      have HJh := Lib.hid hjh
                      replace HV := Lib.hid (HV.out.trans hkz)
                      clear hsh hjh hkz
                      refine soloP HV.out ?_
                      rw [wpPlan_one]
                      simp only [pickOps_cons, pickOps_nil, consO_some, List.getElem?_cons_zero, List.getElem?_cons_succ]
                      have hl := HLC.out
                      have e0 := HBC.out.c0; have e1 := HBC.out.c1; have e2 := HBC.out.c2; have ef0 := HBC.out.f 0; have ef1 := HBC.out.f 1; have ef2 := HBC.out.f 2
                      go_wp2_with fail
                      clear e0 e1 e2 ef0 ef1 ef2
                      replace HSg := Lib.hid (HBC.out.stt (.slice Ag ng cg) (.slice Bg mg kg) (.slice Dg pg qg) HSg.out)
                      replace HSh := Lib.hid (HBC.out.stt (.slice Ag ng cg) (.slice Bg mg kg) (.slice Dg pg qg) HSh.out)
                      replace HBD := Lib.hid (HBD.out.set_far HNE.out (.slice Ag ng cg) (.slice Bg mg kg) (.slice Dg pg qg))
                      replace HBC := Lib.hid (HBC.out.set3 (.slice Ag ng cg) (.slice Bg mg kg) (.slice Dg pg qg))
                      replace HV := Lib.hid (((HV.out.setCell (a := ⟨bC, 0, none⟩) hl (.slice Ag ng cg)).setCell (a := ⟨bC, 1, none⟩) hl (.slice Bg mg kg)).setCell (a := ⟨bC, 2, none⟩) hl (.slice Dg pg qg))
                      obtain ⟨u7, hwz⟩ : ∃ u, ((World.setCell u6 ⟨bC, 0, none⟩ (.slice Ag ng cg)).setCell ⟨bC, 1, none⟩ (.slice Bg mg kg)).setCell ⟨bC, 2, none⟩ (.slice Dg pg qg) = u := ⟨_, rfl⟩
                      rw [hwz] at HV HBC HBD HSg HSh ⊢
                      clear hl hwz
                      refine soloP HV.out ?_
                      rw [wpPlan_one]
                      simp only [pickOps_cons, pickOps_nil, consO_some, List.getElem?_cons_zero, List.getElem?_cons_succ]
                      have hl := HLD.out
                      have e0 := HBD.out.c0; have e1 := HBD.out.c1; have e2 := HBD.out.c2; have ef0 := HBD.out.f 0; have ef1 := HBD.out.f 1; have ef2 := HBD.out.f 2
                      go_wp2_with fail
                      clear e0 e1 e2 ef0 ef1 ef2
                      replace HSg := Lib.hid (HBD.out.stt (.slice Ah nh ch) (.slice Bh mh kh) (.slice Dh ph qh) HSg.out)
                      replace HSh := Lib.hid (HBD.out.stt (.slice Ah nh ch) (.slice Bh mh kh) (.slice Dh ph qh) HSh.out)
                      replace HBC := Lib.hid (HBC.out.set_far HNE.out.symm (.slice Ah nh ch) (.slice Bh mh kh) (.slice Dh ph qh))
                      replace HBD := Lib.hid (HBD.out.set3 (.slice Ah nh ch) (.slice Bh mh kh) (.slice Dh ph qh))
                      replace HV := Lib.hid (((HV.out.setCell (a := ⟨bD, 0, none⟩) hl (.slice Ah nh ch)).setCell (a := ⟨bD, 1, none⟩) hl (.slice Bh mh kh)).setCell (a := ⟨bD, 2, none⟩) hl (.slice Dh ph qh))
                      obtain ⟨u8, hwz⟩ : ∃ u, ((World.setCell u7 ⟨bD, 0, none⟩ (.slice Ah nh ch)).setCell ⟨bD, 1, none⟩ (.slice Bh mh kh)).setCell ⟨bD, 2, none⟩ (.slice Dh ph qh) = u := ⟨_, rfl⟩
                      rw [hwz] at HV HBC HBD HSg HSh ⊢
                      clear hl hwz
                      refine soloP HV.out ?_
                      have HF := Lib.hid (show TwoB W1 (fun p q => DoesR a y G p q) (.pointer (some ⟨bC, 0, none⟩)) (.pointer (some ⟨bD, 0, none⟩)) u8 from ⟨bC, bD, Ag, ng, cg, Bg, mg, kg, Dg, pg, qg, Ah, nh, ch, Bh, mh, kh, Dh, ph, qh, sg, sh, rfl, rfl, HV.out, HBC.out, HBD.out, HSg.out, HSh.out, ⟨sl, st, HJl.out, HJt.out, HJg.out, HJh.out⟩⟩)
                      refine wpPlan_stop ?_
                      go_wp2_with fail
                      go_meet
                      exact HF.out
                · go_wp2_with fail
                  have hkz := (Kept.refl wd).alloc #[.slice none 0 0, .slice none 0 0, .slice none 0 0] 28
                  have HBC := Lib.hid (Box3.new wd (.slice none 0 0) (.slice none 0 0) (.slice none 0 0) 28)
                  have HLC := Lib.hid HV.out.2.2
                  replace HV := Lib.hid (HV.out.trans hkz)
                  obtain ⟨bC, hbz⟩ : ∃ b, (World.heap wd).size = b := ⟨_, rfl⟩
                  obtain ⟨u1, hwz⟩ : ∃ u, World.alloc wd (.cells #[.slice none 0 0, .slice none 0 0, .slice none 0 0] 28) = u := ⟨_, rfl⟩
                  rw [hwz] at HBC HV ⊢
                  rw [hbz] at HBC HLC ⊢
                  clear hkz hbz hwz
                  refine soloP HV.out ?_
                  rw [wpPlan_two]
                  simp only [pickOps_cons, pickOps_nil, consO_some, List.getElem?_cons_zero, List.getElem?_cons_succ]
                  constructor
                  · go_wp2_with (go_at_call 10; refine (uleave_any y Ao no co G _ (HG.out.kept HV.out) hno9).mono ?_; rintro e u2 ⟨Al, nl, cl, Bl, ml, kl, Dl, pl, ql, sl, rfl, hsl, hjl, hkz⟩)
                    replace HBC := Lib.hid (HBC.out.kept hkz)
                    have HSl := Lib.hid hsl
                    have HJl := Lib.hid hjl
                    replace HV := Lib.hid (HV.out.trans hkz)
                    clear hsl hjl hkz
                    have hnl : nl ≤ 100000 := by have h1 := HSl.out.el.1; have h2 := HJl.out.1; rw [h2] at h1; simp at h1; omega
                    have hpl : pl ≤ 100000 := by have h1 := HSl.out.dl.1; have h2 := HJl.out.2.2; have h3 := HGL.out; omega
                    refine soloP HV.out ?_
                    rw [wpPlan_two]
                    simp only [pickOps_cons, pickOps_nil, consO_some, List.getElem?_cons_zero, List.getElem?_cons_succ]
                    constructor
                    · go_wp2_with (go_at_call 15; refine (uplay_any Aa na ca Ba ma ka Da pa qa a Al nl cl Bl ml kl Dl pl ql sl _ (HSa.out.kept HV.out) HSl.out HOa.out (leave_ord HRD.out HJl.out.1 HJl.out.2.1) (by omega) (by omega) hnl hpl).mono ?_; rintro e u3 ⟨Ag, ng, cg, Bg, mg, kg, Dg, pg, qg, sg, rfl, hsg, hjg, hkz⟩)
                      clear HSl
                      replace HBC := Lib.hid (HBC.out.kept hkz)
                      have HSg := Lib.hid hsg
                      have HJg := Lib.hid hjg
                      replace HV := Lib.hid (HV.out.trans hkz)
                      clear hsg hjg hkz
                      refine soloP HV.out ?_
                      rw [wpPlan_two]
                      simp only [pickOps_cons, pickOps_nil, consO_some, List.getElem?_cons_zero, List.getElem?_cons_succ]
                      constructor
                      · go_wp2_with (go_at_call 12; refine (utake_any y.d Ao no co G _ (HG.out.kept HV.out) hno9).mono ?_; rintro e u4 ⟨At, nt, ct, Bt, mt, kt, Dt, pt, qt, st, rfl, hst, hjt, hkz⟩)
                        replace HSg := Lib.hid (HSg.out.kept hkz)
                        replace HBC := Lib.hid (HBC.out.kept hkz)
                        have HSt := Lib.hid hst
                        have HJt := Lib.hid hjt
                        replace HV := Lib.hid (HV.out.trans hkz)
                        clear hst hjt hkz
                        have hnt : nt ≤ 100000 := by have h1 := HSt.out.el.1; have h2 := HJt.out.1; rw [h2] at h1; simp at h1; omega
                        have hpt : pt ≤ 100000 := by have h1 := HSt.out.dl.1; have h2 := HJt.out.2.2; have h3 := HGL.out; omega
                        refine soloP HV.out ?_
                        rw [wpPlan_two]
                        simp only [pickOps_cons, pickOps_nil, consO_some, List.getElem?_cons_zero, List.getElem?_cons_succ]
                        constructor
                        · go_wp2_with (go_at_call 15; refine (uplay_any Aa na ca Ba ma ka Da pa qa a At nt ct Bt mt kt Dt pt qt st _ (HSa.out.kept HV.out) HSt.out HOa.out (take_ord HJt.out.1 HJt.out.2.1) (by omega) (by omega) hnt hpt).mono ?_; rintro e u5 ⟨Ah, nh, ch, Bh, mh, kh, Dh, ph, qh, sh, rfl, hsh, hjh, hkz⟩)
                          clear HSt
                          replace HSg := Lib.hid (HSg.out.kept hkz)
                          replace HBC := Lib.hid (HBC.out.kept hkz)
                          have HSh := Lib.hid hsh
                          have HJh := Lib.hid hjh
                          replace HV := Lib.hid (HV.out.trans hkz)
                          clear hsh hjh hkz
                          refine soloP HV.out ?_
                          rw [wpPlan_one]
                          simp only [pickOps_cons, pickOps_nil, consO_some, List.getElem?_cons_zero, List.getElem?_cons_succ]
                          go_wp2_with fail
                          have hkz := (Kept.refl u5).alloc #[.slice none 0 0, .slice none 0 0, .slice none 0 0] 28
                          have HNE := Lib.hid (show bC ≠ u5.heap.size from fun e => by have := HBC.out.lt; omega)
                          replace HSg := Lib.hid (HSg.out.kept hkz)
                          replace HSh := Lib.hid (HSh.out.kept hkz)
                          replace HBC := Lib.hid (HBC.out.kept hkz)
                          have HBD := Lib.hid (Box3.new u5 (.slice none 0 0) (.slice none 0 0) (.slice none 0 0) 28)
                          have HLD := Lib.hid HV.out.2.2
                          replace HV := Lib.hid (HV.out.trans hkz)
                          obtain ⟨bD, hbz⟩ : ∃ b, (World.heap u5).size = b := ⟨_, rfl⟩
                          obtain ⟨u6, hwz⟩ : ∃ u, World.alloc u5 (.cells #[.slice none 0 0, .slice none 0 0, .slice none 0 0] 28) = u := ⟨_, rfl⟩
                          rw [hwz] at HBD HV HSg HSh HBC ⊢
                          rw [hbz] at HBD HLD HNE ⊢
                          clear hkz hbz hwz
                          refine soloP HV.out ?_
                          rw [wpPlan_one]
                          simp only [pickOps_cons, pickOps_nil, consO_some, List.getElem?_cons_zero, List.getElem?_cons_succ]
                          have hl := HLC.out
                          have e0 := HBC.out.c0; have e1 := HBC.out.c1; have e2 := HBC.out.c2; have ef0 := HBC.out.f 0; have ef1 := HBC.out.f 1; have ef2 := HBC.out.f 2
                          go_wp2_with fail
                          clear e0 e1 e2 ef0 ef1 ef2
                          replace HSg := Lib.hid (HBC.out.stt (.slice Ag ng cg) (.slice Bg mg kg) (.slice Dg pg qg) HSg.out)
                          replace HSh := Lib.hid (HBC.out.stt (.slice Ag ng cg) (.slice Bg mg kg) (.slice Dg pg qg) HSh.out)
                          replace HBD := Lib.hid (HBD.out.set_far HNE.out.symm (.slice Ag ng cg) (.slice Bg mg kg) (.slice Dg pg qg))
                          replace HBC := Lib.hid (HBC.out.set3 (.slice Ag ng cg) (.slice Bg mg kg) (.slice Dg pg qg))
                          replace HV := Lib.hid (((HV.out.setCell (a := ⟨bC, 0, none⟩) hl (.slice Ag ng cg)).setCell (a := ⟨bC, 1, none⟩) hl (.slice Bg mg kg)).setCell (a := ⟨bC, 2, none⟩) hl (.slice Dg pg qg))
                          obtain ⟨u7, hwz⟩ : ∃ u, ((World.setCell u6 ⟨bC, 0, none⟩ (.slice Ag ng cg)).setCell ⟨bC, 1, none⟩ (.slice Bg mg kg)).setCell ⟨bC, 2, none⟩ (.slice Dg pg qg) = u := ⟨_, rfl⟩
                          rw [hwz] at HV HBC HBD HSg HSh ⊢
                          clear hl hwz
                          refine soloP HV.out ?_
                          rw [wpPlan_one]
                          simp only [pickOps_cons, pickOps_nil, consO_some, List.getElem?_cons_zero, List.getElem?_cons_succ]
                          have hl := HLD.out
                          have e0 := HBD.out.c0; have e1 := HBD.out.c1; have e2 := HBD.out.c2; have ef0 := HBD.out.f 0; have ef1 := HBD.out.f 1; have ef2 := HBD.out.f 2
                          go_wp2_with fail
                          clear e0 e1 e2 ef0 ef1 ef2
                          replace HSg := Lib.hid (HBD.out.stt (.slice Ah nh ch) (.slice Bh mh kh) (.slice Dh ph qh) HSg.out)
                          replace HSh := Lib.hid (HBD.out.stt (.slice Ah nh ch) (.slice Bh mh kh) (.slice Dh ph qh) HSh.out)
                          replace HBC := Lib.hid (HBC.out.set_far HNE.out (.slice Ah nh ch) (.slice Bh mh kh) (.slice Dh ph qh))
                          replace HBD := Lib.hid (HBD.out.set3 (.slice Ah nh ch) (.slice Bh mh kh) (.slice Dh ph qh))
                          replace HV := Lib.hid (((HV.out.setCell (a := ⟨bD, 0, none⟩) hl (.slice Ah nh ch)).setCell (a := ⟨bD, 1, none⟩) hl (.slice Bh mh kh)).setCell (a := ⟨bD, 2, none⟩) hl (.slice Dh ph qh))
                          obtain ⟨u8, hwz⟩ : ∃ u, ((World.setCell u7 ⟨bD, 0, none⟩ (.slice Ah nh ch)).setCell ⟨bD, 1, none⟩ (.slice Bh mh kh)).setCell ⟨bD, 2, none⟩ (.slice Dh ph qh) = u := ⟨_, rfl⟩
                          rw [hwz] at HV HBC HBD HSg HSh ⊢
                          clear hl hwz
                          refine soloP HV.out ?_
                          have HF := Lib.hid (show TwoB W1 (fun p q => DoesR a y G p q) (.pointer (some ⟨bC, 0, none⟩)) (.pointer (some ⟨bD, 0, none⟩)) u8 from ⟨bC, bD, Ag, ng, cg, Bg, mg, kg, Dg, pg, qg, Ah, nh, ch, Bh, mh, kh, Dh, ph, qh, sg, sh, rfl, rfl, HV.out, HBC.out, HBD.out, HSg.out, HSh.out, ⟨sl, st, HJl.out, HJt.out, HJg.out, HJh.out⟩⟩)
                          refine wpPlan_stop ?_
                          go_wp2_with fail
                          go_meet
                          exact HF.out
                        · go_wp2_with fail
                          have hkz := (Kept.refl u4).alloc #[.slice none 0 0, .slice none 0 0, .slice none 0 0] 28
                          have HNE := Lib.hid (show bC ≠ u4.heap.size from fun e => by have := HBC.out.lt; omega)
                          replace HSg := Lib.hid (HSg.out.kept hkz)
                          replace HSt := Lib.hid (HSt.out.kept hkz)
                          replace HBC := Lib.hid (HBC.out.kept hkz)
                          have HBD := Lib.hid (Box3.new u4 (.slice none 0 0) (.slice none 0 0) (.slice none 0 0) 28)
                          have HLD := Lib.hid HV.out.2.2
                          replace HV := Lib.hid (HV.out.trans hkz)
                          obtain ⟨bD, hbz⟩ : ∃ b, (World.heap u4).size = b := ⟨_, rfl⟩
                          obtain ⟨u5, hwz⟩ : ∃ u, World.alloc u4 (.cells #[.slice none 0 0, .slice none 0 0, .slice none 0 0] 28) = u := ⟨_, rfl⟩
                          rw [hwz] at HBD HV HSg HSt HBC ⊢
                          rw [hbz] at HBD HLD HNE ⊢
                          clear hkz hbz hwz
                          refine soloP HV.out ?_
                          rw [wpPlan_one]
                          simp only [pickOps_cons, pickOps_nil, consO_some, List.getElem?_cons_zero, List.getElem?_cons_succ]
                          go_wp2_with (go_at_call 15; refine (uplay_any Aa na ca Ba ma ka Da pa qa a At nt ct Bt mt kt Dt pt qt st _ (HSa.out.kept HV.out) HSt.out HOa.out (take_ord HJt.out.1 HJt.out.2.1) (by omega) (by omega) hnt hpt).mono ?_; rintro e u6 ⟨Ah, nh, ch, Bh, mh, kh, Dh, ph, qh, sh, rfl, hsh, hjh, hkz⟩)
                          clear HSt
                          replace HSg := Lib.hid (HSg.out.kept hkz)
                          replace HBC := Lib.hid (HBC.out.kept hkz)
                          replace HBD := Lib.hid (HBD.out.kept hkz)
                          have HSh := Lib.hid hsh
                          have HJh := Lib.hid hjh
                          replace HV := Lib.hid (HV.out.trans hkz)
                          clear hsh hjh hkz
                          refine soloP HV.out ?_
                          rw [wpPlan_one]
                          simp only [pickOps_cons, pickOps_nil, consO_some, List.getElem?_cons_zero, List.getElem?_cons_succ]
                          have hl := HLC.out
                          have e0 := HBC.out.c0; have e1 := HBC.out.c1; have e2 := HBC.out.c2; have ef0 := HBC.out.f 0; have ef1 := HBC.out.f 1; have ef2 := HBC.out.f 2
                          go_wp2_with fail
                          clear e0 e1 e2 ef0 ef1 ef2
                          replace HSg := Lib.hid (HBC.out.stt (.slice Ag ng cg) (.slice Bg mg kg) (.slice Dg pg qg) HSg.out)
                          replace HSh := Lib.hid (HBC.out.stt (.slice Ag ng cg) (.slice Bg mg kg) (.slice Dg pg qg) HSh.out)
                          replace HBD := Lib.hid (HBD.out.set_far HNE.out.symm (.slice Ag ng cg) (.slice Bg mg kg) (.slice Dg pg qg))
                          replace HBC := Lib.hid (HBC.out.set3 (.slice Ag ng cg) (.slice Bg mg kg) (.slice Dg pg qg))
                          replace HV := Lib.hid (((HV.out.setCell (a := ⟨bC, 0, none⟩) hl (.slice Ag ng cg)).setCell (a := ⟨bC, 1, none⟩) hl (.slice Bg mg kg)).setCell (a := ⟨bC, 2, none⟩) hl (.slice Dg pg qg))
                          obtain ⟨u7, hwz⟩ : ∃ u, ((World.setCell u6 ⟨bC, 0, none⟩ (.slice Ag ng cg)).setCell ⟨bC, 1, none⟩ (.slice Bg mg kg)).setCell ⟨bC, 2, none⟩ (.slice Dg pg qg) = u := ⟨_, rfl⟩
                          rw [hwz] at HV HBC HBD HSg HSh ⊢
                          clear hl hwz
                          refine soloP HV.out ?_
                          rw [wpPlan_one]
                          simp only [pickOps_cons, pickOps_nil, consO_some, List.getElem?_cons_zero, List.getElem?_cons_succ]
                          have hl := HLD.out
                          have e0 := HBD.out.c0; have e1 := HBD.out.c1; have e2 := HBD.out.c2; have ef0 := HBD.out.f 0; have ef1 := HBD.out.f 1; have ef2 := HBD.out.f 2
                          go_wp2_with fail
                          clear e0 e1 e2 ef0 ef1 ef2
                          replace HSg := Lib.hid (HBD.out.stt (.slice Ah nh ch) (.slice Bh mh kh) (.slice Dh ph qh) HSg.out)
                          replace HSh := Lib.hid (HBD.out.stt (.slice Ah nh ch) (.slice Bh mh kh) (.slice Dh ph qh) HSh.out)
                          replace HBC := Lib.hid (HBC.out.set_far HNE.out (.slice Ah nh ch) (.slice Bh mh kh) (.slice Dh ph qh))
                          replace HBD := Lib.hid (HBD.out.set3 (.slice Ah nh ch) (.slice Bh mh kh) (.slice Dh ph qh))
                          replace HV := Lib.hid (((HV.out.setCell (a := ⟨bD, 0, none⟩) hl (.slice Ah nh ch)).setCell (a := ⟨bD, 1, none⟩) hl (.slice Bh mh kh)).setCell (a := ⟨bD, 2, none⟩) hl (.slice Dh ph qh))
                          obtain ⟨u8, hwz⟩ : ∃ u, ((World.setCell u7 ⟨bD, 0, none⟩ (.slice Ah nh ch)).setCell ⟨bD, 1, none⟩ (.slice Bh mh kh)).setCell ⟨bD, 2, none⟩ (.slice Dh ph qh) = u := ⟨_, rfl⟩
                          rw [hwz] at HV HBC HBD HSg HSh ⊢
                          clear hl hwz
                          refine soloP HV.out ?_
                          have HF := Lib.hid (show TwoB W1 (fun p q => DoesR a y G p q) (.pointer (some ⟨bC, 0, none⟩)) (.pointer (some ⟨bD, 0, none⟩)) u8 from ⟨bC, bD, Ag, ng, cg, Bg, mg, kg, Dg, pg, qg, Ah, nh, ch, Bh, mh, kh, Dh, ph, qh, sg, sh, rfl, rfl, HV.out, HBC.out, HBD.out, HSg.out, HSh.out, ⟨sl, st, HJl.out, HJt.out, HJg.out, HJh.out⟩⟩)
                          refine wpPlan_stop ?_
                          go_wp2_with fail
                          go_meet
                          exact HF.out
                      · go_wp2_with fail
                        have hkz := (Kept.refl u3).alloc #[.slice none 0 0, .slice none 0 0, .slice none 0 0] 28
                        have HNE := Lib.hid (show bC ≠ u3.heap.size from fun e => by have := HBC.out.lt; omega)
                        replace HSg := Lib.hid (HSg.out.kept hkz)
                        replace HBC := Lib.hid (HBC.out.kept hkz)
                        have HBD := Lib.hid (Box3.new u3 (.slice none 0 0) (.slice none 0 0) (.slice none 0 0) 28)
                        have HLD := Lib.hid HV.out.2.2
                        replace HV := Lib.hid (HV.out.trans hkz)
                        obtain ⟨bD, hbz⟩ : ∃ b, (World.heap u3).size = b := ⟨_, rfl⟩
                        obtain ⟨u4, hwz⟩ : ∃ u, World.alloc u3 (.cells #[.slice none 0 0, .slice none 0 0, .slice none 0 0] 28) = u := ⟨_, rfl⟩
                        rw [hwz] at HBD HV HSg HBC ⊢
                        rw [hbz] at HBD HLD HNE ⊢
                        clear hkz hbz hwz
                        refine soloP HV.out ?_
                        rw [wpPlan_one]
                        simp only [pickOps_cons, pickOps_nil, consO_some, List.getElem?_cons_zero, List.getElem?_cons_succ]
                        go_wp2_with (go_at_call 12; refine (utake_any y.d Ao no co G _ (HG.out.kept HV.out) hno9).mono ?_; rintro e u5 ⟨At, nt, ct, Bt, mt, kt, Dt, pt, qt, st, rfl, hst, hjt, hkz⟩)
                        replace HSg := Lib.hid (HSg.out.kept hkz)
                        replace HBC := Lib.hid (HBC.out.kept hkz)
                        replace HBD := Lib.hid (HBD.out.kept hkz)
                        have HSt := Lib.hid hst
                        have HJt := Lib.hid hjt
                        replace HV := Lib.hid (HV.out.trans hkz)
                        clear hst hjt hkz
                        have hnt : nt ≤ 100000 := by have h1 := HSt.out.el.1; have h2 := HJt.out.1; rw [h2] at h1; simp at h1; omega
                        have hpt : pt ≤ 100000 := by have h1 := HSt.out.dl.1; have h2 := HJt.out.2.2; have h3 := HGL.out; omega
                        refine soloP HV.out ?_
                        rw [wpPlan_one]
                        simp only [pickOps_cons, pickOps_nil, consO_some, List.getElem?_cons_zero, List.getElem?_cons_succ]
                        go_wp2_with (go_at_call 15; refine (uplay_any Aa na ca Ba ma ka Da pa qa a At nt ct Bt mt kt Dt pt qt st _ (HSa.out.kept HV.out) HSt.out HOa.out (take_ord HJt.out.1 HJt.out.2.1) (by omega) (by omega) hnt hpt).mono ?_; rintro e u6 ⟨Ah, nh, ch, Bh, mh, kh, Dh, ph, qh, sh, rfl, hsh, hjh, hkz⟩)
                        clear HSt
                        replace HSg := Lib.hid (HSg.out.kept hkz)
                        replace HBC := Lib.hid (HBC.out.kept hkz)
                        replace HBD := Lib.hid (HBD.out.kept hkz)
                        have HSh := Lib.hid hsh
                        have HJh := Lib.hid hjh
                        replace HV := Lib.hid (HV.out.trans hkz)
                        clear hsh hjh hkz
                        refine soloP HV.out ?_
                        rw [wpPlan_one]
                        simp only [pickOps_cons, pickOps_nil, consO_some, List.getElem?_cons_zero, List.getElem?_cons_succ]
                        have hl := HLC.out
                        have e0 := HBC.out.c0; have e1 := HBC.out.c1; have e2 := HBC.out.c2; have ef0 := HBC.out.f 0; have ef1 := HBC.out.f 1; have ef2 := HBC.out.f 2
                        go_wp2_with fail
                        clear e0 e1 e2 ef0 ef1 ef2
                        replace HSg := Lib.hid (HBC.out.stt (.slice Ag ng cg) (.slice Bg mg kg) (.slice Dg pg qg) HSg.out)
                        replace HSh := Lib.hid (HBC.out.stt (.slice Ag ng cg) (.slice Bg mg kg) (.slice Dg pg qg) HSh.out)
                        replace HBD := Lib.hid (HBD.out.set_far HNE.out.symm (.slice Ag ng cg) (.slice Bg mg kg) (.slice Dg pg qg))
                        replace HBC := Lib.hid (HBC.out.set3 (.slice Ag ng cg) (.slice Bg mg kg) (.slice Dg pg qg))
                        replace HV := Lib.hid (((HV.out.setCell (a := ⟨bC, 0, none⟩) hl (.slice Ag ng cg)).setCell (a := ⟨bC, 1, none⟩) hl (.slice Bg mg kg)).setCell (a := ⟨bC, 2, none⟩) hl (.slice Dg pg qg))
                        obtain ⟨u7, hwz⟩ : ∃ u, ((World.setCell u6 ⟨bC, 0, none⟩ (.slice Ag ng cg)).setCell ⟨bC, 1, none⟩ (.slice Bg mg kg)).setCell ⟨bC, 2, none⟩ (.slice Dg pg qg) = u := ⟨_, rfl⟩
                        rw [hwz] at HV HBC HBD HSg HSh ⊢
                        clear hl hwz
                        refine soloP HV.out ?_
                        rw [wpPlan_one]
                        simp only [pickOps_cons, pickOps_nil, consO_some, List.getElem?_cons_zero, List.getElem?_cons_succ]
                        have hl := HLD.out
                        have e0 := HBD.out.c0; have e1 := HBD.out.c1; have e2 := HBD.out.c2; have ef0 := HBD.out.f 0; have ef1 := HBD.out.f 1; have ef2 := HBD.out.f 2
                        go_wp2_with fail
                        clear e0 e1 e2 ef0 ef1 ef2
                        replace HSg := Lib.hid (HBD.out.stt (.slice Ah nh ch) (.slice Bh mh kh) (.slice Dh ph qh) HSg.out)
                        replace HSh := Lib.hid (HBD.out.stt (.slice Ah nh ch) (.slice Bh mh kh) (.slice Dh ph qh) HSh.out)
                        replace HBC := Lib.hid (HBC.out.set_far HNE.out (.slice Ah nh ch) (.slice Bh mh kh) (.slice Dh ph qh))
                        replace HBD := Lib.hid (HBD.out.set3 (.slice Ah nh ch) (.slice Bh mh kh) (.slice Dh ph qh))
                        replace HV := Lib.hid (((HV.out.setCell (a := ⟨bD, 0, none⟩) hl (.slice Ah nh ch)).setCell (a := ⟨bD, 1, none⟩) hl (.slice Bh mh kh)).setCell (a := ⟨bD, 2, none⟩) hl (.slice Dh ph qh))
                        obtain ⟨u8, hwz⟩ : ∃ u, ((World.setCell u7 ⟨bD, 0, none⟩ (.slice Ah nh ch)).setCell ⟨bD, 1, none⟩ (.slice Bh mh kh)).setCell ⟨bD, 2, none⟩ (.slice Dh ph qh) = u := ⟨_, rfl⟩
                        rw [hwz] at HV HBC HBD HSg HSh ⊢
                        clear hl hwz
                        refine soloP HV.out ?_
                        have HF := Lib.hid (show TwoB W1 (fun p q => DoesR a y G p q) (.pointer (some ⟨bC, 0, none⟩)) (.pointer (some ⟨bD, 0, none⟩)) u8 from ⟨bC, bD, Ag, ng, cg, Bg, mg, kg, Dg, pg, qg, Ah, nh, ch, Bh, mh, kh, Dh, ph, qh, sg, sh, rfl, rfl, HV.out, HBC.out, HBD.out, HSg.out, HSh.out, ⟨sl, st, HJl.out, HJt.out, HJg.out, HJh.out⟩⟩)
                        refine wpPlan_stop ?_
                        go_wp2_with fail
                        go_meet
                        exact HF.out
                    · go_wp2_with fail
                      have hkz := (Kept.refl u2).alloc #[.slice none 0 0, .slice none 0 0, .slice none 0 0] 28
                      have HNE := Lib.hid (show bC ≠ u2.heap.size from fun e => by have := HBC.out.lt; omega)
                      replace HSl := Lib.hid (HSl.out.kept hkz)
                      replace HBC := Lib.hid (HBC.out.kept hkz)
                      have HBD := Lib.hid (Box3.new u2 (.slice none 0 0) (.slice none 0 0) (.slice none 0 0) 28)
                      have HLD := Lib.hid HV.out.2.2
                      replace HV := Lib.hid (HV.out.trans hkz)
                      obtain ⟨bD, hbz⟩ : ∃ b, (World.heap u2).size = b := ⟨_, rfl⟩
                      obtain ⟨u3, hwz⟩ : ∃ u, World.alloc u2 (.cells #[.slice none 0 0, .slice none 0 0, .slice none 0 0] 28) = u := ⟨_, rfl⟩
                      rw [hwz] at HBD HV HSl HBC ⊢
                      rw [hbz] at HBD HLD HNE ⊢
                      clear hkz hbz hwz
                      refine soloP HV.out ?_
                      rw [wpPlan_one]
                      simp only [pickOps_cons, pickOps_nil, consO_some, List.getElem?_cons_zero, List.getElem?_cons_succ]
                      go_wp2_with (go_at_call 15; refine (uplay_any Aa na ca Ba ma ka Da pa qa a Al nl cl Bl ml kl Dl pl ql sl _ (HSa.out.kept HV.out) HSl.out HOa.out (leave_ord HRD.out HJl.out.1 HJl.out.2.1) (by omega) (by omega) hnl hpl).mono ?_; rintro e u4 ⟨Ag, ng, cg, Bg, mg, kg, Dg, pg, qg, sg, rfl, hsg, hjg, hkz⟩)
                      clear HSl
                      replace HBC := Lib.hid (HBC.out.kept hkz)
                      replace HBD := Lib.hid (HBD.out.kept hkz)
                      have HSg := Lib.hid hsg
                      have HJg := Lib.hid hjg
                      replace HV := Lib.hid (HV.out.trans hkz)
                      clear hsg hjg hkz
                      refine soloP HV.out ?_
                      rw [wpPlan_one]
                      simp only [pickOps_cons, pickOps_nil, consO_some, List.getElem?_cons_zero, List.getElem?_cons_succ]
                      go_wp2_with (go_at_call 12; refine (utake_any y.d Ao no co G _ (HG.out.kept HV.out) hno9).mono ?_; rintro e u5 ⟨At, nt, ct, Bt, mt, kt, Dt, pt, qt, st, rfl, hst, hjt, hkz⟩)
                      replace HSg := Lib.hid (HSg.out.kept hkz)
                      replace HBC := Lib.hid (HBC.out.kept hkz)
                      replace HBD := Lib.hid (HBD.out.kept hkz)
                      have HSt := Lib.hid hst
                      have HJt := Lib.hid hjt
                      replace HV := Lib.hid (HV.out.trans hkz)
                      clear hst hjt hkz
                      have hnt : nt ≤ 100000 := by have h1 := HSt.out.el.1; have h2 := HJt.out.1; rw [h2] at h1; simp at h1; omega
                      have hpt : pt ≤ 100000 := by have h1 := HSt.out.dl.1; have h2 := HJt.out.2.2; have h3 := HGL.out; omega
                      refine soloP HV.out ?_
                      rw [wpPlan_one]
                      simp only [pickOps_cons, pickOps_nil, consO_some, List.getElem?_cons_zero, List.getElem?_cons_succ]
                      go_wp2_with (go_at_call 15; refine (uplay_any Aa na ca Ba ma ka Da pa qa a At nt ct Bt mt kt Dt pt qt st _ (HSa.out.kept HV.out) HSt.out HOa.out (take_ord HJt.out.1 HJt.out.2.1) (by omega) (by omega) hnt hpt).mono ?_; rintro e u6 ⟨Ah, nh, ch, Bh, mh, kh, Dh, ph, qh, sh, rfl, hsh, hjh, hkz⟩)
                      clear HSt
                      replace HSg := Lib.hid (HSg.out.kept hkz)
                      replace HBC := Lib.hid (HBC.out.kept hkz)
                      replace HBD := Lib.hid (HBD.out.kept hkz)
                      have HSh := Lib.hid hsh
                      have HJh := Lib.hid hjh
                      replace HV := Lib.hid (HV.out.trans hkz)
                      clear hsh hjh hkz
                      refine soloP HV.out ?_
                      rw [wpPlan_one]
                      simp only [pickOps_cons, pickOps_nil, consO_some, List.getElem?_cons_zero, List.getElem?_cons_succ]
                      have hl := HLC.out
                      have e0 := HBC.out.c0; have e1 := HBC.out.c1; have e2 := HBC.out.c2; have ef0 := HBC.out.f 0; have ef1 := HBC.out.f 1; have ef2 := HBC.out.f 2
                      go_wp2_with fail
                      clear e0 e1 e2 ef0 ef1 ef2
                      replace HSg := Lib.hid (HBC.out.stt (.slice Ag ng cg) (.slice Bg mg kg) (.slice Dg pg qg) HSg.out)
                      replace HSh := Lib.hid (HBC.out.stt (.slice Ag ng cg) (.slice Bg mg kg) (.slice Dg pg qg) HSh.out)
                      replace HBD := Lib.hid (HBD.out.set_far HNE.out.symm (.slice Ag ng cg) (.slice Bg mg kg) (.slice Dg pg qg))
                      replace HBC := Lib.hid (HBC.out.set3 (.slice Ag ng cg) (.slice Bg mg kg) (.slice Dg pg qg))
                      replace HV := Lib.hid (((HV.out.setCell (a := ⟨bC, 0, none⟩) hl (.slice Ag ng cg)).setCell (a := ⟨bC, 1, none⟩) hl (.slice Bg mg kg)).setCell (a := ⟨bC, 2, none⟩) hl (.slice Dg pg qg))
                      obtain ⟨u7, hwz⟩ : ∃ u, ((World.setCell u6 ⟨bC, 0, none⟩ (.slice Ag ng cg)).setCell ⟨bC, 1, none⟩ (.slice Bg mg kg)).setCell ⟨bC, 2, none⟩ (.slice Dg pg qg) = u := ⟨_, rfl⟩
                      rw [hwz] at HV HBC HBD HSg HSh ⊢
                      clear hl hwz
                      refine soloP HV.out ?_
                      rw [wpPlan_one]
                      simp only [pickOps_cons, pickOps_nil, consO_some, List.getElem?_cons_zero, List.getElem?_cons_succ]
                      have hl := HLD.out
                      have e0 := HBD.out.c0; have e1 := HBD.out.c1; have e2 := HBD.out.c2; have ef0 := HBD.out.f 0; have ef1 := HBD.out.f 1; have ef2 := HBD.out.f 2
                      go_wp2_with fail
                      clear e0 e1 e2 ef0 ef1 ef2
                      replace HSg := Lib.hid (HBD.out.stt (.slice Ah nh ch) (.slice Bh mh kh) (.slice Dh ph qh) HSg.out)
                      replace HSh := Lib.hid (HBD.out.stt (.slice Ah nh ch) (.slice Bh mh kh) (.slice Dh ph qh) HSh.out)
                      replace HBC := Lib.hid (HBC.out.set_far HNE.out (.slice Ah nh ch) (.slice Bh mh kh) (.slice Dh ph qh))
                      replace HBD := Lib.hid (HBD.out.set3 (.slice Ah nh ch) (.slice Bh mh kh) (.slice Dh ph qh))
                      replace HV := Lib.hid (((HV.out.setCell (a := ⟨bD, 0, none⟩) hl (.slice Ah nh ch)).setCell (a := ⟨bD, 1, none⟩) hl (.slice Bh mh kh)).setCell (a := ⟨bD, 2, none⟩) hl (.slice Dh ph qh))
                      obtain ⟨u8, hwz⟩ : ∃ u, ((World.setCell u7 ⟨bD, 0, none⟩ (.slice Ah nh ch)).setCell ⟨bD, 1, none⟩ (.slice Bh mh kh)).setCell ⟨bD, 2, none⟩ (.slice Dh ph qh) = u := ⟨_, rfl⟩
                      rw [hwz] at HV HBC HBD HSg HSh ⊢
                      clear hl hwz
                      refine soloP HV.out ?_
                      have HF := Lib.hid (show TwoB W1 (fun p q => DoesR a y G p q) (.pointer (some ⟨bC, 0, none⟩)) (.pointer (some ⟨bD, 0, none⟩)) u8 from ⟨bC, bD, Ag, ng, cg, Bg, mg, kg, Dg, pg, qg, Ah, nh, ch, Bh, mh, kh, Dh, ph, qh, sg, sh, rfl, rfl, HV.out, HBC.out, HBD.out, HSg.out, HSh.out, ⟨sl, st, HJl.out, HJt.out, HJg.out, HJh.out⟩⟩)
                      refine wpPlan_stop ?_
                      go_wp2_with fail
                      go_meet
                      exact HF.out
                  · go_wp2_with fail
                    have hkz := (Kept.refl u1).alloc #[.slice none 0 0, .slice none 0 0, .slice none 0 0] 28
                    have HNE := Lib.hid (show bC ≠ u1.heap.size from fun e => by have := HBC.out.lt; omega)
                    replace HBC := Lib.hid (HBC.out.kept hkz)
                    have HBD := Lib.hid (Box3.new u1 (.slice none 0 0) (.slice none 0 0) (.slice none 0 0) 28)
                    have HLD := Lib.hid HV.out.2.2
                    replace HV := Lib.hid (HV.out.trans hkz)
                    obtain ⟨bD, hbz⟩ : ∃ b, (World.heap u1).size = b := ⟨_, rfl⟩
                    obtain ⟨u2, hwz⟩ : ∃ u, World.alloc u1 (.cells #[.slice none 0 0, .slice none 0 0, .slice none 0 0] 28) = u := ⟨_, rfl⟩
                    rw [hwz] at HBD HV HBC ⊢
                    rw [hbz] at HBD HLD HNE ⊢
                    clear hkz hbz hwz
                    refine soloP HV.out ?_
                    rw [wpPlan_one]
                    simp only [pickOps_cons, pickOps_nil, consO_some, List.getElem?_cons_zero, List.getElem?_cons_succ]
                    go_wp2_with (go_at_call 10; refine (uleave_any y Ao no co G _ (HG.out.kept HV.out) hno9).mono ?_; rintro e u3 ⟨Al, nl, cl, Bl, ml, kl, Dl, pl, ql, sl, rfl, hsl, hjl, hkz⟩)
                    replace HBC := Lib.hid (HBC.out.kept hkz)
                    replace HBD := Lib.hid (HBD.out.kept hkz)
                    have HSl := Lib.hid hsl
                    have HJl := Lib.hid hjl
                    replace HV := Lib.hid (HV.out.trans hkz)
                    clear hsl hjl hkz
                    have hnl : nl ≤ 100000 := by have h1 := HSl.out.el.1; have h2 := HJl.out.1; rw [h2] at h1; simp at h1; omega
                    have hpl : pl ≤ 100000 := by have h1 := HSl.out.dl.1; have h2 := HJl.out.2.2; have h3 := HGL.out; omega
                    refine soloP HV.out ?_
                    rw [wpPlan_one]
                    simp only [pickOps_cons, pickOps_nil, consO_some, List.getElem?_cons_zero, List.getElem?_cons_succ]
                    go_wp2_with (go_at_call 15; refine (uplay_any Aa na ca Ba ma ka Da pa qa a Al nl cl Bl ml kl Dl pl ql sl _ (HSa.out.kept HV.out) HSl.out HOa.out (leave_ord HRD.out HJl.out.1 HJl.out.2.1) (by omega) (by omega) hnl hpl).mono ?_; rintro e u4 ⟨Ag, ng, cg, Bg, mg, kg, Dg, pg, qg, sg, rfl, hsg, hjg, hkz⟩)
                    clear HSl
                    replace HBC := Lib.hid (HBC.out.kept hkz)
                    replace HBD := Lib.hid (HBD.out.kept hkz)
                    have HSg := Lib.hid hsg
                    have HJg := Lib.hid hjg
                    replace HV := Lib.hid (HV.out.trans hkz)
                    clear hsg hjg hkz
                    refine soloP HV.out ?_
                    rw [wpPlan_one]
                    simp only [pickOps_cons, pickOps_nil, consO_some, List.getElem?_cons_zero, List.getElem?_cons_succ]
                    go_wp2_with (go_at_call 12; refine (utake_any y.d Ao no co G _ (HG.out.kept HV.out) hno9).mono ?_; rintro e u5 ⟨At, nt, ct, Bt, mt, kt, Dt, pt, qt, st, rfl, hst, hjt, hkz⟩)
                    replace HSg := Lib.hid (HSg.out.kept hkz)
                    replace HBC := Lib.hid (HBC.out.kept hkz)
                    replace HBD := Lib.hid (HBD.out.kept hkz)
                    have HSt := Lib.hid hst
                    have HJt := Lib.hid hjt
                    replace HV := Lib.hid (HV.out.trans hkz)
                    clear hst hjt hkz
                    have hnt : nt ≤ 100000 := by have h1 := HSt.out.el.1; have h2 := HJt.out.1; rw [h2] at h1; simp at h1; omega
                    have hpt : pt ≤ 100000 := by have h1 := HSt.out.dl.1; have h2 := HJt.out.2.2; have h3 := HGL.out; omega
                    refine soloP HV.out ?_
                    rw [wpPlan_one]
                    simp only [pickOps_cons, pickOps_nil, consO_some, List.getElem?_cons_zero, List.getElem?_cons_succ]
                    go_wp2_with (go_at_call 15; refine (uplay_any Aa na ca Ba ma ka Da pa qa a At nt ct Bt mt kt Dt pt qt st _ (HSa.out.kept HV.out) HSt.out HOa.out (take_ord HJt.out.1 HJt.out.2.1) (by omega) (by omega) hnt hpt).mono ?_; rintro e u6 ⟨Ah, nh, ch, Bh, mh, kh, Dh, ph, qh, sh, rfl, hsh, hjh, hkz⟩)
                    clear HSt
                    replace HSg := Lib.hid (HSg.out.kept hkz)
                    replace HBC := Lib.hid (HBC.out.kept hkz)
                    replace HBD := Lib.hid (HBD.out.kept hkz)
                    have HSh := Lib.hid hsh
                    have HJh := Lib.hid hjh
                    replace HV := Lib.hid (HV.out.trans hkz)
                    clear hsh hjh hkz
                    refine soloP HV.out ?_
                    rw [wpPlan_one]
                    simp only [pickOps_cons, pickOps_nil, consO_some, List.getElem?_cons_zero, List.getElem?_cons_succ]
                    have hl := HLC.out
                    have e0 := HBC.out.c0; have e1 := HBC.out.c1; have e2 := HBC.out.c2; have ef0 := HBC.out.f 0; have ef1 := HBC.out.f 1; have ef2 := HBC.out.f 2
                    go_wp2_with fail
                    clear e0 e1 e2 ef0 ef1 ef2
                    replace HSg := Lib.hid (HBC.out.stt (.slice Ag ng cg) (.slice Bg mg kg) (.slice Dg pg qg) HSg.out)
                    replace HSh := Lib.hid (HBC.out.stt (.slice Ag ng cg) (.slice Bg mg kg) (.slice Dg pg qg) HSh.out)
                    replace HBD := Lib.hid (HBD.out.set_far HNE.out.symm (.slice Ag ng cg) (.slice Bg mg kg) (.slice Dg pg qg))
                    replace HBC := Lib.hid (HBC.out.set3 (.slice Ag ng cg) (.slice Bg mg kg) (.slice Dg pg qg))
                    replace HV := Lib.hid (((HV.out.setCell (a := ⟨bC, 0, none⟩) hl (.slice Ag ng cg)).setCell (a := ⟨bC, 1, none⟩) hl (.slice Bg mg kg)).setCell (a := ⟨bC, 2, none⟩) hl (.slice Dg pg qg))
                    obtain ⟨u7, hwz⟩ : ∃ u, ((World.setCell u6 ⟨bC, 0, none⟩ (.slice Ag ng cg)).setCell ⟨bC, 1, none⟩ (.slice Bg mg kg)).setCell ⟨bC, 2, none⟩ (.slice Dg pg qg) = u := ⟨_, rfl⟩
                    rw [hwz] at HV HBC HBD HSg HSh ⊢
                    clear hl hwz
                    refine soloP HV.out ?_
                    rw [wpPlan_one]
                    simp only [pickOps_cons, pickOps_nil, consO_some, List.getElem?_cons_zero, List.getElem?_cons_succ]
                    have hl := HLD.out
                    have e0 := HBD.out.c0; have e1 := HBD.out.c1; have e2 := HBD.out.c2; have ef0 := HBD.out.f 0; have ef1 := HBD.out.f 1; have ef2 := HBD.out.f 2
                    go_wp2_with fail
                    clear e0 e1 e2 ef0 ef1 ef2
                    replace HSg := Lib.hid (HBD.out.stt (.slice Ah nh ch) (.slice Bh mh kh) (.slice Dh ph qh) HSg.out)
                    replace HSh := Lib.hid (HBD.out.stt (.slice Ah nh ch) (.slice Bh mh kh) (.slice Dh ph qh) HSh.out)
                    replace HBC := Lib.hid (HBC.out.set_far HNE.out (.slice Ah nh ch) (.slice Bh mh kh) (.slice Dh ph qh))
                    replace HBD := Lib.hid (HBD.out.set3 (.slice Ah nh ch) (.slice Bh mh kh) (.slice Dh ph qh))
                    replace HV := Lib.hid (((HV.out.setCell (a := ⟨bD, 0, none⟩) hl (.slice Ah nh ch)).setCell (a := ⟨bD, 1, none⟩) hl (.slice Bh mh kh)).setCell (a := ⟨bD, 2, none⟩) hl (.slice Dh ph qh))
                    obtain ⟨u8, hwz⟩ : ∃ u, ((World.setCell u7 ⟨bD, 0, none⟩ (.slice Ah nh ch)).setCell ⟨bD, 1, none⟩ (.slice Bh mh kh)).setCell ⟨bD, 2, none⟩ (.slice Dh ph qh) = u := ⟨_, rfl⟩
                    rw [hwz] at HV HBC HBD HSg HSh ⊢
                    clear hl hwz
                    refine soloP HV.out ?_
                    have HF := Lib.hid (show TwoB W1 (fun p q => DoesR a y G p q) (.pointer (some ⟨bC, 0, none⟩)) (.pointer (some ⟨bD, 0, none⟩)) u8 from ⟨bC, bD, Ag, ng, cg, Bg, mg, kg, Dg, pg, qg, Ah, nh, ch, Bh, mh, kh, Dh, ph, qh, sg, sh, rfl, rfl, HV.out, HBC.out, HBD.out, HSg.out, HSh.out, ⟨sl, st, HJl.out, HJt.out, HJg.out, HJh.out⟩⟩)
                    refine wpPlan_stop ?_
                    go_wp2_with fail
                    go_meet
                    exact HF.out
                · go_wp2_with fail
                  have hkz := (Kept.refl wd).alloc #[.slice none 0 0, .slice none 0 0, .slice none 0 0] 28
                  have HBD := Lib.hid (Box3.new wd (.slice none 0 0) (.slice none 0 0) (.slice none 0 0) 28)
                  have HLD := Lib.hid HV.out.2.2
                  replace HV := Lib.hid (HV.out.trans hkz)
                  obtain ⟨bD, hbz⟩ : ∃ b, (World.heap wd).size = b := ⟨_, rfl⟩
                  obtain ⟨u1, hwz⟩ : ∃ u, World.alloc wd (.cells #[.slice none 0 0, .slice none 0 0, .slice none 0 0] 28) = u := ⟨_, rfl⟩
                  rw [hwz] at HBD HV ⊢
                  rw [hbz] at HBD HLD ⊢
                  clear hkz hbz hwz
                  refine soloP HV.out ?_
                  rw [wpPlan_two]
                  simp only [pickOps_cons, pickOps_nil, consO_some, List.getElem?_cons_zero, List.getElem?_cons_succ]
                  constructor
                  · go_wp2_with (go_at_call 10; refine (uleave_any y Ao no co G _ (HG.out.kept HV.out) hno9).mono ?_; rintro e u2 ⟨Al, nl, cl, Bl, ml, kl, Dl, pl, ql, sl, rfl, hsl, hjl, hkz⟩)
                    replace HBD := Lib.hid (HBD.out.kept hkz)
                    have HSl := Lib.hid hsl
                    have HJl := Lib.hid hjl
                    replace HV := Lib.hid (HV.out.trans hkz)
                    clear hsl hjl hkz
                    have hnl : nl ≤ 100000 := by have h1 := HSl.out.el.1; have h2 := HJl.out.1; rw [h2] at h1; simp at h1; omega
                    have hpl : pl ≤ 100000 := by have h1 := HSl.out.dl.1; have h2 := HJl.out.2.2; have h3 := HGL.out; omega
                    refine soloP HV.out ?_
                    rw [wpPlan_two]
                    simp only [pickOps_cons, pickOps_nil, consO_some, List.getElem?_cons_zero, List.getElem?_cons_succ]
                    constructor
                    · go_wp2_with (go_at_call 15; refine (uplay_any Aa na ca Ba ma ka Da pa qa a Al nl cl Bl ml kl Dl pl ql sl _ (HSa.out.kept HV.out) HSl.out HOa.out (leave_ord HRD.out HJl.out.1 HJl.out.2.1) (by omega) (by omega) hnl hpl).mono ?_; rintro e u3 ⟨Ag, ng, cg, Bg, mg, kg, Dg, pg, qg, sg, rfl, hsg, hjg, hkz⟩)
                      clear HSl
                      replace HBD := Lib.hid (HBD.out.kept hkz)
                      have HSg := Lib.hid hsg
                      have HJg := Lib.hid hjg
                      replace HV := Lib.hid (HV.out.trans hkz)
                      clear hsg hjg hkz
                      refine soloP HV.out ?_
                      rw [wpPlan_two]
                      simp only [pickOps_cons, pickOps_nil, consO_some, List.getElem?_cons_zero, List.getElem?_cons_succ]
                      constructor
                      · go_wp2_with (go_at_call 12; refine (utake_any y.d Ao no co G _ (HG.out.kept HV.out) hno9).mono ?_; rintro e u4 ⟨At, nt, ct, Bt, mt, kt, Dt, pt, qt, st, rfl, hst, hjt, hkz⟩)
                        replace HSg := Lib.hid (HSg.out.kept hkz)
                        replace HBD := Lib.hid (HBD.out.kept hkz)
                        have HSt := Lib.hid hst
                        have HJt := Lib.hid hjt
                        replace HV := Lib.hid (HV.out.trans hkz)
                        clear hst hjt hkz
                        have hnt : nt ≤ 100000 := by have h1 := HSt.out.el.1; have h2 := HJt.out.1; rw [h2] at h1; simp at h1; omega
                        have hpt : pt ≤ 100000 := by have h1 := HSt.out.dl.1; have h2 := HJt.out.2.2; have h3 := HGL.out; omega
                        refine soloP HV.out ?_
                        rw [wpPlan_two]
                        simp only [pickOps_cons, pickOps_nil, consO_some, List.getElem?_cons_zero, List.getElem?_cons_succ]
                        constructor
                        · go_wp2_with (go_at_call 15; refine (uplay_any Aa na ca Ba ma ka Da pa qa a At nt ct Bt mt kt Dt pt qt st _ (HSa.out.kept HV.out) HSt.out HOa.out (take_ord HJt.out.1 HJt.out.2.1) (by omega) (by omega) hnt hpt).mono ?_; rintro e u5 ⟨Ah, nh, ch, Bh, mh, kh, Dh, ph, qh, sh, rfl, hsh, hjh, hkz⟩)
                          clear HSt
                          replace HSg := Lib.hid (HSg.out.kept hkz)
                          replace HBD := Lib.hid (HBD.out.kept hkz)
                          have HSh := Lib.hid hsh
                          have HJh := Lib.hid hjh
                          replace HV := Lib.hid (HV.out.trans hkz)
                          clear hsh hjh hkz
                          refine soloP HV.out ?_
                          rw [wpPlan_one]
                          simp only [pickOps_cons, pickOps_nil, consO_some, List.getElem?_cons_zero, List.getElem?_cons_succ]
                          go_wp2_with fail
                          have hkz := (Kept.refl u5).alloc #[.slice none 0 0, .slice none 0 0, .slice none 0 0] 28
                          have HNE := Lib.hid (show bD ≠ u5.heap.size from fun e => by have := HBD.out.lt; omega)
                          replace HSg := Lib.hid (HSg.out.kept hkz)
                          replace HSh := Lib.hid (HSh.out.kept hkz)
                          replace HBD := Lib.hid (HBD.out.kept hkz)
                          have HBC := Lib.hid (Box3.new u5 (.slice none 0 0) (.slice none 0 0) (.slice none 0 0) 28)
                          have HLC := Lib.hid HV.out.2.2
                          replace HV := Lib.hid (HV.out.trans hkz)
                          obtain ⟨bC, hbz⟩ : ∃ b, (World.heap u5).size = b := ⟨_, rfl⟩
                          obtain ⟨u6, hwz⟩ : ∃ u, World.alloc u5 (.cells #[.slice none 0 0, .slice none 0 0, .slice none 0 0] 28) = u := ⟨_, rfl⟩
                          rw [hwz] at HBC HV HSg HSh HBD ⊢
                          rw [hbz] at HBC HLC HNE ⊢
                          clear hkz hbz hwz
                          refine soloP HV.out ?_
                          rw [wpPlan_one]
                          simp only [pickOps_cons, pickOps_nil, consO_some, List.getElem?_cons_zero, List.getElem?_cons_succ]
                          have hl := HLC.out
                          have e0 := HBC.out.c0; have e1 := HBC.out.c1; have e2 := HBC.out.c2; have ef0 := HBC.out.f 0; have ef1 := HBC.out.f 1; have ef2 := HBC.out.f 2
                          go_wp2_with fail
                          clear e0 e1 e2 ef0 ef1 ef2
                          replace HSg := Lib.hid (HBC.out.stt (.slice Ag ng cg) (.slice Bg mg kg) (.slice Dg pg qg) HSg.out)
                          replace HSh := Lib.hid (HBC.out.stt (.slice Ag ng cg) (.slice Bg mg kg) (.slice Dg pg qg) HSh.out)
                          replace HBD := Lib.hid (HBD.out.set_far HNE.out (.slice Ag ng cg) (.slice Bg mg kg) (.slice Dg pg qg))
                          replace HBC := Lib.hid (HBC.out.set3 (.slice Ag ng cg) (.slice Bg mg kg) (.slice Dg pg qg))
                          replace HV := Lib.hid (((HV.out.setCell (a := ⟨bC, 0, none⟩) hl (.slice Ag ng cg)).setCell (a := ⟨bC, 1, none⟩) hl (.slice Bg mg kg)).setCell (a := ⟨bC, 2, none⟩) hl (.slice Dg pg qg))
                          obtain ⟨u7, hwz⟩ : ∃ u, ((World.setCell u6 ⟨bC, 0, none⟩ (.slice Ag ng cg)).setCell ⟨bC, 1, none⟩ (.slice Bg mg kg)).setCell ⟨bC, 2, none⟩ (.slice Dg pg qg) = u := ⟨_, rfl⟩
                          rw [hwz] at HV HBC HBD HSg HSh ⊢
                          clear hl hwz
                          refine soloP HV.out ?_
                          rw [wpPlan_one]
                          simp only [pickOps_cons, pickOps_nil, consO_some, List.getElem?_cons_zero, List.getElem?_cons_succ]
                          have hl := HLD.out
                          have e0 := HBD.out.c0; have e1 := HBD.out.c1; have e2 := HBD.out.c2; have ef0 := HBD.out.f 0; have ef1 := HBD.out.f 1; have ef2 := HBD.out.f 2
                          go_wp2_with fail
                          clear e0 e1 e2 ef0 ef1 ef2
                          replace HSg := Lib.hid (HBD.out.stt (.slice Ah nh ch) (.slice Bh mh kh) (.slice Dh ph qh) HSg.out)
                          replace HSh := Lib.hid (HBD.out.stt (.slice Ah nh ch) (.slice Bh mh kh) (.slice Dh ph qh) HSh.out)
                          replace HBC := Lib.hid (HBC.out.set_far HNE.out.symm (.slice Ah nh ch) (.slice Bh mh kh) (.slice Dh ph qh))
                          replace HBD := Lib.hid (HBD.out.set3 (.slice Ah nh ch) (.slice Bh mh kh) (.slice Dh ph qh))
                          replace HV := Lib.hid (((HV.out.setCell (a := ⟨bD, 0, none⟩) hl (.slice Ah nh ch)).setCell (a := ⟨bD, 1, none⟩) hl (.slice Bh mh kh)).setCell (a := ⟨bD, 2, none⟩) hl (.slice Dh ph qh))
                          obtain ⟨u8, hwz⟩ : ∃ u, ((World.setCell u7 ⟨bD, 0, none⟩ (.slice Ah nh ch)).setCell ⟨bD, 1, none⟩ (.slice Bh mh kh)).setCell ⟨bD, 2, none⟩ (.slice Dh ph qh) = u := ⟨_, rfl⟩
                          rw [hwz] at HV HBC HBD HSg HSh ⊢
                          clear hl hwz
                          refine soloP HV.out ?_
                          have HF := Lib.hid (show TwoB W1 (fun p q => DoesR a y G p q) (.pointer (some ⟨bC, 0, none⟩)) (.pointer (some ⟨bD, 0, none⟩)) u8 from ⟨bC, bD, Ag, ng, cg, Bg, mg, kg, Dg, pg, qg, Ah, nh, ch, Bh, mh, kh, Dh, ph, qh, sg, sh, rfl, rfl, HV.out, HBC.out, HBD.out, HSg.out, HSh.out, ⟨sl, st, HJl.out, HJt.out, HJg.out, HJh.out⟩⟩)
                          refine wpPlan_stop ?_
                          go_wp2_with fail
                          go_meet
                          exact HF.out
                        · go_wp2_with fail
                          have hkz := (Kept.refl u4).alloc #[.slice none 0 0, .slice none 0 0, .slice none 0 0] 28
                          have HNE := Lib.hid (show bD ≠ u4.heap.size from fun e => by have := HBD.out.lt; omega)
                          replace HSg := Lib.hid (HSg.out.kept hkz)
                          replace HSt := Lib.hid (HSt.out.kept hkz)
                          replace HBD := Lib.hid (HBD.out.kept hkz)
                          have HBC := Lib.hid (Box3.new u4 (.slice none 0 0) (.slice none 0 0) (.slice none 0 0) 28)
                          have HLC := Lib.hid HV.out.2.2
                          replace HV := Lib.hid (HV.out.trans hkz)
                          obtain ⟨bC, hbz⟩ : ∃ b, (World.heap u4).size = b := ⟨_, rfl⟩
                          obtain ⟨u5, hwz⟩ : ∃ u, World.alloc u4 (.cells #[.slice none 0 0, .slice none 0 0, .slice none 0 0] 28) = u := ⟨_, rfl⟩
                          rw [hwz] at HBC HV HSg HSt HBD ⊢
                          rw [hbz] at HBC HLC HNE ⊢
                          clear hkz hbz hwz
                          refine soloP HV.out ?_
                          rw [wpPlan_one]
                          simp only [pickOps_cons, pickOps_nil, consO_some, List.getElem?_cons_zero, List.getElem?_cons_succ]
                          go_wp2_with (go_at_call 15; refine (uplay_any Aa na ca Ba ma ka Da pa qa a At nt ct Bt mt kt Dt pt qt st _ (HSa.out.kept HV.out) HSt.out HOa.out (take_ord HJt.out.1 HJt.out.2.1) (by omega) (by omega) hnt hpt).mono ?_; rintro e u6 ⟨Ah, nh, ch, Bh, mh, kh, Dh, ph, qh, sh, rfl, hsh, hjh, hkz⟩)
                          clear HSt
                          replace HSg := Lib.hid (HSg.out.kept hkz)
                          replace HBC := Lib.hid (HBC.out.kept hkz)
                          replace HBD := Lib.hid (HBD.out.kept hkz)
                          have HSh := Lib.hid hsh
                          have HJh := Lib.hid hjh
                          replace HV := Lib.hid (HV.out.trans hkz)
                          clear hsh hjh hkz
                          refine soloP HV.out ?_
                          rw [wpPlan_one]
                          simp only [pickOps_cons, pickOps_nil, consO_some, List.getElem?_cons_zero, List.getElem?_cons_succ]
                          have hl := HLC.out
                          have e0 := HBC.out.c0; have e1 := HBC.out.c1; have e2 := HBC.out.c2; have ef0 := HBC.out.f 0; have ef1 := HBC.out.f 1; have ef2 := HBC.out.f 2
                          go_wp2_with fail
                          clear e0 e1 e2 ef0 ef1 ef2
                          replace HSg := Lib.hid (HBC.out.stt (.slice Ag ng cg) (.slice Bg mg kg) (.slice Dg pg qg) HSg.out)
                          replace HSh := Lib.hid (HBC.out.stt (.slice Ag ng cg) (.slice Bg mg kg) (.slice Dg pg qg) HSh.out)
                          replace HBD := Lib.hid (HBD.out.set_far HNE.out (.slice Ag ng cg) (.slice Bg mg kg) (.slice Dg pg qg))
                          replace HBC := Lib.hid (HBC.out.set3 (.slice Ag ng cg) (.slice Bg mg kg) (.slice Dg pg qg))
                          replace HV := Lib.hid (((HV.out.setCell (a := ⟨bC, 0, none⟩) hl (.slice Ag ng cg)).setCell (a := ⟨bC, 1, none⟩) hl (.slice Bg mg kg)).setCell (a := ⟨bC, 2, none⟩) hl (.slice Dg pg qg))
                          obtain ⟨u7, hwz⟩ : ∃ u, ((World.setCell u6 ⟨bC, 0, none⟩ (.slice Ag ng cg)).setCell ⟨bC, 1, none⟩ (.slice Bg mg kg)).setCell ⟨bC, 2, none⟩ (.slice Dg pg qg) = u := ⟨_, rfl⟩
                          rw [hwz] at HV HBC HBD HSg HSh ⊢
                          clear hl hwz
                          refine soloP HV.out ?_
                          rw [wpPlan_one]
                          simp only [pickOps_cons, pickOps_nil, consO_some, List.getElem?_cons_zero, List.getElem?_cons_succ]
                          have hl := HLD.out
                          have e0 := HBD.out.c0; have e1 := HBD.out.c1; have e2 := HBD.out.c2; have ef0 := HBD.out.f 0; have ef1 := HBD.out.f 1; have ef2 := HBD.out.f 2
                          go_wp2_with fail
                          clear e0 e1 e2 ef0 ef1 ef2
                          replace HSg := Lib.hid (HBD.out.stt (.slice Ah nh ch) (.slice Bh mh kh) (.slice Dh ph qh) HSg.out)
                          replace HSh := Lib.hid (HBD.out.stt (.slice Ah nh ch) (.slice Bh mh kh) (.slice Dh ph qh) HSh.out)
                          replace HBC := Lib.hid (HBC.out.set_far HNE.out.symm (.slice Ah nh ch) (.slice Bh mh kh) (.slice Dh ph qh))
                          replace HBD := Lib.hid (HBD.out.set3 (.slice Ah nh ch) (.slice Bh mh kh) (.slice Dh ph qh))
                          replace HV := Lib.hid (((HV.out.setCell (a := ⟨bD, 0, none⟩) hl (.slice Ah nh ch)).setCell (a := ⟨bD, 1, none⟩) hl (.slice Bh mh kh)).setCell (a := ⟨bD, 2, none⟩) hl (.slice Dh ph qh))
                          obtain ⟨u8, hwz⟩ : ∃ u, ((World.setCell u7 ⟨bD, 0, none⟩ (.slice Ah nh ch)).setCell ⟨bD, 1, none⟩ (.slice Bh mh kh)).setCell ⟨bD, 2, none⟩ (.slice Dh ph qh) = u := ⟨_, rfl⟩
                          rw [hwz] at HV HBC HBD HSg HSh ⊢
                          clear hl hwz
                          refine soloP HV.out ?_
                          have HF := Lib.hid (show TwoB W1 (fun p q => DoesR a y G p q) (.pointer (some ⟨bC, 0, none⟩)) (.pointer (some ⟨bD, 0, none⟩)) u8 from ⟨bC, bD, Ag, ng, cg, Bg, mg, kg, Dg, pg, qg, Ah, nh, ch, Bh, mh, kh, Dh, ph, qh, sg, sh, rfl, rfl, HV.out, HBC.out, HBD.out, HSg.out, HSh.out, ⟨sl, st, HJl.out, HJt.out, HJg.out, HJh.out⟩⟩)
                          refine wpPlan_stop ?_
                          go_wp2_with fail
                          go_meet
                          exact HF.out
                      · go_wp2_with fail
                        have hkz := (Kept.refl u3).alloc #[.slice none 0 0, .slice none 0 0, .slice none 0 0] 28
                        have HNE := Lib.hid (show bD ≠ u3.heap.size from fun e => by have := HBD.out.lt; omega)
                        replace HSg := Lib.hid (HSg.out.kept hkz)
                        replace HBD := Lib.hid (HBD.out.kept hkz)
                        have HBC := Lib.hid (Box3.new u3 (.slice none 0 0) (.slice none 0 0) (.slice none 0 0) 28)
                        have HLC := Lib.hid HV.out.2.2
                        replace HV := Lib.hid (HV.out.trans hkz)
                        obtain ⟨bC, hbz⟩ : ∃ b, (World.heap u3).size = b := ⟨_, rfl⟩
                        obtain ⟨u4, hwz⟩ : ∃ u, World.alloc u3 (.cells #[.slice none 0 0, .slice none 0 0, .slice none 0 0] 28) = u := ⟨_, rfl⟩
                        rw [hwz] at HBC HV HSg HBD ⊢
                        rw [hbz] at HBC HLC HNE ⊢
                        clear hkz hbz hwz
                        refine soloP HV.out ?_
                        rw [wpPlan_one]
                        simp only [pickOps_cons, pickOps_nil, consO_some, List.getElem?_cons_zero, List.getElem?_cons_succ]
                        go_wp2_with (go_at_call 12; refine (utake_any y.d Ao no co G _ (HG.out.kept HV.out) hno9).mono ?_; rintro e u5 ⟨At, nt, ct, Bt, mt, kt, Dt, pt, qt, st, rfl, hst, hjt, hkz⟩)
                        replace HSg := Lib.hid (HSg.out.kept hkz)
                        replace HBC := Lib.hid (HBC.out.kept hkz)
                        replace HBD := Lib.hid (HBD.out.kept hkz)
                        have HSt := Lib.hid hst
                        have HJt := Lib.hid hjt
                        replace HV := Lib.hid (HV.out.trans hkz)
                        clear hst hjt hkz
                        have hnt : nt ≤ 100000 := by have h1 := HSt.out.el.1; have h2 := HJt.out.1; rw [h2] at h1; simp at h1; omega
                        have hpt : pt ≤ 100000 := by have h1 := HSt.out.dl.1; have h2 := HJt.out.2.2; have h3 := HGL.out; omega
                        refine soloP HV.out ?_
                        rw [wpPlan_one]
                        simp only [pickOps_cons, pickOps_nil, consO_some, List.getElem?_cons_zero, List.getElem?_cons_succ]
                        go_wp2_with (go_at_call 15; refine (uplay_any Aa na ca Ba ma ka Da pa qa a At nt ct Bt mt kt Dt pt qt st _ (HSa.out.kept HV.out) HSt.out HOa.out (take_ord HJt.out.1 HJt.out.2.1) (by omega) (by omega) hnt hpt).mono ?_; rintro e u6 ⟨Ah, nh, ch, Bh, mh, kh, Dh, ph, qh, sh, rfl, hsh, hjh, hkz⟩)
                        clear HSt
                        replace HSg := Lib.hid (HSg.out.kept hkz)
                        replace HBC := Lib.hid (HBC.out.kept hkz)
                        replace HBD := Lib.hid (HBD.out.kept hkz)
                        have HSh := Lib.hid hsh
                        have HJh := Lib.hid hjh
                        replace HV := Lib.hid (HV.out.trans hkz)
                        clear hsh hjh hkz
                        refine soloP HV.out ?_
                        rw [wpPlan_one]
                        simp only [pickOps_cons, pickOps_nil, consO_some, List.getElem?_cons_zero, List.getElem?_cons_succ]
                        have hl := HLC.out
                        have e0 := HBC.out.c0; have e1 := HBC.out.c1; have e2 := HBC.out.c2; have ef0 := HBC.out.f 0; have ef1 := HBC.out.f 1; have ef2 := HBC.out.f 2
                        go_wp2_with fail
                        clear e0 e1 e2 ef0 ef1 ef2
                        replace HSg := Lib.hid (HBC.out.stt (.slice Ag ng cg) (.slice Bg mg kg) (.slice Dg pg qg) HSg.out)
                        replace HSh := Lib.hid (HBC.out.stt (.slice Ag ng cg) (.slice Bg mg kg) (.slice Dg pg qg) HSh.out)
                        replace HBD := Lib.hid (HBD.out.set_far HNE.out (.slice Ag ng cg) (.slice Bg mg kg) (.slice Dg pg qg))
                        replace HBC := Lib.hid (HBC.out.set3 (.slice Ag ng cg) (.slice Bg mg kg) (.slice Dg pg qg))
                        replace HV := Lib.hid (((HV.out.setCell (a := ⟨bC, 0, none⟩) hl (.slice Ag ng cg)).setCell (a := ⟨bC, 1, none⟩) hl (.slice Bg mg kg)).setCell (a := ⟨bC, 2, none⟩) hl (.slice Dg pg qg))
                        obtain ⟨u7, hwz⟩ : ∃ u, ((World.setCell u6 ⟨bC, 0, none⟩ (.slice Ag ng cg)).setCell ⟨bC, 1, none⟩ (.slice Bg mg kg)).setCell ⟨bC, 2, none⟩ (.slice Dg pg qg) = u := ⟨_, rfl⟩
                        rw [hwz] at HV HBC HBD HSg HSh ⊢
                        clear hl hwz
                        refine soloP HV.out ?_
                        rw [wpPlan_one]
                        simp only [pickOps_cons, pickOps_nil, consO_some, List.getElem?_cons_zero, List.getElem?_cons_succ]
                        have hl := HLD.out
                        have e0 := HBD.out.c0; have e1 := HBD.out.c1; have e2 := HBD.out.c2; have ef0 := HBD.out.f 0; have ef1 := HBD.out.f 1; have ef2 := HBD.out.f 2
                        go_wp2_with fail
                        clear e0 e1 e2 ef0 ef1 ef2
                        replace HSg := Lib.hid (HBD.out.stt (.slice Ah nh ch) (.slice Bh mh kh) (.slice Dh ph qh) HSg.out)
                        replace HSh := Lib.hid (HBD.out.stt (.slice Ah nh ch) (.slice Bh mh kh) (.slice Dh ph qh) HSh.out)
                        replace HBC := Lib.hid (HBC.out.set_far HNE.out.symm (.slice Ah nh ch) (.slice Bh mh kh) (.slice Dh ph qh))
                        replace HBD := Lib.hid (HBD.out.set3 (.slice Ah nh ch) (.slice Bh mh kh) (.slice Dh ph qh))
                        replace HV := Lib.hid (((HV.out.setCell (a := ⟨bD, 0, none⟩) hl (.slice Ah nh ch)).setCell (a := ⟨bD, 1, none⟩) hl (.slice Bh mh kh)).setCell (a := ⟨bD, 2, none⟩) hl (.slice Dh ph qh))
                        obtain ⟨u8, hwz⟩ : ∃ u, ((World.setCell u7 ⟨bD, 0, none⟩ (.slice Ah nh ch)).setCell ⟨bD, 1, none⟩ (.slice Bh mh kh)).setCell ⟨bD, 2, none⟩ (.slice Dh ph qh) = u := ⟨_, rfl⟩
                        rw [hwz] at HV HBC HBD HSg HSh ⊢
                        clear hl hwz
                        refine soloP HV.out ?_
                        have HF := Lib.hid (show TwoB W1 (fun p q => DoesR a y G p q) (.pointer (some ⟨bC, 0, none⟩)) (.pointer (some ⟨bD, 0, none⟩)) u8 from ⟨bC, bD, Ag, ng, cg, Bg, mg, kg, Dg, pg, qg, Ah, nh, ch, Bh, mh, kh, Dh, ph, qh, sg, sh, rfl, rfl, HV.out, HBC.out, HBD.out, HSg.out, HSh.out, ⟨sl, st, HJl.out, HJt.out, HJg.out, HJh.out⟩⟩)
                        refine wpPlan_stop ?_
                        go_wp2_with fail
                        go_meet
                        exact HF.out
                    · go_wp2_with fail
                      have hkz := (Kept.refl u2).alloc #[.slice none 0 0, .slice none 0 0, .slice none 0 0] 28
                      have HNE := Lib.hid (show bD ≠ u2.heap.size from fun e => by have := HBD.out.lt; omega)
                      replace HSl := Lib.hid (HSl.out.kept hkz)
                      replace HBD := Lib.hid (HBD.out.kept hkz)
                      have HBC := Lib.hid (Box3.new u2 (.slice none 0 0) (.slice none 0 0) (.slice none 0 0) 28)
                      have HLC := Lib.hid HV.out.2.2
                      replace HV := Lib.hid (HV.out.trans hkz)
                      obtain ⟨bC, hbz⟩ : ∃ b, (World.heap u2).size = b := ⟨_, rfl⟩
                      obtain ⟨u3, hwz⟩ : ∃ u, World.alloc u2 (.cells #[.slice none 0 0, .slice none 0 0, .slice none 0 0] 28) = u := ⟨_, rfl⟩
                      rw [hwz] at HBC HV HSl HBD ⊢
                      rw [hbz] at HBC HLC HNE ⊢
                      clear hkz hbz hwz
                      refine soloP HV.out ?_
                      rw [wpPlan_one]
                      simp only [pickOps_cons, pickOps_nil, consO_some, List.getElem?_cons_zero, List.getElem?_cons_succ]
                      go_wp2_with (go_at_call 15; refine (uplay_any Aa na ca Ba ma ka Da pa qa a Al nl cl Bl ml kl Dl pl ql sl _ (HSa.out.kept HV.out) HSl.out HOa.out (leave_ord HRD.out HJl.out.1 HJl.out.2.1) (by omega) (by omega) hnl hpl).mono ?_; rintro e u4 ⟨Ag, ng, cg, Bg, mg, kg, Dg, pg, qg, sg, rfl, hsg, hjg, hkz⟩)
                      clear HSl
                      replace HBC := Lib.hid (HBC.out.kept hkz)
                      replace HBD := Lib.hid (HBD.out.kept hkz)
                      have HSg := Lib.hid hsg
                      have HJg := Lib.hid hjg
                      replace HV := Lib.hid (HV.out.trans hkz)
                      clear hsg hjg hkz
                      refine soloP HV.out ?_
                      rw [wpPlan_one]
                      simp only [pickOps_cons, pickOps_nil, consO_some, List.getElem?_cons_zero, List.getElem?_cons_succ]
                      go_wp2_with (go_at_call 12; refine (utake_any y.d Ao no co G _ (HG.out.kept HV.out) hno9).mono ?_; rintro e u5 ⟨At, nt, ct, Bt, mt, kt, Dt, pt, qt, st, rfl, hst, hjt, hkz⟩)
                      replace HSg := Lib.hid (HSg.out.kept hkz)
                      replace HBC := Lib.hid (HBC.out.kept hkz)
                      replace HBD := Lib.hid (HBD.out.kept hkz)
                      have HSt := Lib.hid hst
                      have HJt := Lib.hid hjt
                      replace HV := Lib.hid (HV.out.trans hkz)
                      clear hst hjt hkz
                      have hnt : nt ≤ 100000 := by have h1 := HSt.out.el.1; have h2 := HJt.out.1; rw [h2] at h1; simp at h1; omega
                      have hpt : pt ≤ 100000 := by have h1 := HSt.out.dl.1; have h2 := HJt.out.2.2; have h3 := HGL.out; omega
                      refine soloP HV.out ?_
                      rw [wpPlan_one]
                      simp only [pickOps_cons, pickOps_nil, consO_some, List.getElem?_cons_zero, List.getElem?_cons_succ]
                      go_wp2_with (go_at_call 15; refine (uplay_any Aa na ca Ba ma ka Da pa qa a At nt ct Bt mt kt Dt pt qt st _ (HSa.out.kept HV.out) HSt.out HOa.out (take_ord HJt.out.1 HJt.out.2.1) (by omega) (by omega) hnt hpt).mono ?_; rintro e u6 ⟨Ah, nh, ch, Bh, mh, kh, Dh, ph, qh, sh, rfl, hsh, hjh, hkz⟩)
                      clear HSt
                      replace HSg := Lib.hid (HSg.out.kept hkz)
                      replace HBC := Lib.hid (HBC.out.kept hkz)
                      replace HBD := Lib.hid (HBD.out.kept hkz)
                      have HSh := Lib.hid hsh
                      have HJh := Lib.hid hjh
                      replace HV := Lib.hid (HV.out.trans hkz)
                      clear hsh hjh hkz
                      refine soloP HV.out ?_
                      rw [wpPlan_one]
                      simp only [pickOps_cons, pickOps_nil, consO_some, List.getElem?_cons_zero, List.getElem?_cons_succ]
                      have hl := HLC.out
                      have e0 := HBC.out.c0; have e1 := HBC.out.c1; have e2 := HBC.out.c2; have ef0 := HBC.out.f 0; have ef1 := HBC.out.f 1; have ef2 := HBC.out.f 2
                      go_wp2_with fail
                      clear e0 e1 e2 ef0 ef1 ef2
                      replace HSg := Lib.hid (HBC.out.stt (.slice Ag ng cg) (.slice Bg mg kg) (.slice Dg pg qg) HSg.out)
                      replace HSh := Lib.hid (HBC.out.stt (.slice Ag ng cg) (.slice Bg mg kg) (.slice Dg pg qg) HSh.out)
                      replace HBD := Lib.hid (HBD.out.set_far HNE.out (.slice Ag ng cg) (.slice Bg mg kg) (.slice Dg pg qg))
                      replace HBC := Lib.hid (HBC.out.set3 (.slice Ag ng cg) (.slice Bg mg kg) (.slice Dg pg qg))
                      replace HV := Lib.hid (((HV.out.setCell (a := ⟨bC, 0, none⟩) hl (.slice Ag ng cg)).setCell (a := ⟨bC, 1, none⟩) hl (.slice Bg mg kg)).setCell (a := ⟨bC, 2, none⟩) hl (.slice Dg pg qg))
                      obtain ⟨u7, hwz⟩ : ∃ u, ((World.setCell u6 ⟨bC, 0, none⟩ (.slice Ag ng cg)).setCell ⟨bC, 1, none⟩ (.slice Bg mg kg)).setCell ⟨bC, 2, none⟩ (.slice Dg pg qg) = u := ⟨_, rfl⟩
                      rw [hwz] at HV HBC HBD HSg HSh ⊢
                      clear hl hwz
                      refine soloP HV.out ?_
                      rw [wpPlan_one]
                      simp only [pickOps_cons, pickOps_nil, consO_some, List.getElem?_cons_zero, List.getElem?_cons_succ]
                      have hl := HLD.out
                      have e0 := HBD.out.c0; have e1 := HBD.out.c1; have e2 := HBD.out.c2; have ef0 := HBD.out.f 0; have ef1 := HBD.out.f 1; have ef2 := HBD.out.f 2
                      go_wp2_with fail
                      clear e0 e1 e2 ef0 ef1 ef2
                      replace HSg := Lib.hid (HBD.out.stt (.slice Ah nh ch) (.slice Bh mh kh) (.slice Dh ph qh) HSg.out)
                      replace HSh := Lib.hid (HBD.out.stt (.slice Ah nh ch) (.slice Bh mh kh) (.slice Dh ph qh) HSh.out)
                      replace HBC := Lib.hid (HBC.out.set_far HNE.out.symm (.slice Ah nh ch) (.slice Bh mh kh) (.slice Dh ph qh))
                      replace HBD := Lib.hid (HBD.out.set3 (.slice Ah nh ch) (.slice Bh mh kh) (.slice Dh ph qh))
                      replace HV := Lib.hid (((HV.out.setCell (a := ⟨bD, 0, none⟩) hl (.slice Ah nh ch)).setCell (a := ⟨bD, 1, none⟩) hl (.slice Bh mh kh)).setCell (a := ⟨bD, 2, none⟩) hl (.slice Dh ph qh))
                      obtain ⟨u8, hwz⟩ : ∃ u, ((World.setCell u7 ⟨bD, 0, none⟩ (.slice Ah nh ch)).setCell ⟨bD, 1, none⟩ (.slice Bh mh kh)).setCell ⟨bD, 2, none⟩ (.slice Dh ph qh) = u := ⟨_, rfl⟩
                      rw [hwz] at HV HBC HBD HSg HSh ⊢
                      clear hl hwz
                      refine soloP HV.out ?_
                      have HF := Lib.hid (show TwoB W1 (fun p q => DoesR a y G p q) (.pointer (some ⟨bC, 0, none⟩)) (.pointer (some ⟨bD, 0, none⟩)) u8 from ⟨bC, bD, Ag, ng, cg, Bg, mg, kg, Dg, pg, qg, Ah, nh, ch, Bh, mh, kh, Dh, ph, qh, sg, sh, rfl, rfl, HV.out, HBC.out, HBD.out, HSg.out, HSh.out, ⟨sl, st, HJl.out, HJt.out, HJg.out, HJh.out⟩⟩)
                      refine wpPlan_stop ?_
                      go_wp2_with fail
                      go_meet
                      exact HF.out
                  · go_wp2_with fail
                    have hkz := (Kept.refl u1).alloc #[.slice none 0 0, .slice none 0 0, .slice none 0 0] 28
                    have HNE := Lib.hid (show bD ≠ u1.heap.size from fun e => by have := HBD.out.lt; omega)
                    replace HBD := Lib.hid (HBD.out.kept hkz)
                    have HBC := Lib.hid (Box3.new u1 (.slice none 0 0) (.slice none 0 0) (.slice none 0 0) 28)
                    have HLC := Lib.hid HV.out.2.2
                    replace HV := Lib.hid (HV.out.trans hkz)
                    obtain ⟨bC, hbz⟩ : ∃ b, (World.heap u1).size = b := ⟨_, rfl⟩
                    obtain ⟨u2, hwz⟩ : ∃ u, World.alloc u1 (.cells #[.slice none 0 0, .slice none 0 0, .slice none 0 0] 28) = u := ⟨_, rfl⟩
                    rw [hwz] at HBC HV HBD ⊢
                    rw [hbz] at HBC HLC HNE ⊢
                    clear hkz hbz hwz
                    refine soloP HV.out ?_
                    rw [wpPlan_one]
                    simp only [pickOps_cons, pickOps_nil, consO_some, List.getElem?_cons_zero, List.getElem?_cons_succ]
                    go_wp2_with (go_at_call 10; refine (uleave_any y Ao no co G _ (HG.out.kept HV.out) hno9).mono ?_; rintro e u3 ⟨Al, nl, cl, Bl, ml, kl, Dl, pl, ql, sl, rfl, hsl, hjl, hkz⟩)
                    replace HBC := Lib.hid (HBC.out.kept hkz)
                    replace HBD := Lib.hid (HBD.out.kept hkz)
                    have HSl := Lib.hid hsl
                    have HJl := Lib.hid hjl
                    replace HV := Lib.hid (HV.out.trans hkz)
                    clear hsl hjl hkz
                    have hnl : nl ≤ 100000 := by have h1 := HSl.out.el.1; have h2 := HJl.out.1; rw [h2] at h1; simp at h1; omega
                    have hpl : pl ≤ 100000 := by have h1 := HSl.out.dl.1; have h2 := HJl.out.2.2; have h3 := HGL.out; omega
                    refine soloP HV.out ?_
                    rw [wpPlan_one]
                    simp only [pickOps_cons, pickOps_nil, consO_some, List.getElem?_cons_zero, List.getElem?_cons_succ]
                    go_wp2_with (go_at_call 15; refine (uplay_any Aa na ca Ba ma ka Da pa qa a Al nl cl Bl ml kl Dl pl ql sl _ (HSa.out.kept HV.out) HSl.out HOa.out (leave_ord HRD.out HJl.out.1 HJl.out.2.1) (by omega) (by omega) hnl hpl).mono ?_; rintro e u4 ⟨Ag, ng, cg, Bg, mg, kg, Dg, pg, qg, sg, rfl, hsg, hjg, hkz⟩)
                    clear HSl
                    replace HBC := Lib.hid (HBC.out.kept hkz)
                    replace HBD := Lib.hid (HBD.out.kept hkz)
                    have HSg := Lib.hid hsg
                    have HJg := Lib.hid hjg
                    replace HV := Lib.hid (HV.out.trans hkz)
                    clear hsg hjg hkz
                    refine soloP HV.out ?_
                    rw [wpPlan_one]
                    simp only [pickOps_cons, pickOps_nil, consO_some, List.getElem?_cons_zero, List.getElem?_cons_succ]
                    go_wp2_with (go_at_call 12; refine (utake_any y.d Ao no co G _ (HG.out.kept HV.out) hno9).mono ?_; rintro e u5 ⟨At, nt, ct, Bt, mt, kt, Dt, pt, qt, st, rfl, hst, hjt, hkz⟩)
                    replace HSg := Lib.hid (HSg.out.kept hkz)
                    replace HBC := Lib.hid (HBC.out.kept hkz)
                    replace HBD := Lib.hid (HBD.out.kept hkz)
                    have HSt := Lib.hid hst
                    have HJt := Lib.hid hjt
                    replace HV := Lib.hid (HV.out.trans hkz)
                    clear hst hjt hkz
                    have hnt : nt ≤ 100000 := by have h1 := HSt.out.el.1; have h2 := HJt.out.1; rw [h2] at h1; simp at h1; omega
                    have hpt : pt ≤ 100000 := by have h1 := HSt.out.dl.1; have h2 := HJt.out.2.2; have h3 := HGL.out; omega
                    refine soloP HV.out ?_
                    rw [wpPlan_one]
                    simp only [pickOps_cons, pickOps_nil, consO_some, List.getElem?_cons_zero, List.getElem?_cons_succ]
                    go_wp2_with (go_at_call 15; refine (uplay_any Aa na ca Ba ma ka Da pa qa a At nt ct Bt mt kt Dt pt qt st _ (HSa.out.kept HV.out) HSt.out HOa.out (take_ord HJt.out.1 HJt.out.2.1) (by omega) (by omega) hnt hpt).mono ?_; rintro e u6 ⟨Ah, nh, ch, Bh, mh, kh, Dh, ph, qh, sh, rfl, hsh, hjh, hkz⟩)
                    clear HSt
                    replace HSg := Lib.hid (HSg.out.kept hkz)
                    replace HBC := Lib.hid (HBC.out.kept hkz)
                    replace HBD := Lib.hid (HBD.out.kept hkz)
                    have HSh := Lib.hid hsh
                    have HJh := Lib.hid hjh
                    replace HV := Lib.hid (HV.out.trans hkz)
                    clear hsh hjh hkz
                    refine soloP HV.out ?_
                    rw [wpPlan_one]
                    simp only [pickOps_cons, pickOps_nil, consO_some, List.getElem?_cons_zero, List.getElem?_cons_succ]
                    have hl := HLC.out
                    have e0 := HBC.out.c0; have e1 := HBC.out.c1; have e2 := HBC.out.c2; have ef0 := HBC.out.f 0; have ef1 := HBC.out.f 1; have ef2 := HBC.out.f 2
                    go_wp2_with fail
                    clear e0 e1 e2 ef0 ef1 ef2
                    replace HSg := Lib.hid (HBC.out.stt (.slice Ag ng cg) (.slice Bg mg kg) (.slice Dg pg qg) HSg.out)
                    replace HSh := Lib.hid (HBC.out.stt (.slice Ag ng cg) (.slice Bg mg kg) (.slice Dg pg qg) HSh.out)
                    replace HBD := Lib.hid (HBD.out.set_far HNE.out (.slice Ag ng cg) (.slice Bg mg kg) (.slice Dg pg qg))
                    replace HBC := Lib.hid (HBC.out.set3 (.slice Ag ng cg) (.slice Bg mg kg) (.slice Dg pg qg))
                    replace HV := Lib.hid (((HV.out.setCell (a := ⟨bC, 0, none⟩) hl (.slice Ag ng cg)).setCell (a := ⟨bC, 1, none⟩) hl (.slice Bg mg kg)).setCell (a := ⟨bC, 2, none⟩) hl (.slice Dg pg qg))
                    obtain ⟨u7, hwz⟩ : ∃ u, ((World.setCell u6 ⟨bC, 0, none⟩ (.slice Ag ng cg)).setCell ⟨bC, 1, none⟩ (.slice Bg mg kg)).setCell ⟨bC, 2, none⟩ (.slice Dg pg qg) = u := ⟨_, rfl⟩
                    rw [hwz] at HV HBC HBD HSg HSh ⊢
                    clear hl hwz
                    refine soloP HV.out ?_
                    rw [wpPlan_one]
                    simp only [pickOps_cons, pickOps_nil, consO_some, List.getElem?_cons_zero, List.getElem?_cons_succ]
                    have hl := HLD.out
                    have e0 := HBD.out.c0; have e1 := HBD.out.c1; have e2 := HBD.out.c2; have ef0 := HBD.out.f 0; have ef1 := HBD.out.f 1; have ef2 := HBD.out.f 2
                    go_wp2_with fail
                    clear e0 e1 e2 ef0 ef1 ef2
                    replace HSg := Lib.hid (HBD.out.stt (.slice Ah nh ch) (.slice Bh mh kh) (.slice Dh ph qh) HSg.out)
                    replace HSh := Lib.hid (HBD.out.stt (.slice Ah nh ch) (.slice Bh mh kh) (.slice Dh ph qh) HSh.out)
                    replace HBC := Lib.hid (HBC.out.set_far HNE.out.symm (.slice Ah nh ch) (.slice Bh mh kh) (.slice Dh ph qh))
                    replace HBD := Lib.hid (HBD.out.set3 (.slice Ah nh ch) (.slice Bh mh kh) (.slice Dh ph qh))
                    replace HV := Lib.hid (((HV.out.setCell (a := ⟨bD, 0, none⟩) hl (.slice Ah nh ch)).setCell (a := ⟨bD, 1, none⟩) hl (.slice Bh mh kh)).setCell (a := ⟨bD, 2, none⟩) hl (.slice Dh ph qh))
                    obtain ⟨u8, hwz⟩ : ∃ u, ((World.setCell u7 ⟨bD, 0, none⟩ (.slice Ah nh ch)).setCell ⟨bD, 1, none⟩ (.slice Bh mh kh)).setCell ⟨bD, 2, none⟩ (.slice Dh ph qh) = u := ⟨_, rfl⟩
                    rw [hwz] at HV HBC HBD HSg HSh ⊢
                    clear hl hwz
                    refine soloP HV.out ?_
                    have HF := Lib.hid (show TwoB W1 (fun p q => DoesR a y G p q) (.pointer (some ⟨bC, 0, none⟩)) (.pointer (some ⟨bD, 0, none⟩)) u8 from ⟨bC, bD, Ag, ng, cg, Bg, mg, kg, Dg, pg, qg, Ah, nh, ch, Bh, mh, kh, Dh, ph, qh, sg, sh, rfl, rfl, HV.out, HBC.out, HBD.out, HSg.out, HSh.out, ⟨sl, st, HJl.out, HJt.out, HJg.out, HJh.out⟩⟩)
                    refine wpPlan_stop ?_
                    go_wp2_with fail
                    go_meet
                    exact HF.out
              case rest =>
                clear Y0 Y1 Y2
                clear X0 X1 X2 X3 X4 X5 X6 X7 X8
                clear D0 D1
                obtain ⟨bp, bq, Ag, ng, cg, Bg, mg, kg, Dg, pg, qg, Ah, nh, ch, Bh, mh, kh, Dh, ph, qh, p, q, rfl, rfl, hkz, hbp, hbq, hsp, hsq, hdr⟩ := hcut
                replace HK := Lib.hid (HK.out.trans hkz)
                replace HBa := Lib.hid (HBa.out.kept hkz); replace HX := Lib.hid (HX.out.kept hkz); replace HD := Lib.hid (HD.out.kept hkz); replace HSa := Lib.hid (HSa.out.kept hkz); replace HG := Lib.hid (HG.out.kept hkz)
                have HBp := Lib.hid hbp; have HBq := Lib.hid hbq; have HSp := Lib.hid hsp; have HSq := Lib.hid hsq
                have HC := Lib.hid (show DoesC a y G p q from ⟨hdr, HOK.out, HNEW.out, HRY.out, HSUB.out⟩)
                have hlen := does_len HC.out
                have hfew := does_few HC.out
                have l1 := HSp.out.el.1; have l2 := HSq.out.el.1; have l3 := HSa.out.el.1; have l4 := HGL.out; have l5 := HSp.out.dl.1; have l6 := HSq.out.dl.1; have l7 := HSa.out.dl.1
                have hng : ng = nh + 1 := by omega
                have hnaq : na = nh + no := by omega
                have hng9 : ng ≤ 100000 := by omega
                have hnh9 : nh ≤ 100000 := by omega
                have hpg9 : pg ≤ 100000 := by omega
                have hph9 : ph ≤ 100000 := by omega
                have HNG := Lib.hid hng; have HNA := Lib.hid hnaq
                have hw1 : IntKind.i64.wrap ((nh : Int) + 1) = (ng : Int) := by rw [IntWalk.i64_in _ (by omega)]; omega
                have hw2 : IntKind.i64.wrap ((na : Int) - (no : Int)) = (nh : Int) := by rw [IntWalk.i64_in _ (by omega)]; omega
                have HZA := Lib.hid (show ∀ v ∈ a.L, v.p.size ≤ 1099511627776 ∧ v.vt.size ≤ 1099511627776 from fun v hv => ⟨Nat.le_trans (HSZ.out v hv).1 (by decide), Nat.le_trans (HSZ.out v hv).2 (by decide)⟩)
                have HZY := Lib.hid (show y.p.size ≤ 1099511627776 ∧ y.vt.size ≤ 1099511627776 by rw [HYE.out.1, HYE.out.2.2.2.2.1]; exact ⟨Nat.le_trans HXZ.out.1 (by decide), Nat.le_trans HXZ.out.2 (by decide)⟩)
                clear hkz hbp hbq hsp hsq hdr hlen hfew l1 l2 l3 l4 l5 l6 l7 hng hnaq
                obtain ⟨W2, hW2⟩ : ∃ W2, wc = W2 := ⟨_, rfl⟩
                rw [hW2] at HK HBa HX HD HSa HG HBp HBq HSp HSq ⊢
                clear hW2
                have bp0 := HBp.out.c0; have bp1 := HBp.out.c1; have bp2 := HBp.out.c2
                have bq0 := HBq.out.c0; have bq1 := HBq.out.c1; have bq2 := HBq.out.c2
                have d0 := HD.out.c0; have d1 := HD.out.c1
                have ya0 := HBa.out.c0; have ya1 := HBa.out.c1; have ya2 := HBa.out.c2
                go_wp2_with fail
                go_at_call 18
                refine (ghas_any Ba ma ka a.V Da pa qa a.C y.d.1 y.d.2 _ HSa.out.il HSa.out.dl false (decide_eq_false HNEW.out)).mono ?_
                rintro e w11 ⟨rfl, hkz⟩
                replace HK := Lib.hid (HK.out.trans hkz)
                replace HBa := Lib.hid (HBa.out.kept hkz); replace HX := Lib.hid (HX.out.kept hkz); replace HD := Lib.hid (HD.out.kept hkz); replace HSa := Lib.hid (HSa.out.kept hkz); replace HG := Lib.hid (HG.out.kept hkz); replace HBp := Lib.hid (HBp.out.kept hkz); replace HBq := Lib.hid (HBq.out.kept hkz); replace HSp := Lib.hid (HSp.out.kept hkz); replace HSq := Lib.hid (HSq.out.kept hkz)
                clear hkz
                clear bp0 bp1 bp2
                clear bq0 bq1 bq2
                clear d0 d1
                clear ya0 ya1 ya2
                have bp0 := HBp.out.c0; have bp1 := HBp.out.c1; have bp2 := HBp.out.c2
                have bq0 := HBq.out.c0; have bq1 := HBq.out.c1; have bq2 := HBq.out.c2
                have d0 := HD.out.c0; have d1 := HD.out.c1
                have ya0 := HBa.out.c0; have ya1 := HBa.out.c1; have ya2 := HBa.out.c2
                go_wp2_with fail
                go_at_call 18
                refine (ghas_any Bg mg kg p.V Dg pg qg p.C y.d.1 y.d.2 _ HSp.out.il HSp.out.dl true (decide_eq_true (does_hasp HC.out))).mono ?_
                rintro e w12 ⟨rfl, hkz⟩
                replace HK := Lib.hid (HK.out.trans hkz)
                replace HBa := Lib.hid (HBa.out.kept hkz); replace HX := Lib.hid (HX.out.kept hkz); replace HD := Lib.hid (HD.out.kept hkz); replace HSa := Lib.hid (HSa.out.kept hkz); replace HG := Lib.hid (HG.out.kept hkz); replace HBp := Lib.hid (HBp.out.kept hkz); replace HBq := Lib.hid (HBq.out.kept hkz); replace HSp := Lib.hid (HSp.out.kept hkz); replace HSq := Lib.hid (HSq.out.kept hkz)
                clear hkz
                clear bp0 bp1 bp2
                clear bq0 bq1 bq2
                clear d0 d1
                clear ya0 ya1 ya2
                have bp0 := HBp.out.c0; have bp1 := HBp.out.c1; have bp2 := HBp.out.c2
                have bq0 := HBq.out.c0; have bq1 := HBq.out.c1; have bq2 := HBq.out.c2
                have d0 := HD.out.c0; have d1 := HD.out.c1
                have ya0 := HBa.out.c0; have ya1 := HBa.out.c1; have ya2 := HBa.out.c2
                go_wp2_with fail
                go_at_call 18
                refine (ghas_any Bh mh kh q.V Dh ph qh q.C y.d.1 y.d.2 _ HSq.out.il HSq.out.dl true (decide_eq_true (does_hasq HC.out))).mono ?_
                rintro e w13 ⟨rfl, hkz⟩
                replace HK := Lib.hid (HK.out.trans hkz)
                replace HBa := Lib.hid (HBa.out.kept hkz); replace HX := Lib.hid (HX.out.kept hkz); replace HD := Lib.hid (HD.out.kept hkz); replace HSa := Lib.hid (HSa.out.kept hkz); replace HG := Lib.hid (HG.out.kept hkz); replace HBp := Lib.hid (HBp.out.kept hkz); replace HBq := Lib.hid (HBq.out.kept hkz); replace HSp := Lib.hid (HSp.out.kept hkz); replace HSq := Lib.hid (HSq.out.kept hkz)
                clear hkz
                clear bp0 bp1 bp2
                clear bq0 bq1 bq2
                clear d0 d1
                clear ya0 ya1 ya2
                have bp0 := HBp.out.c0; have bp1 := HBp.out.c1; have bp2 := HBp.out.c2
                have bq0 := HBq.out.c0; have bq1 := HBq.out.c1; have bq2 := HBq.out.c2
                have d0 := HD.out.c0; have d1 := HD.out.c1
                have ya0 := HBa.out.c0; have ya1 := HBa.out.c1; have ya2 := HBa.out.c2
                go_wp2_with fail
                go_at_call 19
                refine (sright_any Ag ng cg p.L Bg mg kg p.V Dg pg qg p.C _ HSp.out.el HSp.out.il HSp.out.dl (does_okp HC.out).ctx hng9 hpg9 (does_sizep HC.out HZA.out HZY.out.1 HZY.out.2) true ⟨fun _ => does_okp HC.out, fun _ => rfl⟩).mono ?_
                rintro e w14 ⟨rfl, hkz⟩
                replace HK := Lib.hid (HK.out.trans hkz)
                replace HBa := Lib.hid (HBa.out.kept hkz); replace HX := Lib.hid (HX.out.kept hkz); replace HD := Lib.hid (HD.out.kept hkz); replace HSa := Lib.hid (HSa.out.kept hkz); replace HG := Lib.hid (HG.out.kept hkz); replace HBp := Lib.hid (HBp.out.kept hkz); replace HBq := Lib.hid (HBq.out.kept hkz); replace HSp := Lib.hid (HSp.out.kept hkz); replace HSq := Lib.hid (HSq.out.kept hkz)
                clear hkz
                clear bp0 bp1 bp2
                clear bq0 bq1 bq2
                clear d0 d1
                clear ya0 ya1 ya2
                have bp0 := HBp.out.c0; have bp1 := HBp.out.c1; have bp2 := HBp.out.c2
                have bq0 := HBq.out.c0; have bq1 := HBq.out.c1; have bq2 := HBq.out.c2
                have d0 := HD.out.c0; have d1 := HD.out.c1
                have ya0 := HBa.out.c0; have ya1 := HBa.out.c1; have ya2 := HBa.out.c2
                go_wp2_with fail
                go_at_call 19
                refine (sright_any Ah nh ch q.L Bh mh kh q.V Dh ph qh q.C _ HSq.out.el HSq.out.il HSq.out.dl (does_okq HC.out).ctx hnh9 hph9 (does_sizeq HC.out HZA.out) true ⟨fun _ => does_okq HC.out, fun _ => rfl⟩).mono ?_
                rintro e w15 ⟨rfl, hkz⟩
                replace HK := Lib.hid (HK.out.trans hkz)
                replace HBa := Lib.hid (HBa.out.kept hkz); replace HX := Lib.hid (HX.out.kept hkz); replace HD := Lib.hid (HD.out.kept hkz); replace HSa := Lib.hid (HSa.out.kept hkz); replace HG := Lib.hid (HG.out.kept hkz); replace HBp := Lib.hid (HBp.out.kept hkz); replace HBq := Lib.hid (HBq.out.kept hkz); replace HSp := Lib.hid (HSp.out.kept hkz); replace HSq := Lib.hid (HSq.out.kept hkz)
                clear hkz
                clear bp0 bp1 bp2
                clear bq0 bq1 bq2
                clear d0 d1
                clear ya0 ya1 ya2
                have bp0 := HBp.out.c0; have bp1 := HBp.out.c1; have bp2 := HBp.out.c2
                have bq0 := HBq.out.c0; have bq1 := HBq.out.c1; have bq2 := HBq.out.c2
                have d0 := HD.out.c0; have d1 := HD.out.c1
                have ya0 := HBa.out.c0; have ya1 := HBa.out.c1; have ya2 := HBa.out.c2
                go_wp2_with fail
                go_at_call 20
                refine (get_any Ag ng cg p.L (.slice Bg mg kg) (.slice Dg pg qg) y.d.1 y.d.2 _ HSp.out.el (does_okp HC.out).rise (by omega) true (hasE_iff.2 ⟨y, does_y HC.out, rfl⟩)).mono ?_
                rintro e w16 ⟨yv, rfl, hyv, _, hkz⟩
                have hyy := does_gety HC.out (hyv rfl).1 (hyv rfl).2
                rw [hyy]
                have hka := (Kept.refl w16).alloc #[.int .i64 y.d.1, .int .i64 y.d.2, .string y.p, .int .i64 y.k, .int .i64 y.vk, .int .i64 y.vn, .string y.vt, .int .i64 y.e.1, .int .i64 y.e.2] 34
                have hkk := hkz.trans hka
                replace HK := Lib.hid (HK.out.trans hkk)
                replace HBa := Lib.hid (HBa.out.kept hkk); replace HX := Lib.hid (HX.out.kept hkk); replace HD := Lib.hid (HD.out.kept hkk); replace HSa := Lib.hid (HSa.out.kept hkk); replace HG := Lib.hid (HG.out.kept hkk); replace HBp := Lib.hid (HBp.out.kept hkk); replace HBq := Lib.hid (HBq.out.kept hkk); replace HSp := Lib.hid (HSp.out.kept hkk); replace HSq := Lib.hid (HSq.out.kept hkk)
                have HYV := Lib.hid (Ent.new w16 y 34)
                clear hyy hyv hkz hka hkk
                clear bp0 bp1 bp2
                clear bq0 bq1 bq2
                clear d0 d1
                clear ya0 ya1 ya2
                have ya0 := HBa.out.c0
                obtain ⟨W3, hW3⟩ : ∃ W3, w16.alloc (.cells #[.int .i64 y.d.1, .int .i64 y.d.2, .string y.p, .int .i64 y.k, .int .i64 y.vk, .int .i64 y.vn, .string y.vt, .int .i64 y.e.1, .int .i64 y.e.2] 34) = W3 := ⟨_, rfl⟩
                have ya0' := ya0
                rw [hW3] at HK HBa HX HD HSa HG HBp HBq HSp HSq HYV ya0'
                have HW3 := Lib.hid hW3
                clear hW3
                go_wp2_with fail
                rw [HW3.out]
                clear ya0 ya0' HW3
                go_loopw [136] (fun i wr => ∃ k : Nat, k ≤ na ∧ i = .int .i64 k ∧ Kept W3 wr) (fun i _ => na - (intOf i).toNat)
                case atStart => exact ⟨0, Nat.zero_le _, rfl, Kept.refl _⟩
                case round =>
                  obtain ⟨k, hk, rfl, hkw⟩ := hrel
                  have HKW := Lib.hid hkw
                  clear hkw
                  by_cases hlt : k < na
                  · obtain ⟨g, o, z, rfl, hz, EZ⟩ := (HSa.out.kept HKW.out).el.get hlt
                    have hzm := List.mem_of_getElem? hz
                    have z0 := EZ.c0; have z1 := EZ.c1; have z2 := EZ.c2; have z3 := EZ.c3; have z4 := EZ.c4; have z5 := EZ.c5; have z6 := EZ.c6; have z7 := EZ.c7; have z8 := EZ.c8
                    have hka := (Kept.refl wr).alloc #[.int .i64 z.d.1, .int .i64 z.d.2, .string z.p, .int .i64 z.k, .int .i64 z.vk, .int .i64 z.vn, .string z.vt, .int .i64 z.e.1, .int .i64 z.e.2] 34
                    have hkb := HKW.out.trans hka
                    have b2 := HBp.out.kept hkb
                    have b0 := b2.c0; have b1 := b2.c1; have b3 := b2.c2
                    have HEZ := Lib.hid (Ent.new wr z 34)
                    have HKB := Lib.hid hkb
                    obtain ⟨r, hr⟩ : ∃ r, decide (z.d ∈ G) = r := ⟨_, rfl⟩
                    have HRR := Lib.hid hr
                    have hzz : hasE p.L z.d = !r := by
                      rw [Bool.eq_iff_iff, does_mem HC.out hzm, ← hr]
                      simp
                    have HZM := Lib.hid hzm; have HZZ := Lib.hid hzz
                    clear EZ hz hka hkb b2 hr hzm hzz
                    go_wp2_with fail
                    go_at_call 20
                    refine (get_any Ag ng cg p.L (.slice Bg mg kg) (.slice Dg pg qg) z.d.1 z.d.2 _ (HSp.out.el.kept HKB.out) (does_okp HC.out).rise (by omega) (!r) HZZ.out).mono ?_
                    rintro e w18 ⟨vv, rfl, hv1, _, hkz⟩
                    have HV1 := Lib.hid hv1
                    have hka := (Kept.refl w18).alloc #[.int .i64 vv.d.1, .int .i64 vv.d.2, .string vv.p, .int .i64 vv.k, .int .i64 vv.vk, .int .i64 vv.vn, .string vv.vt, .int .i64 vv.e.1, .int .i64 vv.e.2] 34
                    have hkk := hkz.trans hka
                    have HEV := Lib.hid (Ent.new w18 vv 34)
                    replace HEZ := Lib.hid (HEZ.out.kept hkk)
                    have HKC := Lib.hid (HKB.out.trans hkk)
                    clear hv1 hkz hka hkk HKB z0 z1 z2 z3 z4 z5 z6 z7 z8 b0 b1 b3
                    have ez0 := HEZ.out.c0; have ez1 := HEZ.out.c1
                    have AH := Lib.hid (fun w h => dhas_c Ao no co G z.d r HRR.out w h)
                    go_wp2_with fail
                    go_at_call 21
                    refine (AH.out _ (HG.out.kept HKC.out)).mono ?_
                    rintro e w19 ⟨rfl, hkz⟩
                    have HKD := Lib.hid (HKC.out.trans hkz)
                    replace HEZ := Lib.hid (HEZ.out.kept hkz)
                    replace HEV := Lib.hid (HEV.out.kept hkz)
                    clear hkz ez0 ez1 HKC AH
                    cases r with
                    | true =>
                      simp only [Bool.not_true] at HV1 HZZ ⊢
                      go_wp2_with fail
                      go_roundw
                      case rel => exact ⟨k + 1, hlt, by go_num, HKD.out⟩
                      case measure => simp [intOf]; omega
                    | false =>
                      simp only [Bool.not_false] at HV1 HZZ ⊢
                      have hvz := does_got HC.out HZM.out (HV1.out trivial).1 (HV1.out trivial).2
                      rw [hvz] at HEV ⊢
                      clear hvz
                      have ez0 := HEZ.out.c0; have ez1 := HEZ.out.c1; have ez2 := HEZ.out.c2; have ez3 := HEZ.out.c3; have ez4 := HEZ.out.c4; have ez5 := HEZ.out.c5; have ez6 := HEZ.out.c6; have ez7 := HEZ.out.c7; have ez8 := HEZ.out.c8
                      have ev0 := HEV.out.c0; have ev1 := HEV.out.c1; have ev2 := HEV.out.c2; have ev3 := HEV.out.c3; have ev4 := HEV.out.c4; have ev5 := HEV.out.c5; have ev6 := HEV.out.c6; have ev7 := HEV.out.c7; have ev8 := HEV.out.c8
                      go_wp2_with fail
                      clear ez0 ez1 ez2 ez3 ez4 ez5 ez6 ez7 ez8 ev0 ev1 ev2 ev3 ev4 ev5 ev6 ev7 ev8
                      go_roundw
                      case rel => exact ⟨k + 1, hlt, by go_num, HKD.out⟩
                      case measure => simp [intOf]; omega
                  · have hkna : k = na := by omega
                    rw [hkna] at ⊢
                    have HKF := Lib.hid (HK.out.trans HKW.out)
                    have v0 := HYV.out.kept HKW.out
                    have x0 := HX.out.kept HKW.out
                    have va0 := v0.c0; have va1 := v0.c1; have va2 := v0.c2; have va3 := v0.c3; have va4 := v0.c4; have va5 := v0.c5; have va6 := v0.c6; have va7 := v0.c7; have va8 := v0.c8
                    have xa0 := x0.ent.c0; have xa1 := x0.ent.c1; have xa2 := x0.ent.c2; have xa3 := x0.ent.c3; have xa4 := x0.ent.c4; have xa5 := x0.ent.c5; have xa6 := x0.ent.c6; have xa7 := x0.ent.c7; have xa8 := x0.ent.c8
                    clear v0 x0 hkna hlt hk
                    go_wp2_with fail
                    go_at_call 7
                    refine (uawake_any _).mono ?_
                    rintro e wz ⟨rfl, hkz⟩
                    replace HKF := Lib.hid (HKF.out.trans hkz)
                    clear hkz va0 va1 va2 va3 va4 va5 va6 va7 va8 xa0 xa1 xa2 xa3 xa4 xa5 xa6 xa7 xa8
                    go_wp2_with fail
                    go_ret
                    exact ⟨rfl, HKF.out⟩
        · have ya0 := HBa.out.c0; have ya1 := HBa.out.c1; have ya2 := HBa.out.c2
          have xc0 := HX.out.ent.c0; have xc1 := HX.out.ent.c1; have xc2 := HX.out.ent.c2; have xc3 := HX.out.ent.c3; have xc4 := HX.out.ent.c4; have xc5 := HX.out.ent.c5; have xc6 := HX.out.ent.c6; have xc7 := HX.out.ent.c7; have xc8 := HX.out.ent.c8
          go_enter Tryz.func4, Tryz.ntmps4
          go_wp2_with fail
          go_at_call 5
          refine (FL.out _ HSa.out).mono ?_
          rintro e w1 ⟨rfl, hkz⟩
          replace HK := Lib.hid (HK.out.trans hkz)
          replace HBa := Lib.hid (HBa.out.kept hkz); replace HX := Lib.hid (HX.out.kept hkz); replace HSa := Lib.hid (HSa.out.kept hkz)
          clear hkz
          clear ya0 ya1 ya2
          clear xc0 xc1 xc2 xc3 xc4 xc5 xc6 xc7 xc8
          have ya0 := HBa.out.c0; have ya1 := HBa.out.c1; have ya2 := HBa.out.c2
          have xc0 := HX.out.ent.c0; have xc1 := HX.out.ent.c1; have xc2 := HX.out.ent.c2; have xc3 := HX.out.ent.c3; have xc4 := HX.out.ent.c4; have xc5 := HX.out.ent.c5; have xc6 := HX.out.ent.c6; have xc7 := HX.out.ent.c7; have xc8 := HX.out.ent.c8
          go_wp2_with fail
          go_at_call 6
          refine (FR.out _ HSa.out).mono ?_
          rintro e w2 ⟨rfl, hkz⟩
          replace HK := Lib.hid (HK.out.trans hkz)
          replace HBa := Lib.hid (HBa.out.kept hkz); replace HX := Lib.hid (HX.out.kept hkz); replace HSa := Lib.hid (HSa.out.kept hkz)
          clear hkz
          clear ya0 ya1 ya2
          clear xc0 xc1 xc2 xc3 xc4 xc5 xc6 xc7 xc8
          have ya0 := HBa.out.c0; have ya1 := HBa.out.c1; have ya2 := HBa.out.c2
          have xc0 := HX.out.ent.c0; have xc1 := HX.out.ent.c1; have xc2 := HX.out.ent.c2; have xc3 := HX.out.ent.c3; have xc4 := HX.out.ent.c4; have xc5 := HX.out.ent.c5; have xc6 := HX.out.ent.c6; have xc7 := HX.out.ent.c7; have xc8 := HX.out.ent.c8
          go_wp2_with fail
          go_at_call 17
          refine (FX.out _).mono ?_
          rintro e w3 ⟨rfl, hkz⟩
          replace HK := Lib.hid (HK.out.trans hkz)
          replace HBa := Lib.hid (HBa.out.kept hkz); replace HX := Lib.hid (HX.out.kept hkz); replace HSa := Lib.hid (HSa.out.kept hkz)
          clear hkz
          clear ya0 ya1 ya2
          clear xc0 xc1 xc2 xc3 xc4 xc5 xc6 xc7 xc8
          have ya0 := HBa.out.c0; have ya1 := HBa.out.c1; have ya2 := HBa.out.c2
          have xc0 := HX.out.ent.c0; have xc1 := HX.out.ent.c1; have xc2 := HX.out.ent.c2; have xc3 := HX.out.ent.c3; have xc4 := HX.out.ent.c4; have xc5 := HX.out.ent.c5; have xc6 := HX.out.ent.c6; have xc7 := HX.out.ent.c7; have xc8 := HX.out.ent.c8
          have HNX := Lib.hid (show nx a.V a.C x.d.1 = (((0 : Int), (0 : Int)), (1 : Int)) by unfold nx; rw [if_neg hP])
          clear hP
          go_wp2_with fail
          go_at_call 8
          refine (unext_any (.slice Aa na ca) Ba ma ka a.V Da pa qa a.C x.d.1 _ HSa.out.il HSa.out.dl HOa.out.ctx).mono ?_
          rintro e w4 ⟨hN, hkz⟩
          obtain rfl := hN.nx HNX.out
          have hka := (Kept.refl w4).alloc #[.int .i64 0, .int .i64 0] 30
          replace HK := Lib.hid (HK.out.trans (hkz.trans hka))
          clear hN hkz hka
          clear ya0 ya1 ya2
          clear xc0 xc1 xc2 xc3 xc4 xc5 xc6 xc7 xc8
          go_wp2_with fail
          go_at_call 7
          refine (uawake_any _).mono ?_
          rintro e wz ⟨rfl, hkz⟩
          replace HK := Lib.hid (HK.out.trans hkz)
          clear hkz
          go_wp2_with fail
          go_ret
          exact ⟨rfl, HK.out⟩
end Go.Proofs.YtkooihljddibfaaGreat
