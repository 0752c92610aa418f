/-
  What is proved: the Go function MutateSays of layer 10's laws, called with any state, any entry and any dots, returns true; the world has new blocks at most.
-/
import Derived.Test.YtkooihljddibfaaGreatUAwake
import Derived.Test.YtkooihljddibfaaGreatM31
import Derived.Test.YtkooihljddibfaaGreatURLeave
import Derived.Test.YtkooihljddibfaaGreatM33
namespace Go.Proofs.YtkooihljddibfaaGreat
open Go.RowKit
set_option linter.unusedVariables false

open Classical in
set_option maxRecDepth 100000 in
set_option maxHeartbeats 32000000 in
theorem mutateSays_any (Aa : Option Addr) (na ca : Nat) (Ba : Option Addr) (ma ka : Nat) (Da : Option Addr) (pa qa : Nat) (a : Sta) (x : En) (Ao : Option Addr) (no co : Nat) (G : List (Int × Int)) (w : World)
    (ha : Stt w Aa na ca Ba ma ka Da pa qa a.L a.V a.C) (hg : Dl w Ao no co G) (hwa : ∀ y ∈ a.L, y.p.size ≤ 9223372036854775807 ∧ y.vt.size ≤ 9223372036854775807) (hxp : x.p.size ≤ 9223372036854775807) (hxt : x.vt.size ≤ 9223372036854775807) :
    Calls Tryz.prog 3 #[.agg #[.slice Aa na ca, .slice Ba ma ka, .slice Da pa qa], .agg #[.int .i64 x.d.1, .int .i64 x.d.2, .string x.p, .int .i64 x.k, .int .i64 x.vk, .int .i64 x.vn, .string x.vt, .int .i64 x.e.1, .int .i64 x.e.2], .slice Ao no co] w fun e w' => e = .returned (.bool true) ∧ Kept w w' := by
  have hk := ((Kept.refl w).alloc #[.slice Aa na ca, .slice Ba ma ka, .slice Da pa qa] 28).alloc #[.int .i64 x.d.1, .int .i64 x.d.2, .string x.p, .int .i64 x.k, .int .i64 x.vk, .int .i64 x.vn, .string x.vt, .int .i64 x.e.1, .int .i64 x.e.2] 34
  have hka := (Kept.refl (w.alloc (.cells #[.slice Aa na ca, .slice Ba ma ka, .slice Da pa qa] 28))).alloc #[.int .i64 x.d.1, .int .i64 x.d.2, .string x.p, .int .i64 x.k, .int .i64 x.vk, .int .i64 x.vn, .string x.vt, .int .i64 x.e.1, .int .i64 x.e.2] 34
  have HBa := Lib.hid ((Box3.new w (.slice Aa na ca) (.slice Ba ma ka) (.slice Da pa qa) 28).kept hka)
  have hx := Ent.new (w.alloc (.cells #[.slice Aa na ca, .slice Ba ma ka, .slice Da pa qa] 28)) x 34
  rw [show (w.alloc (.cells #[.slice Aa na ca, .slice Ba ma ka, .slice Da pa qa] 28)).heap.size = w.heap.size + 1 by simp] at hx
  have HX := Lib.hid hx
  have HK := Lib.hid hk
  have HSa := Lib.hid (ha.kept hk); have HG := Lib.hid (hg.kept hk); have HGL := Lib.hid hg.1
  have hgc := hg.cap.1; have hgc2 := hg.cap.2
  obtain ⟨fl, hfl⟩ : ∃ r : Bool, r = true ↔ ¬ ShortS a.L na ma pa := ⟨decide (¬ ShortS a.L na ma pa), decide_eq_true_iff⟩
  obtain ⟨fr, hfr⟩ : ∃ r : Bool, r = true ↔ StOk a.L a.V a.C := ⟨decide (StOk a.L a.V a.C), decide_eq_true_iff⟩
  have FL := Lib.hid (fun w (h : Stt w Aa na ca Ba ma ka Da pa qa a.L a.V a.C) => slong_any Aa na ca Ba ma ka Da pa qa a.L a.V a.C w h.el h.il h.dl hwa fl hfl)
  have HFL := Lib.hid hfl; have HFR := Lib.hid hfr
  have HXZ := Lib.hid (And.intro hxp hxt)
  obtain ⟨gg, hgg⟩ : ∃ r, decide ((40 : Int) < (no : Int)) = r := ⟨_, rfl⟩
  obtain ⟨gp, hgp⟩ : ∃ r, decide ((200 : Int) < (x.p.size : Int)) = r := ⟨_, rfl⟩
  obtain ⟨gt, hgt⟩ : ∃ r, decide ((300 : Int) < (x.vt.size : Int)) = r := ⟨_, rfl⟩
  have HGG := Lib.hid hgg; have HGP := Lib.hid hgp; have HGT := Lib.hid hgt
  obtain ⟨⟨⟨d1, d2⟩, en⟩, hnx⟩ : ∃ p, nx a.V a.C x.d.1 = p := ⟨_, rfl⟩
  have HNX := Lib.hid hnx
  clear ha hg hwa hk hka hx hfl hfr hnx
  cases fl with
  | true =>
    have ya0 := HBa.out.c0; have ya1 := HBa.out.c1; have ya2 := HBa.out.c2
    have xc0 := HX.out.c0; have xc1 := HX.out.c1; have xc2 := HX.out.c2; have xc3 := HX.out.c3; have xc4 := HX.out.c4; have xc5 := HX.out.c5; have xc6 := HX.out.c6; have xc7 := HX.out.c7; have xc8 := HX.out.c8
    go_enter Tryz.func3, Tryz.ntmps3
    go_wp2_with fail
    go_at_call 5
    refine (FL.out _ HSa.out).mono ?_
    rintro e w1 ⟨rfl, hkz⟩
    replace HK := Lib.hid (HK.out.trans hkz)
    replace HBa := Lib.hid (HBa.out.kept hkz); replace HX := Lib.hid (HX.out.kept hkz); replace HSa := Lib.hid (HSa.out.kept hkz); replace HG := Lib.hid (HG.out.kept hkz)
    clear hkz
    clear ya0 ya1 ya2 xc0 xc1 xc2 xc3 xc4 xc5 xc6 xc7 xc8
    go_wp2_with fail
    go_at_call 7
    refine (uawake_any _).mono ?_
    rintro e wz ⟨rfl, hkz⟩
    replace HK := Lib.hid (HK.out.trans hkz)
    clear hkz
    go_wp2_with fail
    go_ret
    exact ⟨rfl, HK.out⟩
  | false =>
    have hsh : ShortS a.L na ma pa := Classical.byContradiction fun hh => by have := HFL.out.2 hh; cases this
    have hna : na ≤ 100000 := Nat.le_trans hsh.2.1 (by decide); have hpa : pa ≤ 100000 := Nat.le_trans hsh.2.2.2 (by decide)
    have FR := Lib.hid (fun w (h : Stt w Aa na ca Ba ma ka Da pa qa a.L a.V a.C) => rsright_any Aa na ca a.L Ba ma ka a.V Da pa qa a.C w h.el h.il h.dl (fun y hy => ⟨Nat.le_trans (hsh.1 y hy).1 (by decide), Nat.le_trans (hsh.1 y hy).2 (by decide)⟩) fr HFR.out)
    clear hsh
    cases gg with
    | true =>
      have ya0 := HBa.out.c0; have ya1 := HBa.out.c1; have ya2 := HBa.out.c2
      have xc0 := HX.out.c0; have xc1 := HX.out.c1; have xc2 := HX.out.c2; have xc3 := HX.out.c3; have xc4 := HX.out.c4; have xc5 := HX.out.c5; have xc6 := HX.out.c6; have xc7 := HX.out.c7; have xc8 := HX.out.c8
      go_enter Tryz.func3, Tryz.ntmps3
      go_wp2_with fail
      go_at_call 5
      refine (FL.out _ HSa.out).mono ?_
      rintro e w1 ⟨rfl, hkz⟩
      replace HK := Lib.hid (HK.out.trans hkz)
      replace HBa := Lib.hid (HBa.out.kept hkz); replace HX := Lib.hid (HX.out.kept hkz); replace HSa := Lib.hid (HSa.out.kept hkz); replace HG := Lib.hid (HG.out.kept hkz)
      clear hkz
      clear ya0 ya1 ya2 xc0 xc1 xc2 xc3 xc4 xc5 xc6 xc7 xc8
      go_wp2_with fail
      go_at_call 7
      refine (uawake_any _).mono ?_
      rintro e wz ⟨rfl, hkz⟩
      replace HK := Lib.hid (HK.out.trans hkz)
      clear hkz
      go_wp2_with fail
      go_ret
      exact ⟨rfl, HK.out⟩
    | false =>
      have hng : no ≤ 900000 := by have h1 := HGG.out; rw [decide_eq_false_iff_not] at h1; omega
      have hng40 : no ≤ 40 := by have h1 := HGG.out; rw [decide_eq_false_iff_not] at h1; omega
      cases fr with
      | false =>
        have ya0 := HBa.out.c0; have ya1 := HBa.out.c1; have ya2 := HBa.out.c2
        have xc0 := HX.out.c0; have xc1 := HX.out.c1; have xc2 := HX.out.c2; have xc3 := HX.out.c3; have xc4 := HX.out.c4; have xc5 := HX.out.c5; have xc6 := HX.out.c6; have xc7 := HX.out.c7; have xc8 := HX.out.c8
        go_enter Tryz.func3, Tryz.ntmps3
        go_wp2_with fail
        go_at_call 5
        refine (FL.out _ HSa.out).mono ?_
        rintro e w1 ⟨rfl, hkz⟩
        replace HK := Lib.hid (HK.out.trans hkz)
        replace HBa := Lib.hid (HBa.out.kept hkz); replace HX := Lib.hid (HX.out.kept hkz); replace HSa := Lib.hid (HSa.out.kept hkz); replace HG := Lib.hid (HG.out.kept hkz)
        clear hkz
        clear ya0 ya1 ya2 xc0 xc1 xc2 xc3 xc4 xc5 xc6 xc7 xc8
        have ya0 := HBa.out.c0; have ya1 := HBa.out.c1; have ya2 := HBa.out.c2
        have xc0 := HX.out.c0; have xc1 := HX.out.c1; have xc2 := HX.out.c2; have xc3 := HX.out.c3; have xc4 := HX.out.c4; have xc5 := HX.out.c5; have xc6 := HX.out.c6; have xc7 := HX.out.c7; have xc8 := HX.out.c8
        go_wp2_with fail
        go_at_call 6
        refine (FR.out _ HSa.out).mono ?_
        rintro e w2 ⟨rfl, hkz⟩
        replace HK := Lib.hid (HK.out.trans hkz)
        replace HBa := Lib.hid (HBa.out.kept hkz); replace HX := Lib.hid (HX.out.kept hkz); replace HSa := Lib.hid (HSa.out.kept hkz); replace HG := Lib.hid (HG.out.kept hkz)
        clear hkz
        clear ya0 ya1 ya2 xc0 xc1 xc2 xc3 xc4 xc5 xc6 xc7 xc8
        go_wp2_with fail
        go_at_call 7
        refine (uawake_any _).mono ?_
        rintro e wz ⟨rfl, hkz⟩
        replace HK := Lib.hid (HK.out.trans hkz)
        clear hkz
        go_wp2_with fail
        go_ret
        exact ⟨rfl, HK.out⟩
      | true =>
        have HOK := Lib.hid (HFR.out.1 rfl)
        have HOa := Lib.hid (show Ord a from HOK.out.ord)
        cases gp with
        | true =>
          have ya0 := HBa.out.c0; have ya1 := HBa.out.c1; have ya2 := HBa.out.c2
          have xc0 := HX.out.c0; have xc1 := HX.out.c1; have xc2 := HX.out.c2; have xc3 := HX.out.c3; have xc4 := HX.out.c4; have xc5 := HX.out.c5; have xc6 := HX.out.c6; have xc7 := HX.out.c7; have xc8 := HX.out.c8
          go_enter Tryz.func3, Tryz.ntmps3
          go_wp2_with fail
          go_at_call 5
          refine (FL.out _ HSa.out).mono ?_
          rintro e w1 ⟨rfl, hkz⟩
          replace HK := Lib.hid (HK.out.trans hkz)
          replace HBa := Lib.hid (HBa.out.kept hkz); replace HX := Lib.hid (HX.out.kept hkz); replace HSa := Lib.hid (HSa.out.kept hkz); replace HG := Lib.hid (HG.out.kept hkz)
          clear hkz
          clear ya0 ya1 ya2 xc0 xc1 xc2 xc3 xc4 xc5 xc6 xc7 xc8
          have ya0 := HBa.out.c0; have ya1 := HBa.out.c1; have ya2 := HBa.out.c2
          have xc0 := HX.out.c0; have xc1 := HX.out.c1; have xc2 := HX.out.c2; have xc3 := HX.out.c3; have xc4 := HX.out.c4; have xc5 := HX.out.c5; have xc6 := HX.out.c6; have xc7 := HX.out.c7; have xc8 := HX.out.c8
          go_wp2_with fail
          go_at_call 6
          refine (FR.out _ HSa.out).mono ?_
          rintro e w2 ⟨rfl, hkz⟩
          replace HK := Lib.hid (HK.out.trans hkz)
          replace HBa := Lib.hid (HBa.out.kept hkz); replace HX := Lib.hid (HX.out.kept hkz); replace HSa := Lib.hid (HSa.out.kept hkz); replace HG := Lib.hid (HG.out.kept hkz)
          clear hkz
          clear ya0 ya1 ya2 xc0 xc1 xc2 xc3 xc4 xc5 xc6 xc7 xc8
          have ya0 := HBa.out.c0; have ya1 := HBa.out.c1; have ya2 := HBa.out.c2
          have xc0 := HX.out.c0; have xc1 := HX.out.c1; have xc2 := HX.out.c2; have xc3 := HX.out.c3; have xc4 := HX.out.c4; have xc5 := HX.out.c5; have xc6 := HX.out.c6; have xc7 := HX.out.c7; have xc8 := HX.out.c8
          go_wp2_with fail
          go_at_call 7
          refine (uawake_any _).mono ?_
          rintro e wz ⟨rfl, hkz⟩
          replace HK := Lib.hid (HK.out.trans hkz)
          clear hkz
          go_wp2_with fail
          go_ret
          exact ⟨rfl, HK.out⟩
        | false =>
          cases gt with
          | true =>
            have ya0 := HBa.out.c0; have ya1 := HBa.out.c1; have ya2 := HBa.out.c2
            have xc0 := HX.out.c0; have xc1 := HX.out.c1; have xc2 := HX.out.c2; have xc3 := HX.out.c3; have xc4 := HX.out.c4; have xc5 := HX.out.c5; have xc6 := HX.out.c6; have xc7 := HX.out.c7; have xc8 := HX.out.c8
            go_enter Tryz.func3, Tryz.ntmps3
            go_wp2_with fail
            go_at_call 5
            refine (FL.out _ HSa.out).mono ?_
            rintro e w1 ⟨rfl, hkz⟩
            replace HK := Lib.hid (HK.out.trans hkz)
            replace HBa := Lib.hid (HBa.out.kept hkz); replace HX := Lib.hid (HX.out.kept hkz); replace HSa := Lib.hid (HSa.out.kept hkz); replace HG := Lib.hid (HG.out.kept hkz)
            clear hkz
            clear ya0 ya1 ya2 xc0 xc1 xc2 xc3 xc4 xc5 xc6 xc7 xc8
            have ya0 := HBa.out.c0; have ya1 := HBa.out.c1; have ya2 := HBa.out.c2
            have xc0 := HX.out.c0; have xc1 := HX.out.c1; have xc2 := HX.out.c2; have xc3 := HX.out.c3; have xc4 := HX.out.c4; have xc5 := HX.out.c5; have xc6 := HX.out.c6; have xc7 := HX.out.c7; have xc8 := HX.out.c8
            go_wp2_with fail
            go_at_call 6
            refine (FR.out _ HSa.out).mono ?_
            rintro e w2 ⟨rfl, hkz⟩
            replace HK := Lib.hid (HK.out.trans hkz)
            replace HBa := Lib.hid (HBa.out.kept hkz); replace HX := Lib.hid (HX.out.kept hkz); replace HSa := Lib.hid (HSa.out.kept hkz); replace HG := Lib.hid (HG.out.kept hkz)
            clear hkz
            clear ya0 ya1 ya2 xc0 xc1 xc2 xc3 xc4 xc5 xc6 xc7 xc8
            have ya0 := HBa.out.c0; have ya1 := HBa.out.c1; have ya2 := HBa.out.c2
            have xc0 := HX.out.c0; have xc1 := HX.out.c1; have xc2 := HX.out.c2; have xc3 := HX.out.c3; have xc4 := HX.out.c4; have xc5 := HX.out.c5; have xc6 := HX.out.c6; have xc7 := HX.out.c7; have xc8 := HX.out.c8
            go_wp2_with fail
            go_at_call 7
            refine (uawake_any _).mono ?_
            rintro e wz ⟨rfl, hkz⟩
            replace HK := Lib.hid (HK.out.trans hkz)
            clear hkz
            go_wp2_with fail
            go_ret
            exact ⟨rfl, HK.out⟩
          | false =>
            have ya0 := HBa.out.c0; have ya1 := HBa.out.c1; have ya2 := HBa.out.c2
            have xc0 := HX.out.c0; have xc1 := HX.out.c1; have xc2 := HX.out.c2; have xc3 := HX.out.c3; have xc4 := HX.out.c4; have xc5 := HX.out.c5; have xc6 := HX.out.c6; have xc7 := HX.out.c7; have xc8 := HX.out.c8
            go_enter Tryz.func3, Tryz.ntmps3
            go_wp2_with fail
            go_at_call 5
            refine (FL.out _ HSa.out).mono ?_
            rintro e w1 ⟨rfl, hkz⟩
            replace HK := Lib.hid (HK.out.trans hkz)
            replace HBa := Lib.hid (HBa.out.kept hkz); replace HX := Lib.hid (HX.out.kept hkz); replace HSa := Lib.hid (HSa.out.kept hkz); replace HG := Lib.hid (HG.out.kept hkz)
            clear hkz
            clear ya0 ya1 ya2 xc0 xc1 xc2 xc3 xc4 xc5 xc6 xc7 xc8
            have ya0 := HBa.out.c0; have ya1 := HBa.out.c1; have ya2 := HBa.out.c2
            have xc0 := HX.out.c0; have xc1 := HX.out.c1; have xc2 := HX.out.c2; have xc3 := HX.out.c3; have xc4 := HX.out.c4; have xc5 := HX.out.c5; have xc6 := HX.out.c6; have xc7 := HX.out.c7; have xc8 := HX.out.c8
            go_wp2_with fail
            go_at_call 6
            refine (FR.out _ HSa.out).mono ?_
            rintro e w2 ⟨rfl, hkz⟩
            replace HK := Lib.hid (HK.out.trans hkz)
            replace HBa := Lib.hid (HBa.out.kept hkz); replace HX := Lib.hid (HX.out.kept hkz); replace HSa := Lib.hid (HSa.out.kept hkz); replace HG := Lib.hid (HG.out.kept hkz)
            clear hkz
            clear ya0 ya1 ya2 xc0 xc1 xc2 xc3 xc4 xc5 xc6 xc7 xc8
            have ya0 := HBa.out.c0; have ya1 := HBa.out.c1; have ya2 := HBa.out.c2
            have xc0 := HX.out.c0; have xc1 := HX.out.c1; have xc2 := HX.out.c2; have xc3 := HX.out.c3; have xc4 := HX.out.c4; have xc5 := HX.out.c5; have xc6 := HX.out.c6; have xc7 := HX.out.c7; have xc8 := HX.out.c8
            go_wp2_with fail
            go_at_call 8
            refine (unext_any (.slice Aa na ca) Ba ma ka a.V Da pa qa a.C x.d.1 _ HSa.out.il HSa.out.dl HOa.out.ctx).mono ?_
            rintro e w3 ⟨hN, hkz⟩
            obtain rfl := hN.nx HNX.out
            have hka := (Kept.refl w3).alloc #[.int .i64 d1, .int .i64 d2] 30
            have hkk := hkz.trans hka
            replace HK := Lib.hid (HK.out.trans hkk)
            replace HBa := Lib.hid (HBa.out.kept hkk); replace HX := Lib.hid (HX.out.kept hkk); replace HSa := Lib.hid (HSa.out.kept hkk); replace HG := Lib.hid (HG.out.kept hkk)
            have HD3 := Lib.hid (Box2.new w3 (.int .i64 d1) (.int .i64 d2) 30)
            clear hN hkz hka hkk
            clear ya0 ya1 ya2 xc0 xc1 xc2 xc3 xc4 xc5 xc6 xc7 xc8
            have ya0 := HBa.out.c0; have ya1 := HBa.out.c1; have ya2 := HBa.out.c2
            have xc0 := HX.out.c0; have xc1 := HX.out.c1; have xc2 := HX.out.c2; have xc3 := HX.out.c3; have xc4 := HX.out.c4; have xc5 := HX.out.c5; have xc6 := HX.out.c6; have xc7 := HX.out.c7; have xc8 := HX.out.c8
            go_wp2_with fail
            go_at_call 9
            refine (rnext_any (.slice Aa na ca) Ba ma ka a.V Da pa qa a.C x.d.1 _ HSa.out.il HSa.out.dl HOa.out.ctx).mono ?_
            rintro e w4 ⟨hN, hkz⟩
            obtain rfl := hN.nx HNX.out
            have hka := (Kept.refl w4).alloc #[.int .i64 d1, .int .i64 d2] 30
            have hkk := hkz.trans hka
            replace HK := Lib.hid (HK.out.trans hkk)
            replace HBa := Lib.hid (HBa.out.kept hkk); replace HX := Lib.hid (HX.out.kept hkk); replace HSa := Lib.hid (HSa.out.kept hkk); replace HG := Lib.hid (HG.out.kept hkk); replace HD3 := Lib.hid (HD3.out.kept hkk)
            have HD4 := Lib.hid (Box2.new w4 (.int .i64 d1) (.int .i64 d2) 30)
            clear hN hkz hka hkk
            clear ya0 ya1 ya2 xc0 xc1 xc2 xc3 xc4 xc5 xc6 xc7 xc8
            obtain ⟨W5, hW5⟩ : ∃ W5, w4.alloc (.cells #[.int .i64 d1, .int .i64 d2] 30) = W5 := ⟨_, rfl⟩
            rw [hW5] at HK HBa HX HSa HG HD3 HD4
            have HW5 := Lib.hid hW5
            clear hW5
            go_wp2_with fail
            rw [HW5.out]
            clear HW5
            have Xx0 := KExt.cell HX.out.c0; have Xx1 := KExt.cell HX.out.c1; have Xx2 := KExt.cell HX.out.c2; have Xx3 := KExt.cell HX.out.c3; have Xx4 := KExt.cell HX.out.c4; have Xx5 := KExt.cell HX.out.c5; have Xx6 := KExt.cell HX.out.c6; have Xx7 := KExt.cell HX.out.c7; have Xx8 := KExt.cell HX.out.c8
            go_cut [11, 12] (fun v u wx => TwoB W5 (fun s t => s = t ∧ LeaveS x G s) v u wx)
            case first =>
              refine region_plan W5 10 (.read [0, 1, 3, 4] (.three 2 (.three 5 (.two 6 (.one 7 (.one 8 (.one 9 .stop))) 7 (.one 6 (.one 8 (.one 9 .stop)))) 6 (.two 5 (.one 7 (.one 8 (.one 9 .stop))) 7 (.one 5 (.one 8 (.one 9 .stop)))) 7 (.two 5 (.one 6 (.one 8 (.one 9 .stop))) 6 (.one 5 (.one 8 (.one 9 .stop))))) 6 (.two 2 (.two 5 (.one 7 (.one 8 (.one 9 .stop))) 7 (.one 5 (.one 8 (.one 9 .stop)))) 7 (.one 2 (.one 5 (.one 8 (.one 9 .stop))))) 7 (.two 2 (.two 5 (.one 6 (.one 8 (.one 9 .stop))) 6 (.one 5 (.one 8 (.one 9 .stop)))) 6 (.one 2 (.one 5 (.one 8 (.one 9 .stop))))))) (by kernel_rfl) (by kernel_rfl) (by kernel_rfl) (by kernel_rfl) (by kernel_rfl) (fun _ d _ _ _ h => by cases d <;> exact h) (Kept.refl _) ?_
              intro wd hwd
              have HV := Lib.hid hwd
              clear hwd
              rw [wpPlan_read]
              simp only [pickOps_cons, pickOps_nil, consO_some, List.getElem?_cons_zero, List.getElem?_cons_succ]
              repeat (go_big_quiet_step (fail))
              refine wpQuiet_nil ?_
              clear Xx0 Xx1 Xx2 Xx3 Xx4 Xx5 Xx6 Xx7 Xx8
              rw [wpPlan_three]
              simp only [pickOps_cons, pickOps_nil, consO_some, List.getElem?_cons_zero, List.getElem?_cons_succ]
              refine ⟨?_, ?_, ?_⟩
              · go_wp2_with (go_at_call 10; refine (uleave_any x Ao no co G _ (HG.out.kept HV.out) hng).mono ?_; rintro e u1 ⟨Ag, ng, cg, Bg, mg, kg, Dg, pg, qg, sg, rfl, hsg, hjg, hkz⟩)
                have HSg := Lib.hid hsg
                have HJg := Lib.hid hjg
                replace HV := Lib.hid (HV.out.trans hkz)
                clear hsg hjg hkz
                refine soloP HV.out ?_
                rw [wpPlan_three]
                simp only [pickOps_cons, pickOps_nil, consO_some, List.getElem?_cons_zero, List.getElem?_cons_succ]
                refine ⟨?_, ?_, ?_⟩
                · go_wp2_with (go_at_call 11; refine (rleave_any x Ao no co G _ (HG.out.kept HV.out) hng).mono ?_; rintro e u2 ⟨Ah, nh, ch, Bh, mh, kh, Dh, ph, qh, sh, rfl, hsh, hjh, hkz⟩)
                  replace HSg := Lib.hid (HSg.out.kept hkz)
                  have HSh := Lib.hid hsh
                  have HJh := Lib.hid hjh
                  replace HV := Lib.hid (HV.out.trans hkz)
                  clear hsh hjh hkz
                  refine soloP HV.out ?_
                  rw [wpPlan_two]
                  simp only [pickOps_cons, pickOps_nil, consO_some, List.getElem?_cons_zero, List.getElem?_cons_succ]
                  constructor
                  · go_wp2_with fail
                    have hkz := (Kept.refl u2).alloc #[.slice none 0 0, .slice none 0 0, .slice none 0 0] 28
                    replace HSg := Lib.hid (HSg.out.kept hkz)
                    replace HSh := Lib.hid (HSh.out.kept hkz)
                    have HBC := Lib.hid (Box3.new u2 (.slice none 0 0) (.slice none 0 0) (.slice none 0 0) 28)
                    have HLC := Lib.hid HV.out.2.2
                    replace HV := Lib.hid (HV.out.trans hkz)
                    obtain ⟨bC, hbz⟩ : ∃ b, (World.heap u2).size = b := ⟨_, rfl⟩
                    obtain ⟨u3, hwz⟩ : ∃ u, World.alloc u2 (.cells #[.slice none 0 0, .slice none 0 0, .slice none 0 0] 28) = u := ⟨_, rfl⟩
                    rw [hwz] at HBC HV HSg HSh ⊢
                    rw [hbz] at HBC HLC ⊢
                    clear hkz hbz hwz
                    refine soloP HV.out ?_
                    rw [wpPlan_one]
                    simp only [pickOps_cons, pickOps_nil, consO_some, List.getElem?_cons_zero, List.getElem?_cons_succ]
                    go_wp2_with fail
                    have hkz := (Kept.refl u3).alloc #[.slice none 0 0, .slice none 0 0, .slice none 0 0] 28
                    have HNE := Lib.hid (show bC ≠ u3.heap.size from fun e => by have := HBC.out.lt; omega)
                    replace HSg := Lib.hid (HSg.out.kept hkz)
                    replace HSh := Lib.hid (HSh.out.kept hkz)
                    replace HBC := Lib.hid (HBC.out.kept hkz)
                    have HBD := Lib.hid (Box3.new u3 (.slice none 0 0) (.slice none 0 0) (.slice none 0 0) 28)
                    have HLD := Lib.hid HV.out.2.2
                    replace HV := Lib.hid (HV.out.trans hkz)
                    obtain ⟨bD, hbz⟩ : ∃ b, (World.heap u3).size = b := ⟨_, rfl⟩
                    obtain ⟨u4, hwz⟩ : ∃ u, World.alloc u3 (.cells #[.slice none 0 0, .slice none 0 0, .slice none 0 0] 28) = u := ⟨_, rfl⟩
                    rw [hwz] at HBD HV HSg HSh HBC ⊢
                    rw [hbz] at HBD HLD HNE ⊢
                    clear hkz hbz hwz
                    refine soloP HV.out ?_
                    rw [wpPlan_one]
                    simp only [pickOps_cons, pickOps_nil, consO_some, List.getElem?_cons_zero, List.getElem?_cons_succ]
                    have hl := HLC.out
                    have e0 := HBC.out.c0; have e1 := HBC.out.c1; have e2 := HBC.out.c2; have ef0 := HBC.out.f 0; have ef1 := HBC.out.f 1; have ef2 := HBC.out.f 2
                    go_wp2_with fail
                    clear e0 e1 e2 ef0 ef1 ef2
                    replace HSg := Lib.hid (HBC.out.stt (.slice Ag ng cg) (.slice Bg mg kg) (.slice Dg pg qg) HSg.out)
                    replace HSh := Lib.hid (HBC.out.stt (.slice Ag ng cg) (.slice Bg mg kg) (.slice Dg pg qg) HSh.out)
                    replace HBD := Lib.hid (HBD.out.set_far HNE.out.symm (.slice Ag ng cg) (.slice Bg mg kg) (.slice Dg pg qg))
                    replace HBC := Lib.hid (HBC.out.set3 (.slice Ag ng cg) (.slice Bg mg kg) (.slice Dg pg qg))
                    replace HV := Lib.hid (((HV.out.setCell (a := ⟨bC, 0, none⟩) hl (.slice Ag ng cg)).setCell (a := ⟨bC, 1, none⟩) hl (.slice Bg mg kg)).setCell (a := ⟨bC, 2, none⟩) hl (.slice Dg pg qg))
                    obtain ⟨u5, hwz⟩ : ∃ u, ((World.setCell u4 ⟨bC, 0, none⟩ (.slice Ag ng cg)).setCell ⟨bC, 1, none⟩ (.slice Bg mg kg)).setCell ⟨bC, 2, none⟩ (.slice Dg pg qg) = u := ⟨_, rfl⟩
                    rw [hwz] at HV HBC HBD HSg HSh ⊢
                    clear hl hwz
                    refine soloP HV.out ?_
                    rw [wpPlan_one]
                    simp only [pickOps_cons, pickOps_nil, consO_some, List.getElem?_cons_zero, List.getElem?_cons_succ]
                    have hl := HLD.out
                    have e0 := HBD.out.c0; have e1 := HBD.out.c1; have e2 := HBD.out.c2; have ef0 := HBD.out.f 0; have ef1 := HBD.out.f 1; have ef2 := HBD.out.f 2
                    go_wp2_with fail
                    clear e0 e1 e2 ef0 ef1 ef2
                    replace HSg := Lib.hid (HBD.out.stt (.slice Ah nh ch) (.slice Bh mh kh) (.slice Dh ph qh) HSg.out)
                    replace HSh := Lib.hid (HBD.out.stt (.slice Ah nh ch) (.slice Bh mh kh) (.slice Dh ph qh) HSh.out)
                    replace HBC := Lib.hid (HBC.out.set_far HNE.out (.slice Ah nh ch) (.slice Bh mh kh) (.slice Dh ph qh))
                    replace HBD := Lib.hid (HBD.out.set3 (.slice Ah nh ch) (.slice Bh mh kh) (.slice Dh ph qh))
                    replace HV := Lib.hid (((HV.out.setCell (a := ⟨bD, 0, none⟩) hl (.slice Ah nh ch)).setCell (a := ⟨bD, 1, none⟩) hl (.slice Bh mh kh)).setCell (a := ⟨bD, 2, none⟩) hl (.slice Dh ph qh))
                    obtain ⟨u6, hwz⟩ : ∃ u, ((World.setCell u5 ⟨bD, 0, none⟩ (.slice Ah nh ch)).setCell ⟨bD, 1, none⟩ (.slice Bh mh kh)).setCell ⟨bD, 2, none⟩ (.slice Dh ph qh) = u := ⟨_, rfl⟩
                    rw [hwz] at HV HBC HBD HSg HSh ⊢
                    clear hl hwz
                    refine soloP HV.out ?_
                    have HF := Lib.hid (show TwoB W5 (fun s t => s = t ∧ LeaveS x G s) (.pointer (some ⟨bC, 0, none⟩)) (.pointer (some ⟨bD, 0, none⟩)) u6 from ⟨bC, bD, Ag, ng, cg, Bg, mg, kg, Dg, pg, qg, Ah, nh, ch, Bh, mh, kh, Dh, ph, qh, sg, sh, rfl, rfl, HV.out, HBC.out, HBD.out, HSg.out, HSh.out, ⟨HJg.out.one HJh.out, HJg.out⟩⟩)
                    refine wpPlan_stop ?_
                    go_wp2_with fail
                    go_meet
                    exact HF.out
                  · go_wp2_with fail
                    have hkz := (Kept.refl u2).alloc #[.slice none 0 0, .slice none 0 0, .slice none 0 0] 28
                    replace HSg := Lib.hid (HSg.out.kept hkz)
                    replace HSh := Lib.hid (HSh.out.kept hkz)
                    have HBD := Lib.hid (Box3.new u2 (.slice none 0 0) (.slice none 0 0) (.slice none 0 0) 28)
                    have HLD := Lib.hid HV.out.2.2
                    replace HV := Lib.hid (HV.out.trans hkz)
                    obtain ⟨bD, hbz⟩ : ∃ b, (World.heap u2).size = b := ⟨_, rfl⟩
                    obtain ⟨u3, hwz⟩ : ∃ u, World.alloc u2 (.cells #[.slice none 0 0, .slice none 0 0, .slice none 0 0] 28) = u := ⟨_, rfl⟩
                    rw [hwz] at HBD HV HSg HSh ⊢
                    rw [hbz] at HBD HLD ⊢
                    clear hkz hbz hwz
                    refine soloP HV.out ?_
                    rw [wpPlan_one]
                    simp only [pickOps_cons, pickOps_nil, consO_some, List.getElem?_cons_zero, List.getElem?_cons_succ]
                    go_wp2_with fail
                    have hkz := (Kept.refl u3).alloc #[.slice none 0 0, .slice none 0 0, .slice none 0 0] 28
                    have HNE := Lib.hid (show bD ≠ u3.heap.size from fun e => by have := HBD.out.lt; omega)
                    replace HSg := Lib.hid (HSg.out.kept hkz)
                    replace HSh := Lib.hid (HSh.out.kept hkz)
                    replace HBD := Lib.hid (HBD.out.kept hkz)
                    have HBC := Lib.hid (Box3.new u3 (.slice none 0 0) (.slice none 0 0) (.slice none 0 0) 28)
                    have HLC := Lib.hid HV.out.2.2
                    replace HV := Lib.hid (HV.out.trans hkz)
                    obtain ⟨bC, hbz⟩ : ∃ b, (World.heap u3).size = b := ⟨_, rfl⟩
                    obtain ⟨u4, hwz⟩ : ∃ u, World.alloc u3 (.cells #[.slice none 0 0, .slice none 0 0, .slice none 0 0] 28) = u := ⟨_, rfl⟩
                    rw [hwz] at HBC HV HSg HSh HBD ⊢
                    rw [hbz] at HBC HLC HNE ⊢
                    clear hkz hbz hwz
                    refine soloP HV.out ?_
                    rw [wpPlan_one]
                    simp only [pickOps_cons, pickOps_nil, consO_some, List.getElem?_cons_zero, List.getElem?_cons_succ]
                    have hl := HLC.out
                    have e0 := HBC.out.c0; have e1 := HBC.out.c1; have e2 := HBC.out.c2; have ef0 := HBC.out.f 0; have ef1 := HBC.out.f 1; have ef2 := HBC.out.f 2
                    go_wp2_with fail
                    clear e0 e1 e2 ef0 ef1 ef2
                    replace HSg := Lib.hid (HBC.out.stt (.slice Ag ng cg) (.slice Bg mg kg) (.slice Dg pg qg) HSg.out)
                    replace HSh := Lib.hid (HBC.out.stt (.slice Ag ng cg) (.slice Bg mg kg) (.slice Dg pg qg) HSh.out)
                    replace HBD := Lib.hid (HBD.out.set_far HNE.out (.slice Ag ng cg) (.slice Bg mg kg) (.slice Dg pg qg))
                    replace HBC := Lib.hid (HBC.out.set3 (.slice Ag ng cg) (.slice Bg mg kg) (.slice Dg pg qg))
                    replace HV := Lib.hid (((HV.out.setCell (a := ⟨bC, 0, none⟩) hl (.slice Ag ng cg)).setCell (a := ⟨bC, 1, none⟩) hl (.slice Bg mg kg)).setCell (a := ⟨bC, 2, none⟩) hl (.slice Dg pg qg))
                    obtain ⟨u5, hwz⟩ : ∃ u, ((World.setCell u4 ⟨bC, 0, none⟩ (.slice Ag ng cg)).setCell ⟨bC, 1, none⟩ (.slice Bg mg kg)).setCell ⟨bC, 2, none⟩ (.slice Dg pg qg) = u := ⟨_, rfl⟩
                    rw [hwz] at HV HBC HBD HSg HSh ⊢
                    clear hl hwz
                    refine soloP HV.out ?_
                    rw [wpPlan_one]
                    simp only [pickOps_cons, pickOps_nil, consO_some, List.getElem?_cons_zero, List.getElem?_cons_succ]
                    have hl := HLD.out
                    have e0 := HBD.out.c0; have e1 := HBD.out.c1; have e2 := HBD.out.c2; have ef0 := HBD.out.f 0; have ef1 := HBD.out.f 1; have ef2 := HBD.out.f 2
                    go_wp2_with fail
                    clear e0 e1 e2 ef0 ef1 ef2
                    replace HSg := Lib.hid (HBD.out.stt (.slice Ah nh ch) (.slice Bh mh kh) (.slice Dh ph qh) HSg.out)
                    replace HSh := Lib.hid (HBD.out.stt (.slice Ah nh ch) (.slice Bh mh kh) (.slice Dh ph qh) HSh.out)
                    replace HBC := Lib.hid (HBC.out.set_far HNE.out.symm (.slice Ah nh ch) (.slice Bh mh kh) (.slice Dh ph qh))
                    replace HBD := Lib.hid (HBD.out.set3 (.slice Ah nh ch) (.slice Bh mh kh) (.slice Dh ph qh))
                    replace HV := Lib.hid (((HV.out.setCell (a := ⟨bD, 0, none⟩) hl (.slice Ah nh ch)).setCell (a := ⟨bD, 1, none⟩) hl (.slice Bh mh kh)).setCell (a := ⟨bD, 2, none⟩) hl (.slice Dh ph qh))
                    obtain ⟨u6, hwz⟩ : ∃ u, ((World.setCell u5 ⟨bD, 0, none⟩ (.slice Ah nh ch)).setCell ⟨bD, 1, none⟩ (.slice Bh mh kh)).setCell ⟨bD, 2, none⟩ (.slice Dh ph qh) = u := ⟨_, rfl⟩
                    rw [hwz] at HV HBC HBD HSg HSh ⊢
                    clear hl hwz
                    refine soloP HV.out ?_
                    have HF := Lib.hid (show TwoB W5 (fun s t => s = t ∧ LeaveS x G s) (.pointer (some ⟨bC, 0, none⟩)) (.pointer (some ⟨bD, 0, none⟩)) u6 from ⟨bC, bD, Ag, ng, cg, Bg, mg, kg, Dg, pg, qg, Ah, nh, ch, Bh, mh, kh, Dh, ph, qh, sg, sh, rfl, rfl, HV.out, HBC.out, HBD.out, HSg.out, HSh.out, ⟨HJg.out.one HJh.out, HJg.out⟩⟩)
                    refine wpPlan_stop ?_
                    go_wp2_with fail
                    go_meet
                    exact HF.out
                · go_wp2_with fail
                  have hkz := (Kept.refl u1).alloc #[.slice none 0 0, .slice none 0 0, .slice none 0 0] 28
                  replace HSg := Lib.hid (HSg.out.kept hkz)
                  have HBC := Lib.hid (Box3.new u1 (.slice none 0 0) (.slice none 0 0) (.slice none 0 0) 28)
                  have HLC := Lib.hid HV.out.2.2
                  replace HV := Lib.hid (HV.out.trans hkz)
                  obtain ⟨bC, hbz⟩ : ∃ b, (World.heap u1).size = b := ⟨_, rfl⟩
                  obtain ⟨u2, hwz⟩ : ∃ u, World.alloc u1 (.cells #[.slice none 0 0, .slice none 0 0, .slice none 0 0] 28) = u := ⟨_, rfl⟩
                  rw [hwz] at HBC HV HSg ⊢
                  rw [hbz] at HBC HLC ⊢
                  clear hkz hbz hwz
                  refine soloP HV.out ?_
                  rw [wpPlan_two]
                  simp only [pickOps_cons, pickOps_nil, consO_some, List.getElem?_cons_zero, List.getElem?_cons_succ]
                  constructor
                  · go_wp2_with (go_at_call 11; refine (rleave_any x Ao no co G _ (HG.out.kept HV.out) hng).mono ?_; rintro e u3 ⟨Ah, nh, ch, Bh, mh, kh, Dh, ph, qh, sh, rfl, hsh, hjh, hkz⟩)
                    replace HSg := Lib.hid (HSg.out.kept hkz)
                    replace HBC := Lib.hid (HBC.out.kept hkz)
                    have HSh := Lib.hid hsh
                    have HJh := Lib.hid hjh
                    replace HV := Lib.hid (HV.out.trans hkz)
                    clear hsh hjh hkz
                    refine soloP HV.out ?_
                    rw [wpPlan_one]
                    simp only [pickOps_cons, pickOps_nil, consO_some, List.getElem?_cons_zero, List.getElem?_cons_succ]
                    go_wp2_with fail
                    have hkz := (Kept.refl u3).alloc #[.slice none 0 0, .slice none 0 0, .slice none 0 0] 28
                    have HNE := Lib.hid (show bC ≠ u3.heap.size from fun e => by have := HBC.out.lt; omega)
                    replace HSg := Lib.hid (HSg.out.kept hkz)
                    replace HSh := Lib.hid (HSh.out.kept hkz)
                    replace HBC := Lib.hid (HBC.out.kept hkz)
                    have HBD := Lib.hid (Box3.new u3 (.slice none 0 0) (.slice none 0 0) (.slice none 0 0) 28)
                    have HLD := Lib.hid HV.out.2.2
                    replace HV := Lib.hid (HV.out.trans hkz)
                    obtain ⟨bD, hbz⟩ : ∃ b, (World.heap u3).size = b := ⟨_, rfl⟩
                    obtain ⟨u4, hwz⟩ : ∃ u, World.alloc u3 (.cells #[.slice none 0 0, .slice none 0 0, .slice none 0 0] 28) = u := ⟨_, rfl⟩
                    rw [hwz] at HBD HV HSg HSh HBC ⊢
                    rw [hbz] at HBD HLD HNE ⊢
                    clear hkz hbz hwz
                    refine soloP HV.out ?_
                    rw [wpPlan_one]
                    simp only [pickOps_cons, pickOps_nil, consO_some, List.getElem?_cons_zero, List.getElem?_cons_succ]
                    have hl := HLC.out
                    have e0 := HBC.out.c0; have e1 := HBC.out.c1; have e2 := HBC.out.c2; have ef0 := HBC.out.f 0; have ef1 := HBC.out.f 1; have ef2 := HBC.out.f 2
                    go_wp2_with fail
                    clear e0 e1 e2 ef0 ef1 ef2
                    replace HSg := Lib.hid (HBC.out.stt (.slice Ag ng cg) (.slice Bg mg kg) (.slice Dg pg qg) HSg.out)
                    replace HSh := Lib.hid (HBC.out.stt (.slice Ag ng cg) (.slice Bg mg kg) (.slice Dg pg qg) HSh.out)
                    replace HBD := Lib.hid (HBD.out.set_far HNE.out.symm (.slice Ag ng cg) (.slice Bg mg kg) (.slice Dg pg qg))
                    replace HBC := Lib.hid (HBC.out.set3 (.slice Ag ng cg) (.slice Bg mg kg) (.slice Dg pg qg))
                    replace HV := Lib.hid (((HV.out.setCell (a := ⟨bC, 0, none⟩) hl (.slice Ag ng cg)).setCell (a := ⟨bC, 1, none⟩) hl (.slice Bg mg kg)).setCell (a := ⟨bC, 2, none⟩) hl (.slice Dg pg qg))
                    obtain ⟨u5, hwz⟩ : ∃ u, ((World.setCell u4 ⟨bC, 0, none⟩ (.slice Ag ng cg)).setCell ⟨bC, 1, none⟩ (.slice Bg mg kg)).setCell ⟨bC, 2, none⟩ (.slice Dg pg qg) = u := ⟨_, rfl⟩
                    rw [hwz] at HV HBC HBD HSg HSh ⊢
                    clear hl hwz
                    refine soloP HV.out ?_
                    rw [wpPlan_one]
                    simp only [pickOps_cons, pickOps_nil, consO_some, List.getElem?_cons_zero, List.getElem?_cons_succ]
                    have hl := HLD.out
                    have e0 := HBD.out.c0; have e1 := HBD.out.c1; have e2 := HBD.out.c2; have ef0 := HBD.out.f 0; have ef1 := HBD.out.f 1; have ef2 := HBD.out.f 2
                    go_wp2_with fail
                    clear e0 e1 e2 ef0 ef1 ef2
                    replace HSg := Lib.hid (HBD.out.stt (.slice Ah nh ch) (.slice Bh mh kh) (.slice Dh ph qh) HSg.out)
                    replace HSh := Lib.hid (HBD.out.stt (.slice Ah nh ch) (.slice Bh mh kh) (.slice Dh ph qh) HSh.out)
                    replace HBC := Lib.hid (HBC.out.set_far HNE.out (.slice Ah nh ch) (.slice Bh mh kh) (.slice Dh ph qh))
                    replace HBD := Lib.hid (HBD.out.set3 (.slice Ah nh ch) (.slice Bh mh kh) (.slice Dh ph qh))
                    replace HV := Lib.hid (((HV.out.setCell (a := ⟨bD, 0, none⟩) hl (.slice Ah nh ch)).setCell (a := ⟨bD, 1, none⟩) hl (.slice Bh mh kh)).setCell (a := ⟨bD, 2, none⟩) hl (.slice Dh ph qh))
                    obtain ⟨u6, hwz⟩ : ∃ u, ((World.setCell u5 ⟨bD, 0, none⟩ (.slice Ah nh ch)).setCell ⟨bD, 1, none⟩ (.slice Bh mh kh)).setCell ⟨bD, 2, none⟩ (.slice Dh ph qh) = u := ⟨_, rfl⟩
                    rw [hwz] at HV HBC HBD HSg HSh ⊢
                    clear hl hwz
                    refine soloP HV.out ?_
                    have HF := Lib.hid (show TwoB W5 (fun s t => s = t ∧ LeaveS x G s) (.pointer (some ⟨bC, 0, none⟩)) (.pointer (some ⟨bD, 0, none⟩)) u6 from ⟨bC, bD, Ag, ng, cg, Bg, mg, kg, Dg, pg, qg, Ah, nh, ch, Bh, mh, kh, Dh, ph, qh, sg, sh, rfl, rfl, HV.out, HBC.out, HBD.out, HSg.out, HSh.out, ⟨HJg.out.one HJh.out, HJg.out⟩⟩)
                    refine wpPlan_stop ?_
                    go_wp2_with fail
                    go_meet
                    exact HF.out
                  · go_wp2_with fail
                    have hkz := (Kept.refl u2).alloc #[.slice none 0 0, .slice none 0 0, .slice none 0 0] 28
                    have HNE := Lib.hid (show bC ≠ u2.heap.size from fun e => by have := HBC.out.lt; omega)
                    replace HSg := Lib.hid (HSg.out.kept hkz)
                    replace HBC := Lib.hid (HBC.out.kept hkz)
                    have HBD := Lib.hid (Box3.new u2 (.slice none 0 0) (.slice none 0 0) (.slice none 0 0) 28)
                    have HLD := Lib.hid HV.out.2.2
                    replace HV := Lib.hid (HV.out.trans hkz)
                    obtain ⟨bD, hbz⟩ : ∃ b, (World.heap u2).size = b := ⟨_, rfl⟩
                    obtain ⟨u3, hwz⟩ : ∃ u, World.alloc u2 (.cells #[.slice none 0 0, .slice none 0 0, .slice none 0 0] 28) = u := ⟨_, rfl⟩
                    rw [hwz] at HBD HV HSg HBC ⊢
                    rw [hbz] at HBD HLD HNE ⊢
                    clear hkz hbz hwz
                    refine soloP HV.out ?_
                    rw [wpPlan_one]
                    simp only [pickOps_cons, pickOps_nil, consO_some, List.getElem?_cons_zero, List.getElem?_cons_succ]
                    go_wp2_with (go_at_call 11; refine (rleave_any x Ao no co G _ (HG.out.kept HV.out) hng).mono ?_; rintro e u4 ⟨Ah, nh, ch, Bh, mh, kh, Dh, ph, qh, sh, rfl, hsh, hjh, hkz⟩)
                    replace HSg := Lib.hid (HSg.out.kept hkz)
                    replace HBC := Lib.hid (HBC.out.kept hkz)
                    replace HBD := Lib.hid (HBD.out.kept hkz)
                    have HSh := Lib.hid hsh
                    have HJh := Lib.hid hjh
                    replace HV := Lib.hid (HV.out.trans hkz)
                    clear hsh hjh hkz
                    refine soloP HV.out ?_
                    rw [wpPlan_one]
                    simp only [pickOps_cons, pickOps_nil, consO_some, List.getElem?_cons_zero, List.getElem?_cons_succ]
                    have hl := HLC.out
                    have e0 := HBC.out.c0; have e1 := HBC.out.c1; have e2 := HBC.out.c2; have ef0 := HBC.out.f 0; have ef1 := HBC.out.f 1; have ef2 := HBC.out.f 2
                    go_wp2_with fail
                    clear e0 e1 e2 ef0 ef1 ef2
                    replace HSg := Lib.hid (HBC.out.stt (.slice Ag ng cg) (.slice Bg mg kg) (.slice Dg pg qg) HSg.out)
                    replace HSh := Lib.hid (HBC.out.stt (.slice Ag ng cg) (.slice Bg mg kg) (.slice Dg pg qg) HSh.out)
                    replace HBD := Lib.hid (HBD.out.set_far HNE.out.symm (.slice Ag ng cg) (.slice Bg mg kg) (.slice Dg pg qg))
                    replace HBC := Lib.hid (HBC.out.set3 (.slice Ag ng cg) (.slice Bg mg kg) (.slice Dg pg qg))
                    replace HV := Lib.hid (((HV.out.setCell (a := ⟨bC, 0, none⟩) hl (.slice Ag ng cg)).setCell (a := ⟨bC, 1, none⟩) hl (.slice Bg mg kg)).setCell (a := ⟨bC, 2, none⟩) hl (.slice Dg pg qg))
                    obtain ⟨u5, hwz⟩ : ∃ u, ((World.setCell u4 ⟨bC, 0, none⟩ (.slice Ag ng cg)).setCell ⟨bC, 1, none⟩ (.slice Bg mg kg)).setCell ⟨bC, 2, none⟩ (.slice Dg pg qg) = u := ⟨_, rfl⟩
                    rw [hwz] at HV HBC HBD HSg HSh ⊢
                    clear hl hwz
                    refine soloP HV.out ?_
                    rw [wpPlan_one]
                    simp only [pickOps_cons, pickOps_nil, consO_some, List.getElem?_cons_zero, List.getElem?_cons_succ]
                    have hl := HLD.out
                    have e0 := HBD.out.c0; have e1 := HBD.out.c1; have e2 := HBD.out.c2; have ef0 := HBD.out.f 0; have ef1 := HBD.out.f 1; have ef2 := HBD.out.f 2
                    go_wp2_with fail
                    clear e0 e1 e2 ef0 ef1 ef2
                    replace HSg := Lib.hid (HBD.out.stt (.slice Ah nh ch) (.slice Bh mh kh) (.slice Dh ph qh) HSg.out)
                    replace HSh := Lib.hid (HBD.out.stt (.slice Ah nh ch) (.slice Bh mh kh) (.slice Dh ph qh) HSh.out)
                    replace HBC := Lib.hid (HBC.out.set_far HNE.out (.slice Ah nh ch) (.slice Bh mh kh) (.slice Dh ph qh))
                    replace HBD := Lib.hid (HBD.out.set3 (.slice Ah nh ch) (.slice Bh mh kh) (.slice Dh ph qh))
                    replace HV := Lib.hid (((HV.out.setCell (a := ⟨bD, 0, none⟩) hl (.slice Ah nh ch)).setCell (a := ⟨bD, 1, none⟩) hl (.slice Bh mh kh)).setCell (a := ⟨bD, 2, none⟩) hl (.slice Dh ph qh))
                    obtain ⟨u6, hwz⟩ : ∃ u, ((World.setCell u5 ⟨bD, 0, none⟩ (.slice Ah nh ch)).setCell ⟨bD, 1, none⟩ (.slice Bh mh kh)).setCell ⟨bD, 2, none⟩ (.slice Dh ph qh) = u := ⟨_, rfl⟩
                    rw [hwz] at HV HBC HBD HSg HSh ⊢
                    clear hl hwz
                    refine soloP HV.out ?_
                    have HF := Lib.hid (show TwoB W5 (fun s t => s = t ∧ LeaveS x G s) (.pointer (some ⟨bC, 0, none⟩)) (.pointer (some ⟨bD, 0, none⟩)) u6 from ⟨bC, bD, Ag, ng, cg, Bg, mg, kg, Dg, pg, qg, Ah, nh, ch, Bh, mh, kh, Dh, ph, qh, sg, sh, rfl, rfl, HV.out, HBC.out, HBD.out, HSg.out, HSh.out, ⟨HJg.out.one HJh.out, HJg.out⟩⟩)
                    refine wpPlan_stop ?_
                    go_wp2_with fail
                    go_meet
                    exact HF.out
                · go_wp2_with fail
                  have hkz := (Kept.refl u1).alloc #[.slice none 0 0, .slice none 0 0, .slice none 0 0] 28
                  replace HSg := Lib.hid (HSg.out.kept hkz)
                  have HBD := Lib.hid (Box3.new u1 (.slice none 0 0) (.slice none 0 0) (.slice none 0 0) 28)
                  have HLD := Lib.hid HV.out.2.2
                  replace HV := Lib.hid (HV.out.trans hkz)
                  obtain ⟨bD, hbz⟩ : ∃ b, (World.heap u1).size = b := ⟨_, rfl⟩
                  obtain ⟨u2, hwz⟩ : ∃ u, World.alloc u1 (.cells #[.slice none 0 0, .slice none 0 0, .slice none 0 0] 28) = u := ⟨_, rfl⟩
                  rw [hwz] at HBD HV HSg ⊢
                  rw [hbz] at HBD HLD ⊢
                  clear hkz hbz hwz
                  refine soloP HV.out ?_
                  rw [wpPlan_two]
                  simp only [pickOps_cons, pickOps_nil, consO_some, List.getElem?_cons_zero, List.getElem?_cons_succ]
                  constructor
                  · go_wp2_with (go_at_call 11; refine (rleave_any x Ao no co G _ (HG.out.kept HV.out) hng).mono ?_; rintro e u3 ⟨Ah, nh, ch, Bh, mh, kh, Dh, ph, qh, sh, rfl, hsh, hjh, hkz⟩)
                    replace HSg := Lib.hid (HSg.out.kept hkz)
                    replace HBD := Lib.hid (HBD.out.kept hkz)
                    have HSh := Lib.hid hsh
                    have HJh := Lib.hid hjh
                    replace HV := Lib.hid (HV.out.trans hkz)
                    clear hsh hjh hkz
                    refine soloP HV.out ?_
                    rw [wpPlan_one]
                    simp only [pickOps_cons, pickOps_nil, consO_some, List.getElem?_cons_zero, List.getElem?_cons_succ]
                    go_wp2_with fail
                    have hkz := (Kept.refl u3).alloc #[.slice none 0 0, .slice none 0 0, .slice none 0 0] 28
                    have HNE := Lib.hid (show bD ≠ u3.heap.size from fun e => by have := HBD.out.lt; omega)
                    replace HSg := Lib.hid (HSg.out.kept hkz)
                    replace HSh := Lib.hid (HSh.out.kept hkz)
                    replace HBD := Lib.hid (HBD.out.kept hkz)
                    have HBC := Lib.hid (Box3.new u3 (.slice none 0 0) (.slice none 0 0) (.slice none 0 0) 28)
                    have HLC := Lib.hid HV.out.2.2
                    replace HV := Lib.hid (HV.out.trans hkz)
                    obtain ⟨bC, hbz⟩ : ∃ b, (World.heap u3).size = b := ⟨_, rfl⟩
                    obtain ⟨u4, hwz⟩ : ∃ u, World.alloc u3 (.cells #[.slice none 0 0, .slice none 0 0, .slice none 0 0] 28) = u := ⟨_, rfl⟩
                    rw [hwz] at HBC HV HSg HSh HBD ⊢
                    rw [hbz] at HBC HLC HNE ⊢
                    clear hkz hbz hwz
                    refine soloP HV.out ?_
                    rw [wpPlan_one]
                    simp only [pickOps_cons, pickOps_nil, consO_some, List.getElem?_cons_zero, List.getElem?_cons_succ]
                    have hl := HLC.out
                    have e0 := HBC.out.c0; have e1 := HBC.out.c1; have e2 := HBC.out.c2; have ef0 := HBC.out.f 0; have ef1 := HBC.out.f 1; have ef2 := HBC.out.f 2
                    go_wp2_with fail
                    clear e0 e1 e2 ef0 ef1 ef2
                    replace HSg := Lib.hid (HBC.out.stt (.slice Ag ng cg) (.slice Bg mg kg) (.slice Dg pg qg) HSg.out)
                    replace HSh := Lib.hid (HBC.out.stt (.slice Ag ng cg) (.slice Bg mg kg) (.slice Dg pg qg) HSh.out)
                    replace HBD := Lib.hid (HBD.out.set_far HNE.out (.slice Ag ng cg) (.slice Bg mg kg) (.slice Dg pg qg))
                    replace HBC := Lib.hid (HBC.out.set3 (.slice Ag ng cg) (.slice Bg mg kg) (.slice Dg pg qg))
                    replace HV := Lib.hid (((HV.out.setCell (a := ⟨bC, 0, none⟩) hl (.slice Ag ng cg)).setCell (a := ⟨bC, 1, none⟩) hl (.slice Bg mg kg)).setCell (a := ⟨bC, 2, none⟩) hl (.slice Dg pg qg))
                    obtain ⟨u5, hwz⟩ : ∃ u, ((World.setCell u4 ⟨bC, 0, none⟩ (.slice Ag ng cg)).setCell ⟨bC, 1, none⟩ (.slice Bg mg kg)).setCell ⟨bC, 2, none⟩ (.slice Dg pg qg) = u := ⟨_, rfl⟩
                    rw [hwz] at HV HBC HBD HSg HSh ⊢
                    clear hl hwz
                    refine soloP HV.out ?_
                    rw [wpPlan_one]
                    simp only [pickOps_cons, pickOps_nil, consO_some, List.getElem?_cons_zero, List.getElem?_cons_succ]
                    have hl := HLD.out
                    have e0 := HBD.out.c0; have e1 := HBD.out.c1; have e2 := HBD.out.c2; have ef0 := HBD.out.f 0; have ef1 := HBD.out.f 1; have ef2 := HBD.out.f 2
                    go_wp2_with fail
                    clear e0 e1 e2 ef0 ef1 ef2
                    replace HSg := Lib.hid (HBD.out.stt (.slice Ah nh ch) (.slice Bh mh kh) (.slice Dh ph qh) HSg.out)
                    replace HSh := Lib.hid (HBD.out.stt (.slice Ah nh ch) (.slice Bh mh kh) (.slice Dh ph qh) HSh.out)
                    replace HBC := Lib.hid (HBC.out.set_far HNE.out.symm (.slice Ah nh ch) (.slice Bh mh kh) (.slice Dh ph qh))
                    replace HBD := Lib.hid (HBD.out.set3 (.slice Ah nh ch) (.slice Bh mh kh) (.slice Dh ph qh))
                    replace HV := Lib.hid (((HV.out.setCell (a := ⟨bD, 0, none⟩) hl (.slice Ah nh ch)).setCell (a := ⟨bD, 1, none⟩) hl (.slice Bh mh kh)).setCell (a := ⟨bD, 2, none⟩) hl (.slice Dh ph qh))
                    obtain ⟨u6, hwz⟩ : ∃ u, ((World.setCell u5 ⟨bD, 0, none⟩ (.slice Ah nh ch)).setCell ⟨bD, 1, none⟩ (.slice Bh mh kh)).setCell ⟨bD, 2, none⟩ (.slice Dh ph qh) = u := ⟨_, rfl⟩
                    rw [hwz] at HV HBC HBD HSg HSh ⊢
                    clear hl hwz
                    refine soloP HV.out ?_
                    have HF := Lib.hid (show TwoB W5 (fun s t => s = t ∧ LeaveS x G s) (.pointer (some ⟨bC, 0, none⟩)) (.pointer (some ⟨bD, 0, none⟩)) u6 from ⟨bC, bD, Ag, ng, cg, Bg, mg, kg, Dg, pg, qg, Ah, nh, ch, Bh, mh, kh, Dh, ph, qh, sg, sh, rfl, rfl, HV.out, HBC.out, HBD.out, HSg.out, HSh.out, ⟨HJg.out.one HJh.out, HJg.out⟩⟩)
                    refine wpPlan_stop ?_
                    go_wp2_with fail
                    go_meet
                    exact HF.out
                  · go_wp2_with fail
                    have hkz := (Kept.refl u2).alloc #[.slice none 0 0, .slice none 0 0, .slice none 0 0] 28
                    have HNE := Lib.hid (show bD ≠ u2.heap.size from fun e => by have := HBD.out.lt; omega)
                    replace HSg := Lib.hid (HSg.out.kept hkz)
                    replace HBD := Lib.hid (HBD.out.kept hkz)
                    have HBC := Lib.hid (Box3.new u2 (.slice none 0 0) (.slice none 0 0) (.slice none 0 0) 28)
                    have HLC := Lib.hid HV.out.2.2
                    replace HV := Lib.hid (HV.out.trans hkz)
                    obtain ⟨bC, hbz⟩ : ∃ b, (World.heap u2).size = b := ⟨_, rfl⟩
                    obtain ⟨u3, hwz⟩ : ∃ u, World.alloc u2 (.cells #[.slice none 0 0, .slice none 0 0, .slice none 0 0] 28) = u := ⟨_, rfl⟩
                    rw [hwz] at HBC HV HSg HBD ⊢
                    rw [hbz] at HBC HLC HNE ⊢
                    clear hkz hbz hwz
                    refine soloP HV.out ?_
                    rw [wpPlan_one]
                    simp only [pickOps_cons, pickOps_nil, consO_some, List.getElem?_cons_zero, List.getElem?_cons_succ]
                    go_wp2_with (go_at_call 11; refine (rleave_any x Ao no co G _ (HG.out.kept HV.out) hng).mono ?_; rintro e u4 ⟨Ah, nh, ch, Bh, mh, kh, Dh, ph, qh, sh, rfl, hsh, hjh, hkz⟩)
                    replace HSg := Lib.hid (HSg.out.kept hkz)
                    replace HBC := Lib.hid (HBC.out.kept hkz)
                    replace HBD := Lib.hid (HBD.out.kept hkz)
                    have HSh := Lib.hid hsh
                    have HJh := Lib.hid hjh
                    replace HV := Lib.hid (HV.out.trans hkz)
                    clear hsh hjh hkz
                    refine soloP HV.out ?_
                    rw [wpPlan_one]
                    simp only [pickOps_cons, pickOps_nil, consO_some, List.getElem?_cons_zero, List.getElem?_cons_succ]
                    have hl := HLC.out
                    have e0 := HBC.out.c0; have e1 := HBC.out.c1; have e2 := HBC.out.c2; have ef0 := HBC.out.f 0; have ef1 := HBC.out.f 1; have ef2 := HBC.out.f 2
                    go_wp2_with fail
                    clear e0 e1 e2 ef0 ef1 ef2
                    replace HSg := Lib.hid (HBC.out.stt (.slice Ag ng cg) (.slice Bg mg kg) (.slice Dg pg qg) HSg.out)
                    replace HSh := Lib.hid (HBC.out.stt (.slice Ag ng cg) (.slice Bg mg kg) (.slice Dg pg qg) HSh.out)
                    replace HBD := Lib.hid (HBD.out.set_far HNE.out (.slice Ag ng cg) (.slice Bg mg kg) (.slice Dg pg qg))
                    replace HBC := Lib.hid (HBC.out.set3 (.slice Ag ng cg) (.slice Bg mg kg) (.slice Dg pg qg))
                    replace HV := Lib.hid (((HV.out.setCell (a := ⟨bC, 0, none⟩) hl (.slice Ag ng cg)).setCell (a := ⟨bC, 1, none⟩) hl (.slice Bg mg kg)).setCell (a := ⟨bC, 2, none⟩) hl (.slice Dg pg qg))
                    obtain ⟨u5, hwz⟩ : ∃ u, ((World.setCell u4 ⟨bC, 0, none⟩ (.slice Ag ng cg)).setCell ⟨bC, 1, none⟩ (.slice Bg mg kg)).setCell ⟨bC, 2, none⟩ (.slice Dg pg qg) = u := ⟨_, rfl⟩
                    rw [hwz] at HV HBC HBD HSg HSh ⊢
                    clear hl hwz
                    refine soloP HV.out ?_
                    rw [wpPlan_one]
                    simp only [pickOps_cons, pickOps_nil, consO_some, List.getElem?_cons_zero, List.getElem?_cons_succ]
                    have hl := HLD.out
                    have e0 := HBD.out.c0; have e1 := HBD.out.c1; have e2 := HBD.out.c2; have ef0 := HBD.out.f 0; have ef1 := HBD.out.f 1; have ef2 := HBD.out.f 2
                    go_wp2_with fail
                    clear e0 e1 e2 ef0 ef1 ef2
                    replace HSg := Lib.hid (HBD.out.stt (.slice Ah nh ch) (.slice Bh mh kh) (.slice Dh ph qh) HSg.out)
                    replace HSh := Lib.hid (HBD.out.stt (.slice Ah nh ch) (.slice Bh mh kh) (.slice Dh ph qh) HSh.out)
                    replace HBC := Lib.hid (HBC.out.set_far HNE.out.symm (.slice Ah nh ch) (.slice Bh mh kh) (.slice Dh ph qh))
                    replace HBD := Lib.hid (HBD.out.set3 (.slice Ah nh ch) (.slice Bh mh kh) (.slice Dh ph qh))
                    replace HV := Lib.hid (((HV.out.setCell (a := ⟨bD, 0, none⟩) hl (.slice Ah nh ch)).setCell (a := ⟨bD, 1, none⟩) hl (.slice Bh mh kh)).setCell (a := ⟨bD, 2, none⟩) hl (.slice Dh ph qh))
                    obtain ⟨u6, hwz⟩ : ∃ u, ((World.setCell u5 ⟨bD, 0, none⟩ (.slice Ah nh ch)).setCell ⟨bD, 1, none⟩ (.slice Bh mh kh)).setCell ⟨bD, 2, none⟩ (.slice Dh ph qh) = u := ⟨_, rfl⟩
                    rw [hwz] at HV HBC HBD HSg HSh ⊢
                    clear hl hwz
                    refine soloP HV.out ?_
                    have HF := Lib.hid (show TwoB W5 (fun s t => s = t ∧ LeaveS x G s) (.pointer (some ⟨bC, 0, none⟩)) (.pointer (some ⟨bD, 0, none⟩)) u6 from ⟨bC, bD, Ag, ng, cg, Bg, mg, kg, Dg, pg, qg, Ah, nh, ch, Bh, mh, kh, Dh, ph, qh, sg, sh, rfl, rfl, HV.out, HBC.out, HBD.out, HSg.out, HSh.out, ⟨HJg.out.one HJh.out, HJg.out⟩⟩)
                    refine wpPlan_stop ?_
                    go_wp2_with fail
                    go_meet
                    exact HF.out
              · go_wp2_with fail
                have hkz := (Kept.refl wd).alloc #[.slice none 0 0, .slice none 0 0, .slice none 0 0] 28
                have HBC := Lib.hid (Box3.new wd (.slice none 0 0) (.slice none 0 0) (.slice none 0 0) 28)
                have HLC := Lib.hid HV.out.2.2
                replace HV := Lib.hid (HV.out.trans hkz)
                obtain ⟨bC, hbz⟩ : ∃ b, (World.heap wd).size = b := ⟨_, rfl⟩
                obtain ⟨u1, hwz⟩ : ∃ u, World.alloc wd (.cells #[.slice none 0 0, .slice none 0 0, .slice none 0 0] 28) = u := ⟨_, rfl⟩
                rw [hwz] at HBC HV ⊢
                rw [hbz] at HBC HLC ⊢
                clear hkz hbz hwz
                refine soloP HV.out ?_
                rw [wpPlan_two]
                simp only [pickOps_cons, pickOps_nil, consO_some, List.getElem?_cons_zero, List.getElem?_cons_succ]
                constructor
                · go_wp2_with (go_at_call 10; refine (uleave_any x Ao no co G _ (HG.out.kept HV.out) hng).mono ?_; rintro e u2 ⟨Ag, ng, cg, Bg, mg, kg, Dg, pg, qg, sg, rfl, hsg, hjg, hkz⟩)
                  replace HBC := Lib.hid (HBC.out.kept hkz)
                  have HSg := Lib.hid hsg
                  have HJg := Lib.hid hjg
                  replace HV := Lib.hid (HV.out.trans hkz)
                  clear hsg hjg hkz
                  refine soloP HV.out ?_
                  rw [wpPlan_two]
                  simp only [pickOps_cons, pickOps_nil, consO_some, List.getElem?_cons_zero, List.getElem?_cons_succ]
                  constructor
                  · go_wp2_with (go_at_call 11; refine (rleave_any x Ao no co G _ (HG.out.kept HV.out) hng).mono ?_; rintro e u3 ⟨Ah, nh, ch, Bh, mh, kh, Dh, ph, qh, sh, rfl, hsh, hjh, hkz⟩)
                    replace HSg := Lib.hid (HSg.out.kept hkz)
                    replace HBC := Lib.hid (HBC.out.kept hkz)
                    have HSh := Lib.hid hsh
                    have HJh := Lib.hid hjh
                    replace HV := Lib.hid (HV.out.trans hkz)
                    clear hsh hjh hkz
                    refine soloP HV.out ?_
                    rw [wpPlan_one]
                    simp only [pickOps_cons, pickOps_nil, consO_some, List.getElem?_cons_zero, List.getElem?_cons_succ]
                    go_wp2_with fail
                    have hkz := (Kept.refl u3).alloc #[.slice none 0 0, .slice none 0 0, .slice none 0 0] 28
                    have HNE := Lib.hid (show bC ≠ u3.heap.size from fun e => by have := HBC.out.lt; omega)
                    replace HSg := Lib.hid (HSg.out.kept hkz)
                    replace HSh := Lib.hid (HSh.out.kept hkz)
                    replace HBC := Lib.hid (HBC.out.kept hkz)
                    have HBD := Lib.hid (Box3.new u3 (.slice none 0 0) (.slice none 0 0) (.slice none 0 0) 28)
                    have HLD := Lib.hid HV.out.2.2
                    replace HV := Lib.hid (HV.out.trans hkz)
                    obtain ⟨bD, hbz⟩ : ∃ b, (World.heap u3).size = b := ⟨_, rfl⟩
                    obtain ⟨u4, hwz⟩ : ∃ u, World.alloc u3 (.cells #[.slice none 0 0, .slice none 0 0, .slice none 0 0] 28) = u := ⟨_, rfl⟩
                    rw [hwz] at HBD HV HSg HSh HBC ⊢
                    rw [hbz] at HBD HLD HNE ⊢
                    clear hkz hbz hwz
                    refine soloP HV.out ?_
                    rw [wpPlan_one]
                    simp only [pickOps_cons, pickOps_nil, consO_some, List.getElem?_cons_zero, List.getElem?_cons_succ]
                    have hl := HLC.out
                    have e0 := HBC.out.c0; have e1 := HBC.out.c1; have e2 := HBC.out.c2; have ef0 := HBC.out.f 0; have ef1 := HBC.out.f 1; have ef2 := HBC.out.f 2
                    go_wp2_with fail
                    clear e0 e1 e2 ef0 ef1 ef2
                    replace HSg := Lib.hid (HBC.out.stt (.slice Ag ng cg) (.slice Bg mg kg) (.slice Dg pg qg) HSg.out)
                    replace HSh := Lib.hid (HBC.out.stt (.slice Ag ng cg) (.slice Bg mg kg) (.slice Dg pg qg) HSh.out)
                    replace HBD := Lib.hid (HBD.out.set_far HNE.out.symm (.slice Ag ng cg) (.slice Bg mg kg) (.slice Dg pg qg))
                    replace HBC := Lib.hid (HBC.out.set3 (.slice Ag ng cg) (.slice Bg mg kg) (.slice Dg pg qg))
                    replace HV := Lib.hid (((HV.out.setCell (a := ⟨bC, 0, none⟩) hl (.slice Ag ng cg)).setCell (a := ⟨bC, 1, none⟩) hl (.slice Bg mg kg)).setCell (a := ⟨bC, 2, none⟩) hl (.slice Dg pg qg))
                    obtain ⟨u5, hwz⟩ : ∃ u, ((World.setCell u4 ⟨bC, 0, none⟩ (.slice Ag ng cg)).setCell ⟨bC, 1, none⟩ (.slice Bg mg kg)).setCell ⟨bC, 2, none⟩ (.slice Dg pg qg) = u := ⟨_, rfl⟩
                    rw [hwz] at HV HBC HBD HSg HSh ⊢
                    clear hl hwz
                    refine soloP HV.out ?_
                    rw [wpPlan_one]
                    simp only [pickOps_cons, pickOps_nil, consO_some, List.getElem?_cons_zero, List.getElem?_cons_succ]
                    have hl := HLD.out
                    have e0 := HBD.out.c0; have e1 := HBD.out.c1; have e2 := HBD.out.c2; have ef0 := HBD.out.f 0; have ef1 := HBD.out.f 1; have ef2 := HBD.out.f 2
                    go_wp2_with fail
                    clear e0 e1 e2 ef0 ef1 ef2
                    replace HSg := Lib.hid (HBD.out.stt (.slice Ah nh ch) (.slice Bh mh kh) (.slice Dh ph qh) HSg.out)
                    replace HSh := Lib.hid (HBD.out.stt (.slice Ah nh ch) (.slice Bh mh kh) (.slice Dh ph qh) HSh.out)
                    replace HBC := Lib.hid (HBC.out.set_far HNE.out (.slice Ah nh ch) (.slice Bh mh kh) (.slice Dh ph qh))
                    replace HBD := Lib.hid (HBD.out.set3 (.slice Ah nh ch) (.slice Bh mh kh) (.slice Dh ph qh))
                    replace HV := Lib.hid (((HV.out.setCell (a := ⟨bD, 0, none⟩) hl (.slice Ah nh ch)).setCell (a := ⟨bD, 1, none⟩) hl (.slice Bh mh kh)).setCell (a := ⟨bD, 2, none⟩) hl (.slice Dh ph qh))
                    obtain ⟨u6, hwz⟩ : ∃ u, ((World.setCell u5 ⟨bD, 0, none⟩ (.slice Ah nh ch)).setCell ⟨bD, 1, none⟩ (.slice Bh mh kh)).setCell ⟨bD, 2, none⟩ (.slice Dh ph qh) = u := ⟨_, rfl⟩
                    rw [hwz] at HV HBC HBD HSg HSh ⊢
                    clear hl hwz
                    refine soloP HV.out ?_
                    have HF := Lib.hid (show TwoB W5 (fun s t => s = t ∧ LeaveS x G s) (.pointer (some ⟨bC, 0, none⟩)) (.pointer (some ⟨bD, 0, none⟩)) u6 from ⟨bC, bD, Ag, ng, cg, Bg, mg, kg, Dg, pg, qg, Ah, nh, ch, Bh, mh, kh, Dh, ph, qh, sg, sh, rfl, rfl, HV.out, HBC.out, HBD.out, HSg.out, HSh.out, ⟨HJg.out.one HJh.out, HJg.out⟩⟩)
                    refine wpPlan_stop ?_
                    go_wp2_with fail
                    go_meet
                    exact HF.out
                  · go_wp2_with fail
                    have hkz := (Kept.refl u2).alloc #[.slice none 0 0, .slice none 0 0, .slice none 0 0] 28
                    have HNE := Lib.hid (show bC ≠ u2.heap.size from fun e => by have := HBC.out.lt; omega)
                    replace HSg := Lib.hid (HSg.out.kept hkz)
                    replace HBC := Lib.hid (HBC.out.kept hkz)
                    have HBD := Lib.hid (Box3.new u2 (.slice none 0 0) (.slice none 0 0) (.slice none 0 0) 28)
                    have HLD := Lib.hid HV.out.2.2
                    replace HV := Lib.hid (HV.out.trans hkz)
                    obtain ⟨bD, hbz⟩ : ∃ b, (World.heap u2).size = b := ⟨_, rfl⟩
                    obtain ⟨u3, hwz⟩ : ∃ u, World.alloc u2 (.cells #[.slice none 0 0, .slice none 0 0, .slice none 0 0] 28) = u := ⟨_, rfl⟩
                    rw [hwz] at HBD HV HSg HBC ⊢
                    rw [hbz] at HBD HLD HNE ⊢
                    clear hkz hbz hwz
                    refine soloP HV.out ?_
                    rw [wpPlan_one]
                    simp only [pickOps_cons, pickOps_nil, consO_some, List.getElem?_cons_zero, List.getElem?_cons_succ]
                    go_wp2_with (go_at_call 11; refine (rleave_any x Ao no co G _ (HG.out.kept HV.out) hng).mono ?_; rintro e u4 ⟨Ah, nh, ch, Bh, mh, kh, Dh, ph, qh, sh, rfl, hsh, hjh, hkz⟩)
                    replace HSg := Lib.hid (HSg.out.kept hkz)
                    replace HBC := Lib.hid (HBC.out.kept hkz)
                    replace HBD := Lib.hid (HBD.out.kept hkz)
                    have HSh := Lib.hid hsh
                    have HJh := Lib.hid hjh
                    replace HV := Lib.hid (HV.out.trans hkz)
                    clear hsh hjh hkz
                    refine soloP HV.out ?_
                    rw [wpPlan_one]
                    simp only [pickOps_cons, pickOps_nil, consO_some, List.getElem?_cons_zero, List.getElem?_cons_succ]
                    have hl := HLC.out
                    have e0 := HBC.out.c0; have e1 := HBC.out.c1; have e2 := HBC.out.c2; have ef0 := HBC.out.f 0; have ef1 := HBC.out.f 1; have ef2 := HBC.out.f 2
                    go_wp2_with fail
                    clear e0 e1 e2 ef0 ef1 ef2
                    replace HSg := Lib.hid (HBC.out.stt (.slice Ag ng cg) (.slice Bg mg kg) (.slice Dg pg qg) HSg.out)
                    replace HSh := Lib.hid (HBC.out.stt (.slice Ag ng cg) (.slice Bg mg kg) (.slice Dg pg qg) HSh.out)
                    replace HBD := Lib.hid (HBD.out.set_far HNE.out.symm (.slice Ag ng cg) (.slice Bg mg kg) (.slice Dg pg qg))
                    replace HBC := Lib.hid (HBC.out.set3 (.slice Ag ng cg) (.slice Bg mg kg) (.slice Dg pg qg))
                    replace HV := Lib.hid (((HV.out.setCell (a := ⟨bC, 0, none⟩) hl (.slice Ag ng cg)).setCell (a := ⟨bC, 1, none⟩) hl (.slice Bg mg kg)).setCell (a := ⟨bC, 2, none⟩) hl (.slice Dg pg qg))
                    obtain ⟨u5, hwz⟩ : ∃ u, ((World.setCell u4 ⟨bC, 0, none⟩ (.slice Ag ng cg)).setCell ⟨bC, 1, none⟩ (.slice Bg mg kg)).setCell ⟨bC, 2, none⟩ (.slice Dg pg qg) = u := ⟨_, rfl⟩
                    rw [hwz] at HV HBC HBD HSg HSh ⊢
                    clear hl hwz
                    refine soloP HV.out ?_
                    rw [wpPlan_one]
                    simp only [pickOps_cons, pickOps_nil, consO_some, List.getElem?_cons_zero, List.getElem?_cons_succ]
                    have hl := HLD.out
                    have e0 := HBD.out.c0; have e1 := HBD.out.c1; have e2 := HBD.out.c2; have ef0 := HBD.out.f 0; have ef1 := HBD.out.f 1; have ef2 := HBD.out.f 2
                    go_wp2_with fail
                    clear e0 e1 e2 ef0 ef1 ef2
                    replace HSg := Lib.hid (HBD.out.stt (.slice Ah nh ch) (.slice Bh mh kh) (.slice Dh ph qh) HSg.out)
                    replace HSh := Lib.hid (HBD.out.stt (.slice Ah nh ch) (.slice Bh mh kh) (.slice Dh ph qh) HSh.out)
                    replace HBC := Lib.hid (HBC.out.set_far HNE.out (.slice Ah nh ch) (.slice Bh mh kh) (.slice Dh ph qh))
                    replace HBD := Lib.hid (HBD.out.set3 (.slice Ah nh ch) (.slice Bh mh kh) (.slice Dh ph qh))
                    replace HV := Lib.hid (((HV.out.setCell (a := ⟨bD, 0, none⟩) hl (.slice Ah nh ch)).setCell (a := ⟨bD, 1, none⟩) hl (.slice Bh mh kh)).setCell (a := ⟨bD, 2, none⟩) hl (.slice Dh ph qh))
                    obtain ⟨u6, hwz⟩ : ∃ u, ((World.setCell u5 ⟨bD, 0, none⟩ (.slice Ah nh ch)).setCell ⟨bD, 1, none⟩ (.slice Bh mh kh)).setCell ⟨bD, 2, none⟩ (.slice Dh ph qh) = u := ⟨_, rfl⟩
                    rw [hwz] at HV HBC HBD HSg HSh ⊢
                    clear hl hwz
                    refine soloP HV.out ?_
                    have HF := Lib.hid (show TwoB W5 (fun s t => s = t ∧ LeaveS x G s) (.pointer (some ⟨bC, 0, none⟩)) (.pointer (some ⟨bD, 0, none⟩)) u6 from ⟨bC, bD, Ag, ng, cg, Bg, mg, kg, Dg, pg, qg, Ah, nh, ch, Bh, mh, kh, Dh, ph, qh, sg, sh, rfl, rfl, HV.out, HBC.out, HBD.out, HSg.out, HSh.out, ⟨HJg.out.one HJh.out, HJg.out⟩⟩)
                    refine wpPlan_stop ?_
                    go_wp2_with fail
                    go_meet
                    exact HF.out
                · go_wp2_with fail
                  have hkz := (Kept.refl u1).alloc #[.slice none 0 0, .slice none 0 0, .slice none 0 0] 28
                  have HNE := Lib.hid (show bC ≠ u1.heap.size from fun e => by have := HBC.out.lt; omega)
                  replace HBC := Lib.hid (HBC.out.kept hkz)
                  have HBD := Lib.hid (Box3.new u1 (.slice none 0 0) (.slice none 0 0) (.slice none 0 0) 28)
                  have HLD := Lib.hid HV.out.2.2
                  replace HV := Lib.hid (HV.out.trans hkz)
                  obtain ⟨bD, hbz⟩ : ∃ b, (World.heap u1).size = b := ⟨_, rfl⟩
                  obtain ⟨u2, hwz⟩ : ∃ u, World.alloc u1 (.cells #[.slice none 0 0, .slice none 0 0, .slice none 0 0] 28) = u := ⟨_, rfl⟩
                  rw [hwz] at HBD HV HBC ⊢
                  rw [hbz] at HBD HLD HNE ⊢
                  clear hkz hbz hwz
                  refine soloP HV.out ?_
                  rw [wpPlan_one]
                  simp only [pickOps_cons, pickOps_nil, consO_some, List.getElem?_cons_zero, List.getElem?_cons_succ]
                  go_wp2_with (go_at_call 10; refine (uleave_any x Ao no co G _ (HG.out.kept HV.out) hng).mono ?_; rintro e u3 ⟨Ag, ng, cg, Bg, mg, kg, Dg, pg, qg, sg, rfl, hsg, hjg, hkz⟩)
                  replace HBC := Lib.hid (HBC.out.kept hkz)
                  replace HBD := Lib.hid (HBD.out.kept hkz)
                  have HSg := Lib.hid hsg
                  have HJg := Lib.hid hjg
                  replace HV := Lib.hid (HV.out.trans hkz)
                  clear hsg hjg hkz
                  refine soloP HV.out ?_
                  rw [wpPlan_one]
                  simp only [pickOps_cons, pickOps_nil, consO_some, List.getElem?_cons_zero, List.getElem?_cons_succ]
                  go_wp2_with (go_at_call 11; refine (rleave_any x Ao no co G _ (HG.out.kept HV.out) hng).mono ?_; rintro e u4 ⟨Ah, nh, ch, Bh, mh, kh, Dh, ph, qh, sh, rfl, hsh, hjh, hkz⟩)
                  replace HSg := Lib.hid (HSg.out.kept hkz)
                  replace HBC := Lib.hid (HBC.out.kept hkz)
                  replace HBD := Lib.hid (HBD.out.kept hkz)
                  have HSh := Lib.hid hsh
                  have HJh := Lib.hid hjh
                  replace HV := Lib.hid (HV.out.trans hkz)
                  clear hsh hjh hkz
                  refine soloP HV.out ?_
                  rw [wpPlan_one]
                  simp only [pickOps_cons, pickOps_nil, consO_some, List.getElem?_cons_zero, List.getElem?_cons_succ]
                  have hl := HLC.out
                  have e0 := HBC.out.c0; have e1 := HBC.out.c1; have e2 := HBC.out.c2; have ef0 := HBC.out.f 0; have ef1 := HBC.out.f 1; have ef2 := HBC.out.f 2
                  go_wp2_with fail
                  clear e0 e1 e2 ef0 ef1 ef2
                  replace HSg := Lib.hid (HBC.out.stt (.slice Ag ng cg) (.slice Bg mg kg) (.slice Dg pg qg) HSg.out)
                  replace HSh := Lib.hid (HBC.out.stt (.slice Ag ng cg) (.slice Bg mg kg) (.slice Dg pg qg) HSh.out)
                  replace HBD := Lib.hid (HBD.out.set_far HNE.out.symm (.slice Ag ng cg) (.slice Bg mg kg) (.slice Dg pg qg))
                  replace HBC := Lib.hid (HBC.out.set3 (.slice Ag ng cg) (.slice Bg mg kg) (.slice Dg pg qg))
                  replace HV := Lib.hid (((HV.out.setCell (a := ⟨bC, 0, none⟩) hl (.slice Ag ng cg)).setCell (a := ⟨bC, 1, none⟩) hl (.slice Bg mg kg)).setCell (a := ⟨bC, 2, none⟩) hl (.slice Dg pg qg))
                  obtain ⟨u5, hwz⟩ : ∃ u, ((World.setCell u4 ⟨bC, 0, none⟩ (.slice Ag ng cg)).setCell ⟨bC, 1, none⟩ (.slice Bg mg kg)).setCell ⟨bC, 2, none⟩ (.slice Dg pg qg) = u := ⟨_, rfl⟩
                  rw [hwz] at HV HBC HBD HSg HSh ⊢
                  clear hl hwz
                  refine soloP HV.out ?_
                  rw [wpPlan_one]
                  simp only [pickOps_cons, pickOps_nil, consO_some, List.getElem?_cons_zero, List.getElem?_cons_succ]
                  have hl := HLD.out
                  have e0 := HBD.out.c0; have e1 := HBD.out.c1; have e2 := HBD.out.c2; have ef0 := HBD.out.f 0; have ef1 := HBD.out.f 1; have ef2 := HBD.out.f 2
                  go_wp2_with fail
                  clear e0 e1 e2 ef0 ef1 ef2
                  replace HSg := Lib.hid (HBD.out.stt (.slice Ah nh ch) (.slice Bh mh kh) (.slice Dh ph qh) HSg.out)
                  replace HSh := Lib.hid (HBD.out.stt (.slice Ah nh ch) (.slice Bh mh kh) (.slice Dh ph qh) HSh.out)
                  replace HBC := Lib.hid (HBC.out.set_far HNE.out (.slice Ah nh ch) (.slice Bh mh kh) (.slice Dh ph qh))
                  replace HBD := Lib.hid (HBD.out.set3 (.slice Ah nh ch) (.slice Bh mh kh) (.slice Dh ph qh))
                  replace HV := Lib.hid (((HV.out.setCell (a := ⟨bD, 0, none⟩) hl (.slice Ah nh ch)).setCell (a := ⟨bD, 1, none⟩) hl (.slice Bh mh kh)).setCell (a := ⟨bD, 2, none⟩) hl (.slice Dh ph qh))
                  obtain ⟨u6, hwz⟩ : ∃ u, ((World.setCell u5 ⟨bD, 0, none⟩ (.slice Ah nh ch)).setCell ⟨bD, 1, none⟩ (.slice Bh mh kh)).setCell ⟨bD, 2, none⟩ (.slice Dh ph qh) = u := ⟨_, rfl⟩
                  rw [hwz] at HV HBC HBD HSg HSh ⊢
                  clear hl hwz
                  refine soloP HV.out ?_
                  have HF := Lib.hid (show TwoB W5 (fun s t => s = t ∧ LeaveS x G s) (.pointer (some ⟨bC, 0, none⟩)) (.pointer (some ⟨bD, 0, none⟩)) u6 from ⟨bC, bD, Ag, ng, cg, Bg, mg, kg, Dg, pg, qg, Ah, nh, ch, Bh, mh, kh, Dh, ph, qh, sg, sh, rfl, rfl, HV.out, HBC.out, HBD.out, HSg.out, HSh.out, ⟨HJg.out.one HJh.out, HJg.out⟩⟩)
                  refine wpPlan_stop ?_
                  go_wp2_with fail
                  go_meet
                  exact HF.out
              · go_wp2_with fail
                have hkz := (Kept.refl wd).alloc #[.slice none 0 0, .slice none 0 0, .slice none 0 0] 28
                have HBD := Lib.hid (Box3.new wd (.slice none 0 0) (.slice none 0 0) (.slice none 0 0) 28)
                have HLD := Lib.hid HV.out.2.2
                replace HV := Lib.hid (HV.out.trans hkz)
                obtain ⟨bD, hbz⟩ : ∃ b, (World.heap wd).size = b := ⟨_, rfl⟩
                obtain ⟨u1, hwz⟩ : ∃ u, World.alloc wd (.cells #[.slice none 0 0, .slice none 0 0, .slice none 0 0] 28) = u := ⟨_, rfl⟩
                rw [hwz] at HBD HV ⊢
                rw [hbz] at HBD HLD ⊢
                clear hkz hbz hwz
                refine soloP HV.out ?_
                rw [wpPlan_two]
                simp only [pickOps_cons, pickOps_nil, consO_some, List.getElem?_cons_zero, List.getElem?_cons_succ]
                constructor
                · go_wp2_with (go_at_call 10; refine (uleave_any x Ao no co G _ (HG.out.kept HV.out) hng).mono ?_; rintro e u2 ⟨Ag, ng, cg, Bg, mg, kg, Dg, pg, qg, sg, rfl, hsg, hjg, hkz⟩)
                  replace HBD := Lib.hid (HBD.out.kept hkz)
                  have HSg := Lib.hid hsg
                  have HJg := Lib.hid hjg
                  replace HV := Lib.hid (HV.out.trans hkz)
                  clear hsg hjg hkz
                  refine soloP HV.out ?_
                  rw [wpPlan_two]
                  simp only [pickOps_cons, pickOps_nil, consO_some, List.getElem?_cons_zero, List.getElem?_cons_succ]
                  constructor
                  · go_wp2_with (go_at_call 11; refine (rleave_any x Ao no co G _ (HG.out.kept HV.out) hng).mono ?_; rintro e u3 ⟨Ah, nh, ch, Bh, mh, kh, Dh, ph, qh, sh, rfl, hsh, hjh, hkz⟩)
                    replace HSg := Lib.hid (HSg.out.kept hkz)
                    replace HBD := Lib.hid (HBD.out.kept hkz)
                    have HSh := Lib.hid hsh
                    have HJh := Lib.hid hjh
                    replace HV := Lib.hid (HV.out.trans hkz)
                    clear hsh hjh hkz
                    refine soloP HV.out ?_
                    rw [wpPlan_one]
                    simp only [pickOps_cons, pickOps_nil, consO_some, List.getElem?_cons_zero, List.getElem?_cons_succ]
                    go_wp2_with fail
                    have hkz := (Kept.refl u3).alloc #[.slice none 0 0, .slice none 0 0, .slice none 0 0] 28
                    have HNE := Lib.hid (show bD ≠ u3.heap.size from fun e => by have := HBD.out.lt; omega)
                    replace HSg := Lib.hid (HSg.out.kept hkz)
                    replace HSh := Lib.hid (HSh.out.kept hkz)
                    replace HBD := Lib.hid (HBD.out.kept hkz)
                    have HBC := Lib.hid (Box3.new u3 (.slice none 0 0) (.slice none 0 0) (.slice none 0 0) 28)
                    have HLC := Lib.hid HV.out.2.2
                    replace HV := Lib.hid (HV.out.trans hkz)
                    obtain ⟨bC, hbz⟩ : ∃ b, (World.heap u3).size = b := ⟨_, rfl⟩
                    obtain ⟨u4, hwz⟩ : ∃ u, World.alloc u3 (.cells #[.slice none 0 0, .slice none 0 0, .slice none 0 0] 28) = u := ⟨_, rfl⟩
                    rw [hwz] at HBC HV HSg HSh HBD ⊢
                    rw [hbz] at HBC HLC HNE ⊢
                    clear hkz hbz hwz
                    refine soloP HV.out ?_
                    rw [wpPlan_one]
                    simp only [pickOps_cons, pickOps_nil, consO_some, List.getElem?_cons_zero, List.getElem?_cons_succ]
                    have hl := HLC.out
                    have e0 := HBC.out.c0; have e1 := HBC.out.c1; have e2 := HBC.out.c2; have ef0 := HBC.out.f 0; have ef1 := HBC.out.f 1; have ef2 := HBC.out.f 2
                    go_wp2_with fail
                    clear e0 e1 e2 ef0 ef1 ef2
                    replace HSg := Lib.hid (HBC.out.stt (.slice Ag ng cg) (.slice Bg mg kg) (.slice Dg pg qg) HSg.out)
                    replace HSh := Lib.hid (HBC.out.stt (.slice Ag ng cg) (.slice Bg mg kg) (.slice Dg pg qg) HSh.out)
                    replace HBD := Lib.hid (HBD.out.set_far HNE.out (.slice Ag ng cg) (.slice Bg mg kg) (.slice Dg pg qg))
                    replace HBC := Lib.hid (HBC.out.set3 (.slice Ag ng cg) (.slice Bg mg kg) (.slice Dg pg qg))
                    replace HV := Lib.hid (((HV.out.setCell (a := ⟨bC, 0, none⟩) hl (.slice Ag ng cg)).setCell (a := ⟨bC, 1, none⟩) hl (.slice Bg mg kg)).setCell (a := ⟨bC, 2, none⟩) hl (.slice Dg pg qg))
                    obtain ⟨u5, hwz⟩ : ∃ u, ((World.setCell u4 ⟨bC, 0, none⟩ (.slice Ag ng cg)).setCell ⟨bC, 1, none⟩ (.slice Bg mg kg)).setCell ⟨bC, 2, none⟩ (.slice Dg pg qg) = u := ⟨_, rfl⟩
                    rw [hwz] at HV HBC HBD HSg HSh ⊢
                    clear hl hwz
                    refine soloP HV.out ?_
                    rw [wpPlan_one]
                    simp only [pickOps_cons, pickOps_nil, consO_some, List.getElem?_cons_zero, List.getElem?_cons_succ]
                    have hl := HLD.out
                    have e0 := HBD.out.c0; have e1 := HBD.out.c1; have e2 := HBD.out.c2; have ef0 := HBD.out.f 0; have ef1 := HBD.out.f 1; have ef2 := HBD.out.f 2
                    go_wp2_with fail
                    clear e0 e1 e2 ef0 ef1 ef2
                    replace HSg := Lib.hid (HBD.out.stt (.slice Ah nh ch) (.slice Bh mh kh) (.slice Dh ph qh) HSg.out)
                    replace HSh := Lib.hid (HBD.out.stt (.slice Ah nh ch) (.slice Bh mh kh) (.slice Dh ph qh) HSh.out)
                    replace HBC := Lib.hid (HBC.out.set_far HNE.out.symm (.slice Ah nh ch) (.slice Bh mh kh) (.slice Dh ph qh))
                    replace HBD := Lib.hid (HBD.out.set3 (.slice Ah nh ch) (.slice Bh mh kh) (.slice Dh ph qh))
                    replace HV := Lib.hid (((HV.out.setCell (a := ⟨bD, 0, none⟩) hl (.slice Ah nh ch)).setCell (a := ⟨bD, 1, none⟩) hl (.slice Bh mh kh)).setCell (a := ⟨bD, 2, none⟩) hl (.slice Dh ph qh))
                    obtain ⟨u6, hwz⟩ : ∃ u, ((World.setCell u5 ⟨bD, 0, none⟩ (.slice Ah nh ch)).setCell ⟨bD, 1, none⟩ (.slice Bh mh kh)).setCell ⟨bD, 2, none⟩ (.slice Dh ph qh) = u := ⟨_, rfl⟩
                    rw [hwz] at HV HBC HBD HSg HSh ⊢
                    clear hl hwz
                    refine soloP HV.out ?_
                    have HF := Lib.hid (show TwoB W5 (fun s t => s = t ∧ LeaveS x G s) (.pointer (some ⟨bC, 0, none⟩)) (.pointer (some ⟨bD, 0, none⟩)) u6 from ⟨bC, bD, Ag, ng, cg, Bg, mg, kg, Dg, pg, qg, Ah, nh, ch, Bh, mh, kh, Dh, ph, qh, sg, sh, rfl, rfl, HV.out, HBC.out, HBD.out, HSg.out, HSh.out, ⟨HJg.out.one HJh.out, HJg.out⟩⟩)
                    refine wpPlan_stop ?_
                    go_wp2_with fail
                    go_meet
                    exact HF.out
                  · go_wp2_with fail
                    have hkz := (Kept.refl u2).alloc #[.slice none 0 0, .slice none 0 0, .slice none 0 0] 28
                    have HNE := Lib.hid (show bD ≠ u2.heap.size from fun e => by have := HBD.out.lt; omega)
                    replace HSg := Lib.hid (HSg.out.kept hkz)
                    replace HBD := Lib.hid (HBD.out.kept hkz)
                    have HBC := Lib.hid (Box3.new u2 (.slice none 0 0) (.slice none 0 0) (.slice none 0 0) 28)
                    have HLC := Lib.hid HV.out.2.2
                    replace HV := Lib.hid (HV.out.trans hkz)
                    obtain ⟨bC, hbz⟩ : ∃ b, (World.heap u2).size = b := ⟨_, rfl⟩
                    obtain ⟨u3, hwz⟩ : ∃ u, World.alloc u2 (.cells #[.slice none 0 0, .slice none 0 0, .slice none 0 0] 28) = u := ⟨_, rfl⟩
                    rw [hwz] at HBC HV HSg HBD ⊢
                    rw [hbz] at HBC HLC HNE ⊢
                    clear hkz hbz hwz
                    refine soloP HV.out ?_
                    rw [wpPlan_one]
                    simp only [pickOps_cons, pickOps_nil, consO_some, List.getElem?_cons_zero, List.getElem?_cons_succ]
                    go_wp2_with (go_at_call 11; refine (rleave_any x Ao no co G _ (HG.out.kept HV.out) hng).mono ?_; rintro e u4 ⟨Ah, nh, ch, Bh, mh, kh, Dh, ph, qh, sh, rfl, hsh, hjh, hkz⟩)
                    replace HSg := Lib.hid (HSg.out.kept hkz)
                    replace HBC := Lib.hid (HBC.out.kept hkz)
                    replace HBD := Lib.hid (HBD.out.kept hkz)
                    have HSh := Lib.hid hsh
                    have HJh := Lib.hid hjh
                    replace HV := Lib.hid (HV.out.trans hkz)
                    clear hsh hjh hkz
                    refine soloP HV.out ?_
                    rw [wpPlan_one]
                    simp only [pickOps_cons, pickOps_nil, consO_some, List.getElem?_cons_zero, List.getElem?_cons_succ]
                    have hl := HLC.out
                    have e0 := HBC.out.c0; have e1 := HBC.out.c1; have e2 := HBC.out.c2; have ef0 := HBC.out.f 0; have ef1 := HBC.out.f 1; have ef2 := HBC.out.f 2
                    go_wp2_with fail
                    clear e0 e1 e2 ef0 ef1 ef2
                    replace HSg := Lib.hid (HBC.out.stt (.slice Ag ng cg) (.slice Bg mg kg) (.slice Dg pg qg) HSg.out)
                    replace HSh := Lib.hid (HBC.out.stt (.slice Ag ng cg) (.slice Bg mg kg) (.slice Dg pg qg) HSh.out)
                    replace HBD := Lib.hid (HBD.out.set_far HNE.out (.slice Ag ng cg) (.slice Bg mg kg) (.slice Dg pg qg))
                    replace HBC := Lib.hid (HBC.out.set3 (.slice Ag ng cg) (.slice Bg mg kg) (.slice Dg pg qg))
                    replace HV := Lib.hid (((HV.out.setCell (a := ⟨bC, 0, none⟩) hl (.slice Ag ng cg)).setCell (a := ⟨bC, 1, none⟩) hl (.slice Bg mg kg)).setCell (a := ⟨bC, 2, none⟩) hl (.slice Dg pg qg))
                    obtain ⟨u5, hwz⟩ : ∃ u, ((World.setCell u4 ⟨bC, 0, none⟩ (.slice Ag ng cg)).setCell ⟨bC, 1, none⟩ (.slice Bg mg kg)).setCell ⟨bC, 2, none⟩ (.slice Dg pg qg) = u := ⟨_, rfl⟩
                    rw [hwz] at HV HBC HBD HSg HSh ⊢
                    clear hl hwz
                    refine soloP HV.out ?_
                    rw [wpPlan_one]
                    simp only [pickOps_cons, pickOps_nil, consO_some, List.getElem?_cons_zero, List.getElem?_cons_succ]
                    have hl := HLD.out
                    have e0 := HBD.out.c0; have e1 := HBD.out.c1; have e2 := HBD.out.c2; have ef0 := HBD.out.f 0; have ef1 := HBD.out.f 1; have ef2 := HBD.out.f 2
                    go_wp2_with fail
                    clear e0 e1 e2 ef0 ef1 ef2
                    replace HSg := Lib.hid (HBD.out.stt (.slice Ah nh ch) (.slice Bh mh kh) (.slice Dh ph qh) HSg.out)
                    replace HSh := Lib.hid (HBD.out.stt (.slice Ah nh ch) (.slice Bh mh kh) (.slice Dh ph qh) HSh.out)
                    replace HBC := Lib.hid (HBC.out.set_far HNE.out.symm (.slice Ah nh ch) (.slice Bh mh kh) (.slice Dh ph qh))
                    replace HBD := Lib.hid (HBD.out.set3 (.slice Ah nh ch) (.slice Bh mh kh) (.slice Dh ph qh))
                    replace HV := Lib.hid (((HV.out.setCell (a := ⟨bD, 0, none⟩) hl (.slice Ah nh ch)).setCell (a := ⟨bD, 1, none⟩) hl (.slice Bh mh kh)).setCell (a := ⟨bD, 2, none⟩) hl (.slice Dh ph qh))
                    obtain ⟨u6, hwz⟩ : ∃ u, ((World.setCell u5 ⟨bD, 0, none⟩ (.slice Ah nh ch)).setCell ⟨bD, 1, none⟩ (.slice Bh mh kh)).setCell ⟨bD, 2, none⟩ (.slice Dh ph qh) = u := ⟨_, rfl⟩
                    rw [hwz] at HV HBC HBD HSg HSh ⊢
                    clear hl hwz
                    refine soloP HV.out ?_
                    have HF := Lib.hid (show TwoB W5 (fun s t => s = t ∧ LeaveS x G s) (.pointer (some ⟨bC, 0, none⟩)) (.pointer (some ⟨bD, 0, none⟩)) u6 from ⟨bC, bD, Ag, ng, cg, Bg, mg, kg, Dg, pg, qg, Ah, nh, ch, Bh, mh, kh, Dh, ph, qh, sg, sh, rfl, rfl, HV.out, HBC.out, HBD.out, HSg.out, HSh.out, ⟨HJg.out.one HJh.out, HJg.out⟩⟩)
                    refine wpPlan_stop ?_
                    go_wp2_with fail
                    go_meet
                    exact HF.out
                · go_wp2_with fail
                  have hkz := (Kept.refl u1).alloc #[.slice none 0 0, .slice none 0 0, .slice none 0 0] 28
                  have HNE := Lib.hid (show bD ≠ u1.heap.size from fun e => by have := HBD.out.lt; omega)
                  replace HBD := Lib.hid (HBD.out.kept hkz)
                  have HBC := Lib.hid (Box3.new u1 (.slice none 0 0) (.slice none 0 0) (.slice none 0 0) 28)
                  have HLC := Lib.hid HV.out.2.2
                  replace HV := Lib.hid (HV.out.trans hkz)
                  obtain ⟨bC, hbz⟩ : ∃ b, (World.heap u1).size = b := ⟨_, rfl⟩
                  obtain ⟨u2, hwz⟩ : ∃ u, World.alloc u1 (.cells #[.slice none 0 0, .slice none 0 0, .slice none 0 0] 28) = u := ⟨_, rfl⟩
                  rw [hwz] at HBC HV HBD ⊢
                  rw [hbz] at HBC HLC HNE ⊢
                  clear hkz hbz hwz
                  refine soloP HV.out ?_
                  rw [wpPlan_one]
                  simp only [pickOps_cons, pickOps_nil, consO_some, List.getElem?_cons_zero, List.getElem?_cons_succ]
                  go_wp2_with (go_at_call 10; refine (uleave_any x Ao no co G _ (HG.out.kept HV.out) hng).mono ?_; rintro e u3 ⟨Ag, ng, cg, Bg, mg, kg, Dg, pg, qg, sg, rfl, hsg, hjg, hkz⟩)
                  replace HBC := Lib.hid (HBC.out.kept hkz)
                  replace HBD := Lib.hid (HBD.out.kept hkz)
                  have HSg := Lib.hid hsg
                  have HJg := Lib.hid hjg
                  replace HV := Lib.hid (HV.out.trans hkz)
                  clear hsg hjg hkz
                  refine soloP HV.out ?_
                  rw [wpPlan_one]
                  simp only [pickOps_cons, pickOps_nil, consO_some, List.getElem?_cons_zero, List.getElem?_cons_succ]
                  go_wp2_with (go_at_call 11; refine (rleave_any x Ao no co G _ (HG.out.kept HV.out) hng).mono ?_; rintro e u4 ⟨Ah, nh, ch, Bh, mh, kh, Dh, ph, qh, sh, rfl, hsh, hjh, hkz⟩)
                  replace HSg := Lib.hid (HSg.out.kept hkz)
                  replace HBC := Lib.hid (HBC.out.kept hkz)
                  replace HBD := Lib.hid (HBD.out.kept hkz)
                  have HSh := Lib.hid hsh
                  have HJh := Lib.hid hjh
                  replace HV := Lib.hid (HV.out.trans hkz)
                  clear hsh hjh hkz
                  refine soloP HV.out ?_
                  rw [wpPlan_one]
                  simp only [pickOps_cons, pickOps_nil, consO_some, List.getElem?_cons_zero, List.getElem?_cons_succ]
                  have hl := HLC.out
                  have e0 := HBC.out.c0; have e1 := HBC.out.c1; have e2 := HBC.out.c2; have ef0 := HBC.out.f 0; have ef1 := HBC.out.f 1; have ef2 := HBC.out.f 2
                  go_wp2_with fail
                  clear e0 e1 e2 ef0 ef1 ef2
                  replace HSg := Lib.hid (HBC.out.stt (.slice Ag ng cg) (.slice Bg mg kg) (.slice Dg pg qg) HSg.out)
                  replace HSh := Lib.hid (HBC.out.stt (.slice Ag ng cg) (.slice Bg mg kg) (.slice Dg pg qg) HSh.out)
                  replace HBD := Lib.hid (HBD.out.set_far HNE.out (.slice Ag ng cg) (.slice Bg mg kg) (.slice Dg pg qg))
                  replace HBC := Lib.hid (HBC.out.set3 (.slice Ag ng cg) (.slice Bg mg kg) (.slice Dg pg qg))
                  replace HV := Lib.hid (((HV.out.setCell (a := ⟨bC, 0, none⟩) hl (.slice Ag ng cg)).setCell (a := ⟨bC, 1, none⟩) hl (.slice Bg mg kg)).setCell (a := ⟨bC, 2, none⟩) hl (.slice Dg pg qg))
                  obtain ⟨u5, hwz⟩ : ∃ u, ((World.setCell u4 ⟨bC, 0, none⟩ (.slice Ag ng cg)).setCell ⟨bC, 1, none⟩ (.slice Bg mg kg)).setCell ⟨bC, 2, none⟩ (.slice Dg pg qg) = u := ⟨_, rfl⟩
                  rw [hwz] at HV HBC HBD HSg HSh ⊢
                  clear hl hwz
                  refine soloP HV.out ?_
                  rw [wpPlan_one]
                  simp only [pickOps_cons, pickOps_nil, consO_some, List.getElem?_cons_zero, List.getElem?_cons_succ]
                  have hl := HLD.out
                  have e0 := HBD.out.c0; have e1 := HBD.out.c1; have e2 := HBD.out.c2; have ef0 := HBD.out.f 0; have ef1 := HBD.out.f 1; have ef2 := HBD.out.f 2
                  go_wp2_with fail
                  clear e0 e1 e2 ef0 ef1 ef2
                  replace HSg := Lib.hid (HBD.out.stt (.slice Ah nh ch) (.slice Bh mh kh) (.slice Dh ph qh) HSg.out)
                  replace HSh := Lib.hid (HBD.out.stt (.slice Ah nh ch) (.slice Bh mh kh) (.slice Dh ph qh) HSh.out)
                  replace HBC := Lib.hid (HBC.out.set_far HNE.out.symm (.slice Ah nh ch) (.slice Bh mh kh) (.slice Dh ph qh))
                  replace HBD := Lib.hid (HBD.out.set3 (.slice Ah nh ch) (.slice Bh mh kh) (.slice Dh ph qh))
                  replace HV := Lib.hid (((HV.out.setCell (a := ⟨bD, 0, none⟩) hl (.slice Ah nh ch)).setCell (a := ⟨bD, 1, none⟩) hl (.slice Bh mh kh)).setCell (a := ⟨bD, 2, none⟩) hl (.slice Dh ph qh))
                  obtain ⟨u6, hwz⟩ : ∃ u, ((World.setCell u5 ⟨bD, 0, none⟩ (.slice Ah nh ch)).setCell ⟨bD, 1, none⟩ (.slice Bh mh kh)).setCell ⟨bD, 2, none⟩ (.slice Dh ph qh) = u := ⟨_, rfl⟩
                  rw [hwz] at HV HBC HBD HSg HSh ⊢
                  clear hl hwz
                  refine soloP HV.out ?_
                  have HF := Lib.hid (show TwoB W5 (fun s t => s = t ∧ LeaveS x G s) (.pointer (some ⟨bC, 0, none⟩)) (.pointer (some ⟨bD, 0, none⟩)) u6 from ⟨bC, bD, Ag, ng, cg, Bg, mg, kg, Dg, pg, qg, Ah, nh, ch, Bh, mh, kh, Dh, ph, qh, sg, sh, rfl, rfl, HV.out, HBC.out, HBD.out, HSg.out, HSh.out, ⟨HJg.out.one HJh.out, HJg.out⟩⟩)
                  refine wpPlan_stop ?_
                  go_wp2_with fail
                  go_meet
                  exact HF.out
            case rest =>
              clear Xx0 Xx1 Xx2 Xx3 Xx4 Xx5 Xx6 Xx7 Xx8
              obtain ⟨bl, bm, Al, nl, cl, Bl, ml, kl, Dl, pl, ql, Am, nm, cm, Bm, mm, km, Dm, pm, qm, l, _, rfl, rfl, hkz, hbl, hbm, hsl, hsm, rfl, hjl⟩ := hcut
              replace HK := Lib.hid (HK.out.trans hkz)
              replace HBa := Lib.hid (HBa.out.kept hkz); replace HX := Lib.hid (HX.out.kept hkz); replace HSa := Lib.hid (HSa.out.kept hkz); replace HG := Lib.hid (HG.out.kept hkz); replace HD3 := Lib.hid (HD3.out.kept hkz); replace HD4 := Lib.hid (HD4.out.kept hkz)
              have HBl := Lib.hid hbl; have HBm := Lib.hid hbm; have HSl := Lib.hid hsl; have HSm := Lib.hid hsm; have HJl := Lib.hid hjl
              clear hkz hbl hbm hsl hsm hjl
              obtain ⟨W6, hW6⟩ : ∃ W6, wc = W6 := ⟨_, rfl⟩
              rw [hW6] at HK HBa HX HSa HG HD3 HD4 HBl HBm HSl HSm ⊢
              clear hW6
              have Xx0 := KExt.cell HX.out.c0; have Xx1 := KExt.cell HX.out.c1
              go_wp2_with fail
              go_cut [13, 14] (fun v u wx => TwoB W6 (fun s t => s = t ∧ TakeS x.d G s) v u wx)
              case first =>
                refine region_plan W6 12 (.read [0, 1, 2, 4, 5, 6] (.three 3 (.three 7 (.two 8 (.one 9 (.one 10 (.one 11 .stop))) 9 (.one 8 (.one 10 (.one 11 .stop)))) 8 (.two 7 (.one 9 (.one 10 (.one 11 .stop))) 9 (.one 7 (.one 10 (.one 11 .stop)))) 9 (.two 7 (.one 8 (.one 10 (.one 11 .stop))) 8 (.one 7 (.one 10 (.one 11 .stop))))) 8 (.two 3 (.two 7 (.one 9 (.one 10 (.one 11 .stop))) 9 (.one 7 (.one 10 (.one 11 .stop)))) 9 (.one 3 (.one 7 (.one 10 (.one 11 .stop))))) 9 (.two 3 (.two 7 (.one 8 (.one 10 (.one 11 .stop))) 8 (.one 7 (.one 10 (.one 11 .stop)))) 8 (.one 3 (.one 7 (.one 10 (.one 11 .stop))))))) (by kernel_rfl) (by kernel_rfl) (by kernel_rfl) (by kernel_rfl) (by kernel_rfl) (fun _ d _ _ _ h => by cases d <;> exact h) (Kept.refl _) ?_
                intro wd hwd
                have HV := Lib.hid hwd
                clear hwd
                rw [wpPlan_read]
                simp only [pickOps_cons, pickOps_nil, consO_some, List.getElem?_cons_zero, List.getElem?_cons_succ]
                repeat (go_big_quiet_step (fail))
                refine wpQuiet_nil ?_
                clear Xx0 Xx1
                rw [wpPlan_three]
                simp only [pickOps_cons, pickOps_nil, consO_some, List.getElem?_cons_zero, List.getElem?_cons_succ]
                refine ⟨?_, ?_, ?_⟩
                · go_wp2_with (go_at_call 12; refine (utake_any x.d Ao no co G _ (HG.out.kept HV.out) hng).mono ?_; rintro e u1 ⟨Ag, ng, cg, Bg, mg, kg, Dg, pg, qg, sg, rfl, hsg, hjg, hkz⟩)
                  have HSg := Lib.hid hsg
                  have HJg := Lib.hid hjg
                  replace HV := Lib.hid (HV.out.trans hkz)
                  clear hsg hjg hkz
                  refine soloP HV.out ?_
                  rw [wpPlan_three]
                  simp only [pickOps_cons, pickOps_nil, consO_some, List.getElem?_cons_zero, List.getElem?_cons_succ]
                  refine ⟨?_, ?_, ?_⟩
                  · go_wp2_with (go_at_call 13; refine (rtake_any x.d Ao no co G _ (HG.out.kept HV.out) hng).mono ?_; rintro e u2 ⟨Ah, nh, ch, Bh, mh, kh, Dh, ph, qh, sh, rfl, hsh, hjh, hkz⟩)
                    replace HSg := Lib.hid (HSg.out.kept hkz)
                    have HSh := Lib.hid hsh
                    have HJh := Lib.hid hjh
                    replace HV := Lib.hid (HV.out.trans hkz)
                    clear hsh hjh hkz
                    refine soloP HV.out ?_
                    rw [wpPlan_two]
                    simp only [pickOps_cons, pickOps_nil, consO_some, List.getElem?_cons_zero, List.getElem?_cons_succ]
                    constructor
                    · go_wp2_with fail
                      have hkz := (Kept.refl u2).alloc #[.slice none 0 0, .slice none 0 0, .slice none 0 0] 28
                      replace HSg := Lib.hid (HSg.out.kept hkz)
                      replace HSh := Lib.hid (HSh.out.kept hkz)
                      have HBC := Lib.hid (Box3.new u2 (.slice none 0 0) (.slice none 0 0) (.slice none 0 0) 28)
                      have HLC := Lib.hid HV.out.2.2
                      replace HV := Lib.hid (HV.out.trans hkz)
                      obtain ⟨bC, hbz⟩ : ∃ b, (World.heap u2).size = b := ⟨_, rfl⟩
                      obtain ⟨u3, hwz⟩ : ∃ u, World.alloc u2 (.cells #[.slice none 0 0, .slice none 0 0, .slice none 0 0] 28) = u := ⟨_, rfl⟩
                      rw [hwz] at HBC HV HSg HSh ⊢
                      rw [hbz] at HBC HLC ⊢
                      clear hkz hbz hwz
                      refine soloP HV.out ?_
                      rw [wpPlan_one]
                      simp only [pickOps_cons, pickOps_nil, consO_some, List.getElem?_cons_zero, List.getElem?_cons_succ]
                      go_wp2_with fail
                      have hkz := (Kept.refl u3).alloc #[.slice none 0 0, .slice none 0 0, .slice none 0 0] 28
                      have HNE := Lib.hid (show bC ≠ u3.heap.size from fun e => by have := HBC.out.lt; omega)
                      replace HSg := Lib.hid (HSg.out.kept hkz)
                      replace HSh := Lib.hid (HSh.out.kept hkz)
                      replace HBC := Lib.hid (HBC.out.kept hkz)
                      have HBD := Lib.hid (Box3.new u3 (.slice none 0 0) (.slice none 0 0) (.slice none 0 0) 28)
                      have HLD := Lib.hid HV.out.2.2
                      replace HV := Lib.hid (HV.out.trans hkz)
                      obtain ⟨bD, hbz⟩ : ∃ b, (World.heap u3).size = b := ⟨_, rfl⟩
                      obtain ⟨u4, hwz⟩ : ∃ u, World.alloc u3 (.cells #[.slice none 0 0, .slice none 0 0, .slice none 0 0] 28) = u := ⟨_, rfl⟩
                      rw [hwz] at HBD HV HSg HSh HBC ⊢
                      rw [hbz] at HBD HLD HNE ⊢
                      clear hkz hbz hwz
                      refine soloP HV.out ?_
                      rw [wpPlan_one]
                      simp only [pickOps_cons, pickOps_nil, consO_some, List.getElem?_cons_zero, List.getElem?_cons_succ]
                      have hl := HLC.out
                      have e0 := HBC.out.c0; have e1 := HBC.out.c1; have e2 := HBC.out.c2; have ef0 := HBC.out.f 0; have ef1 := HBC.out.f 1; have ef2 := HBC.out.f 2
                      go_wp2_with fail
                      clear e0 e1 e2 ef0 ef1 ef2
                      replace HSg := Lib.hid (HBC.out.stt (.slice Ag ng cg) (.slice Bg mg kg) (.slice Dg pg qg) HSg.out)
                      replace HSh := Lib.hid (HBC.out.stt (.slice Ag ng cg) (.slice Bg mg kg) (.slice Dg pg qg) HSh.out)
                      replace HBD := Lib.hid (HBD.out.set_far HNE.out.symm (.slice Ag ng cg) (.slice Bg mg kg) (.slice Dg pg qg))
                      replace HBC := Lib.hid (HBC.out.set3 (.slice Ag ng cg) (.slice Bg mg kg) (.slice Dg pg qg))
                      replace HV := Lib.hid (((HV.out.setCell (a := ⟨bC, 0, none⟩) hl (.slice Ag ng cg)).setCell (a := ⟨bC, 1, none⟩) hl (.slice Bg mg kg)).setCell (a := ⟨bC, 2, none⟩) hl (.slice Dg pg qg))
                      obtain ⟨u5, hwz⟩ : ∃ u, ((World.setCell u4 ⟨bC, 0, none⟩ (.slice Ag ng cg)).setCell ⟨bC, 1, none⟩ (.slice Bg mg kg)).setCell ⟨bC, 2, none⟩ (.slice Dg pg qg) = u := ⟨_, rfl⟩
                      rw [hwz] at HV HBC HBD HSg HSh ⊢
                      clear hl hwz
                      refine soloP HV.out ?_
                      rw [wpPlan_one]
                      simp only [pickOps_cons, pickOps_nil, consO_some, List.getElem?_cons_zero, List.getElem?_cons_succ]
                      have hl := HLD.out
                      have e0 := HBD.out.c0; have e1 := HBD.out.c1; have e2 := HBD.out.c2; have ef0 := HBD.out.f 0; have ef1 := HBD.out.f 1; have ef2 := HBD.out.f 2
                      go_wp2_with fail
                      clear e0 e1 e2 ef0 ef1 ef2
                      replace HSg := Lib.hid (HBD.out.stt (.slice Ah nh ch) (.slice Bh mh kh) (.slice Dh ph qh) HSg.out)
                      replace HSh := Lib.hid (HBD.out.stt (.slice Ah nh ch) (.slice Bh mh kh) (.slice Dh ph qh) HSh.out)
                      replace HBC := Lib.hid (HBC.out.set_far HNE.out (.slice Ah nh ch) (.slice Bh mh kh) (.slice Dh ph qh))
                      replace HBD := Lib.hid (HBD.out.set3 (.slice Ah nh ch) (.slice Bh mh kh) (.slice Dh ph qh))
                      replace HV := Lib.hid (((HV.out.setCell (a := ⟨bD, 0, none⟩) hl (.slice Ah nh ch)).setCell (a := ⟨bD, 1, none⟩) hl (.slice Bh mh kh)).setCell (a := ⟨bD, 2, none⟩) hl (.slice Dh ph qh))
                      obtain ⟨u6, hwz⟩ : ∃ u, ((World.setCell u5 ⟨bD, 0, none⟩ (.slice Ah nh ch)).setCell ⟨bD, 1, none⟩ (.slice Bh mh kh)).setCell ⟨bD, 2, none⟩ (.slice Dh ph qh) = u := ⟨_, rfl⟩
                      rw [hwz] at HV HBC HBD HSg HSh ⊢
                      clear hl hwz
                      refine soloP HV.out ?_
                      have HF := Lib.hid (show TwoB W6 (fun s t => s = t ∧ TakeS x.d G s) (.pointer (some ⟨bC, 0, none⟩)) (.pointer (some ⟨bD, 0, none⟩)) u6 from ⟨bC, bD, Ag, ng, cg, Bg, mg, kg, Dg, pg, qg, Ah, nh, ch, Bh, mh, kh, Dh, ph, qh, sg, sh, rfl, rfl, HV.out, HBC.out, HBD.out, HSg.out, HSh.out, ⟨HJg.out.one HJh.out, HJg.out⟩⟩)
                      refine wpPlan_stop ?_
                      go_wp2_with fail
                      go_meet
                      exact HF.out
                    · go_wp2_with fail
                      have hkz := (Kept.refl u2).alloc #[.slice none 0 0, .slice none 0 0, .slice none 0 0] 28
                      replace HSg := Lib.hid (HSg.out.kept hkz)
                      replace HSh := Lib.hid (HSh.out.kept hkz)
                      have HBD := Lib.hid (Box3.new u2 (.slice none 0 0) (.slice none 0 0) (.slice none 0 0) 28)
                      have HLD := Lib.hid HV.out.2.2
                      replace HV := Lib.hid (HV.out.trans hkz)
                      obtain ⟨bD, hbz⟩ : ∃ b, (World.heap u2).size = b := ⟨_, rfl⟩
                      obtain ⟨u3, hwz⟩ : ∃ u, World.alloc u2 (.cells #[.slice none 0 0, .slice none 0 0, .slice none 0 0] 28) = u := ⟨_, rfl⟩
                      rw [hwz] at HBD HV HSg HSh ⊢
                      rw [hbz] at HBD HLD ⊢
                      clear hkz hbz hwz
                      refine soloP HV.out ?_
                      rw [wpPlan_one]
                      simp only [pickOps_cons, pickOps_nil, consO_some, List.getElem?_cons_zero, List.getElem?_cons_succ]
                      go_wp2_with fail
                      have hkz := (Kept.refl u3).alloc #[.slice none 0 0, .slice none 0 0, .slice none 0 0] 28
                      have HNE := Lib.hid (show bD ≠ u3.heap.size from fun e => by have := HBD.out.lt; omega)
                      replace HSg := Lib.hid (HSg.out.kept hkz)
                      replace HSh := Lib.hid (HSh.out.kept hkz)
                      replace HBD := Lib.hid (HBD.out.kept hkz)
                      have HBC := Lib.hid (Box3.new u3 (.slice none 0 0) (.slice none 0 0) (.slice none 0 0) 28)
                      have HLC := Lib.hid HV.out.2.2
                      replace HV := Lib.hid (HV.out.trans hkz)
                      obtain ⟨bC, hbz⟩ : ∃ b, (World.heap u3).size = b := ⟨_, rfl⟩
                      obtain ⟨u4, hwz⟩ : ∃ u, World.alloc u3 (.cells #[.slice none 0 0, .slice none 0 0, .slice none 0 0] 28) = u := ⟨_, rfl⟩
                      rw [hwz] at HBC HV HSg HSh HBD ⊢
                      rw [hbz] at HBC HLC HNE ⊢
                      clear hkz hbz hwz
                      refine soloP HV.out ?_
                      rw [wpPlan_one]
                      simp only [pickOps_cons, pickOps_nil, consO_some, List.getElem?_cons_zero, List.getElem?_cons_succ]
                      have hl := HLC.out
                      have e0 := HBC.out.c0; have e1 := HBC.out.c1; have e2 := HBC.out.c2; have ef0 := HBC.out.f 0; have ef1 := HBC.out.f 1; have ef2 := HBC.out.f 2
                      go_wp2_with fail
                      clear e0 e1 e2 ef0 ef1 ef2
                      replace HSg := Lib.hid (HBC.out.stt (.slice Ag ng cg) (.slice Bg mg kg) (.slice Dg pg qg) HSg.out)
                      replace HSh := Lib.hid (HBC.out.stt (.slice Ag ng cg) (.slice Bg mg kg) (.slice Dg pg qg) HSh.out)
                      replace HBD := Lib.hid (HBD.out.set_far HNE.out (.slice Ag ng cg) (.slice Bg mg kg) (.slice Dg pg qg))
                      replace HBC := Lib.hid (HBC.out.set3 (.slice Ag ng cg) (.slice Bg mg kg) (.slice Dg pg qg))
                      replace HV := Lib.hid (((HV.out.setCell (a := ⟨bC, 0, none⟩) hl (.slice Ag ng cg)).setCell (a := ⟨bC, 1, none⟩) hl (.slice Bg mg kg)).setCell (a := ⟨bC, 2, none⟩) hl (.slice Dg pg qg))
                      obtain ⟨u5, hwz⟩ : ∃ u, ((World.setCell u4 ⟨bC, 0, none⟩ (.slice Ag ng cg)).setCell ⟨bC, 1, none⟩ (.slice Bg mg kg)).setCell ⟨bC, 2, none⟩ (.slice Dg pg qg) = u := ⟨_, rfl⟩
                      rw [hwz] at HV HBC HBD HSg HSh ⊢
                      clear hl hwz
                      refine soloP HV.out ?_
                      rw [wpPlan_one]
                      simp only [pickOps_cons, pickOps_nil, consO_some, List.getElem?_cons_zero, List.getElem?_cons_succ]
                      have hl := HLD.out
                      have e0 := HBD.out.c0; have e1 := HBD.out.c1; have e2 := HBD.out.c2; have ef0 := HBD.out.f 0; have ef1 := HBD.out.f 1; have ef2 := HBD.out.f 2
                      go_wp2_with fail
                      clear e0 e1 e2 ef0 ef1 ef2
                      replace HSg := Lib.hid (HBD.out.stt (.slice Ah nh ch) (.slice Bh mh kh) (.slice Dh ph qh) HSg.out)
                      replace HSh := Lib.hid (HBD.out.stt (.slice Ah nh ch) (.slice Bh mh kh) (.slice Dh ph qh) HSh.out)
                      replace HBC := Lib.hid (HBC.out.set_far HNE.out.symm (.slice Ah nh ch) (.slice Bh mh kh) (.slice Dh ph qh))
                      replace HBD := Lib.hid (HBD.out.set3 (.slice Ah nh ch) (.slice Bh mh kh) (.slice Dh ph qh))
                      replace HV := Lib.hid (((HV.out.setCell (a := ⟨bD, 0, none⟩) hl (.slice Ah nh ch)).setCell (a := ⟨bD, 1, none⟩) hl (.slice Bh mh kh)).setCell (a := ⟨bD, 2, none⟩) hl (.slice Dh ph qh))
                      obtain ⟨u6, hwz⟩ : ∃ u, ((World.setCell u5 ⟨bD, 0, none⟩ (.slice Ah nh ch)).setCell ⟨bD, 1, none⟩ (.slice Bh mh kh)).setCell ⟨bD, 2, none⟩ (.slice Dh ph qh) = u := ⟨_, rfl⟩
                      rw [hwz] at HV HBC HBD HSg HSh ⊢
                      clear hl hwz
                      refine soloP HV.out ?_
                      have HF := Lib.hid (show TwoB W6 (fun s t => s = t ∧ TakeS x.d G s) (.pointer (some ⟨bC, 0, none⟩)) (.pointer (some ⟨bD, 0, none⟩)) u6 from ⟨bC, bD, Ag, ng, cg, Bg, mg, kg, Dg, pg, qg, Ah, nh, ch, Bh, mh, kh, Dh, ph, qh, sg, sh, rfl, rfl, HV.out, HBC.out, HBD.out, HSg.out, HSh.out, ⟨HJg.out.one HJh.out, HJg.out⟩⟩)
                      refine wpPlan_stop ?_
                      go_wp2_with fail
                      go_meet
                      exact HF.out
                  · go_wp2_with fail
                    have hkz := (Kept.refl u1).alloc #[.slice none 0 0, .slice none 0 0, .slice none 0 0] 28
                    replace HSg := Lib.hid (HSg.out.kept hkz)
                    have HBC := Lib.hid (Box3.new u1 (.slice none 0 0) (.slice none 0 0) (.slice none 0 0) 28)
                    have HLC := Lib.hid HV.out.2.2
                    replace HV := Lib.hid (HV.out.trans hkz)
                    obtain ⟨bC, hbz⟩ : ∃ b, (World.heap u1).size = b := ⟨_, rfl⟩
                    obtain ⟨u2, hwz⟩ : ∃ u, World.alloc u1 (.cells #[.slice none 0 0, .slice none 0 0, .slice none 0 0] 28) = u := ⟨_, rfl⟩
                    rw [hwz] at HBC HV HSg ⊢
                    rw [hbz] at HBC HLC ⊢
                    clear hkz hbz hwz
                    refine soloP HV.out ?_
                    rw [wpPlan_two]
                    simp only [pickOps_cons, pickOps_nil, consO_some, List.getElem?_cons_zero, List.getElem?_cons_succ]
                    constructor
                    · go_wp2_with (go_at_call 13; refine (rtake_any x.d Ao no co G _ (HG.out.kept HV.out) hng).mono ?_; rintro e u3 ⟨Ah, nh, ch, Bh, mh, kh, Dh, ph, qh, sh, rfl, hsh, hjh, hkz⟩)
                      replace HSg := Lib.hid (HSg.out.kept hkz)
                      replace HBC := Lib.hid (HBC.out.kept hkz)
                      have HSh := Lib.hid hsh
                      have HJh := Lib.hid hjh
                      replace HV := Lib.hid (HV.out.trans hkz)
                      clear hsh hjh hkz
                      refine soloP HV.out ?_
                      rw [wpPlan_one]
                      simp only [pickOps_cons, pickOps_nil, consO_some, List.getElem?_cons_zero, List.getElem?_cons_succ]
                      go_wp2_with fail
                      have hkz := (Kept.refl u3).alloc #[.slice none 0 0, .slice none 0 0, .slice none 0 0] 28
                      have HNE := Lib.hid (show bC ≠ u3.heap.size from fun e => by have := HBC.out.lt; omega)
                      replace HSg := Lib.hid (HSg.out.kept hkz)
                      replace HSh := Lib.hid (HSh.out.kept hkz)
                      replace HBC := Lib.hid (HBC.out.kept hkz)
                      have HBD := Lib.hid (Box3.new u3 (.slice none 0 0) (.slice none 0 0) (.slice none 0 0) 28)
                      have HLD := Lib.hid HV.out.2.2
                      replace HV := Lib.hid (HV.out.trans hkz)
                      obtain ⟨bD, hbz⟩ : ∃ b, (World.heap u3).size = b := ⟨_, rfl⟩
                      obtain ⟨u4, hwz⟩ : ∃ u, World.alloc u3 (.cells #[.slice none 0 0, .slice none 0 0, .slice none 0 0] 28) = u := ⟨_, rfl⟩
                      rw [hwz] at HBD HV HSg HSh HBC ⊢
                      rw [hbz] at HBD HLD HNE ⊢
                      clear hkz hbz hwz
                      refine soloP HV.out ?_
                      rw [wpPlan_one]
                      simp only [pickOps_cons, pickOps_nil, consO_some, List.getElem?_cons_zero, List.getElem?_cons_succ]
                      have hl := HLC.out
                      have e0 := HBC.out.c0; have e1 := HBC.out.c1; have e2 := HBC.out.c2; have ef0 := HBC.out.f 0; have ef1 := HBC.out.f 1; have ef2 := HBC.out.f 2
                      go_wp2_with fail
                      clear e0 e1 e2 ef0 ef1 ef2
                      replace HSg := Lib.hid (HBC.out.stt (.slice Ag ng cg) (.slice Bg mg kg) (.slice Dg pg qg) HSg.out)
                      replace HSh := Lib.hid (HBC.out.stt (.slice Ag ng cg) (.slice Bg mg kg) (.slice Dg pg qg) HSh.out)
                      replace HBD := Lib.hid (HBD.out.set_far HNE.out.symm (.slice Ag ng cg) (.slice Bg mg kg) (.slice Dg pg qg))
                      replace HBC := Lib.hid (HBC.out.set3 (.slice Ag ng cg) (.slice Bg mg kg) (.slice Dg pg qg))
                      replace HV := Lib.hid (((HV.out.setCell (a := ⟨bC, 0, none⟩) hl (.slice Ag ng cg)).setCell (a := ⟨bC, 1, none⟩) hl (.slice Bg mg kg)).setCell (a := ⟨bC, 2, none⟩) hl (.slice Dg pg qg))
                      obtain ⟨u5, hwz⟩ : ∃ u, ((World.setCell u4 ⟨bC, 0, none⟩ (.slice Ag ng cg)).setCell ⟨bC, 1, none⟩ (.slice Bg mg kg)).setCell ⟨bC, 2, none⟩ (.slice Dg pg qg) = u := ⟨_, rfl⟩
                      rw [hwz] at HV HBC HBD HSg HSh ⊢
                      clear hl hwz
                      refine soloP HV.out ?_
                      rw [wpPlan_one]
                      simp only [pickOps_cons, pickOps_nil, consO_some, List.getElem?_cons_zero, List.getElem?_cons_succ]
                      have hl := HLD.out
                      have e0 := HBD.out.c0; have e1 := HBD.out.c1; have e2 := HBD.out.c2; have ef0 := HBD.out.f 0; have ef1 := HBD.out.f 1; have ef2 := HBD.out.f 2
                      go_wp2_with fail
                      clear e0 e1 e2 ef0 ef1 ef2
                      replace HSg := Lib.hid (HBD.out.stt (.slice Ah nh ch) (.slice Bh mh kh) (.slice Dh ph qh) HSg.out)
                      replace HSh := Lib.hid (HBD.out.stt (.slice Ah nh ch) (.slice Bh mh kh) (.slice Dh ph qh) HSh.out)
                      replace HBC := Lib.hid (HBC.out.set_far HNE.out (.slice Ah nh ch) (.slice Bh mh kh) (.slice Dh ph qh))
                      replace HBD := Lib.hid (HBD.out.set3 (.slice Ah nh ch) (.slice Bh mh kh) (.slice Dh ph qh))
                      replace HV := Lib.hid (((HV.out.setCell (a := ⟨bD, 0, none⟩) hl (.slice Ah nh ch)).setCell (a := ⟨bD, 1, none⟩) hl (.slice Bh mh kh)).setCell (a := ⟨bD, 2, none⟩) hl (.slice Dh ph qh))
                      obtain ⟨u6, hwz⟩ : ∃ u, ((World.setCell u5 ⟨bD, 0, none⟩ (.slice Ah nh ch)).setCell ⟨bD, 1, none⟩ (.slice Bh mh kh)).setCell ⟨bD, 2, none⟩ (.slice Dh ph qh) = u := ⟨_, rfl⟩
                      rw [hwz] at HV HBC HBD HSg HSh ⊢
                      clear hl hwz
                      refine soloP HV.out ?_
                      have HF := Lib.hid (show TwoB W6 (fun s t => s = t ∧ TakeS x.d G s) (.pointer (some ⟨bC, 0, none⟩)) (.pointer (some ⟨bD, 0, none⟩)) u6 from ⟨bC, bD, Ag, ng, cg, Bg, mg, kg, Dg, pg, qg, Ah, nh, ch, Bh, mh, kh, Dh, ph, qh, sg, sh, rfl, rfl, HV.out, HBC.out, HBD.out, HSg.out, HSh.out, ⟨HJg.out.one HJh.out, HJg.out⟩⟩)
                      refine wpPlan_stop ?_
                      go_wp2_with fail
                      go_meet
                      exact HF.out
                    · go_wp2_with fail
                      have hkz := (Kept.refl u2).alloc #[.slice none 0 0, .slice none 0 0, .slice none 0 0] 28
                      have HNE := Lib.hid (show bC ≠ u2.heap.size from fun e => by have := HBC.out.lt; omega)
                      replace HSg := Lib.hid (HSg.out.kept hkz)
                      replace HBC := Lib.hid (HBC.out.kept hkz)
                      have HBD := Lib.hid (Box3.new u2 (.slice none 0 0) (.slice none 0 0) (.slice none 0 0) 28)
                      have HLD := Lib.hid HV.out.2.2
                      replace HV := Lib.hid (HV.out.trans hkz)
                      obtain ⟨bD, hbz⟩ : ∃ b, (World.heap u2).size = b := ⟨_, rfl⟩
                      obtain ⟨u3, hwz⟩ : ∃ u, World.alloc u2 (.cells #[.slice none 0 0, .slice none 0 0, .slice none 0 0] 28) = u := ⟨_, rfl⟩
                      rw [hwz] at HBD HV HSg HBC ⊢
                      rw [hbz] at HBD HLD HNE ⊢
                      clear hkz hbz hwz
                      refine soloP HV.out ?_
                      rw [wpPlan_one]
                      simp only [pickOps_cons, pickOps_nil, consO_some, List.getElem?_cons_zero, List.getElem?_cons_succ]
                      go_wp2_with (go_at_call 13; refine (rtake_any x.d Ao no co G _ (HG.out.kept HV.out) hng).mono ?_; rintro e u4 ⟨Ah, nh, ch, Bh, mh, kh, Dh, ph, qh, sh, rfl, hsh, hjh, hkz⟩)
                      replace HSg := Lib.hid (HSg.out.kept hkz)
                      replace HBC := Lib.hid (HBC.out.kept hkz)
                      replace HBD := Lib.hid (HBD.out.kept hkz)
                      have HSh := Lib.hid hsh
                      have HJh := Lib.hid hjh
                      replace HV := Lib.hid (HV.out.trans hkz)
                      clear hsh hjh hkz
                      refine soloP HV.out ?_
                      rw [wpPlan_one]
                      simp only [pickOps_cons, pickOps_nil, consO_some, List.getElem?_cons_zero, List.getElem?_cons_succ]
                      have hl := HLC.out
                      have e0 := HBC.out.c0; have e1 := HBC.out.c1; have e2 := HBC.out.c2; have ef0 := HBC.out.f 0; have ef1 := HBC.out.f 1; have ef2 := HBC.out.f 2
                      go_wp2_with fail
                      clear e0 e1 e2 ef0 ef1 ef2
                      replace HSg := Lib.hid (HBC.out.stt (.slice Ag ng cg) (.slice Bg mg kg) (.slice Dg pg qg) HSg.out)
                      replace HSh := Lib.hid (HBC.out.stt (.slice Ag ng cg) (.slice Bg mg kg) (.slice Dg pg qg) HSh.out)
                      replace HBD := Lib.hid (HBD.out.set_far HNE.out.symm (.slice Ag ng cg) (.slice Bg mg kg) (.slice Dg pg qg))
                      replace HBC := Lib.hid (HBC.out.set3 (.slice Ag ng cg) (.slice Bg mg kg) (.slice Dg pg qg))
                      replace HV := Lib.hid (((HV.out.setCell (a := ⟨bC, 0, none⟩) hl (.slice Ag ng cg)).setCell (a := ⟨bC, 1, none⟩) hl (.slice Bg mg kg)).setCell (a := ⟨bC, 2, none⟩) hl (.slice Dg pg qg))
                      obtain ⟨u5, hwz⟩ : ∃ u, ((World.setCell u4 ⟨bC, 0, none⟩ (.slice Ag ng cg)).setCell ⟨bC, 1, none⟩ (.slice Bg mg kg)).setCell ⟨bC, 2, none⟩ (.slice Dg pg qg) = u := ⟨_, rfl⟩
                      rw [hwz] at HV HBC HBD HSg HSh ⊢
                      clear hl hwz
                      refine soloP HV.out ?_
                      rw [wpPlan_one]
                      simp only [pickOps_cons, pickOps_nil, consO_some, List.getElem?_cons_zero, List.getElem?_cons_succ]
                      have hl := HLD.out
                      have e0 := HBD.out.c0; have e1 := HBD.out.c1; have e2 := HBD.out.c2; have ef0 := HBD.out.f 0; have ef1 := HBD.out.f 1; have ef2 := HBD.out.f 2
                      go_wp2_with fail
                      clear e0 e1 e2 ef0 ef1 ef2
                      replace HSg := Lib.hid (HBD.out.stt (.slice Ah nh ch) (.slice Bh mh kh) (.slice Dh ph qh) HSg.out)
                      replace HSh := Lib.hid (HBD.out.stt (.slice Ah nh ch) (.slice Bh mh kh) (.slice Dh ph qh) HSh.out)
                      replace HBC := Lib.hid (HBC.out.set_far HNE.out (.slice Ah nh ch) (.slice Bh mh kh) (.slice Dh ph qh))
                      replace HBD := Lib.hid (HBD.out.set3 (.slice Ah nh ch) (.slice Bh mh kh) (.slice Dh ph qh))
                      replace HV := Lib.hid (((HV.out.setCell (a := ⟨bD, 0, none⟩) hl (.slice Ah nh ch)).setCell (a := ⟨bD, 1, none⟩) hl (.slice Bh mh kh)).setCell (a := ⟨bD, 2, none⟩) hl (.slice Dh ph qh))
                      obtain ⟨u6, hwz⟩ : ∃ u, ((World.setCell u5 ⟨bD, 0, none⟩ (.slice Ah nh ch)).setCell ⟨bD, 1, none⟩ (.slice Bh mh kh)).setCell ⟨bD, 2, none⟩ (.slice Dh ph qh) = u := ⟨_, rfl⟩
                      rw [hwz] at HV HBC HBD HSg HSh ⊢
                      clear hl hwz
                      refine soloP HV.out ?_
                      have HF := Lib.hid (show TwoB W6 (fun s t => s = t ∧ TakeS x.d G s) (.pointer (some ⟨bC, 0, none⟩)) (.pointer (some ⟨bD, 0, none⟩)) u6 from ⟨bC, bD, Ag, ng, cg, Bg, mg, kg, Dg, pg, qg, Ah, nh, ch, Bh, mh, kh, Dh, ph, qh, sg, sh, rfl, rfl, HV.out, HBC.out, HBD.out, HSg.out, HSh.out, ⟨HJg.out.one HJh.out, HJg.out⟩⟩)
                      refine wpPlan_stop ?_
                      go_wp2_with fail
                      go_meet
                      exact HF.out
                  · go_wp2_with fail
                    have hkz := (Kept.refl u1).alloc #[.slice none 0 0, .slice none 0 0, .slice none 0 0] 28
                    replace HSg := Lib.hid (HSg.out.kept hkz)
                    have HBD := Lib.hid (Box3.new u1 (.slice none 0 0) (.slice none 0 0) (.slice none 0 0) 28)
                    have HLD := Lib.hid HV.out.2.2
                    replace HV := Lib.hid (HV.out.trans hkz)
                    obtain ⟨bD, hbz⟩ : ∃ b, (World.heap u1).size = b := ⟨_, rfl⟩
                    obtain ⟨u2, hwz⟩ : ∃ u, World.alloc u1 (.cells #[.slice none 0 0, .slice none 0 0, .slice none 0 0] 28) = u := ⟨_, rfl⟩
                    rw [hwz] at HBD HV HSg ⊢
                    rw [hbz] at HBD HLD ⊢
                    clear hkz hbz hwz
                    refine soloP HV.out ?_
                    rw [wpPlan_two]
                    simp only [pickOps_cons, pickOps_nil, consO_some, List.getElem?_cons_zero, List.getElem?_cons_succ]
                    constructor
                    · go_wp2_with (go_at_call 13; refine (rtake_any x.d Ao no co G _ (HG.out.kept HV.out) hng).mono ?_; rintro e u3 ⟨Ah, nh, ch, Bh, mh, kh, Dh, ph, qh, sh, rfl, hsh, hjh, hkz⟩)
                      replace HSg := Lib.hid (HSg.out.kept hkz)
                      replace HBD := Lib.hid (HBD.out.kept hkz)
                      have HSh := Lib.hid hsh
                      have HJh := Lib.hid hjh
                      replace HV := Lib.hid (HV.out.trans hkz)
                      clear hsh hjh hkz
                      refine soloP HV.out ?_
                      rw [wpPlan_one]
                      simp only [pickOps_cons, pickOps_nil, consO_some, List.getElem?_cons_zero, List.getElem?_cons_succ]
                      go_wp2_with fail
                      have hkz := (Kept.refl u3).alloc #[.slice none 0 0, .slice none 0 0, .slice none 0 0] 28
                      have HNE := Lib.hid (show bD ≠ u3.heap.size from fun e => by have := HBD.out.lt; omega)
                      replace HSg := Lib.hid (HSg.out.kept hkz)
                      replace HSh := Lib.hid (HSh.out.kept hkz)
                      replace HBD := Lib.hid (HBD.out.kept hkz)
                      have HBC := Lib.hid (Box3.new u3 (.slice none 0 0) (.slice none 0 0) (.slice none 0 0) 28)
                      have HLC := Lib.hid HV.out.2.2
                      replace HV := Lib.hid (HV.out.trans hkz)
                      obtain ⟨bC, hbz⟩ : ∃ b, (World.heap u3).size = b := ⟨_, rfl⟩
                      obtain ⟨u4, hwz⟩ : ∃ u, World.alloc u3 (.cells #[.slice none 0 0, .slice none 0 0, .slice none 0 0] 28) = u := ⟨_, rfl⟩
                      rw [hwz] at HBC HV HSg HSh HBD ⊢
                      rw [hbz] at HBC HLC HNE ⊢
                      clear hkz hbz hwz
                      refine soloP HV.out ?_
                      rw [wpPlan_one]
                      simp only [pickOps_cons, pickOps_nil, consO_some, List.getElem?_cons_zero, List.getElem?_cons_succ]
                      have hl := HLC.out
                      have e0 := HBC.out.c0; have e1 := HBC.out.c1; have e2 := HBC.out.c2; have ef0 := HBC.out.f 0; have ef1 := HBC.out.f 1; have ef2 := HBC.out.f 2
                      go_wp2_with fail
                      clear e0 e1 e2 ef0 ef1 ef2
                      replace HSg := Lib.hid (HBC.out.stt (.slice Ag ng cg) (.slice Bg mg kg) (.slice Dg pg qg) HSg.out)
                      replace HSh := Lib.hid (HBC.out.stt (.slice Ag ng cg) (.slice Bg mg kg) (.slice Dg pg qg) HSh.out)
                      replace HBD := Lib.hid (HBD.out.set_far HNE.out (.slice Ag ng cg) (.slice Bg mg kg) (.slice Dg pg qg))
                      replace HBC := Lib.hid (HBC.out.set3 (.slice Ag ng cg) (.slice Bg mg kg) (.slice Dg pg qg))
                      replace HV := Lib.hid (((HV.out.setCell (a := ⟨bC, 0, none⟩) hl (.slice Ag ng cg)).setCell (a := ⟨bC, 1, none⟩) hl (.slice Bg mg kg)).setCell (a := ⟨bC, 2, none⟩) hl (.slice Dg pg qg))
                      obtain ⟨u5, hwz⟩ : ∃ u, ((World.setCell u4 ⟨bC, 0, none⟩ (.slice Ag ng cg)).setCell ⟨bC, 1, none⟩ (.slice Bg mg kg)).setCell ⟨bC, 2, none⟩ (.slice Dg pg qg) = u := ⟨_, rfl⟩
                      rw [hwz] at HV HBC HBD HSg HSh ⊢
                      clear hl hwz
                      refine soloP HV.out ?_
                      rw [wpPlan_one]
                      simp only [pickOps_cons, pickOps_nil, consO_some, List.getElem?_cons_zero, List.getElem?_cons_succ]
                      have hl := HLD.out
                      have e0 := HBD.out.c0; have e1 := HBD.out.c1; have e2 := HBD.out.c2; have ef0 := HBD.out.f 0; have ef1 := HBD.out.f 1; have ef2 := HBD.out.f 2
                      go_wp2_with fail
                      clear e0 e1 e2 ef0 ef1 ef2
                      replace HSg := Lib.hid (HBD.out.stt (.slice Ah nh ch) (.slice Bh mh kh) (.slice Dh ph qh) HSg.out)
                      replace HSh := Lib.hid (HBD.out.stt (.slice Ah nh ch) (.slice Bh mh kh) (.slice Dh ph qh) HSh.out)
                      replace HBC := Lib.hid (HBC.out.set_far HNE.out.symm (.slice Ah nh ch) (.slice Bh mh kh) (.slice Dh ph qh))
                      replace HBD := Lib.hid (HBD.out.set3 (.slice Ah nh ch) (.slice Bh mh kh) (.slice Dh ph qh))
                      replace HV := Lib.hid (((HV.out.setCell (a := ⟨bD, 0, none⟩) hl (.slice Ah nh ch)).setCell (a := ⟨bD, 1, none⟩) hl (.slice Bh mh kh)).setCell (a := ⟨bD, 2, none⟩) hl (.slice Dh ph qh))
                      obtain ⟨u6, hwz⟩ : ∃ u, ((World.setCell u5 ⟨bD, 0, none⟩ (.slice Ah nh ch)).setCell ⟨bD, 1, none⟩ (.slice Bh mh kh)).setCell ⟨bD, 2, none⟩ (.slice Dh ph qh) = u := ⟨_, rfl⟩
                      rw [hwz] at HV HBC HBD HSg HSh ⊢
                      clear hl hwz
                      refine soloP HV.out ?_
                      have HF := Lib.hid (show TwoB W6 (fun s t => s = t ∧ TakeS x.d G s) (.pointer (some ⟨bC, 0, none⟩)) (.pointer (some ⟨bD, 0, none⟩)) u6 from ⟨bC, bD, Ag, ng, cg, Bg, mg, kg, Dg, pg, qg, Ah, nh, ch, Bh, mh, kh, Dh, ph, qh, sg, sh, rfl, rfl, HV.out, HBC.out, HBD.out, HSg.out, HSh.out, ⟨HJg.out.one HJh.out, HJg.out⟩⟩)
                      refine wpPlan_stop ?_
                      go_wp2_with fail
                      go_meet
                      exact HF.out
                    · go_wp2_with fail
                      have hkz := (Kept.refl u2).alloc #[.slice none 0 0, .slice none 0 0, .slice none 0 0] 28
                      have HNE := Lib.hid (show bD ≠ u2.heap.size from fun e => by have := HBD.out.lt; omega)
                      replace HSg := Lib.hid (HSg.out.kept hkz)
                      replace HBD := Lib.hid (HBD.out.kept hkz)
                      have HBC := Lib.hid (Box3.new u2 (.slice none 0 0) (.slice none 0 0) (.slice none 0 0) 28)
                      have HLC := Lib.hid HV.out.2.2
                      replace HV := Lib.hid (HV.out.trans hkz)
                      obtain ⟨bC, hbz⟩ : ∃ b, (World.heap u2).size = b := ⟨_, rfl⟩
                      obtain ⟨u3, hwz⟩ : ∃ u, World.alloc u2 (.cells #[.slice none 0 0, .slice none 0 0, .slice none 0 0] 28) = u := ⟨_, rfl⟩
                      rw [hwz] at HBC HV HSg HBD ⊢
                      rw [hbz] at HBC HLC HNE ⊢
                      clear hkz hbz hwz
                      refine soloP HV.out ?_
                      rw [wpPlan_one]
                      simp only [pickOps_cons, pickOps_nil, consO_some, List.getElem?_cons_zero, List.getElem?_cons_succ]
                      go_wp2_with (go_at_call 13; refine (rtake_any x.d Ao no co G _ (HG.out.kept HV.out) hng).mono ?_; rintro e u4 ⟨Ah, nh, ch, Bh, mh, kh, Dh, ph, qh, sh, rfl, hsh, hjh, hkz⟩)
                      replace HSg := Lib.hid (HSg.out.kept hkz)
                      replace HBC := Lib.hid (HBC.out.kept hkz)
                      replace HBD := Lib.hid (HBD.out.kept hkz)
                      have HSh := Lib.hid hsh
                      have HJh := Lib.hid hjh
                      replace HV := Lib.hid (HV.out.trans hkz)
                      clear hsh hjh hkz
                      refine soloP HV.out ?_
                      rw [wpPlan_one]
                      simp only [pickOps_cons, pickOps_nil, consO_some, List.getElem?_cons_zero, List.getElem?_cons_succ]
                      have hl := HLC.out
                      have e0 := HBC.out.c0; have e1 := HBC.out.c1; have e2 := HBC.out.c2; have ef0 := HBC.out.f 0; have ef1 := HBC.out.f 1; have ef2 := HBC.out.f 2
                      go_wp2_with fail
                      clear e0 e1 e2 ef0 ef1 ef2
                      replace HSg := Lib.hid (HBC.out.stt (.slice Ag ng cg) (.slice Bg mg kg) (.slice Dg pg qg) HSg.out)
                      replace HSh := Lib.hid (HBC.out.stt (.slice Ag ng cg) (.slice Bg mg kg) (.slice Dg pg qg) HSh.out)
                      replace HBD := Lib.hid (HBD.out.set_far HNE.out (.slice Ag ng cg) (.slice Bg mg kg) (.slice Dg pg qg))
                      replace HBC := Lib.hid (HBC.out.set3 (.slice Ag ng cg) (.slice Bg mg kg) (.slice Dg pg qg))
                      replace HV := Lib.hid (((HV.out.setCell (a := ⟨bC, 0, none⟩) hl (.slice Ag ng cg)).setCell (a := ⟨bC, 1, none⟩) hl (.slice Bg mg kg)).setCell (a := ⟨bC, 2, none⟩) hl (.slice Dg pg qg))
                      obtain ⟨u5, hwz⟩ : ∃ u, ((World.setCell u4 ⟨bC, 0, none⟩ (.slice Ag ng cg)).setCell ⟨bC, 1, none⟩ (.slice Bg mg kg)).setCell ⟨bC, 2, none⟩ (.slice Dg pg qg) = u := ⟨_, rfl⟩
                      rw [hwz] at HV HBC HBD HSg HSh ⊢
                      clear hl hwz
                      refine soloP HV.out ?_
                      rw [wpPlan_one]
                      simp only [pickOps_cons, pickOps_nil, consO_some, List.getElem?_cons_zero, List.getElem?_cons_succ]
                      have hl := HLD.out
                      have e0 := HBD.out.c0; have e1 := HBD.out.c1; have e2 := HBD.out.c2; have ef0 := HBD.out.f 0; have ef1 := HBD.out.f 1; have ef2 := HBD.out.f 2
                      go_wp2_with fail
                      clear e0 e1 e2 ef0 ef1 ef2
                      replace HSg := Lib.hid (HBD.out.stt (.slice Ah nh ch) (.slice Bh mh kh) (.slice Dh ph qh) HSg.out)
                      replace HSh := Lib.hid (HBD.out.stt (.slice Ah nh ch) (.slice Bh mh kh) (.slice Dh ph qh) HSh.out)
                      replace HBC := Lib.hid (HBC.out.set_far HNE.out.symm (.slice Ah nh ch) (.slice Bh mh kh) (.slice Dh ph qh))
                      replace HBD := Lib.hid (HBD.out.set3 (.slice Ah nh ch) (.slice Bh mh kh) (.slice Dh ph qh))
                      replace HV := Lib.hid (((HV.out.setCell (a := ⟨bD, 0, none⟩) hl (.slice Ah nh ch)).setCell (a := ⟨bD, 1, none⟩) hl (.slice Bh mh kh)).setCell (a := ⟨bD, 2, none⟩) hl (.slice Dh ph qh))
                      obtain ⟨u6, hwz⟩ : ∃ u, ((World.setCell u5 ⟨bD, 0, none⟩ (.slice Ah nh ch)).setCell ⟨bD, 1, none⟩ (.slice Bh mh kh)).setCell ⟨bD, 2, none⟩ (.slice Dh ph qh) = u := ⟨_, rfl⟩
                      rw [hwz] at HV HBC HBD HSg HSh ⊢
                      clear hl hwz
                      refine soloP HV.out ?_
                      have HF := Lib.hid (show TwoB W6 (fun s t => s = t ∧ TakeS x.d G s) (.pointer (some ⟨bC, 0, none⟩)) (.pointer (some ⟨bD, 0, none⟩)) u6 from ⟨bC, bD, Ag, ng, cg, Bg, mg, kg, Dg, pg, qg, Ah, nh, ch, Bh, mh, kh, Dh, ph, qh, sg, sh, rfl, rfl, HV.out, HBC.out, HBD.out, HSg.out, HSh.out, ⟨HJg.out.one HJh.out, HJg.out⟩⟩)
                      refine wpPlan_stop ?_
                      go_wp2_with fail
                      go_meet
                      exact HF.out
                · go_wp2_with fail
                  have hkz := (Kept.refl wd).alloc #[.slice none 0 0, .slice none 0 0, .slice none 0 0] 28
                  have HBC := Lib.hid (Box3.new wd (.slice none 0 0) (.slice none 0 0) (.slice none 0 0) 28)
                  have HLC := Lib.hid HV.out.2.2
                  replace HV := Lib.hid (HV.out.trans hkz)
                  obtain ⟨bC, hbz⟩ : ∃ b, (World.heap wd).size = b := ⟨_, rfl⟩
                  obtain ⟨u1, hwz⟩ : ∃ u, World.alloc wd (.cells #[.slice none 0 0, .slice none 0 0, .slice none 0 0] 28) = u := ⟨_, rfl⟩
                  rw [hwz] at HBC HV ⊢
                  rw [hbz] at HBC HLC ⊢
                  clear hkz hbz hwz
                  refine soloP HV.out ?_
                  rw [wpPlan_two]
                  simp only [pickOps_cons, pickOps_nil, consO_some, List.getElem?_cons_zero, List.getElem?_cons_succ]
                  constructor
                  · go_wp2_with (go_at_call 12; refine (utake_any x.d Ao no co G _ (HG.out.kept HV.out) hng).mono ?_; rintro e u2 ⟨Ag, ng, cg, Bg, mg, kg, Dg, pg, qg, sg, rfl, hsg, hjg, hkz⟩)
                    replace HBC := Lib.hid (HBC.out.kept hkz)
                    have HSg := Lib.hid hsg
                    have HJg := Lib.hid hjg
                    replace HV := Lib.hid (HV.out.trans hkz)
                    clear hsg hjg hkz
                    refine soloP HV.out ?_
                    rw [wpPlan_two]
                    simp only [pickOps_cons, pickOps_nil, consO_some, List.getElem?_cons_zero, List.getElem?_cons_succ]
                    constructor
                    · go_wp2_with (go_at_call 13; refine (rtake_any x.d Ao no co G _ (HG.out.kept HV.out) hng).mono ?_; rintro e u3 ⟨Ah, nh, ch, Bh, mh, kh, Dh, ph, qh, sh, rfl, hsh, hjh, hkz⟩)
                      replace HSg := Lib.hid (HSg.out.kept hkz)
                      replace HBC := Lib.hid (HBC.out.kept hkz)
                      have HSh := Lib.hid hsh
                      have HJh := Lib.hid hjh
                      replace HV := Lib.hid (HV.out.trans hkz)
                      clear hsh hjh hkz
                      refine soloP HV.out ?_
                      rw [wpPlan_one]
                      simp only [pickOps_cons, pickOps_nil, consO_some, List.getElem?_cons_zero, List.getElem?_cons_succ]
                      go_wp2_with fail
                      have hkz := (Kept.refl u3).alloc #[.slice none 0 0, .slice none 0 0, .slice none 0 0] 28
                      have HNE := Lib.hid (show bC ≠ u3.heap.size from fun e => by have := HBC.out.lt; omega)
                      replace HSg := Lib.hid (HSg.out.kept hkz)
                      replace HSh := Lib.hid (HSh.out.kept hkz)
                      replace HBC := Lib.hid (HBC.out.kept hkz)
                      have HBD := Lib.hid (Box3.new u3 (.slice none 0 0) (.slice none 0 0) (.slice none 0 0) 28)
                      have HLD := Lib.hid HV.out.2.2
                      replace HV := Lib.hid (HV.out.trans hkz)
                      obtain ⟨bD, hbz⟩ : ∃ b, (World.heap u3).size = b := ⟨_, rfl⟩
                      obtain ⟨u4, hwz⟩ : ∃ u, World.alloc u3 (.cells #[.slice none 0 0, .slice none 0 0, .slice none 0 0] 28) = u := ⟨_, rfl⟩
                      rw [hwz] at HBD HV HSg HSh HBC ⊢
                      rw [hbz] at HBD HLD HNE ⊢
                      clear hkz hbz hwz
                      refine soloP HV.out ?_
                      rw [wpPlan_one]
                      simp only [pickOps_cons, pickOps_nil, consO_some, List.getElem?_cons_zero, List.getElem?_cons_succ]
                      have hl := HLC.out
                      have e0 := HBC.out.c0; have e1 := HBC.out.c1; have e2 := HBC.out.c2; have ef0 := HBC.out.f 0; have ef1 := HBC.out.f 1; have ef2 := HBC.out.f 2
                      go_wp2_with fail
                      clear e0 e1 e2 ef0 ef1 ef2
                      replace HSg := Lib.hid (HBC.out.stt (.slice Ag ng cg) (.slice Bg mg kg) (.slice Dg pg qg) HSg.out)
                      replace HSh := Lib.hid (HBC.out.stt (.slice Ag ng cg) (.slice Bg mg kg) (.slice Dg pg qg) HSh.out)
                      replace HBD := Lib.hid (HBD.out.set_far HNE.out.symm (.slice Ag ng cg) (.slice Bg mg kg) (.slice Dg pg qg))
                      replace HBC := Lib.hid (HBC.out.set3 (.slice Ag ng cg) (.slice Bg mg kg) (.slice Dg pg qg))
                      replace HV := Lib.hid (((HV.out.setCell (a := ⟨bC, 0, none⟩) hl (.slice Ag ng cg)).setCell (a := ⟨bC, 1, none⟩) hl (.slice Bg mg kg)).setCell (a := ⟨bC, 2, none⟩) hl (.slice Dg pg qg))
                      obtain ⟨u5, hwz⟩ : ∃ u, ((World.setCell u4 ⟨bC, 0, none⟩ (.slice Ag ng cg)).setCell ⟨bC, 1, none⟩ (.slice Bg mg kg)).setCell ⟨bC, 2, none⟩ (.slice Dg pg qg) = u := ⟨_, rfl⟩
                      rw [hwz] at HV HBC HBD HSg HSh ⊢
                      clear hl hwz
                      refine soloP HV.out ?_
                      rw [wpPlan_one]
                      simp only [pickOps_cons, pickOps_nil, consO_some, List.getElem?_cons_zero, List.getElem?_cons_succ]
                      have hl := HLD.out
                      have e0 := HBD.out.c0; have e1 := HBD.out.c1; have e2 := HBD.out.c2; have ef0 := HBD.out.f 0; have ef1 := HBD.out.f 1; have ef2 := HBD.out.f 2
                      go_wp2_with fail
                      clear e0 e1 e2 ef0 ef1 ef2
                      replace HSg := Lib.hid (HBD.out.stt (.slice Ah nh ch) (.slice Bh mh kh) (.slice Dh ph qh) HSg.out)
                      replace HSh := Lib.hid (HBD.out.stt (.slice Ah nh ch) (.slice Bh mh kh) (.slice Dh ph qh) HSh.out)
                      replace HBC := Lib.hid (HBC.out.set_far HNE.out (.slice Ah nh ch) (.slice Bh mh kh) (.slice Dh ph qh))
                      replace HBD := Lib.hid (HBD.out.set3 (.slice Ah nh ch) (.slice Bh mh kh) (.slice Dh ph qh))
                      replace HV := Lib.hid (((HV.out.setCell (a := ⟨bD, 0, none⟩) hl (.slice Ah nh ch)).setCell (a := ⟨bD, 1, none⟩) hl (.slice Bh mh kh)).setCell (a := ⟨bD, 2, none⟩) hl (.slice Dh ph qh))
                      obtain ⟨u6, hwz⟩ : ∃ u, ((World.setCell u5 ⟨bD, 0, none⟩ (.slice Ah nh ch)).setCell ⟨bD, 1, none⟩ (.slice Bh mh kh)).setCell ⟨bD, 2, none⟩ (.slice Dh ph qh) = u := ⟨_, rfl⟩
                      rw [hwz] at HV HBC HBD HSg HSh ⊢
                      clear hl hwz
                      refine soloP HV.out ?_
                      have HF := Lib.hid (show TwoB W6 (fun s t => s = t ∧ TakeS x.d G s) (.pointer (some ⟨bC, 0, none⟩)) (.pointer (some ⟨bD, 0, none⟩)) u6 from ⟨bC, bD, Ag, ng, cg, Bg, mg, kg, Dg, pg, qg, Ah, nh, ch, Bh, mh, kh, Dh, ph, qh, sg, sh, rfl, rfl, HV.out, HBC.out, HBD.out, HSg.out, HSh.out, ⟨HJg.out.one HJh.out, HJg.out⟩⟩)
                      refine wpPlan_stop ?_
                      go_wp2_with fail
                      go_meet
                      exact HF.out
                    · go_wp2_with fail
                      have hkz := (Kept.refl u2).alloc #[.slice none 0 0, .slice none 0 0, .slice none 0 0] 28
                      have HNE := Lib.hid (show bC ≠ u2.heap.size from fun e => by have := HBC.out.lt; omega)
                      replace HSg := Lib.hid (HSg.out.kept hkz)
                      replace HBC := Lib.hid (HBC.out.kept hkz)
                      have HBD := Lib.hid (Box3.new u2 (.slice none 0 0) (.slice none 0 0) (.slice none 0 0) 28)
                      have HLD := Lib.hid HV.out.2.2
                      replace HV := Lib.hid (HV.out.trans hkz)
                      obtain ⟨bD, hbz⟩ : ∃ b, (World.heap u2).size = b := ⟨_, rfl⟩
                      obtain ⟨u3, hwz⟩ : ∃ u, World.alloc u2 (.cells #[.slice none 0 0, .slice none 0 0, .slice none 0 0] 28) = u := ⟨_, rfl⟩
                      rw [hwz] at HBD HV HSg HBC ⊢
                      rw [hbz] at HBD HLD HNE ⊢
                      clear hkz hbz hwz
                      refine soloP HV.out ?_
                      rw [wpPlan_one]
                      simp only [pickOps_cons, pickOps_nil, consO_some, List.getElem?_cons_zero, List.getElem?_cons_succ]
                      go_wp2_with (go_at_call 13; refine (rtake_any x.d Ao no co G _ (HG.out.kept HV.out) hng).mono ?_; rintro e u4 ⟨Ah, nh, ch, Bh, mh, kh, Dh, ph, qh, sh, rfl, hsh, hjh, hkz⟩)
                      replace HSg := Lib.hid (HSg.out.kept hkz)
                      replace HBC := Lib.hid (HBC.out.kept hkz)
                      replace HBD := Lib.hid (HBD.out.kept hkz)
                      have HSh := Lib.hid hsh
                      have HJh := Lib.hid hjh
                      replace HV := Lib.hid (HV.out.trans hkz)
                      clear hsh hjh hkz
                      refine soloP HV.out ?_
                      rw [wpPlan_one]
                      simp only [pickOps_cons, pickOps_nil, consO_some, List.getElem?_cons_zero, List.getElem?_cons_succ]
                      have hl := HLC.out
                      have e0 := HBC.out.c0; have e1 := HBC.out.c1; have e2 := HBC.out.c2; have ef0 := HBC.out.f 0; have ef1 := HBC.out.f 1; have ef2 := HBC.out.f 2
                      go_wp2_with fail
                      clear e0 e1 e2 ef0 ef1 ef2
                      replace HSg := Lib.hid (HBC.out.stt (.slice Ag ng cg) (.slice Bg mg kg) (.slice Dg pg qg) HSg.out)
                      replace HSh := Lib.hid (HBC.out.stt (.slice Ag ng cg) (.slice Bg mg kg) (.slice Dg pg qg) HSh.out)
                      replace HBD := Lib.hid (HBD.out.set_far HNE.out.symm (.slice Ag ng cg) (.slice Bg mg kg) (.slice Dg pg qg))
                      replace HBC := Lib.hid (HBC.out.set3 (.slice Ag ng cg) (.slice Bg mg kg) (.slice Dg pg qg))
                      replace HV := Lib.hid (((HV.out.setCell (a := ⟨bC, 0, none⟩) hl (.slice Ag ng cg)).setCell (a := ⟨bC, 1, none⟩) hl (.slice Bg mg kg)).setCell (a := ⟨bC, 2, none⟩) hl (.slice Dg pg qg))
                      obtain ⟨u5, hwz⟩ : ∃ u, ((World.setCell u4 ⟨bC, 0, none⟩ (.slice Ag ng cg)).setCell ⟨bC, 1, none⟩ (.slice Bg mg kg)).setCell ⟨bC, 2, none⟩ (.slice Dg pg qg) = u := ⟨_, rfl⟩
                      rw [hwz] at HV HBC HBD HSg HSh ⊢
                      clear hl hwz
                      refine soloP HV.out ?_
                      rw [wpPlan_one]
                      simp only [pickOps_cons, pickOps_nil, consO_some, List.getElem?_cons_zero, List.getElem?_cons_succ]
                      have hl := HLD.out
                      have e0 := HBD.out.c0; have e1 := HBD.out.c1; have e2 := HBD.out.c2; have ef0 := HBD.out.f 0; have ef1 := HBD.out.f 1; have ef2 := HBD.out.f 2
                      go_wp2_with fail
                      clear e0 e1 e2 ef0 ef1 ef2
                      replace HSg := Lib.hid (HBD.out.stt (.slice Ah nh ch) (.slice Bh mh kh) (.slice Dh ph qh) HSg.out)
                      replace HSh := Lib.hid (HBD.out.stt (.slice Ah nh ch) (.slice Bh mh kh) (.slice Dh ph qh) HSh.out)
                      replace HBC := Lib.hid (HBC.out.set_far HNE.out (.slice Ah nh ch) (.slice Bh mh kh) (.slice Dh ph qh))
                      replace HBD := Lib.hid (HBD.out.set3 (.slice Ah nh ch) (.slice Bh mh kh) (.slice Dh ph qh))
                      replace HV := Lib.hid (((HV.out.setCell (a := ⟨bD, 0, none⟩) hl (.slice Ah nh ch)).setCell (a := ⟨bD, 1, none⟩) hl (.slice Bh mh kh)).setCell (a := ⟨bD, 2, none⟩) hl (.slice Dh ph qh))
                      obtain ⟨u6, hwz⟩ : ∃ u, ((World.setCell u5 ⟨bD, 0, none⟩ (.slice Ah nh ch)).setCell ⟨bD, 1, none⟩ (.slice Bh mh kh)).setCell ⟨bD, 2, none⟩ (.slice Dh ph qh) = u := ⟨_, rfl⟩
                      rw [hwz] at HV HBC HBD HSg HSh ⊢
                      clear hl hwz
                      refine soloP HV.out ?_
                      have HF := Lib.hid (show TwoB W6 (fun s t => s = t ∧ TakeS x.d G s) (.pointer (some ⟨bC, 0, none⟩)) (.pointer (some ⟨bD, 0, none⟩)) u6 from ⟨bC, bD, Ag, ng, cg, Bg, mg, kg, Dg, pg, qg, Ah, nh, ch, Bh, mh, kh, Dh, ph, qh, sg, sh, rfl, rfl, HV.out, HBC.out, HBD.out, HSg.out, HSh.out, ⟨HJg.out.one HJh.out, HJg.out⟩⟩)
                      refine wpPlan_stop ?_
                      go_wp2_with fail
                      go_meet
                      exact HF.out
                  · go_wp2_with fail
                    have hkz := (Kept.refl u1).alloc #[.slice none 0 0, .slice none 0 0, .slice none 0 0] 28
                    have HNE := Lib.hid (show bC ≠ u1.heap.size from fun e => by have := HBC.out.lt; omega)
                    replace HBC := Lib.hid (HBC.out.kept hkz)
                    have HBD := Lib.hid (Box3.new u1 (.slice none 0 0) (.slice none 0 0) (.slice none 0 0) 28)
                    have HLD := Lib.hid HV.out.2.2
                    replace HV := Lib.hid (HV.out.trans hkz)
                    obtain ⟨bD, hbz⟩ : ∃ b, (World.heap u1).size = b := ⟨_, rfl⟩
                    obtain ⟨u2, hwz⟩ : ∃ u, World.alloc u1 (.cells #[.slice none 0 0, .slice none 0 0, .slice none 0 0] 28) = u := ⟨_, rfl⟩
                    rw [hwz] at HBD HV HBC ⊢
                    rw [hbz] at HBD HLD HNE ⊢
                    clear hkz hbz hwz
                    refine soloP HV.out ?_
                    rw [wpPlan_one]
                    simp only [pickOps_cons, pickOps_nil, consO_some, List.getElem?_cons_zero, List.getElem?_cons_succ]
                    go_wp2_with (go_at_call 12; refine (utake_any x.d Ao no co G _ (HG.out.kept HV.out) hng).mono ?_; rintro e u3 ⟨Ag, ng, cg, Bg, mg, kg, Dg, pg, qg, sg, rfl, hsg, hjg, hkz⟩)
                    replace HBC := Lib.hid (HBC.out.kept hkz)
                    replace HBD := Lib.hid (HBD.out.kept hkz)
                    have HSg := Lib.hid hsg
                    have HJg := Lib.hid hjg
                    replace HV := Lib.hid (HV.out.trans hkz)
                    clear hsg hjg hkz
                    refine soloP HV.out ?_
                    rw [wpPlan_one]
                    simp only [pickOps_cons, pickOps_nil, consO_some, List.getElem?_cons_zero, List.getElem?_cons_succ]
                    go_wp2_with (go_at_call 13; refine (rtake_any x.d Ao no co G _ (HG.out.kept HV.out) hng).mono ?_; rintro e u4 ⟨Ah, nh, ch, Bh, mh, kh, Dh, ph, qh, sh, rfl, hsh, hjh, hkz⟩)
                    replace HSg := Lib.hid (HSg.out.kept hkz)
                    replace HBC := Lib.hid (HBC.out.kept hkz)
                    replace HBD := Lib.hid (HBD.out.kept hkz)
                    have HSh := Lib.hid hsh
                    have HJh := Lib.hid hjh
                    replace HV := Lib.hid (HV.out.trans hkz)
                    clear hsh hjh hkz
                    refine soloP HV.out ?_
                    rw [wpPlan_one]
                    simp only [pickOps_cons, pickOps_nil, consO_some, List.getElem?_cons_zero, List.getElem?_cons_succ]
                    have hl := HLC.out
                    have e0 := HBC.out.c0; have e1 := HBC.out.c1; have e2 := HBC.out.c2; have ef0 := HBC.out.f 0; have ef1 := HBC.out.f 1; have ef2 := HBC.out.f 2
                    go_wp2_with fail
                    clear e0 e1 e2 ef0 ef1 ef2
                    replace HSg := Lib.hid (HBC.out.stt (.slice Ag ng cg) (.slice Bg mg kg) (.slice Dg pg qg) HSg.out)
                    replace HSh := Lib.hid (HBC.out.stt (.slice Ag ng cg) (.slice Bg mg kg) (.slice Dg pg qg) HSh.out)
                    replace HBD := Lib.hid (HBD.out.set_far HNE.out.symm (.slice Ag ng cg) (.slice Bg mg kg) (.slice Dg pg qg))
                    replace HBC := Lib.hid (HBC.out.set3 (.slice Ag ng cg) (.slice Bg mg kg) (.slice Dg pg qg))
                    replace HV := Lib.hid (((HV.out.setCell (a := ⟨bC, 0, none⟩) hl (.slice Ag ng cg)).setCell (a := ⟨bC, 1, none⟩) hl (.slice Bg mg kg)).setCell (a := ⟨bC, 2, none⟩) hl (.slice Dg pg qg))
                    obtain ⟨u5, hwz⟩ : ∃ u, ((World.setCell u4 ⟨bC, 0, none⟩ (.slice Ag ng cg)).setCell ⟨bC, 1, none⟩ (.slice Bg mg kg)).setCell ⟨bC, 2, none⟩ (.slice Dg pg qg) = u := ⟨_, rfl⟩
                    rw [hwz] at HV HBC HBD HSg HSh ⊢
                    clear hl hwz
                    refine soloP HV.out ?_
                    rw [wpPlan_one]
                    simp only [pickOps_cons, pickOps_nil, consO_some, List.getElem?_cons_zero, List.getElem?_cons_succ]
                    have hl := HLD.out
                    have e0 := HBD.out.c0; have e1 := HBD.out.c1; have e2 := HBD.out.c2; have ef0 := HBD.out.f 0; have ef1 := HBD.out.f 1; have ef2 := HBD.out.f 2
                    go_wp2_with fail
                    clear e0 e1 e2 ef0 ef1 ef2
                    replace HSg := Lib.hid (HBD.out.stt (.slice Ah nh ch) (.slice Bh mh kh) (.slice Dh ph qh) HSg.out)
                    replace HSh := Lib.hid (HBD.out.stt (.slice Ah nh ch) (.slice Bh mh kh) (.slice Dh ph qh) HSh.out)
                    replace HBC := Lib.hid (HBC.out.set_far HNE.out (.slice Ah nh ch) (.slice Bh mh kh) (.slice Dh ph qh))
                    replace HBD := Lib.hid (HBD.out.set3 (.slice Ah nh ch) (.slice Bh mh kh) (.slice Dh ph qh))
                    replace HV := Lib.hid (((HV.out.setCell (a := ⟨bD, 0, none⟩) hl (.slice Ah nh ch)).setCell (a := ⟨bD, 1, none⟩) hl (.slice Bh mh kh)).setCell (a := ⟨bD, 2, none⟩) hl (.slice Dh ph qh))
                    obtain ⟨u6, hwz⟩ : ∃ u, ((World.setCell u5 ⟨bD, 0, none⟩ (.slice Ah nh ch)).setCell ⟨bD, 1, none⟩ (.slice Bh mh kh)).setCell ⟨bD, 2, none⟩ (.slice Dh ph qh) = u := ⟨_, rfl⟩
                    rw [hwz] at HV HBC HBD HSg HSh ⊢
                    clear hl hwz
                    refine soloP HV.out ?_
                    have HF := Lib.hid (show TwoB W6 (fun s t => s = t ∧ TakeS x.d G s) (.pointer (some ⟨bC, 0, none⟩)) (.pointer (some ⟨bD, 0, none⟩)) u6 from ⟨bC, bD, Ag, ng, cg, Bg, mg, kg, Dg, pg, qg, Ah, nh, ch, Bh, mh, kh, Dh, ph, qh, sg, sh, rfl, rfl, HV.out, HBC.out, HBD.out, HSg.out, HSh.out, ⟨HJg.out.one HJh.out, HJg.out⟩⟩)
                    refine wpPlan_stop ?_
                    go_wp2_with fail
                    go_meet
                    exact HF.out
                · go_wp2_with fail
                  have hkz := (Kept.refl wd).alloc #[.slice none 0 0, .slice none 0 0, .slice none 0 0] 28
                  have HBD := Lib.hid (Box3.new wd (.slice none 0 0) (.slice none 0 0) (.slice none 0 0) 28)
                  have HLD := Lib.hid HV.out.2.2
                  replace HV := Lib.hid (HV.out.trans hkz)
                  obtain ⟨bD, hbz⟩ : ∃ b, (World.heap wd).size = b := ⟨_, rfl⟩
                  obtain ⟨u1, hwz⟩ : ∃ u, World.alloc wd (.cells #[.slice none 0 0, .slice none 0 0, .slice none 0 0] 28) = u := ⟨_, rfl⟩
                  rw [hwz] at HBD HV ⊢
                  rw [hbz] at HBD HLD ⊢
                  clear hkz hbz hwz
                  refine soloP HV.out ?_
                  rw [wpPlan_two]
                  simp only [pickOps_cons, pickOps_nil, consO_some, List.getElem?_cons_zero, List.getElem?_cons_succ]
                  constructor
                  · go_wp2_with (go_at_call 12; refine (utake_any x.d Ao no co G _ (HG.out.kept HV.out) hng).mono ?_; rintro e u2 ⟨Ag, ng, cg, Bg, mg, kg, Dg, pg, qg, sg, rfl, hsg, hjg, hkz⟩)
                    replace HBD := Lib.hid (HBD.out.kept hkz)
                    have HSg := Lib.hid hsg
                    have HJg := Lib.hid hjg
                    replace HV := Lib.hid (HV.out.trans hkz)
                    clear hsg hjg hkz
                    refine soloP HV.out ?_
                    rw [wpPlan_two]
                    simp only [pickOps_cons, pickOps_nil, consO_some, List.getElem?_cons_zero, List.getElem?_cons_succ]
                    constructor
                    · go_wp2_with (go_at_call 13; refine (rtake_any x.d Ao no co G _ (HG.out.kept HV.out) hng).mono ?_; rintro e u3 ⟨Ah, nh, ch, Bh, mh, kh, Dh, ph, qh, sh, rfl, hsh, hjh, hkz⟩)
                      replace HSg := Lib.hid (HSg.out.kept hkz)
                      replace HBD := Lib.hid (HBD.out.kept hkz)
                      have HSh := Lib.hid hsh
                      have HJh := Lib.hid hjh
                      replace HV := Lib.hid (HV.out.trans hkz)
                      clear hsh hjh hkz
                      refine soloP HV.out ?_
                      rw [wpPlan_one]
                      simp only [pickOps_cons, pickOps_nil, consO_some, List.getElem?_cons_zero, List.getElem?_cons_succ]
                      go_wp2_with fail
                      have hkz := (Kept.refl u3).alloc #[.slice none 0 0, .slice none 0 0, .slice none 0 0] 28
                      have HNE := Lib.hid (show bD ≠ u3.heap.size from fun e => by have := HBD.out.lt; omega)
                      replace HSg := Lib.hid (HSg.out.kept hkz)
                      replace HSh := Lib.hid (HSh.out.kept hkz)
                      replace HBD := Lib.hid (HBD.out.kept hkz)
                      have HBC := Lib.hid (Box3.new u3 (.slice none 0 0) (.slice none 0 0) (.slice none 0 0) 28)
                      have HLC := Lib.hid HV.out.2.2
                      replace HV := Lib.hid (HV.out.trans hkz)
                      obtain ⟨bC, hbz⟩ : ∃ b, (World.heap u3).size = b := ⟨_, rfl⟩
                      obtain ⟨u4, hwz⟩ : ∃ u, World.alloc u3 (.cells #[.slice none 0 0, .slice none 0 0, .slice none 0 0] 28) = u := ⟨_, rfl⟩
                      rw [hwz] at HBC HV HSg HSh HBD ⊢
                      rw [hbz] at HBC HLC HNE ⊢
                      clear hkz hbz hwz
                      refine soloP HV.out ?_
                      rw [wpPlan_one]
                      simp only [pickOps_cons, pickOps_nil, consO_some, List.getElem?_cons_zero, List.getElem?_cons_succ]
                      have hl := HLC.out
                      have e0 := HBC.out.c0; have e1 := HBC.out.c1; have e2 := HBC.out.c2; have ef0 := HBC.out.f 0; have ef1 := HBC.out.f 1; have ef2 := HBC.out.f 2
                      go_wp2_with fail
                      clear e0 e1 e2 ef0 ef1 ef2
                      replace HSg := Lib.hid (HBC.out.stt (.slice Ag ng cg) (.slice Bg mg kg) (.slice Dg pg qg) HSg.out)
                      replace HSh := Lib.hid (HBC.out.stt (.slice Ag ng cg) (.slice Bg mg kg) (.slice Dg pg qg) HSh.out)
                      replace HBD := Lib.hid (HBD.out.set_far HNE.out (.slice Ag ng cg) (.slice Bg mg kg) (.slice Dg pg qg))
                      replace HBC := Lib.hid (HBC.out.set3 (.slice Ag ng cg) (.slice Bg mg kg) (.slice Dg pg qg))
                      replace HV := Lib.hid (((HV.out.setCell (a := ⟨bC, 0, none⟩) hl (.slice Ag ng cg)).setCell (a := ⟨bC, 1, none⟩) hl (.slice Bg mg kg)).setCell (a := ⟨bC, 2, none⟩) hl (.slice Dg pg qg))
                      obtain ⟨u5, hwz⟩ : ∃ u, ((World.setCell u4 ⟨bC, 0, none⟩ (.slice Ag ng cg)).setCell ⟨bC, 1, none⟩ (.slice Bg mg kg)).setCell ⟨bC, 2, none⟩ (.slice Dg pg qg) = u := ⟨_, rfl⟩
                      rw [hwz] at HV HBC HBD HSg HSh ⊢
                      clear hl hwz
                      refine soloP HV.out ?_
                      rw [wpPlan_one]
                      simp only [pickOps_cons, pickOps_nil, consO_some, List.getElem?_cons_zero, List.getElem?_cons_succ]
                      have hl := HLD.out
                      have e0 := HBD.out.c0; have e1 := HBD.out.c1; have e2 := HBD.out.c2; have ef0 := HBD.out.f 0; have ef1 := HBD.out.f 1; have ef2 := HBD.out.f 2
                      go_wp2_with fail
                      clear e0 e1 e2 ef0 ef1 ef2
                      replace HSg := Lib.hid (HBD.out.stt (.slice Ah nh ch) (.slice Bh mh kh) (.slice Dh ph qh) HSg.out)
                      replace HSh := Lib.hid (HBD.out.stt (.slice Ah nh ch) (.slice Bh mh kh) (.slice Dh ph qh) HSh.out)
                      replace HBC := Lib.hid (HBC.out.set_far HNE.out.symm (.slice Ah nh ch) (.slice Bh mh kh) (.slice Dh ph qh))
                      replace HBD := Lib.hid (HBD.out.set3 (.slice Ah nh ch) (.slice Bh mh kh) (.slice Dh ph qh))
                      replace HV := Lib.hid (((HV.out.setCell (a := ⟨bD, 0, none⟩) hl (.slice Ah nh ch)).setCell (a := ⟨bD, 1, none⟩) hl (.slice Bh mh kh)).setCell (a := ⟨bD, 2, none⟩) hl (.slice Dh ph qh))
                      obtain ⟨u6, hwz⟩ : ∃ u, ((World.setCell u5 ⟨bD, 0, none⟩ (.slice Ah nh ch)).setCell ⟨bD, 1, none⟩ (.slice Bh mh kh)).setCell ⟨bD, 2, none⟩ (.slice Dh ph qh) = u := ⟨_, rfl⟩
                      rw [hwz] at HV HBC HBD HSg HSh ⊢
                      clear hl hwz
                      refine soloP HV.out ?_
                      have HF := Lib.hid (show TwoB W6 (fun s t => s = t ∧ TakeS x.d G s) (.pointer (some ⟨bC, 0, none⟩)) (.pointer (some ⟨bD, 0, none⟩)) u6 from ⟨bC, bD, Ag, ng, cg, Bg, mg, kg, Dg, pg, qg, Ah, nh, ch, Bh, mh, kh, Dh, ph, qh, sg, sh, rfl, rfl, HV.out, HBC.out, HBD.out, HSg.out, HSh.out, ⟨HJg.out.one HJh.out, HJg.out⟩⟩)
                      refine wpPlan_stop ?_
                      go_wp2_with fail
                      go_meet
                      exact HF.out
                    · go_wp2_with fail
                      have hkz := (Kept.refl u2).alloc #[.slice none 0 0, .slice none 0 0, .slice none 0 0] 28
                      have HNE := Lib.hid (show bD ≠ u2.heap.size from fun e => by have := HBD.out.lt; omega)
                      replace HSg := Lib.hid (HSg.out.kept hkz)
                      replace HBD := Lib.hid (HBD.out.kept hkz)
                      have HBC := Lib.hid (Box3.new u2 (.slice none 0 0) (.slice none 0 0) (.slice none 0 0) 28)
                      have HLC := Lib.hid HV.out.2.2
                      replace HV := Lib.hid (HV.out.trans hkz)
                      obtain ⟨bC, hbz⟩ : ∃ b, (World.heap u2).size = b := ⟨_, rfl⟩
                      obtain ⟨u3, hwz⟩ : ∃ u, World.alloc u2 (.cells #[.slice none 0 0, .slice none 0 0, .slice none 0 0] 28) = u := ⟨_, rfl⟩
                      rw [hwz] at HBC HV HSg HBD ⊢
                      rw [hbz] at HBC HLC HNE ⊢
                      clear hkz hbz hwz
                      refine soloP HV.out ?_
                      rw [wpPlan_one]
                      simp only [pickOps_cons, pickOps_nil, consO_some, List.getElem?_cons_zero, List.getElem?_cons_succ]
                      go_wp2_with (go_at_call 13; refine (rtake_any x.d Ao no co G _ (HG.out.kept HV.out) hng).mono ?_; rintro e u4 ⟨Ah, nh, ch, Bh, mh, kh, Dh, ph, qh, sh, rfl, hsh, hjh, hkz⟩)
                      replace HSg := Lib.hid (HSg.out.kept hkz)
                      replace HBC := Lib.hid (HBC.out.kept hkz)
                      replace HBD := Lib.hid (HBD.out.kept hkz)
                      have HSh := Lib.hid hsh
                      have HJh := Lib.hid hjh
                      replace HV := Lib.hid (HV.out.trans hkz)
                      clear hsh hjh hkz
                      refine soloP HV.out ?_
                      rw [wpPlan_one]
                      simp only [pickOps_cons, pickOps_nil, consO_some, List.getElem?_cons_zero, List.getElem?_cons_succ]
                      have hl := HLC.out
                      have e0 := HBC.out.c0; have e1 := HBC.out.c1; have e2 := HBC.out.c2; have ef0 := HBC.out.f 0; have ef1 := HBC.out.f 1; have ef2 := HBC.out.f 2
                      go_wp2_with fail
                      clear e0 e1 e2 ef0 ef1 ef2
                      replace HSg := Lib.hid (HBC.out.stt (.slice Ag ng cg) (.slice Bg mg kg) (.slice Dg pg qg) HSg.out)
                      replace HSh := Lib.hid (HBC.out.stt (.slice Ag ng cg) (.slice Bg mg kg) (.slice Dg pg qg) HSh.out)
                      replace HBD := Lib.hid (HBD.out.set_far HNE.out (.slice Ag ng cg) (.slice Bg mg kg) (.slice Dg pg qg))
                      replace HBC := Lib.hid (HBC.out.set3 (.slice Ag ng cg) (.slice Bg mg kg) (.slice Dg pg qg))
                      replace HV := Lib.hid (((HV.out.setCell (a := ⟨bC, 0, none⟩) hl (.slice Ag ng cg)).setCell (a := ⟨bC, 1, none⟩) hl (.slice Bg mg kg)).setCell (a := ⟨bC, 2, none⟩) hl (.slice Dg pg qg))
                      obtain ⟨u5, hwz⟩ : ∃ u, ((World.setCell u4 ⟨bC, 0, none⟩ (.slice Ag ng cg)).setCell ⟨bC, 1, none⟩ (.slice Bg mg kg)).setCell ⟨bC, 2, none⟩ (.slice Dg pg qg) = u := ⟨_, rfl⟩
                      rw [hwz] at HV HBC HBD HSg HSh ⊢
                      clear hl hwz
                      refine soloP HV.out ?_
                      rw [wpPlan_one]
                      simp only [pickOps_cons, pickOps_nil, consO_some, List.getElem?_cons_zero, List.getElem?_cons_succ]
                      have hl := HLD.out
                      have e0 := HBD.out.c0; have e1 := HBD.out.c1; have e2 := HBD.out.c2; have ef0 := HBD.out.f 0; have ef1 := HBD.out.f 1; have ef2 := HBD.out.f 2
                      go_wp2_with fail
                      clear e0 e1 e2 ef0 ef1 ef2
                      replace HSg := Lib.hid (HBD.out.stt (.slice Ah nh ch) (.slice Bh mh kh) (.slice Dh ph qh) HSg.out)
                      replace HSh := Lib.hid (HBD.out.stt (.slice Ah nh ch) (.slice Bh mh kh) (.slice Dh ph qh) HSh.out)
                      replace HBC := Lib.hid (HBC.out.set_far HNE.out.symm (.slice Ah nh ch) (.slice Bh mh kh) (.slice Dh ph qh))
                      replace HBD := Lib.hid (HBD.out.set3 (.slice Ah nh ch) (.slice Bh mh kh) (.slice Dh ph qh))
                      replace HV := Lib.hid (((HV.out.setCell (a := ⟨bD, 0, none⟩) hl (.slice Ah nh ch)).setCell (a := ⟨bD, 1, none⟩) hl (.slice Bh mh kh)).setCell (a := ⟨bD, 2, none⟩) hl (.slice Dh ph qh))
                      obtain ⟨u6, hwz⟩ : ∃ u, ((World.setCell u5 ⟨bD, 0, none⟩ (.slice Ah nh ch)).setCell ⟨bD, 1, none⟩ (.slice Bh mh kh)).setCell ⟨bD, 2, none⟩ (.slice Dh ph qh) = u := ⟨_, rfl⟩
                      rw [hwz] at HV HBC HBD HSg HSh ⊢
                      clear hl hwz
                      refine soloP HV.out ?_
                      have HF := Lib.hid (show TwoB W6 (fun s t => s = t ∧ TakeS x.d G s) (.pointer (some ⟨bC, 0, none⟩)) (.pointer (some ⟨bD, 0, none⟩)) u6 from ⟨bC, bD, Ag, ng, cg, Bg, mg, kg, Dg, pg, qg, Ah, nh, ch, Bh, mh, kh, Dh, ph, qh, sg, sh, rfl, rfl, HV.out, HBC.out, HBD.out, HSg.out, HSh.out, ⟨HJg.out.one HJh.out, HJg.out⟩⟩)
                      refine wpPlan_stop ?_
                      go_wp2_with fail
                      go_meet
                      exact HF.out
                  · go_wp2_with fail
                    have hkz := (Kept.refl u1).alloc #[.slice none 0 0, .slice none 0 0, .slice none 0 0] 28
                    have HNE := Lib.hid (show bD ≠ u1.heap.size from fun e => by have := HBD.out.lt; omega)
                    replace HBD := Lib.hid (HBD.out.kept hkz)
                    have HBC := Lib.hid (Box3.new u1 (.slice none 0 0) (.slice none 0 0) (.slice none 0 0) 28)
                    have HLC := Lib.hid HV.out.2.2
                    replace HV := Lib.hid (HV.out.trans hkz)
                    obtain ⟨bC, hbz⟩ : ∃ b, (World.heap u1).size = b := ⟨_, rfl⟩
                    obtain ⟨u2, hwz⟩ : ∃ u, World.alloc u1 (.cells #[.slice none 0 0, .slice none 0 0, .slice none 0 0] 28) = u := ⟨_, rfl⟩
                    rw [hwz] at HBC HV HBD ⊢
                    rw [hbz] at HBC HLC HNE ⊢
                    clear hkz hbz hwz
                    refine soloP HV.out ?_
                    rw [wpPlan_one]
                    simp only [pickOps_cons, pickOps_nil, consO_some, List.getElem?_cons_zero, List.getElem?_cons_succ]
                    go_wp2_with (go_at_call 12; refine (utake_any x.d Ao no co G _ (HG.out.kept HV.out) hng).mono ?_; rintro e u3 ⟨Ag, ng, cg, Bg, mg, kg, Dg, pg, qg, sg, rfl, hsg, hjg, hkz⟩)
                    replace HBC := Lib.hid (HBC.out.kept hkz)
                    replace HBD := Lib.hid (HBD.out.kept hkz)
                    have HSg := Lib.hid hsg
                    have HJg := Lib.hid hjg
                    replace HV := Lib.hid (HV.out.trans hkz)
                    clear hsg hjg hkz
                    refine soloP HV.out ?_
                    rw [wpPlan_one]
                    simp only [pickOps_cons, pickOps_nil, consO_some, List.getElem?_cons_zero, List.getElem?_cons_succ]
                    go_wp2_with (go_at_call 13; refine (rtake_any x.d Ao no co G _ (HG.out.kept HV.out) hng).mono ?_; rintro e u4 ⟨Ah, nh, ch, Bh, mh, kh, Dh, ph, qh, sh, rfl, hsh, hjh, hkz⟩)
                    replace HSg := Lib.hid (HSg.out.kept hkz)
                    replace HBC := Lib.hid (HBC.out.kept hkz)
                    replace HBD := Lib.hid (HBD.out.kept hkz)
                    have HSh := Lib.hid hsh
                    have HJh := Lib.hid hjh
                    replace HV := Lib.hid (HV.out.trans hkz)
                    clear hsh hjh hkz
                    refine soloP HV.out ?_
                    rw [wpPlan_one]
                    simp only [pickOps_cons, pickOps_nil, consO_some, List.getElem?_cons_zero, List.getElem?_cons_succ]
                    have hl := HLC.out
                    have e0 := HBC.out.c0; have e1 := HBC.out.c1; have e2 := HBC.out.c2; have ef0 := HBC.out.f 0; have ef1 := HBC.out.f 1; have ef2 := HBC.out.f 2
                    go_wp2_with fail
                    clear e0 e1 e2 ef0 ef1 ef2
                    replace HSg := Lib.hid (HBC.out.stt (.slice Ag ng cg) (.slice Bg mg kg) (.slice Dg pg qg) HSg.out)
                    replace HSh := Lib.hid (HBC.out.stt (.slice Ag ng cg) (.slice Bg mg kg) (.slice Dg pg qg) HSh.out)
                    replace HBD := Lib.hid (HBD.out.set_far HNE.out (.slice Ag ng cg) (.slice Bg mg kg) (.slice Dg pg qg))
                    replace HBC := Lib.hid (HBC.out.set3 (.slice Ag ng cg) (.slice Bg mg kg) (.slice Dg pg qg))
                    replace HV := Lib.hid (((HV.out.setCell (a := ⟨bC, 0, none⟩) hl (.slice Ag ng cg)).setCell (a := ⟨bC, 1, none⟩) hl (.slice Bg mg kg)).setCell (a := ⟨bC, 2, none⟩) hl (.slice Dg pg qg))
                    obtain ⟨u5, hwz⟩ : ∃ u, ((World.setCell u4 ⟨bC, 0, none⟩ (.slice Ag ng cg)).setCell ⟨bC, 1, none⟩ (.slice Bg mg kg)).setCell ⟨bC, 2, none⟩ (.slice Dg pg qg) = u := ⟨_, rfl⟩
                    rw [hwz] at HV HBC HBD HSg HSh ⊢
                    clear hl hwz
                    refine soloP HV.out ?_
                    rw [wpPlan_one]
                    simp only [pickOps_cons, pickOps_nil, consO_some, List.getElem?_cons_zero, List.getElem?_cons_succ]
                    have hl := HLD.out
                    have e0 := HBD.out.c0; have e1 := HBD.out.c1; have e2 := HBD.out.c2; have ef0 := HBD.out.f 0; have ef1 := HBD.out.f 1; have ef2 := HBD.out.f 2
                    go_wp2_with fail
                    clear e0 e1 e2 ef0 ef1 ef2
                    replace HSg := Lib.hid (HBD.out.stt (.slice Ah nh ch) (.slice Bh mh kh) (.slice Dh ph qh) HSg.out)
                    replace HSh := Lib.hid (HBD.out.stt (.slice Ah nh ch) (.slice Bh mh kh) (.slice Dh ph qh) HSh.out)
                    replace HBC := Lib.hid (HBC.out.set_far HNE.out.symm (.slice Ah nh ch) (.slice Bh mh kh) (.slice Dh ph qh))
                    replace HBD := Lib.hid (HBD.out.set3 (.slice Ah nh ch) (.slice Bh mh kh) (.slice Dh ph qh))
                    replace HV := Lib.hid (((HV.out.setCell (a := ⟨bD, 0, none⟩) hl (.slice Ah nh ch)).setCell (a := ⟨bD, 1, none⟩) hl (.slice Bh mh kh)).setCell (a := ⟨bD, 2, none⟩) hl (.slice Dh ph qh))
                    obtain ⟨u6, hwz⟩ : ∃ u, ((World.setCell u5 ⟨bD, 0, none⟩ (.slice Ah nh ch)).setCell ⟨bD, 1, none⟩ (.slice Bh mh kh)).setCell ⟨bD, 2, none⟩ (.slice Dh ph qh) = u := ⟨_, rfl⟩
                    rw [hwz] at HV HBC HBD HSg HSh ⊢
                    clear hl hwz
                    refine soloP HV.out ?_
                    have HF := Lib.hid (show TwoB W6 (fun s t => s = t ∧ TakeS x.d G s) (.pointer (some ⟨bC, 0, none⟩)) (.pointer (some ⟨bD, 0, none⟩)) u6 from ⟨bC, bD, Ag, ng, cg, Bg, mg, kg, Dg, pg, qg, Ah, nh, ch, Bh, mh, kh, Dh, ph, qh, sg, sh, rfl, rfl, HV.out, HBC.out, HBD.out, HSg.out, HSh.out, ⟨HJg.out.one HJh.out, HJg.out⟩⟩)
                    refine wpPlan_stop ?_
                    go_wp2_with fail
                    go_meet
                    exact HF.out
              case rest =>
                clear Xx0 Xx1
                obtain ⟨bt, bu, At, nt, ct, Bt, mt, kt, Dt, pt, qt, Au, nu, cu, Bu, mu, ku, Du, pu, qu, t, _, rfl, rfl, hkz, hbt, hbu, hst, hsu, rfl, hjt⟩ := hcut
                replace HK := Lib.hid (HK.out.trans hkz)
                replace HBa := Lib.hid (HBa.out.kept hkz); replace HX := Lib.hid (HX.out.kept hkz); replace HSa := Lib.hid (HSa.out.kept hkz); replace HG := Lib.hid (HG.out.kept hkz); replace HD3 := Lib.hid (HD3.out.kept hkz); replace HD4 := Lib.hid (HD4.out.kept hkz); replace HBl := Lib.hid (HBl.out.kept hkz); replace HBm := Lib.hid (HBm.out.kept hkz); replace HSl := Lib.hid (HSl.out.kept hkz); replace HSm := Lib.hid (HSm.out.kept hkz)
                have HBt := Lib.hid hbt; have HBu := Lib.hid hbu; have HSt := Lib.hid hst; have HSu := Lib.hid hsu; have HJt := Lib.hid hjt
                clear hkz hbt hbu hst hsu hjt
                obtain ⟨W7, hW7⟩ : ∃ W7, wc = W7 := ⟨_, rfl⟩
                rw [hW7] at HK HBa HX HSa HG HD3 HD4 HBl HBm HSl HSm HBt HBu HSt HSu ⊢
                clear hW7
                have d0 := HD3.out.c0; have d1' := HD3.out.c1; have f0 := HD4.out.c0; have f1 := HD4.out.c1
                have l0 := HBl.out.c0; have l1 := HBl.out.c1; have l2 := HBl.out.c2; have m0 := HBm.out.c0; have m1 := HBm.out.c1; have m2 := HBm.out.c2
                clear HX HG HD3 HD4
                go_wp2_with fail
                go_at_call 14
                refine (rsame_any Al nl cl Bl ml kl Dl pl ql l Am nm cm Bm mm km Dm pm qm l _ HSl.out HSm.out true ⟨fun _ => ⟨rfl, rfl, rfl⟩, fun _ => rfl⟩).mono ?_
                rintro e w8 ⟨rfl, hkz⟩
                replace HK := Lib.hid (HK.out.trans hkz)
                replace HBa := Lib.hid (HBa.out.kept hkz); replace HSa := Lib.hid (HSa.out.kept hkz); replace HBl := Lib.hid (HBl.out.kept hkz); replace HBm := Lib.hid (HBm.out.kept hkz); replace HSl := Lib.hid (HSl.out.kept hkz); replace HSm := Lib.hid (HSm.out.kept hkz); replace HBt := Lib.hid (HBt.out.kept hkz); replace HBu := Lib.hid (HBu.out.kept hkz); replace HSt := Lib.hid (HSt.out.kept hkz); replace HSu := Lib.hid (HSu.out.kept hkz)
                clear hkz
                clear d0 d1' f0 f1 l0 l1 l2 m0 m1 m2
                have l0 := HBt.out.c0; have l1 := HBt.out.c1; have l2 := HBt.out.c2; have m0 := HBu.out.c0; have m1 := HBu.out.c1; have m2 := HBu.out.c2
                go_wp2_with fail
                go_at_call 14
                refine (rsame_any At nt ct Bt mt kt Dt pt qt t Au nu cu Bu mu ku Du pu qu t _ HSt.out HSu.out true ⟨fun _ => ⟨rfl, rfl, rfl⟩, fun _ => rfl⟩).mono ?_
                rintro e w9 ⟨rfl, hkz⟩
                replace HK := Lib.hid (HK.out.trans hkz)
                replace HBa := Lib.hid (HBa.out.kept hkz); replace HSa := Lib.hid (HSa.out.kept hkz); replace HBl := Lib.hid (HBl.out.kept hkz); replace HBm := Lib.hid (HBm.out.kept hkz); replace HSl := Lib.hid (HSl.out.kept hkz); replace HSm := Lib.hid (HSm.out.kept hkz); replace HBt := Lib.hid (HBt.out.kept hkz); replace HBu := Lib.hid (HBu.out.kept hkz); replace HSt := Lib.hid (HSt.out.kept hkz); replace HSu := Lib.hid (HSu.out.kept hkz)
                clear hkz
                clear l0 l1 l2 m0 m1 m2
                have hnl : nl ≤ 100000 := by have h1 := HSl.out.el.1; have h2 := HJl.out.1; rw [h2] at h1; simp at h1; omega
                have hpl : pl ≤ 100000 := by have h1 := HSl.out.dl.1; have h2 := HJl.out.2.2; have h3 := HGL.out; omega
                have hnt : nt ≤ 100000 := by have h1 := HSt.out.el.1; have h2 := HJt.out.1; rw [h2] at h1; simp at h1; omega
                have hpt : pt ≤ 100000 := by have h1 := HSt.out.dl.1; have h2 := HJt.out.2.2; have h3 := HGL.out; omega
                have hnm : nm ≤ 100000 := by have h1 := HSm.out.el.1; have h2 := HJl.out.1; rw [h2] at h1; simp at h1; omega
                have hpm : pm ≤ 100000 := by have h1 := HSm.out.dl.1; have h2 := HJl.out.2.2; have h3 := HGL.out; omega
                have hnu : nu ≤ 100000 := by have h1 := HSu.out.el.1; have h2 := HJt.out.1; rw [h2] at h1; simp at h1; omega
                have hpu : pu ≤ 100000 := by have h1 := HSu.out.dl.1; have h2 := HJt.out.2.2; have h3 := HGL.out; omega
                have HXS := Lib.hid (show x.p.size ≤ 200 ∧ x.vt.size ≤ 300 from ⟨by have h1 := HGP.out; rw [decide_eq_false_iff_not] at h1; omega, by have h1 := HGT.out; rw [decide_eq_false_iff_not] at h1; omega⟩)
                have HOt := Lib.hid (take_ord HJt.out.1 HJt.out.2.1)
                have HZL := Lib.hid (show ∀ y ∈ l.L, y.p.size ≤ 1099511627776 ∧ y.vt.size ≤ 1099511627776 from fun y hy => by rw [HJl.out.1, List.mem_singleton] at hy; subst hy; exact ⟨by have := HXS.out.1; omega, by have := HXS.out.2; omega⟩)
                obtain ⟨z, hz⟩ : ∃ z : Bool, z = true ↔ StOk l.L l.V l.C := ⟨decide (StOk l.L l.V l.C), decide_eq_true_iff⟩
                have HZ := Lib.hid hz
                clear hz
                have Ya0 := KExt.cell HBa.out.c0; have Ya1 := KExt.cell HBa.out.c1; have Ya2 := KExt.cell HBa.out.c2
                have L0 := KExt.cell HBl.out.c0; have L1 := KExt.cell HBl.out.c1; have L2 := KExt.cell HBl.out.c2; have M0 := KExt.cell HBm.out.c0; have M1 := KExt.cell HBm.out.c1; have M2 := KExt.cell HBm.out.c2
                have T0 := KExt.cell HBt.out.c0; have T1 := KExt.cell HBt.out.c1; have T2 := KExt.cell HBt.out.c2; have U0 := KExt.cell HBu.out.c0; have U1 := KExt.cell HBu.out.c1; have U2 := KExt.cell HBu.out.c2
                go_wp2_with fail
                go_cut [112] (fun v wx => v = .bool false ∧ Kept w9 wx)
                case first =>
                  cases z with
                  | false =>
                    refine region_plan w9 22 (.read [0] (.one 1 (.read [2, 3, 4, 6, 7] (.one 5 (.one 8 (.one 9 (.read [10, 11, 12, 13, 15, 16] (.one 14 (.one 17 (.one 18 (.read [19, 20, 21] .stop))))))))))) (by kernel_rfl) (by kernel_rfl) (by kernel_rfl) (by kernel_rfl) (by kernel_rfl) (fun _ d _ _ _ h => by cases d <;> exact h) (Kept.refl _) ?_
                    intro wd hwd
                    have HV := Lib.hid hwd
                    clear hwd
                    rw [wpPlan_read]
                    simp only [pickOps_cons, pickOps_nil, consO_some, List.getElem?_cons_zero]
                    repeat (go_big_quiet_step (fail))
                    refine wpQuiet_nil ?_
                    rw [wpPlan_one]
                    simp only [pickOps_cons, pickOps_nil, consO_some, List.getElem?_cons_zero, List.getElem?_cons_succ]
                    go_wp2_with (go_at_call 6; refine (rsright_any Al nl cl l.L Bl ml kl l.V Dl pl ql l.C _ (HSl.out.el.kept HV.out) (HSl.out.il.kept HV.out) (HSl.out.dl.kept HV.out) HZL.out _ HZ.out).mono ?_; rintro e uz ⟨rfl, hkz⟩)
                    replace HV := Lib.hid (HV.out.trans hkz)
                    clear hkz
                    refine soloP HV.out ?_
                    rw [wpPlan_read]
                    simp only [pickOps_cons, pickOps_nil, consO_some, List.getElem?_cons_zero, List.getElem?_cons_succ]
                    repeat (go_big_quiet_step (fail))
                    refine wpQuiet_nil ?_
                    rw [wpPlan_one]
                    simp only [pickOps_cons, pickOps_nil, consO_some, List.getElem?_cons_zero, List.getElem?_cons_succ]
                    go_wp2_with fail
                    refine soloP HV.out ?_
                    rw [wpPlan_one]
                    simp only [pickOps_cons, pickOps_nil, consO_some, List.getElem?_cons_zero, List.getElem?_cons_succ]
                    go_wp2_with fail
                    refine soloP HV.out ?_
                    rw [wpPlan_one]
                    simp only [pickOps_cons, pickOps_nil, consO_some, List.getElem?_cons_zero, List.getElem?_cons_succ]
                    go_wp2_with fail
                    refine soloP HV.out ?_
                    rw [wpPlan_read]
                    simp only [pickOps_cons, pickOps_nil, consO_some, List.getElem?_cons_zero, List.getElem?_cons_succ]
                    repeat (go_big_quiet_step (fail))
                    refine wpQuiet_nil ?_
                    rw [wpPlan_one]
                    simp only [pickOps_cons, pickOps_nil, consO_some, List.getElem?_cons_zero, List.getElem?_cons_succ]
                    go_wp2_with fail
                    refine soloP HV.out ?_
                    rw [wpPlan_one]
                    simp only [pickOps_cons, pickOps_nil, consO_some, List.getElem?_cons_zero, List.getElem?_cons_succ]
                    go_wp2_with fail
                    refine soloP HV.out ?_
                    rw [wpPlan_one]
                    simp only [pickOps_cons, pickOps_nil, consO_some, List.getElem?_cons_zero, List.getElem?_cons_succ]
                    go_wp2_with fail
                    refine soloP HV.out ?_
                    rw [wpPlan_read]
                    simp only [pickOps_cons, pickOps_nil, consO_some, List.getElem?_cons_zero, List.getElem?_cons_succ]
                    repeat (go_big_quiet_step (fail))
                    refine wpQuiet_nil ?_
                    refine wpPlan_stop ?_
                    clear Ya0 Ya1 Ya2 L0 L1 L2 M0 M1 M2 T0 T1 T2 U0 U1 U2
                    go_wp2_with fail
                    go_meet
                    exact ⟨rfl, HV.out⟩
                  | true =>
                    have HOl := Lib.hid ((HZ.out.1 rfl).ord)
                    refine region_plan w9 22 (.read [0] (.one 1 (.read [2, 3, 4, 6, 7] (.one 5 (.one 8 (.one 9 (.read [10, 11, 12, 13, 15, 16] (.one 14 (.one 17 (.one 18 (.read [19, 20, 21] .stop))))))))))) (by kernel_rfl) (by kernel_rfl) (by kernel_rfl) (by kernel_rfl) (by kernel_rfl) (fun _ d _ _ _ h => by cases d <;> exact h) (Kept.refl _) ?_
                    intro wd hwd
                    have HV := Lib.hid hwd
                    clear hwd
                    rw [wpPlan_read]
                    simp only [pickOps_cons, pickOps_nil, consO_some, List.getElem?_cons_zero]
                    repeat (go_big_quiet_step (fail))
                    refine wpQuiet_nil ?_
                    rw [wpPlan_one]
                    simp only [pickOps_cons, pickOps_nil, consO_some, List.getElem?_cons_zero, List.getElem?_cons_succ]
                    go_wp2_with (go_at_call 6; refine (rsright_any Al nl cl l.L Bl ml kl l.V Dl pl ql l.C _ (HSl.out.el.kept HV.out) (HSl.out.il.kept HV.out) (HSl.out.dl.kept HV.out) HZL.out _ HZ.out).mono ?_; rintro e uz ⟨rfl, hkz⟩)
                    replace HV := Lib.hid (HV.out.trans hkz)
                    clear hkz
                    refine soloP HV.out ?_
                    rw [wpPlan_read]
                    simp only [pickOps_cons, pickOps_nil, consO_some, List.getElem?_cons_zero, List.getElem?_cons_succ]
                    repeat (go_big_quiet_step (fail))
                    refine wpQuiet_nil ?_
                    rw [wpPlan_one]
                    simp only [pickOps_cons, pickOps_nil, consO_some, List.getElem?_cons_zero, List.getElem?_cons_succ]
                    go_wp2_with (go_at_call 15; refine (uplay_any Aa na ca Ba ma ka Da pa qa a Al nl cl Bl ml kl Dl pl ql l _ (HSa.out.kept HV.out) (HSl.out.kept HV.out) HOa.out HOl.out hna hpa hnl hpl).mono ?_; rintro e ug ⟨Ag, ng, cg, Bg, mg, kg, Dg, pg, qg, sg, rfl, hsg, hjg, hkz⟩)
                    have HJg := Lib.hid hjg.1
                    have HSg := Lib.hid hsg
                    replace HV := Lib.hid (HV.out.trans hkz)
                    clear hsg hjg hkz
                    refine soloP HV.out ?_
                    rw [wpPlan_one]
                    simp only [pickOps_cons, pickOps_nil, consO_some, List.getElem?_cons_zero, List.getElem?_cons_succ]
                    go_wp2_with (go_at_call 16; refine (rplay_any Aa na ca Ba ma ka Da pa qa a Am nm cm Bm mm km Dm pm qm l _ (HSa.out.kept HV.out) (HSm.out.kept HV.out) HOa.out HOl.out hna hpa hnm hpm).mono ?_; rintro e uh ⟨Ah, nh, ch, Bh, mh, kh, Dh, ph, qh, sh, rfl, hsh, hjh, hkz⟩)
                    rw [hjh.1.one HJg.out] at hsh
                    replace HSg := Lib.hid (HSg.out.kept hkz)
                    have HSh := Lib.hid hsh
                    replace HV := Lib.hid (HV.out.trans hkz)
                    clear hsh hjh hkz
                    refine soloP HV.out ?_
                    rw [wpPlan_one]
                    simp only [pickOps_cons, pickOps_nil, consO_some, List.getElem?_cons_zero, List.getElem?_cons_succ]
                    go_wp2_with (go_at_call 14; refine (rsame_any Ag ng cg Bg mg kg Dg pg qg sg Ah nh ch Bh mh kh Dh ph qh sg _ HSg.out HSh.out true ⟨fun _ => ⟨rfl, rfl, rfl⟩, fun _ => rfl⟩).mono ?_; rintro e uz ⟨rfl, hkz⟩)
                    replace HV := Lib.hid (HV.out.trans hkz)
                    clear hkz HSg HSh HJg
                    refine soloP HV.out ?_
                    rw [wpPlan_read]
                    simp only [pickOps_cons, pickOps_nil, consO_some, List.getElem?_cons_zero, List.getElem?_cons_succ]
                    repeat (go_big_quiet_step (fail))
                    refine wpQuiet_nil ?_
                    rw [wpPlan_one]
                    simp only [pickOps_cons, pickOps_nil, consO_some, List.getElem?_cons_zero, List.getElem?_cons_succ]
                    go_wp2_with (go_at_call 15; refine (uplay_any Aa na ca Ba ma ka Da pa qa a At nt ct Bt mt kt Dt pt qt t _ (HSa.out.kept HV.out) (HSt.out.kept HV.out) HOa.out HOt.out hna hpa hnt hpt).mono ?_; rintro e ug ⟨Ag, ng, cg, Bg, mg, kg, Dg, pg, qg, sg, rfl, hsg, hjg, hkz⟩)
                    have HJg := Lib.hid hjg.1
                    have HSg := Lib.hid hsg
                    replace HV := Lib.hid (HV.out.trans hkz)
                    clear hsg hjg hkz
                    refine soloP HV.out ?_
                    rw [wpPlan_one]
                    simp only [pickOps_cons, pickOps_nil, consO_some, List.getElem?_cons_zero, List.getElem?_cons_succ]
                    go_wp2_with (go_at_call 16; refine (rplay_any Aa na ca Ba ma ka Da pa qa a Au nu cu Bu mu ku Du pu qu t _ (HSa.out.kept HV.out) (HSu.out.kept HV.out) HOa.out HOt.out hna hpa hnu hpu).mono ?_; rintro e uh ⟨Ah, nh, ch, Bh, mh, kh, Dh, ph, qh, sh, rfl, hsh, hjh, hkz⟩)
                    rw [hjh.1.one HJg.out] at hsh
                    replace HSg := Lib.hid (HSg.out.kept hkz)
                    have HSh := Lib.hid hsh
                    replace HV := Lib.hid (HV.out.trans hkz)
                    clear hsh hjh hkz
                    refine soloP HV.out ?_
                    rw [wpPlan_one]
                    simp only [pickOps_cons, pickOps_nil, consO_some, List.getElem?_cons_zero, List.getElem?_cons_succ]
                    go_wp2_with (go_at_call 14; refine (rsame_any Ag ng cg Bg mg kg Dg pg qg sg Ah nh ch Bh mh kh Dh ph qh sg _ HSg.out HSh.out true ⟨fun _ => ⟨rfl, rfl, rfl⟩, fun _ => rfl⟩).mono ?_; rintro e uz ⟨rfl, hkz⟩)
                    replace HV := Lib.hid (HV.out.trans hkz)
                    clear hkz HSg HSh HJg
                    refine soloP HV.out ?_
                    rw [wpPlan_read]
                    simp only [pickOps_cons, pickOps_nil, consO_some, List.getElem?_cons_zero, List.getElem?_cons_succ]
                    repeat (go_big_quiet_step (fail))
                    refine wpQuiet_nil ?_
                    refine wpPlan_stop ?_
                    clear Ya0 Ya1 Ya2 L0 L1 L2 M0 M1 M2 T0 T1 T2 U0 U1 U2
                    go_wp2_with fail
                    go_meet
                    exact ⟨rfl, HV.out⟩
                case rest =>
                  clear Ya0 Ya1 Ya2 L0 L1 L2 M0 M1 M2 T0 T1 T2 U0 U1 U2
                  obtain ⟨rfl, hkz⟩ := hcut
                  replace HK := Lib.hid (HK.out.trans hkz)
                  clear hkz
                  go_wp2_with fail
                  go_at_call 7
                  refine (uawake_any _).mono ?_
                  rintro e wz ⟨rfl, hkz⟩
                  replace HK := Lib.hid (HK.out.trans hkz)
                  clear hkz
                  go_wp2_with fail
                  go_ret
                  exact ⟨rfl, HK.out⟩
end Go.Proofs.YtkooihljddibfaaGreat
