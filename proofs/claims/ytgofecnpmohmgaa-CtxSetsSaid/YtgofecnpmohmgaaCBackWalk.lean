/-
  What is proved: the Go function CtxBack of layer 6's laws, called with any slice of dots that lies in memory and any text, returns true, if package ctx keeps the contracts and the laws' helper 'awake' returns true; the world has new blocks at most.
-/
import Derived.Test.YtgofecnpmohmgaaCtxC
import Derived.Test.YtgofecnpmohmgaaCBackMath
namespace Go.Proofs.Ytgofecnpmohmgaa
open Go.RowKit

theorem of_comp {V : List Int} {S S' : Int × Int → Prop} {C : List (Int × Int)} (h : SetC S V C) (he : ∀ d, S d ↔ S' d) : SetC S' V C := ⟨h.right, fun d => (h.has d).trans (he d)⟩
set_option maxRecDepth 100000 in
set_option maxHeartbeats 4000000 in
theorem cback_small (K : CtxC) (HA : AwakeC) (A : Option Addr) (n c : Nat) (L : List (Int × Int)) (s : ByteArray) (w : World) (h : Dl w A n c L) (hn : n ≤ 40) (hs : s.size ≤ 600) :
    Calls Try.prog 5 #[.slice A n c, .string s] w fun e w' => e = .returned (.bool true) ∧ Kept w w' := by
  have q1 : decide ((40 : Int) < n) = false := decide_eq_false (by omega)
  have q2 : decide (40 < n) = false := decide_eq_false (by omega)
  have q3 : decide ((600 : Int) < s.size) = false := decide_eq_false (by omega)
  have q4 : decide (600 < s.size) = false := decide_eq_false (by omega)
  have hcap := h.cap.1
  have hcap2 := h.cap.2
  have HO := Lib.hid (K.of_ A n c L w h (by omega))
  have HK := Lib.hid K
  have HAW := Lib.hid HA
  clear h K HA
  go_enter Try.func5, Try.ntmps5
  go_wp2_with fail
  go_at_call 11
  refine HO.out.mono ?_
  rintro e w1 ⟨A1, n1, c1, B1, m1, k1, V1, C1, rfl, hi1, hd1, hs1, hm1, hk1⟩
  have hr1 := hs1.right
  have hcl : C1.length = m1 := hd1.1.symm
  have hn1 := hi1.1
  have hl64 := hr1.vec.len
  have B0 := Box2.new w1 (.slice A1 n1 c1) (.slice B1 m1 k1) 25
  have hkb := (Kept.refl w1).alloc #[.slice A1 n1 c1, .slice B1 m1 k1] 25
  have HP := Lib.hid (HK.out.put ⟨#[]⟩ A1 n1 c1 V1 B1 m1 k1 C1 _ (hi1.kept hkb) (hd1.kept hkb) hr1 (by decide) (by omega))
  have hpz := putC_size ⟨#[]⟩ V1 C1
  have hez : (⟨#[]⟩ : ByteArray).size = 0 := rfl
  have HTF := Lib.hid (tc_fore hr1 (by omega) s)
  obtain ⟨P, hP⟩ : ∃ P, putC ⟨#[]⟩ V1 C1 = P := ⟨_, rfl⟩
  rw [hP] at HP HTF hpz
  have hps : P.size ≤ 2000 := by omega
  have HI1 := Lib.hid (hi1.kept hkb)
  have HD1 := Lib.hid (hd1.kept hkb)
  have HK1 := Lib.hid (hk1.trans hkb)
  have HR1 := Lib.hid hr1
  have b0 := B0.c0
  have b1 := B0.c1
  have HB := Lib.hid B0
  have HAT := Lib.hid (HK.out.take (P ++ s))
  have HAS := Lib.hid (HK.out.take s)
  have hzps : (P ++ s).size ≤ 5000 := by rw [ByteArray.size_append]; omega
  have p5 : P.size + s.size ≤ 9223372036854775807 := by omega
  clear hi1 hd1 hs1 hm1 hk1 hkb hr1 hpz hP B0 hn1 hl64
  go_wp2_with fail
  go_at_call 32
  refine HP.out.mono ?_
  rintro e w2 ⟨rfl, hk2⟩
  go_wp2_with fail
  go_at_call 13
  refine (HAT.out _ (by omega)).mono ?_
  rintro e w3 ⟨A2, n2, c2, B2, m2, k2, V2, C2, r2, z2, rfl, hi2, hd2, ht2, hk3⟩
  rw [HTF.out] at ht2
  simp only [Prod.mk.injEq] at ht2
  obtain ⟨rfl, rfl, rfl, rfl⟩ := ht2
  have hkb2 := (Kept.refl w3).alloc #[.slice A2 n2 c2, .slice B2 m2 k2] 25
  have HK3 := Lib.hid (hk2.trans (hk3.trans hkb2))
  have HSM := Lib.hid (HK.out.same A2 n2 c2 V1 B2 m2 k2 C1 A1 n1 c1 V1 B1 m1 k1 C1 _ (hi2.kept hkb2) (hd2.kept hkb2) (HI1.out.kept HK3.out) (HD1.out.kept HK3.out) true (by simp))
  have e0 := (HB.out.kept HK3.out).c0
  have e1 := (HB.out.kept HK3.out).c1
  have f3 : (s.toList == s.toList) = true := by simp
  clear hi2 hd2 hk2 hk3 hkb2 b0 b1
  go_wp2_with fail
  go_at_call 28
  refine HSM.out.mono ?_
  rintro e w4 ⟨rfl, hk4⟩
  have HK4 := Lib.hid (HK1.out.trans (HK3.out.trans hk4))
  clear e0 e1 hk4
  go_wp2_with fail
  go_at_call 13
  refine (HAS.out _ (by omega)).mono ?_
  rintro e w5 ⟨A3, n3, c3, B3, m3, k3, V3, C3, r3, z3, rfl, hi3, hd3, ht3, hk5⟩
  have hkb5 := (Kept.refl w5).alloc #[.slice A3 n3 c3, .slice B3 m3 k3] 25
  have HK5 := Lib.hid (HK4.out.trans (hk5.trans hkb5))
  by_cases hz : z3 = 0
  · have d1 : ((z3 : Int) != 0) = false := by simp [hz]
    rw [hz] at ht3
    obtain ⟨ha, hr3⟩ := tc_aft ht3
    have hcl3 : C3.length = m3 := hd3.1.symm
    have hm3 : m3 ≤ 1000 := by
      have h1 := encCl_long C3
      have h2 := putC_enc V3 C3
      have h3 : ((putC ⟨#[]⟩ V3 C3) ++ r3).size = s.size := by rw [ha]
      rw [h2] at h3
      simp only [ByteArray.size_append] at h3
      omega
    have HP2 := Lib.hid (HK.out.put ⟨#[]⟩ A3 n3 c3 V3 B3 m3 k3 C3 _ (hi3.kept hkb5) (hd3.kept hkb5) hr3 (by decide) hm3)
    obtain ⟨P2, hP2⟩ : ∃ P, putC ⟨#[]⟩ V3 C3 = P := ⟨_, rfl⟩
    rw [hP2] at HP2 ha
    have g1 : ((P2 ++ r3).toList == s.toList) = true := by rw [ha]; simp
    have g2 : P2.size + r3.size ≤ 9223372036854775807 := by have := congrArg ByteArray.size ha; rw [ByteArray.size_append] at this; omega
    clear hi3 hd3 ht3 hk5 hkb5 hz ha hr3 hP2
    go_wp2_with fail
    go_at_call 32
    refine HP2.out.mono ?_
    rintro e w6 ⟨rfl, hk6⟩
    go_wp2_with fail
    go_at_call 7
    refine (HAW.out _).mono ?_
    rintro e w7 ⟨rfl, hk7⟩
    go_wp2_with fail
    go_ret
    exact ⟨rfl, HK5.out.trans (hk6.trans hk7)⟩
  · have d1 : ((z3 : Int) != 0) = true := by simp [hz]
    clear hi3 hd3 ht3 hk5 hkb5 hz
    go_wp2_with fail
    go_at_call 7
    refine (HAW.out _).mono ?_
    rintro e w7 ⟨rfl, hk7⟩
    go_wp2_with fail
    go_ret
    exact ⟨rfl, HK5.out.trans hk7⟩

theorem cback_big (HA : AwakeC) (A : Option Addr) (n c : Nat) (s : ByteArray) (w : World) (hc : n ≤ 9223372036854775807) (hs : s.size ≤ 9223372036854775807) (hn : 40 < n ∨ 600 < s.size) :
    Calls Try.prog 5 #[.slice A n c, .string s] w fun e w' => e = .returned (.bool true) ∧ Kept w w' := by
  by_cases h1 : 40 < n
  · have q1 : decide ((40 : Int) < n) = true := decide_eq_true (by omega)
    have q2 : decide (40 < n) = true := decide_eq_true h1
    clear hn h1
    go_enter Try.func5, Try.ntmps5
    go_wp2_with fail
    go_at_call 7
    refine (HA _).mono ?_
    rintro e w7 ⟨rfl, hk7⟩
    go_wp2_with fail
    go_ret
    exact ⟨rfl, hk7⟩
  · have q1 : decide ((40 : Int) < n) = false := decide_eq_false (by omega)
    have q2 : decide (40 < n) = false := decide_eq_false h1
    have q3 : decide ((600 : Int) < s.size) = true := decide_eq_true (by omega)
    have q4 : decide (600 < s.size) = true := decide_eq_true (by omega)
    clear hn h1
    go_enter Try.func5, Try.ntmps5
    go_wp2_with fail
    go_at_call 7
    refine (HA _).mono ?_
    rintro e w7 ⟨rfl, hk7⟩
    go_wp2_with fail
    go_ret
    exact ⟨rfl, hk7⟩
end Go.Proofs.Ytgofecnpmohmgaa
