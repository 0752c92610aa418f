/-
  What is proved: the Go function EntryBack of layer 7's laws, called with any entry and any text that it goes through, where the laid tables read as their initialisers lay them, returns true; the world has new blocks at most.
-/
import Derived.Test.YtoanccojpppfoaaDoorELong
namespace Go.Proofs.YtoanccojpppfoaaDoor
open Go.RowKit
set_option linter.unusedVariables false

set_option maxRecDepth 100000 in
set_option maxHeartbeats 16000000 in
theorem eback_rt (x : En) (s : ByteArray) (w : World) (hL : longE x = false) (hx : EnB x) (ss : s.size ≤ 900) (hl : LaidE w) (hr : rightE x = true) (hz : teE s = 0) :
    Calls Tryd.prog 4 #[.agg #[.int .i64 x.d.1, .int .i64 x.d.2, .string x.p, .int .i64 x.k, .int .i64 x.vk, .int .i64 x.vn, .string x.vt, .int .i64 x.e.1, .int .i64 x.e.2], .string s] w fun e w' => e = .returned (.bool true) ∧ Kept w w' := by
  have hsz : x.p.size ≤ 300 ∧ x.vt.size ≤ 400 := by
    unfold longE at hL
    have := of_decide_eq_false hL
    omega
  have d9 : decide ((900 : Int) < (s.size : Int)) = false := decide_eq_false (by omega)
  have AL := Lib.hid (fun w => elong_c x false hL w (by omega) (by omega))
  have AR := Lib.hid (fun w => eright_c x true hr w (by omega) (by omega))
  obtain ⟨P, hP⟩ : ∃ P, putE ⟨#[]⟩ x = P := ⟨_, rfl⟩
  have zP : P.size ≤ 800 := by have := putE_size ⟨#[]⟩ x; rw [hP] at this; have e0 : (⟨#[]⟩ : ByteArray).size = 0 := rfl; omega
  have zPs : (P ++ s).size ≤ 1700 := by rw [ByteArray.size_append]; omega
  have hF := te_of (te_fore hr hx.v1 hx.v2 s)
  rw [hP] at hF
  have AP := Lib.hid (fun w => eput_c ⟨#[]⟩ x P hP hx w (by decide) (by omega) (by omega))
  have AT := Lib.hid (fun w => etake_c (P ++ s) x s 0 hF.1 hF.2.1 (by rw [hF.2.2]; rfl) (by omega) w)
  clear hF hP zPs
  obtain ⟨X, hX⟩ : ∃ X, teX s = X := ⟨_, rfl⟩
  obtain ⟨R, hR⟩ : ∃ R, teR s = R := ⟨_, rfl⟩
  have AS := Lib.hid (fun w => etake_c s X R 0 hX hR (by rw [hz]; rfl) (by omega) w)
  have hA := te_aft hz
  have hB := te_bd hz
  rw [hX, hR] at hA
  rw [hX] at hB
  obtain ⟨Q, hQ⟩ : ∃ Q, putE ⟨#[]⟩ X = Q := ⟨_, rfl⟩
  rw [hQ] at hA
  have hQR := hA.2
  have zQ : Q.size + R.size ≤ 900 := by have := congrArg ByteArray.size hQR; rw [ByteArray.size_append] at this; omega
  have BR := Lib.hid (fun w => eright_c X true hA.1 w (by omega) (by omega))
  have BP := Lib.hid (fun w => eput_c ⟨#[]⟩ X Q hQ hB.1 w (by decide) (by omega) (by omega))
  have HQR := Lib.hid hQR
  clear hA hB hQ hQR hX hR hz
  have HL := Lib.hid hl
  have K0 := Lib.hid ((Kept.refl w).alloc #[.int .i64 x.d.1, .int .i64 x.d.2, .string x.p, .int .i64 x.k, .int .i64 x.vk, .int .i64 x.vn, .string x.vt, .int .i64 x.e.1, .int .i64 x.e.2] 27)
  have E0 := Lib.hid (Ent.new w x 27)
  have s0 : w.heap.size < (w.alloc (.cells #[.int .i64 x.d.1, .int .i64 x.d.2, .string x.p, .int .i64 x.k, .int .i64 x.vk, .int .i64 x.vn, .string x.vt, .int .i64 x.e.1, .int .i64 x.e.2] 27)).heap.size := (by simp)
  clear hl hL hx hr hsz
  go_enter Tryd.func4, Tryd.ntmps4
  go_wp2_with fail
  go_at_call 5
  refine (AL.out _).mono ?_
  rintro e w1 ⟨rfl, hg⟩
  have E1 := Lib.hid (E0.out.kept hg)
  have K1 := Lib.hid (K0.out.trans hg)
  replace s0 : w.heap.size < w1.heap.size := lt_kept hg s0
  clear hg
  have u0 := E1.out.c0; have u1 := E1.out.c1; have u2 := E1.out.c2; have u3 := E1.out.c3; have u4 := E1.out.c4; have u5 := E1.out.c5; have u6 := E1.out.c6; have u7 := E1.out.c7; have u8 := E1.out.c8
  go_wp2_with fail
  go_at_call 9
  refine (AR.out _).mono ?_
  rintro e w2 ⟨rfl, hg⟩
  have E2 := Lib.hid (E1.out.kept hg)
  have K2 := Lib.hid (K1.out.trans hg)
  replace s0 : w.heap.size < w2.heap.size := lt_kept hg s0
  clear hg
  clear u0 u1 u2 u3 u4 u5 u6 u7 u8
  have u0 := E2.out.c0; have u1 := E2.out.c1; have u2 := E2.out.c2; have u3 := E2.out.c3; have u4 := E2.out.c4; have u5 := E2.out.c5; have u6 := E2.out.c6; have u7 := E2.out.c7; have u8 := E2.out.c8
  go_wp2_with fail
  go_at_call 13
  refine (AP.out _).mono ?_
  rintro e w3 ⟨rfl, hg⟩
  have E3 := Lib.hid (E2.out.kept hg)
  have K3 := Lib.hid (K2.out.trans hg)
  replace s0 : w.heap.size < w3.heap.size := lt_kept hg s0
  clear hg
  clear u0 u1 u2 u3 u4 u5 u6 u7 u8
  go_wp2_with fail
  go_at_call 7
  refine (AT.out _).mono ?_
  rintro e w4 ⟨rfl, hg⟩
  have E4 := Lib.hid (E3.out.kept hg)
  have K4 := Lib.hid (K3.out.trans hg)
  replace s0 : w.heap.size < w4.heap.size := lt_kept hg s0
  clear hg
  have n1 : ¬ w.heap.size = w4.heap.size := (by omega)
  have n2 : ¬ w4.heap.size = w.heap.size := (by omega)
  have u0 := E4.out.c0; have u1 := E4.out.c1; have u2 := E4.out.c2; have u3 := E4.out.c3; have u4 := E4.out.c4; have u5 := E4.out.c5; have u6 := E4.out.c6; have u7 := E4.out.c7; have u8 := E4.out.c8
  go_wp2_with fail
  go_at_call 7
  refine (AS.out _).mono ?_
  rintro e w5 ⟨rfl, hg⟩
  have K5 := Lib.hid (K4.out.trans (((Kept.refl w4).alloc #[.int .i64 x.d.1, .int .i64 x.d.2, .string x.p, .int .i64 x.k, .int .i64 x.vk, .int .i64 x.vn, .string x.vt, .int .i64 x.e.1, .int .i64 x.e.2] 27).trans hg))
  clear hg n1 n2
  clear u0 u1 u2 u3 u4 u5 u6 u7 u8
  have KX := Lib.hid (K5.out.trans ((Kept.refl w5).alloc #[.int .i64 X.d.1, .int .i64 X.d.2, .string X.p, .int .i64 X.k, .int .i64 X.vk, .int .i64 X.vn, .string X.vt, .int .i64 X.e.1, .int .i64 X.e.2] 27))
  have EX := Lib.hid (Ent.new w5 X 27)
  go_wp2_with fail
  go_at_call 9
  refine (BR.out _).mono ?_
  rintro e w6 ⟨rfl, hg⟩
  have E6 := EX.out.kept hg
  have K6 := Lib.hid (KX.out.trans hg)
  clear hg
  have u0 := E6.c0; have u1 := E6.c1; have u2 := E6.c2; have u3 := E6.c3; have u4 := E6.c4; have u5 := E6.c5; have u6 := E6.c6; have u7 := E6.c7; have u8 := E6.c8
  clear E6
  go_wp2_with fail
  go_at_call 13
  refine (BP.out _).mono ?_
  rintro e w7 ⟨rfl, hg⟩
  have K7 := Lib.hid (K6.out.trans hg)
  clear hg
  clear u0 u1 u2 u3 u4 u5 u6 u7 u8
  have hQR := HQR.out
  go_wp2_with fail
  go_at_call 6
  refine (eawake_any _ (HL.out.kept K7.out)).mono ?_
  rintro e w8 ⟨rfl, hg⟩
  go_wp2_with fail
  go_ret
  exact ⟨rfl, K7.out.trans hg⟩

set_option maxRecDepth 100000 in
set_option maxHeartbeats 16000000 in
theorem eback_re (x : En) (s : ByteArray) (w : World) (hL : longE x = false) (hx : EnB x) (ss : s.size ≤ 900) (hl : LaidE w) (hr : rightE x = true) (hz : teE s ≠ 0) :
    Calls Tryd.prog 4 #[.agg #[.int .i64 x.d.1, .int .i64 x.d.2, .string x.p, .int .i64 x.k, .int .i64 x.vk, .int .i64 x.vn, .string x.vt, .int .i64 x.e.1, .int .i64 x.e.2], .string s] w fun e w' => e = .returned (.bool true) ∧ Kept w w' := by
  have hsz : x.p.size ≤ 300 ∧ x.vt.size ≤ 400 := by
    unfold longE at hL
    have := of_decide_eq_false hL
    omega
  have d9 : decide ((900 : Int) < (s.size : Int)) = false := decide_eq_false (by omega)
  have AL := Lib.hid (fun w => elong_c x false hL w (by omega) (by omega))
  have AR := Lib.hid (fun w => eright_c x true hr w (by omega) (by omega))
  obtain ⟨P, hP⟩ : ∃ P, putE ⟨#[]⟩ x = P := ⟨_, rfl⟩
  have zP : P.size ≤ 800 := by have := putE_size ⟨#[]⟩ x; rw [hP] at this; have e0 : (⟨#[]⟩ : ByteArray).size = 0 := rfl; omega
  have zPs : (P ++ s).size ≤ 1700 := by rw [ByteArray.size_append]; omega
  have hF := te_of (te_fore hr hx.v1 hx.v2 s)
  rw [hP] at hF
  have AP := Lib.hid (fun w => eput_c ⟨#[]⟩ x P hP hx w (by decide) (by omega) (by omega))
  have AT := Lib.hid (fun w => etake_c (P ++ s) x s 0 hF.1 hF.2.1 (by rw [hF.2.2]; rfl) (by omega) w)
  clear hF hP zPs
  obtain ⟨X, hX⟩ : ∃ X, teX s = X := ⟨_, rfl⟩
  obtain ⟨R, hR⟩ : ∃ R, teR s = R := ⟨_, rfl⟩
  obtain ⟨Z, hZ⟩ : ∃ Z : Int, (teE s : Int) = Z := ⟨_, rfl⟩
  have z0 : (Z != 0) = true := by rw [← hZ]; simp; omega
  have AS := Lib.hid (fun w => etake_c s X R Z hX hR hZ (by omega) w)
  clear hX hR hZ hz
  have HL := Lib.hid hl
  have K0 := Lib.hid ((Kept.refl w).alloc #[.int .i64 x.d.1, .int .i64 x.d.2, .string x.p, .int .i64 x.k, .int .i64 x.vk, .int .i64 x.vn, .string x.vt, .int .i64 x.e.1, .int .i64 x.e.2] 27)
  have E0 := Lib.hid (Ent.new w x 27)
  have s0 : w.heap.size < (w.alloc (.cells #[.int .i64 x.d.1, .int .i64 x.d.2, .string x.p, .int .i64 x.k, .int .i64 x.vk, .int .i64 x.vn, .string x.vt, .int .i64 x.e.1, .int .i64 x.e.2] 27)).heap.size := (by simp)
  clear hl hL hx hr hsz
  go_enter Tryd.func4, Tryd.ntmps4
  go_wp2_with fail
  go_at_call 5
  refine (AL.out _).mono ?_
  rintro e w1 ⟨rfl, hg⟩
  have E1 := Lib.hid (E0.out.kept hg)
  have K1 := Lib.hid (K0.out.trans hg)
  replace s0 : w.heap.size < w1.heap.size := lt_kept hg s0
  clear hg
  have u0 := E1.out.c0; have u1 := E1.out.c1; have u2 := E1.out.c2; have u3 := E1.out.c3; have u4 := E1.out.c4; have u5 := E1.out.c5; have u6 := E1.out.c6; have u7 := E1.out.c7; have u8 := E1.out.c8
  go_wp2_with fail
  go_at_call 9
  refine (AR.out _).mono ?_
  rintro e w2 ⟨rfl, hg⟩
  have E2 := Lib.hid (E1.out.kept hg)
  have K2 := Lib.hid (K1.out.trans hg)
  replace s0 : w.heap.size < w2.heap.size := lt_kept hg s0
  clear hg
  clear u0 u1 u2 u3 u4 u5 u6 u7 u8
  have u0 := E2.out.c0; have u1 := E2.out.c1; have u2 := E2.out.c2; have u3 := E2.out.c3; have u4 := E2.out.c4; have u5 := E2.out.c5; have u6 := E2.out.c6; have u7 := E2.out.c7; have u8 := E2.out.c8
  go_wp2_with fail
  go_at_call 13
  refine (AP.out _).mono ?_
  rintro e w3 ⟨rfl, hg⟩
  have E3 := Lib.hid (E2.out.kept hg)
  have K3 := Lib.hid (K2.out.trans hg)
  replace s0 : w.heap.size < w3.heap.size := lt_kept hg s0
  clear hg
  clear u0 u1 u2 u3 u4 u5 u6 u7 u8
  go_wp2_with fail
  go_at_call 7
  refine (AT.out _).mono ?_
  rintro e w4 ⟨rfl, hg⟩
  have E4 := Lib.hid (E3.out.kept hg)
  have K4 := Lib.hid (K3.out.trans hg)
  replace s0 : w.heap.size < w4.heap.size := lt_kept hg s0
  clear hg
  have n1 : ¬ w.heap.size = w4.heap.size := (by omega)
  have n2 : ¬ w4.heap.size = w.heap.size := (by omega)
  have u0 := E4.out.c0; have u1 := E4.out.c1; have u2 := E4.out.c2; have u3 := E4.out.c3; have u4 := E4.out.c4; have u5 := E4.out.c5; have u6 := E4.out.c6; have u7 := E4.out.c7; have u8 := E4.out.c8
  go_wp2_with fail
  go_at_call 7
  refine (AS.out _).mono ?_
  rintro e w5 ⟨rfl, hg⟩
  have K5 := Lib.hid (K4.out.trans (((Kept.refl w4).alloc #[.int .i64 x.d.1, .int .i64 x.d.2, .string x.p, .int .i64 x.k, .int .i64 x.vk, .int .i64 x.vn, .string x.vt, .int .i64 x.e.1, .int .i64 x.e.2] 27).trans hg))
  clear hg n1 n2
  clear u0 u1 u2 u3 u4 u5 u6 u7 u8
  have KX := Lib.hid (K5.out.trans ((Kept.refl w5).alloc #[.int .i64 X.d.1, .int .i64 X.d.2, .string X.p, .int .i64 X.k, .int .i64 X.vk, .int .i64 X.vn, .string X.vt, .int .i64 X.e.1, .int .i64 X.e.2] 27))
  go_wp2_with fail
  go_at_call 6
  refine (eawake_any _ (HL.out.kept KX.out)).mono ?_
  rintro e w8 ⟨rfl, hg⟩
  go_wp2_with fail
  go_ret
  exact ⟨rfl, KX.out.trans hg⟩

set_option maxRecDepth 100000 in
set_option maxHeartbeats 16000000 in
theorem eback_nt (x : En) (s : ByteArray) (w : World) (hL : longE x = false) (hx : EnB x) (ss : s.size ≤ 900) (hl : LaidE w) (hr : rightE x = false) (hz : teE s = 0) :
    Calls Tryd.prog 4 #[.agg #[.int .i64 x.d.1, .int .i64 x.d.2, .string x.p, .int .i64 x.k, .int .i64 x.vk, .int .i64 x.vn, .string x.vt, .int .i64 x.e.1, .int .i64 x.e.2], .string s] w fun e w' => e = .returned (.bool true) ∧ Kept w w' := by
  have hsz : x.p.size ≤ 300 ∧ x.vt.size ≤ 400 := by
    unfold longE at hL
    have := of_decide_eq_false hL
    omega
  have d9 : decide ((900 : Int) < (s.size : Int)) = false := decide_eq_false (by omega)
  have AL := Lib.hid (fun w => elong_c x false hL w (by omega) (by omega))
  have AR := Lib.hid (fun w => eright_c x false hr w (by omega) (by omega))
  obtain ⟨X, hX⟩ : ∃ X, teX s = X := ⟨_, rfl⟩
  obtain ⟨R, hR⟩ : ∃ R, teR s = R := ⟨_, rfl⟩
  have AS := Lib.hid (fun w => etake_c s X R 0 hX hR (by rw [hz]; rfl) (by omega) w)
  have hA := te_aft hz
  have hB := te_bd hz
  rw [hX, hR] at hA
  rw [hX] at hB
  obtain ⟨Q, hQ⟩ : ∃ Q, putE ⟨#[]⟩ X = Q := ⟨_, rfl⟩
  rw [hQ] at hA
  have hQR := hA.2
  have zQ : Q.size + R.size ≤ 900 := by have := congrArg ByteArray.size hQR; rw [ByteArray.size_append] at this; omega
  have BR := Lib.hid (fun w => eright_c X true hA.1 w (by omega) (by omega))
  have BP := Lib.hid (fun w => eput_c ⟨#[]⟩ X Q hQ hB.1 w (by decide) (by omega) (by omega))
  have HQR := Lib.hid hQR
  clear hA hB hQ hQR hX hR hz
  have HL := Lib.hid hl
  have K0 := Lib.hid ((Kept.refl w).alloc #[.int .i64 x.d.1, .int .i64 x.d.2, .string x.p, .int .i64 x.k, .int .i64 x.vk, .int .i64 x.vn, .string x.vt, .int .i64 x.e.1, .int .i64 x.e.2] 27)
  have E0 := Lib.hid (Ent.new w x 27)
  have s0 : w.heap.size < (w.alloc (.cells #[.int .i64 x.d.1, .int .i64 x.d.2, .string x.p, .int .i64 x.k, .int .i64 x.vk, .int .i64 x.vn, .string x.vt, .int .i64 x.e.1, .int .i64 x.e.2] 27)).heap.size := (by simp)
  clear hl hL hx hr hsz
  go_enter Tryd.func4, Tryd.ntmps4
  go_wp2_with fail
  go_at_call 5
  refine (AL.out _).mono ?_
  rintro e w1 ⟨rfl, hg⟩
  have E1 := Lib.hid (E0.out.kept hg)
  have K1 := Lib.hid (K0.out.trans hg)
  replace s0 : w.heap.size < w1.heap.size := lt_kept hg s0
  clear hg
  have u0 := E1.out.c0; have u1 := E1.out.c1; have u2 := E1.out.c2; have u3 := E1.out.c3; have u4 := E1.out.c4; have u5 := E1.out.c5; have u6 := E1.out.c6; have u7 := E1.out.c7; have u8 := E1.out.c8
  go_wp2_with fail
  go_at_call 9
  refine (AR.out _).mono ?_
  rintro e w2 ⟨rfl, hg⟩
  have E2 := Lib.hid (E1.out.kept hg)
  have K2 := Lib.hid (K1.out.trans hg)
  replace s0 : w.heap.size < w2.heap.size := lt_kept hg s0
  clear hg
  clear u0 u1 u2 u3 u4 u5 u6 u7 u8
  go_wp2_with fail
  go_at_call 7
  refine (AS.out _).mono ?_
  rintro e w5 ⟨rfl, hg⟩
  have K5 := Lib.hid (K2.out.trans hg)
  clear hg
  have KX := Lib.hid (K5.out.trans ((Kept.refl w5).alloc #[.int .i64 X.d.1, .int .i64 X.d.2, .string X.p, .int .i64 X.k, .int .i64 X.vk, .int .i64 X.vn, .string X.vt, .int .i64 X.e.1, .int .i64 X.e.2] 27))
  have EX := Lib.hid (Ent.new w5 X 27)
  go_wp2_with fail
  go_at_call 9
  refine (BR.out _).mono ?_
  rintro e w6 ⟨rfl, hg⟩
  have E6 := EX.out.kept hg
  have K6 := Lib.hid (KX.out.trans hg)
  clear hg
  have u0 := E6.c0; have u1 := E6.c1; have u2 := E6.c2; have u3 := E6.c3; have u4 := E6.c4; have u5 := E6.c5; have u6 := E6.c6; have u7 := E6.c7; have u8 := E6.c8
  clear E6
  go_wp2_with fail
  go_at_call 13
  refine (BP.out _).mono ?_
  rintro e w7 ⟨rfl, hg⟩
  have K7 := Lib.hid (K6.out.trans hg)
  clear hg
  clear u0 u1 u2 u3 u4 u5 u6 u7 u8
  have hQR := HQR.out
  go_wp2_with fail
  go_at_call 6
  refine (eawake_any _ (HL.out.kept K7.out)).mono ?_
  rintro e w8 ⟨rfl, hg⟩
  go_wp2_with fail
  go_ret
  exact ⟨rfl, K7.out.trans hg⟩

set_option maxRecDepth 100000 in
set_option maxHeartbeats 16000000 in
theorem eback_ne (x : En) (s : ByteArray) (w : World) (hL : longE x = false) (hx : EnB x) (ss : s.size ≤ 900) (hl : LaidE w) (hr : rightE x = false) (hz : teE s ≠ 0) :
    Calls Tryd.prog 4 #[.agg #[.int .i64 x.d.1, .int .i64 x.d.2, .string x.p, .int .i64 x.k, .int .i64 x.vk, .int .i64 x.vn, .string x.vt, .int .i64 x.e.1, .int .i64 x.e.2], .string s] w fun e w' => e = .returned (.bool true) ∧ Kept w w' := by
  have hsz : x.p.size ≤ 300 ∧ x.vt.size ≤ 400 := by
    unfold longE at hL
    have := of_decide_eq_false hL
    omega
  have d9 : decide ((900 : Int) < (s.size : Int)) = false := decide_eq_false (by omega)
  have AL := Lib.hid (fun w => elong_c x false hL w (by omega) (by omega))
  have AR := Lib.hid (fun w => eright_c x false hr w (by omega) (by omega))
  obtain ⟨X, hX⟩ : ∃ X, teX s = X := ⟨_, rfl⟩
  obtain ⟨R, hR⟩ : ∃ R, teR s = R := ⟨_, rfl⟩
  obtain ⟨Z, hZ⟩ : ∃ Z : Int, (teE s : Int) = Z := ⟨_, rfl⟩
  have z0 : (Z != 0) = true := by rw [← hZ]; simp; omega
  have AS := Lib.hid (fun w => etake_c s X R Z hX hR hZ (by omega) w)
  clear hX hR hZ hz
  have HL := Lib.hid hl
  have K0 := Lib.hid ((Kept.refl w).alloc #[.int .i64 x.d.1, .int .i64 x.d.2, .string x.p, .int .i64 x.k, .int .i64 x.vk, .int .i64 x.vn, .string x.vt, .int .i64 x.e.1, .int .i64 x.e.2] 27)
  have E0 := Lib.hid (Ent.new w x 27)
  have s0 : w.heap.size < (w.alloc (.cells #[.int .i64 x.d.1, .int .i64 x.d.2, .string x.p, .int .i64 x.k, .int .i64 x.vk, .int .i64 x.vn, .string x.vt, .int .i64 x.e.1, .int .i64 x.e.2] 27)).heap.size := (by simp)
  clear hl hL hx hr hsz
  go_enter Tryd.func4, Tryd.ntmps4
  go_wp2_with fail
  go_at_call 5
  refine (AL.out _).mono ?_
  rintro e w1 ⟨rfl, hg⟩
  have E1 := Lib.hid (E0.out.kept hg)
  have K1 := Lib.hid (K0.out.trans hg)
  replace s0 : w.heap.size < w1.heap.size := lt_kept hg s0
  clear hg
  have u0 := E1.out.c0; have u1 := E1.out.c1; have u2 := E1.out.c2; have u3 := E1.out.c3; have u4 := E1.out.c4; have u5 := E1.out.c5; have u6 := E1.out.c6; have u7 := E1.out.c7; have u8 := E1.out.c8
  go_wp2_with fail
  go_at_call 9
  refine (AR.out _).mono ?_
  rintro e w2 ⟨rfl, hg⟩
  have E2 := Lib.hid (E1.out.kept hg)
  have K2 := Lib.hid (K1.out.trans hg)
  replace s0 : w.heap.size < w2.heap.size := lt_kept hg s0
  clear hg
  clear u0 u1 u2 u3 u4 u5 u6 u7 u8
  go_wp2_with fail
  go_at_call 7
  refine (AS.out _).mono ?_
  rintro e w5 ⟨rfl, hg⟩
  have K5 := Lib.hid (K2.out.trans hg)
  clear hg
  have KX := Lib.hid (K5.out.trans ((Kept.refl w5).alloc #[.int .i64 X.d.1, .int .i64 X.d.2, .string X.p, .int .i64 X.k, .int .i64 X.vk, .int .i64 X.vn, .string X.vt, .int .i64 X.e.1, .int .i64 X.e.2] 27))
  go_wp2_with fail
  go_at_call 6
  refine (eawake_any _ (HL.out.kept KX.out)).mono ?_
  rintro e w8 ⟨rfl, hg⟩
  go_wp2_with fail
  go_ret
  exact ⟨rfl, KX.out.trans hg⟩

theorem eback_any (x : En) (s : ByteArray) (w : World) (hx : EnB x) (sp : x.p.size ≤ 140737488351232) (st : x.vt.size ≤ 140737488351232) (ss : s.size ≤ 140737488351232) (hl : LaidE w) :
    Calls Tryd.prog 4 #[.agg #[.int .i64 x.d.1, .int .i64 x.d.2, .string x.p, .int .i64 x.k, .int .i64 x.vk, .int .i64 x.vn, .string x.vt, .int .i64 x.e.1, .int .i64 x.e.2], .string s] w fun e w' => e = .returned (.bool true) ∧ Kept w w' := by
  cases hL : longE x with
  | true => exact eback_big x s w true hL sp st ss (.inl rfl) hl
  | false =>
    by_cases h9 : 900 < s.size
    · exact eback_big x s w false hL sp st ss (.inr h9) hl
    · cases hr : rightE x with
      | true =>
        by_cases hz : teE s = 0
        · exact eback_rt x s w hL hx (by omega) hl hr hz
        · exact eback_re x s w hL hx (by omega) hl hr hz
      | false =>
        by_cases hz : teE s = 0
        · exact eback_nt x s w hL hx (by omega) hl hr hz
        · exact eback_ne x s w hL hx (by omega) hl hr hz
end Go.Proofs.YtoanccojpppfoaaDoor
