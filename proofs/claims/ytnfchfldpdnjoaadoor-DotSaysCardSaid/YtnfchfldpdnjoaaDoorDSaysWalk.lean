/-
  What is proved: the Go function DotSays of layer 5's laws, called with any slice of dots that lies in memory, any dot and any text where the laid tables read as their initialisers lay them, returns true; the world has new blocks at most.
-/
import Derived.Test.YtnfchfldpdnjoaaDoorRDWith
import Derived.Test.YtnfchfldpdnjoaaDoorDAwake
import Derived.Test.YtnfchfldpdnjoaaDoorDHas
import Derived.Test.YtnfchfldpdnjoaaDoorDSame
namespace Go.Proofs.YtnfchfldpdnjoaaDoor
open Go.RowKit

set_option maxRecDepth 100000 in
set_option maxHeartbeats 2000000 in
theorem dsays_big (A : Option Addr) (n c : Nat) (x1 x2 : Int) (s : ByteArray) (w : World) (hc : n ≤ 9223372036854775807) (hs : s.size ≤ 9223372036854775807) (hn : 100 < n ∨ 300 < s.size) (hl : LaidW w) :
    Calls Tryd.prog 3 #[.slice A n c, .agg #[.int .i64 x1, .int .i64 x2], .string s] w fun e w' => e = .returned (.bool true) ∧ Kept w w' := by
  have hk := (Kept.refl w).alloc #[.int .i64 x1, .int .i64 x2] 24
  have HL := Lib.hid (hl.kept hk)
  clear hl
  by_cases h1 : 100 < n
  · have q1 : decide ((100 : Int) < n) = true := by rw [decide_eq_true_iff]; omega
    have q2 : decide (100 < n) = true := by rw [decide_eq_true_iff]; omega
    clear hn h1
    go_enter Tryd.func3, Tryd.ntmps3
    go_wp2_with (go_at_call 6; ((with_reducible refine (dawake_any _ HL.out).mono ?_); rintro e wk ⟨rfl, hk2⟩))
    go_ret
    exact ⟨rfl, hk.trans hk2⟩
  · have q1 : decide ((100 : Int) < n) = false := by rw [decide_eq_false_iff_not]; omega
    have q2 : decide (100 < n) = false := by rw [decide_eq_false_iff_not]; omega
    have q3 : decide ((300 : Int) < s.size) = true := by rw [decide_eq_true_iff]; omega
    have q4 : decide (300 < s.size) = true := by rw [decide_eq_true_iff]; omega
    clear hn h1
    go_enter Tryd.func3, Tryd.ntmps3
    go_wp2_with (go_at_call 6; ((with_reducible refine (dawake_any _ HL.out).mono ?_); rintro e wk ⟨rfl, hk2⟩))
    go_ret
    exact ⟨rfl, hk.trans hk2⟩

set_option maxRecDepth 100000 in
set_option maxHeartbeats 8000000 in
theorem dsays_small (A : Option Addr) (n c : Nat) (L : List (Int × Int)) (x1 x2 : Int) (s : ByteArray) (w : World) (h : Dl w A n c L) (hn : n ≤ 100) (hsz : s.size ≤ 300) (hl : LaidW w) (g1 : -9223372036854775808 ≤ x1) (g2 : x1 ≤ 9223372036854775807) (g3 : -9223372036854775808 ≤ x2) (g4 : x2 ≤ 9223372036854775807) :
    Calls Tryd.prog 3 #[.slice A n c, .agg #[.int .i64 x1, .int .i64 x2], .string s] w fun e w' => e = .returned (.bool true) ∧ Kept w w' := by
  have q1 : decide ((100 : Int) < n) = false := by rw [decide_eq_false_iff_not]; omega
  have q2 : decide (100 < n) = false := by rw [decide_eq_false_iff_not]; omega
  have q3 : decide ((300 : Int) < s.size) = false := by rw [decide_eq_false_iff_not]; omega
  have q4 : decide (300 < s.size) = false := by rw [decide_eq_false_iff_not]; omega
  have hcap := h.cap.1
  have hcap2 := h.cap.2
  have HD := Lib.hid h
  have HLW := Lib.hid hl
  have KB := Lib.hid ((Kept.refl w).alloc #[.int .i64 x1, .int .i64 x2] 24)
  obtain ⟨a1, a2, ha⟩ : ∃ a1 a2, tdX s = (a1, a2) := ⟨_, _, rfl⟩
  obtain ⟨r, hr⟩ : ∃ r, tdR s = r := ⟨_, rfl⟩
  obtain ⟨e, he⟩ : ∃ e : Int, (tdE s : Int) = e := ⟨_, rfl⟩
  have AT := Lib.hid (fun w => dtake_c s (a1, a2) r e ha hr he (by omega) w)
  have BT := Lib.hid (fun w => rtakeD_c s (a1, a2) r e ha hr he (by omega) w)
  obtain ⟨rd, hrd⟩ : ∃ rd, rightD (x1, x2) = rd := ⟨_, rfl⟩
  have AR := Lib.hid (fun w => dright_c (x1, x2) rd hrd w)
  have BR := Lib.hid (fun w => rrightD_c (x1, x2) rd hrd w)
  obtain ⟨P, hP⟩ : ∃ P, putD s (x1, x2) = P := ⟨_, rfl⟩
  have AP := Lib.hid (fun w => dputD_any s (x1, x2) P hP w g1 g2 g3 g4 (by omega))
  have BP := Lib.hid (fun w => rputD_any s (x1, x2) P hP w g1 g2 g3 g4 (by omega))
  obtain ⟨z, hz⟩ : ∃ z, decide (((x1, x2) : Int × Int) ∈ L) = z := ⟨_, rfl⟩
  have AH := Lib.hid (fun w h => dhas_c A n c L (x1, x2) z hz w h)
  have BH := Lib.hid (fun w h => rhas_c A n c L (x1, x2) z hz w h)
  obtain ⟨T, hT⟩ : ∃ T, textD (x1, x2) = T := ⟨_, rfl⟩
  have AX := Lib.hid (fun w h => dtext_any (x1, x2) T hT w g1 g2 g3 g4 h)
  have BX := Lib.hid (fun w => rtext_any (x1, x2) T hT w g1 g2 g3 g4)
  clear h hl ha hr he hrd hP hz hT g1 g2 g3 g4
  go_enter Tryd.func3, Tryd.ntmps3
  go_wp2_with fail
  go_at_call 7
  refine (AT.out _).mono ?_
  rintro e' w1 ⟨rfl, hk1⟩
  go_wp2_with fail
  go_at_call 8
  refine (BT.out _).mono ?_
  rintro e' w2 ⟨rfl, hk2⟩
  have HA := Lib.hid (hk2.trans ((Kept.refl w2).alloc #[.int .i64 a1, .int .i64 a2] 24))
  have HB := Lib.hid (hk1.trans (((Kept.refl w1).alloc #[.int .i64 a1, .int .i64 a2] 24).trans HA.out))
  have HU := Lib.hid (KB.out.trans HB.out)
  have HC := Lib.hid (Kept.refl (w2.alloc (.cells #[.int .i64 a1, .int .i64 a2] 24)))
  clear hk1 hk2
  go_wp2_with fail
  go_loopw [38] (fun i wr => ∃ k : Nat, k ≤ n ∧ i = .int .i64 k ∧ Kept (w2.alloc (.cells #[.int .i64 a1, .int .i64 a2] 24)) wr) (fun i _ => n - (intOf i).toNat)
  case atStart => exact ⟨0, Nat.zero_le _, rfl, Kept.refl _⟩
  case round =>
    obtain ⟨k, hk, rfl, hkr⟩ := hrel
    have HK := Lib.hid hkr
    clear hkr
    by_cases hlt : k < n
    · obtain ⟨g, o, ⟨y1, y2⟩, rfl, hy, c1, c2⟩ := (HD.out.kept (HU.out.trans HK.out)).get hlt
      simp only at c1 c2
      obtain ⟨q, hq⟩ : ∃ q, cmpD (y1, y2) (x1, x2) = q := ⟨_, rfl⟩
      have AC := Lib.hid (fun w => dcmp_c (y1, y2) (x1, x2) q hq w)
      have BC := Lib.hid (fun w => rcmp_c (y1, y2) (x1, x2) q hq w)
      have d0 := KExt.cell ((HB.out.trans HK.out).alloc #[.int .i64 y1, .int .i64 y2] 24).box0
      have d1 := KExt.cell ((HB.out.trans HK.out).alloc #[.int .i64 y1, .int .i64 y2] 24).box1
      have d2 := KExt.cell (Kept.box0 (Kept.refl (wr.alloc (.cells #[.int .i64 y1, .int .i64 y2] 24))))
      have d3 := KExt.cell (Kept.box1 (Kept.refl (wr.alloc (.cells #[.int .i64 y1, .int .i64 y2] 24))))
      clear hy hq
      go_wp2_with fail
      refine region_kept _ (by kernel_rfl) (by kernel_rfl) (Kept.refl _) ?_
      repeat (go_big_quiet_step ((first
        | (go_at_call 9; (with_reducible exact KExt.callsK (AC.out _)))
        | (go_at_call 10; (with_reducible exact KExt.callsK (BC.out _)))
        | fail)))
      refine wpQuiet_nil ?_
      intro G
      clear c1 c2 d0 d1 d2 d3
      go_wp2_with fail
      go_roundw
      case rel => exact ⟨k + 1, hlt, by go_num, HK.out.trans (((Kept.refl _).alloc _ _).trans G.g)⟩
      case measure => simp [intOf]; omega
    · obtain rfl : k = n := by omega
      have d0 := KExt.cell (HB.out.trans HK.out).box0
      have d1 := KExt.cell (HB.out.trans HK.out).box1
      have d2 := KExt.cell (HA.out.trans HK.out).box0
      have d3 := KExt.cell (HA.out.trans HK.out).box1
      have d4 := KExt.cell (HC.out.trans HK.out).box0
      have d5 := KExt.cell (HC.out.trans HK.out).box1
      have HKW := Lib.hid (HU.out.trans HK.out)
      have HD1 := Lib.hid (HD.out.kept HKW.out)
      have HL1 := Lib.hid (HLW.out.kept HKW.out)
      have f1 : (a1 == a1) = true := by simp
      have f2 : (a2 == a2) = true := by simp
      have f3 : (e == e) = true := by simp
      have f4 : (r.toList == r.toList) = true := by simp
      have f5 : (P.toList == P.toList) = true := by simp
      have f6 : (T.toList == T.toList) = true := by simp
      clear hlt hk
      go_wp2_with fail
      dsimp only [List.append]
      refine region_mix wr [([0, 1, 2, 3, 4, 5, 6, 7, 8, 9, 10, 11, 12, 13, 14, 16], some 15), ([], some 17), ([18, 19, 20, 21, 22, 24, 25], some 23), ([], some 26), ([27, 28, 29, 30, 32], some 31), ([], some 33), ([], some 34), ([35, 36, 37, 39, 41, 43], some 38), ([], some 40), ([], some 42), ([], some 44), ([], some 45), ([46, 47, 48, 49, 51, 52], some 50), ([], some 53), ([54, 55, 56, 57, 59], some 58), ([], some 60), ([61, 62, 63], some 64), ([65, 66], none)] (by kernel_rfl) (by as_aux_lemma => kernel_rfl) (by as_aux_lemma => kernel_rfl) (mix_fast 67 (by kernel_rfl) (by as_aux_lemma => kernel_rfl)) (fun _ d _ _ _ h => by cases d <;> exact h) (Kept.refl _) ?_
      intro wd hwd
      have HW := Lib.hid hwd
      clear hwd
      rw [wpMix_call]
      simp only [pickOps_cons, pickOps_nil, consO_some, List.getElem?_cons_zero, List.getElem?_cons_succ]
      repeat (go_big_quiet_step (fail))
      refine wpQuiet_nil ?_
      go_wp2_with (go_at_call 11; refine (AR.out _).mono ?_; rintro e' v0 ⟨rfl, hk⟩)
      replace HW := Lib.hid (HW.out.trans hk)
      clear hk
      refine soloQ_both HW.out ?_
      rw [wpMix_call]
      simp only [pickOps_cons, pickOps_nil, consO_some, List.getElem?_cons_zero, List.getElem?_cons_succ]
      repeat (go_big_quiet_step (fail))
      refine wpQuiet_nil ?_
      go_wp2_with (go_at_call 12; refine (BR.out _).mono ?_; rintro e' v1 ⟨rfl, hk⟩)
      replace HW := Lib.hid (HW.out.trans hk)
      clear hk
      refine soloQ_both HW.out ?_
      rw [wpMix_call]
      simp only [pickOps_cons, pickOps_nil, consO_some, List.getElem?_cons_zero, List.getElem?_cons_succ]
      repeat (go_big_quiet_step (fail))
      refine wpQuiet_nil ?_
      go_wp2_with (go_at_call 13; refine (AP.out _).mono ?_; rintro e' v2 ⟨rfl, hk⟩)
      replace HW := Lib.hid (HW.out.trans hk)
      clear hk
      refine soloQ_both HW.out ?_
      rw [wpMix_call]
      simp only [pickOps_cons, pickOps_nil, consO_some, List.getElem?_cons_zero, List.getElem?_cons_succ]
      repeat (go_big_quiet_step (fail))
      refine wpQuiet_nil ?_
      go_wp2_with (go_at_call 14; refine (BP.out _).mono ?_; rintro e' v3 ⟨rfl, hk⟩)
      replace HW := Lib.hid (HW.out.trans hk)
      clear hk
      refine soloQ_both HW.out ?_
      rw [wpMix_call]
      simp only [pickOps_cons, pickOps_nil, consO_some, List.getElem?_cons_zero, List.getElem?_cons_succ]
      repeat (go_big_quiet_step (fail))
      refine wpQuiet_nil ?_
      go_wp2_with (go_at_call 16; refine (dsort_any A k c L _ (HD1.out.kept HW.out) (by omega)).mono ?_; rintro e' v4 ⟨A1, m1, c1, X1, rfl, hd, hs, hm, hk⟩)
      have D1 := Lib.hid hd
      have S1 := Lib.hid hs
      have M1 := Lib.hid (show m1 ≤ 100 by have := HD.out.1; omega)
      clear hd hs hm
      replace HW := Lib.hid (HW.out.trans hk)
      clear hk
      refine soloQ_both HW.out ?_
      rw [wpMix_call]
      simp only [pickOps_cons, pickOps_nil, consO_some, List.getElem?_cons_zero, List.getElem?_cons_succ]
      repeat (go_big_quiet_step (fail))
      refine wpQuiet_nil ?_
      go_wp2_with (go_at_call 17; refine (rdsort_any A k c L _ (HD1.out.kept HW.out) (by omega)).mono ?_; rintro e' v5 ⟨A2, m2, c2, X2, rfl, hd, hs, hm, hk⟩)
      replace D1 := Lib.hid (D1.out.kept hk)
      have D2 := Lib.hid hd
      have S2 := Lib.hid hs
      have M2 := Lib.hid (show m2 ≤ 100 by have := HD.out.1; omega)
      clear hd hs hm
      replace HW := Lib.hid (HW.out.trans hk)
      clear hk
      refine soloQ_both HW.out ?_
      rw [wpMix_call]
      simp only [pickOps_cons, pickOps_nil, consO_some, List.getElem?_cons_zero, List.getElem?_cons_succ]
      repeat (go_big_quiet_step (fail))
      refine wpQuiet_nil ?_
      go_wp2_with (go_at_call 15; refine (same_of A1 A2 c1 c2 m1 m2 X1 X2 _ D1.out D2.out (S1.out.same S2.out)).mono ?_; rintro e' v6 ⟨rfl, hk⟩)
      replace D1 := Lib.hid (D1.out.kept hk)
      replace D2 := Lib.hid (D2.out.kept hk)
      replace HW := Lib.hid (HW.out.trans hk)
      clear hk
      refine soloQ_both HW.out ?_
      rw [wpMix_call]
      simp only [pickOps_cons, pickOps_nil, consO_some, List.getElem?_cons_zero, List.getElem?_cons_succ]
      repeat (go_big_quiet_step (fail))
      refine wpQuiet_nil ?_
      go_wp2_with (go_at_call 17; refine (rdsort_any A k c L _ (HD1.out.kept HW.out) (by omega)).mono ?_; rintro e' v7 ⟨A3, m3, c3, X3, rfl, hd, hs, hm, hk⟩)
      have D3 := Lib.hid hd
      have S3 := Lib.hid hs
      have M3 := Lib.hid (show m3 ≤ 100 by have := HD.out.1; omega)
      clear hd hs hm
      replace HW := Lib.hid (HW.out.trans hk)
      clear hk
      refine soloQ_both HW.out ?_
      rw [wpMix_call]
      simp only [pickOps_cons, pickOps_nil, consO_some, List.getElem?_cons_zero, List.getElem?_cons_succ]
      repeat (go_big_quiet_step (fail))
      refine wpQuiet_nil ?_
      go_wp2_with (go_at_call 18; refine (dwith_any A3 m3 c3 X3 x1 x2 _ D3.out S3.out.rise (by have := M3.out; omega)).mono ?_; rintro e' v8 ⟨A4, m4, c4, X4, rfl, hd, hs, hm, hk⟩)
      replace D3 := Lib.hid (D3.out.kept hk)
      have D4 := Lib.hid hd
      have S4 := Lib.hid hs
      clear hd hs hm
      replace HW := Lib.hid (HW.out.trans hk)
      clear hk
      refine soloQ_both HW.out ?_
      rw [wpMix_call]
      simp only [pickOps_cons, pickOps_nil, consO_some, List.getElem?_cons_zero, List.getElem?_cons_succ]
      repeat (go_big_quiet_step (fail))
      refine wpQuiet_nil ?_
      go_wp2_with (go_at_call 17; refine (rdsort_any A k c L _ (HD1.out.kept HW.out) (by omega)).mono ?_; rintro e' v9 ⟨A5, m5, c5, X5, rfl, hd, hs, hm, hk⟩)
      replace D4 := Lib.hid (D4.out.kept hk)
      replace D3 := Lib.hid (D3.out.kept hk)
      have D5 := Lib.hid hd
      have S5 := Lib.hid hs
      have M5 := Lib.hid (show m5 ≤ 100 by have := HD.out.1; omega)
      clear hd hs hm
      replace HW := Lib.hid (HW.out.trans hk)
      clear hk
      refine soloQ_both HW.out ?_
      rw [wpMix_call]
      simp only [pickOps_cons, pickOps_nil, consO_some, List.getElem?_cons_zero, List.getElem?_cons_succ]
      repeat (go_big_quiet_step (fail))
      refine wpQuiet_nil ?_
      go_wp2_with (go_at_call 19; refine (rdwith_any A5 m5 c5 X5 x1 x2 _ D5.out S5.out.rise (by have := M5.out; omega)).mono ?_; rintro e' v10 ⟨A6, m6, c6, X6, rfl, hd, hs, hm, hk⟩)
      replace D4 := Lib.hid (D4.out.kept hk)
      replace D3 := Lib.hid (D3.out.kept hk)
      replace D5 := Lib.hid (D5.out.kept hk)
      have D6 := Lib.hid hd
      have S6 := Lib.hid hs
      clear hd hs hm
      replace HW := Lib.hid (HW.out.trans hk)
      clear hk
      refine soloQ_both HW.out ?_
      rw [wpMix_call]
      simp only [pickOps_cons, pickOps_nil, consO_some, List.getElem?_cons_zero, List.getElem?_cons_succ]
      repeat (go_big_quiet_step (fail))
      refine wpQuiet_nil ?_
      go_wp2_with (go_at_call 15; refine (same_of A4 A6 c4 c6 m4 m6 X4 X6 _ D4.out D6.out (S4.out.same (S3.out.same S5.out ▸ S6.out))).mono ?_; rintro e' v11 ⟨rfl, hk⟩)
      replace D4 := Lib.hid (D4.out.kept hk)
      replace D3 := Lib.hid (D3.out.kept hk)
      replace D5 := Lib.hid (D5.out.kept hk)
      replace D6 := Lib.hid (D6.out.kept hk)
      replace HW := Lib.hid (HW.out.trans hk)
      clear hk
      refine soloQ_both HW.out ?_
      rw [wpMix_call]
      simp only [pickOps_cons, pickOps_nil, consO_some, List.getElem?_cons_zero, List.getElem?_cons_succ]
      repeat (go_big_quiet_step (fail))
      refine wpQuiet_nil ?_
      go_wp2_with (go_at_call 20; refine (AH.out _ (HD1.out.kept HW.out)).mono ?_; rintro e' v12 ⟨rfl, hk⟩)
      replace HW := Lib.hid (HW.out.trans hk)
      clear hk
      refine soloQ_both HW.out ?_
      rw [wpMix_call]
      simp only [pickOps_cons, pickOps_nil, consO_some, List.getElem?_cons_zero, List.getElem?_cons_succ]
      repeat (go_big_quiet_step (fail))
      refine wpQuiet_nil ?_
      go_wp2_with (go_at_call 21; refine (BH.out _ (HD1.out.kept HW.out)).mono ?_; rintro e' v13 ⟨rfl, hk⟩)
      replace HW := Lib.hid (HW.out.trans hk)
      clear hk
      refine soloQ_both HW.out ?_
      rw [wpMix_call]
      simp only [pickOps_cons, pickOps_nil, consO_some, List.getElem?_cons_zero, List.getElem?_cons_succ]
      repeat (go_big_quiet_step (fail))
      refine wpQuiet_nil ?_
      go_wp2_with (go_at_call 22; refine (AX.out _ (HL1.out.kept HW.out)).mono ?_; rintro e' v14 ⟨rfl, hk⟩)
      replace HW := Lib.hid (HW.out.trans hk)
      clear hk
      refine soloQ_both HW.out ?_
      rw [wpMix_call]
      simp only [pickOps_cons, pickOps_nil, consO_some, List.getElem?_cons_zero, List.getElem?_cons_succ]
      repeat (go_big_quiet_step (fail))
      refine wpQuiet_nil ?_
      go_wp2_with (go_at_call 23; refine (BX.out _).mono ?_; rintro e' v15 ⟨rfl, hk⟩)
      replace HW := Lib.hid (HW.out.trans hk)
      clear hk
      refine soloQ_both HW.out ?_
      rw [wpMix_call]
      simp only [pickOps_cons, pickOps_nil, consO_some, List.getElem?_cons_zero, List.getElem?_cons_succ]
      repeat (go_big_quiet_step (fail))
      refine wpQuiet_nil ?_
      go_wp2_with (go_at_call 6; refine (dawake_any _ (HL1.out.kept HW.out)).mono ?_; rintro e' v16 ⟨rfl, hk⟩)
      replace HW := Lib.hid (HW.out.trans hk)
      clear hk
      refine soloQ_both HW.out ?_
      rw [wpMix_read]
      simp only [pickOps_cons, pickOps_nil, consO_some, List.getElem?_cons_zero, List.getElem?_cons_succ]
      repeat (go_big_quiet_step (fail))
      refine wpQuiet_nil ?_
      refine wpMix_nil ?_
      go_wp2_with fail
      go_ret
      exact ⟨rfl, HKW.out.trans HW.out⟩

theorem dsays_any (A : Option Addr) (n c : Nat) (L : List (Int × Int)) (x1 x2 : Int) (s : ByteArray) (w : World) (h : Dl w A n c L) (hs : s.size ≤ 9223372036854775807) (hl : LaidW w) (g1 : -9223372036854775808 ≤ x1) (g2 : x1 ≤ 9223372036854775807) (g3 : -9223372036854775808 ≤ x2) (g4 : x2 ≤ 9223372036854775807) :
    Calls Tryd.prog 3 #[.slice A n c, .agg #[.int .i64 x1, .int .i64 x2], .string s] w fun e w' => e = .returned (.bool true) ∧ Kept w w' := by
  by_cases hn : n ≤ 100 ∧ s.size ≤ 300
  · exact dsays_small A n c L x1 x2 s w h hn.1 hn.2 hl g1 g2 g3 g4
  · exact dsays_big A n c x1 x2 s w (by have := h.cap; omega) hs (by omega) hl
end Go.Proofs.YtnfchfldpdnjoaaDoor
