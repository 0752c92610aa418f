/-
  What is proved: the Go function DotSorts of layer 5's laws, called with any slice of dots that lies in memory and any dot where the laid tables read as their initialisers lay them, returns true; the world has new blocks at most.
-/
import Derived.Test.YtnfchfldpdnjoaaDoorRDWith
import Derived.Test.YtnfchfldpdnjoaaDoorDAwake
namespace Go.Proofs.YtnfchfldpdnjoaaDoor
open Go.RowKit

theorem dot_back (x : Int × Int) (h : rightD x = true) : tdX (putD ⟨#[]⟩ x ++ ⟨#[122]⟩) = x ∧ tdR (putD ⟨#[]⟩ x ++ ⟨#[122]⟩) = ⟨#[122]⟩ ∧ tdE (putD ⟨#[]⟩ x ++ ⟨#[122]⟩) = 0 ∧ (putD ⟨#[]⟩ x).size ≤ 20 := by
  obtain ⟨x1, x2⟩ := x
  have hr := h
  unfold rightD at h
  rw [decide_eq_true_iff] at h
  simp only at h
  have b1 := zig_bd x1 (by omega) (by omega)
  have b2 := zig_bd x2 (by omega) (by omega)
  have e : putD ⟨#[]⟩ (x1, x2) ++ ⟨#[122]⟩ = ⟨#[]⟩ ++ putS (zigI x1).toNat ++ (⟨#[]⟩ ++ putS (zigI x2).toNat ++ ⟨#[122]⟩) := by
    unfold putD
    apply ba_ext
    simp only [ba_app, List.append_assoc]
    rfl
  obtain ⟨p1, p2, p3⟩ := tk_put (zigI x1).toNat (⟨#[]⟩ ++ putS (zigI x2).toNat ++ ⟨#[122]⟩) (by omega)
  obtain ⟨q1, q2, q3⟩ := tk_put (zigI x2).toNat ⟨#[122]⟩ (by omega)
  have e1 : tiN (⟨#[]⟩ ++ putS (zigI x1).toNat ++ (⟨#[]⟩ ++ putS (zigI x2).toNat ++ ⟨#[122]⟩)) = x1 := by
    unfold tiN; rw [if_pos p3, p1, show (((zigI x1).toNat : Nat) : Int) = zigI x1 by omega, zag_zig]
  have e2 : tiN (⟨#[]⟩ ++ putS (zigI x2).toNat ++ ⟨#[122]⟩) = x2 := by
    unfold tiN; rw [if_pos q3, q1, show (((zigI x2).toNat : Nat) : Int) = zigI x2 by omega, zag_zig]
  have ht : tdL (putD ⟨#[]⟩ (x1, x2) ++ ⟨#[122]⟩) = ((x1, x2), ⟨#[122]⟩, 0) := by
    unfold tdL
    rw [e, p3, p2, q3, q2, e1, e2, if_neg (by simp), if_neg (by simp), if_pos (.inl hr)]
  refine ⟨by unfold tdX; rw [ht], by unfold tdR; rw [ht], by unfold tdE; rw [ht], ?_⟩
  have s1 := putS_size (zigI x1).toNat
  have s2 := putS_size (zigI x2).toNat
  have e0 : (⟨#[]⟩ : ByteArray).size = 0 := rfl
  simp only [putD, ByteArray.size_append, e0]
  omega
theorem len_z {m2 m : Nat} {X Y : List (Int × Int)} {x : Int × Int} {z : Bool} (hx : Rise X) (hw : WithD X x Y) (h1 : m = X.length) (h2 : m2 = Y.length) (hz : decide (x ∈ X) = z) : ((m2 : Int) == (m : Int)) = z := by
  have := hw.len hx
  rw [← hz, Bool.eq_iff_iff, beq_iff_eq, decide_eq_true_iff, ← this]
  omega

set_option maxRecDepth 100000 in
set_option maxHeartbeats 2000000 in
theorem dsorts_big (A : Option Addr) (n c : Nat) (x1 x2 : Int) (w : World) (hn : 100 < n) (hl : LaidW w) :
    Calls Tryd.prog 4 #[.slice A n c, .agg #[.int .i64 x1, .int .i64 x2]] w fun e w' => e = .returned (.bool true) ∧ Kept w w' := by
  have q1 : decide ((100 : Int) < n) = true := by rw [decide_eq_true_iff]; omega
  have q2 : decide (100 < n) = true := by rw [decide_eq_true_iff]; omega
  have hk := (Kept.refl w).alloc #[.int .i64 x1, .int .i64 x2] 24
  have HL := Lib.hid (hl.kept hk)
  clear hl hn
  go_enter Tryd.func4, Tryd.ntmps4
  go_wp2_with (go_at_call 6; ((with_reducible refine (dawake_any _ HL.out).mono ?_); rintro e wk ⟨rfl, hk2⟩))
  go_ret
  exact ⟨rfl, hk.trans hk2⟩

set_option maxRecDepth 100000 in
set_option maxHeartbeats 8000000 in
theorem dsorts_small (A : Option Addr) (n c : Nat) (L : List (Int × Int)) (x1 x2 : Int) (w : World) (h : Dl w A n c L) (hn : n ≤ 100) (hl : LaidW w) (g1 : -9223372036854775808 ≤ x1) (g2 : x1 ≤ 9223372036854775807) (g3 : -9223372036854775808 ≤ x2) (g4 : x2 ≤ 9223372036854775807) :
    Calls Tryd.prog 4 #[.slice A n c, .agg #[.int .i64 x1, .int .i64 x2]] w fun e w' => e = .returned (.bool true) ∧ Kept w w' := by
  have q1 : decide ((100 : Int) < n) = false := by rw [decide_eq_false_iff_not]; omega
  have q2 : decide (100 < n) = false := by rw [decide_eq_false_iff_not]; omega
  have hcap := h.cap.1
  have hcap2 := h.cap.2
  have HD := Lib.hid h
  have HL := Lib.hid h.1
  have HLW := Lib.hid hl
  have KB := Lib.hid ((Kept.refl w).alloc #[.int .i64 x1, .int .i64 x2] 24)
  clear h hl
  cases hrd : rightD (x1, x2) with
  | false =>
    have AR := Lib.hid (dright_c (x1, x2) false hrd (w.alloc (.cells #[.int .i64 x1, .int .i64 x2] 24)))
    clear hrd
    go_enter Tryd.func4, Tryd.ntmps4
    go_wp2_with fail
    go_at_call 11
    refine AR.out.mono ?_
    rintro e w1 ⟨rfl, hk1⟩
    have HBQ := Lib.hid hk1
    have HQ := Lib.hid (KB.out.trans hk1)
    clear hk1
    go_wp2_with fail
    go_at_call 16
    refine (dsort_any A n c L _ (HD.out.kept HQ.out) (by omega)).mono ?_
    rintro e u ⟨A1, m, c1', X, rfl, hd, hs, hm, hku⟩
    have HB := Lib.hid (HBQ.out.trans hku)
    have HU := Lib.hid (HQ.out.trans hku)
    have HX := Lib.hid hd
    have HS := Lib.hid hs
    have HM := Lib.hid hd.1
    have hm100 : m ≤ 100 := by have := HL.out; omega
    have hxc1 := hd.cap.1
    have hxc2 := hd.cap.2
    clear hd hs hku hm
    go_wp2_with fail
    go_loopw [9] (fun i wr => ∃ k : Nat, 1 ≤ k ∧ k ≤ m + 1 ∧ i = .int .i64 k ∧ Kept u wr) (fun i _ => m + 1 - (intOf i).toNat)
    case atStart => exact ⟨1, Nat.le_refl _, by omega, rfl, Kept.refl _⟩
    case round =>
      obtain ⟨k, hk1, hk2, rfl, hkr⟩ := hrel
      have HK := Lib.hid hkr
      clear hkr
      by_cases hlt : k < m
      · obtain ⟨j, hkj⟩ : ∃ j, k = j + 1 := ⟨k - 1, by omega⟩
        have hsub : IntKind.i64.wrap ((k : Int) - 1) = (j : Int) := by rw [IntWalk.i64_in _ (by omega)]; omega
        have hjm : j < m := by omega
        obtain ⟨g, o, ⟨y1, y2⟩, hA, hy, c1, c2⟩ := (HX.out.kept HK.out).get hjm
        obtain ⟨g', o', ⟨z1, z2⟩, hA', hz, c3, c4⟩ := (HX.out.kept HK.out).get hlt
        obtain ⟨rfl, rfl⟩ : g = g' ∧ o = o' := by simpa using hA.symm.trans hA'
        subst hA
        obtain ⟨r, hr⟩ : ∃ r, cmpD (y1, y2) (z1, z2) = r := ⟨_, rfl⟩
        have hr0 : decide (0 ≤ r) = false := by
          rw [decide_eq_false_iff_not]
          have := (cmpD_lt (y1, y2) (z1, z2)).2 (rise_get HS.out.rise hy hz (by omega))
          omega
        have AC := Lib.hid (fun w => dcmp_c (y1, y2) (z1, z2) r hr w)
        simp only at c1 c2 c3 c4
        have d1 := KExt.cell c1
        have d2 := KExt.cell c2
        have d3 := KExt.cell c3
        have d4 := KExt.cell c4
        clear c1 c2 c3 c4 hy hz hr hA' hkj
        go_wp2_with fail
        refine region_kept _ (by kernel_rfl) (by kernel_rfl) (Kept.refl _) ?_
        repeat (go_big_quiet_step ((first
          | (go_at_call 9; (with_reducible exact KExt.callsK (AC.out _)))
          | fail)))
        refine wpQuiet_nil ?_
        intro G
        clear d1 d2 d3 d4 hsub
        go_wp2_with fail
        go_roundw
        case rel => exact ⟨k + 1, by omega, by omega, by go_num, HK.out.trans G.g⟩
        case measure => simp [intOf]; omega
      · clear hk2
        go_wp2_with fail
        go_loopw [61] (fun i wr => ∃ k : Nat, k ≤ n ∧ i = .int .i64 k ∧ Kept u wr) (fun i _ => n - (intOf i).toNat)
        case atStart => exact ⟨0, Nat.zero_le _, rfl, HK.out⟩
        case round =>
          obtain ⟨k2, hk2, rfl, hkr⟩ := hrel
          replace HK := Lib.hid hkr
          clear hkr
          by_cases hlt2 : k2 < n
          · obtain ⟨g, o, ⟨y1, y2⟩, rfl, hy, c1, c2⟩ := (HD.out.kept (HU.out.trans HK.out)).get hlt2
            simp only at c1 c2
            have hin : decide (((y1, y2) : Int × Int) ∈ X) = true := by rw [decide_eq_true_iff, HS.out.mem]; exact List.mem_of_getElem? hy
            have HC := Lib.hid (fun W h => dhas_c A1 m c1' X (y1, y2) true hin W h)
            have HK2 := Lib.hid (HX.out.kept (HK.out.trans ((Kept.refl _).alloc #[.int .i64 y1, .int .i64 y2] 24)))
            clear hy hin
            go_wp2_with (go_at_call 20; ((with_reducible refine (HC.out _ HK2.out).mono ?_); rintro e wk ⟨rfl, hk⟩))
            clear c1 c2
            go_roundw
            case rel => exact ⟨k2 + 1, hlt2, by go_num, HK.out.trans (((Kept.refl _).alloc _ _).trans hk)⟩
            case measure => simp [intOf]; omega
          · obtain rfl : k2 = n := by omega
            go_wp2_with fail
            go_loopw [72] (fun i wr => ∃ k : Nat, k ≤ m ∧ i = .int .i64 k ∧ Kept u wr) (fun i _ => m - (intOf i).toNat)
            case atStart => exact ⟨0, Nat.zero_le _, rfl, HK.out⟩
            case round =>
              obtain ⟨k3, hk3, rfl, hkr⟩ := hrel
              replace HK := Lib.hid hkr
              clear hkr
              by_cases hlt3 : k3 < m
              · obtain ⟨g, o, ⟨y1, y2⟩, rfl, hy, c1, c2⟩ := (HX.out.kept HK.out).get hlt3
                simp only at c1 c2
                have hin : decide (((y1, y2) : Int × Int) ∈ L) = true := by rw [decide_eq_true_iff, ← HS.out.mem]; exact List.mem_of_getElem? hy
                have HC := Lib.hid (fun W h => dhas_c A k2 c L (y1, y2) true hin W h)
                have HK2 := Lib.hid (HD.out.kept (HU.out.trans (HK.out.trans ((Kept.refl _).alloc #[.int .i64 y1, .int .i64 y2] 24))))
                clear hy hin
                go_wp2_with (go_at_call 20; ((with_reducible refine (HC.out _ HK2.out).mono ?_); rintro e wk ⟨rfl, hk⟩))
                clear c1 c2
                go_roundw
                case rel => exact ⟨k3 + 1, hlt3, by go_num, HK.out.trans (((Kept.refl _).alloc _ _).trans hk)⟩
                case measure => simp [intOf]; omega
              · obtain rfl : k3 = m := by omega
                have e1 := (HB.out.trans HK.out).box0
                have e2 := (HB.out.trans HK.out).box1
                have HWI := Lib.hid (fun W h => dwith_any A1 k3 c1' X x1 x2 W h HS.out.rise (by omega))
                go_wp2_with fail
                go_at_call 18
                refine (HWI.out _ (HX.out.kept HK.out)).mono ?_
                rintro e w5 ⟨A5, m5, c5, Y, rfl, hd5, hw5, hm5, hk5⟩
                have HD5 := Lib.hid hd5
                have HK5 := Lib.hid (HK.out.trans hk5)
                obtain ⟨z, hz⟩ : ∃ z, decide (((x1, x2) : Int × Int) ∈ X) = z := ⟨_, rfl⟩
                have hlen := len_z HS.out.rise hw5 HM.out hd5.1 hz
                have hy5 : decide (((x1, x2) : Int × Int) ∈ Y) = true := by rw [decide_eq_true_iff, hw5.mem]; exact .inr rfl
                have H1 := Lib.hid (fun W h => dhas_c A5 m5 c5 Y (x1, x2) true hy5 W h)
                have H2 := Lib.hid (fun W h => dhas_c A1 k3 c1' X (x1, x2) z hz W h)
                have hKc := HK5.out
                clear e1 e2 hd5 hw5 hm5 hk5 hy5 hz
                have e1 := (HB.out.trans hKc).box0
                have e2 := (HB.out.trans hKc).box1
                cases z
                all_goals
                  go_wp2_with (first
                    | (go_at_call 20; ((with_reducible refine (H1.out _ HD5.out).mono ?_); rintro e wk ⟨rfl, hk⟩; (replace hKc := hKc.trans hk); clear e1 e2 hk; have e1 := (HB.out.trans hKc).box0; have e2 := (HB.out.trans hKc).box1))
                    | (go_at_call 20; ((with_reducible refine (H2.out _ (HX.out.kept hKc)).mono ?_); rintro e wk ⟨rfl, hk⟩; (replace hKc := hKc.trans hk); clear e1 e2 hk; have e1 := (HB.out.trans hKc).box0; have e2 := (HB.out.trans hKc).box1))
                    | (go_at_call 6; ((with_reducible refine (dawake_any _ (HLW.out.kept (HU.out.trans hKc))).mono ?_); rintro e wk ⟨rfl, hk⟩; (replace hKc := hKc.trans hk))))
                  go_ret
                  exact ⟨rfl, HU.out.trans hKc⟩
  | true =>
    have AR := Lib.hid (dright_c (x1, x2) true hrd (w.alloc (.cells #[.int .i64 x1, .int .i64 x2] 24)))
    obtain ⟨t1, t2, t3, t4⟩ := dot_back (x1, x2) hrd
    have AP := Lib.hid (fun w => dputD_any ⟨#[]⟩ (x1, x2) _ rfl w g1 g2 g3 g4 (by decide))
    have AT := Lib.hid (fun w => dtake_c _ (x1, x2) ⟨#[122]⟩ 0 t1 t2 (by rw [t3]; rfl) (by rw [ByteArray.size_append]; show _ + 1 ≤ _; omega) w)
    have s1 : (⟨#[122]⟩ : ByteArray).size = 1 := rfl
    generalize putD ⟨#[]⟩ (x1, x2) = P at AP AT t4
    have f1 : (x1 == x1) = true := by simp
    have f2 : (x2 == x2) = true := by simp
    clear hrd t1 t2 t3
    go_enter Tryd.func4, Tryd.ntmps4
    go_wp2_with fail
    go_at_call 11
    refine AR.out.mono ?_
    rintro e w1 ⟨rfl, hk1⟩
    have e1 := hk1.box0
    have e2 := hk1.box1
    go_wp2_with fail
    go_at_call 13
    refine (AP.out _).mono ?_
    rintro e w2 ⟨rfl, hk2⟩
    go_wp2_with fail
    go_at_call 7
    refine (AT.out _).mono ?_
    rintro e w3 ⟨rfl, hk3⟩
    have HBQ := Lib.hid ((hk1.trans (hk2.trans hk3)).alloc #[.int .i64 x1, .int .i64 x2] 24)
    have HQ := Lib.hid (KB.out.trans HBQ.out)
    clear e1 e2
    have e1 := (hk1.trans (hk2.trans hk3)).box0
    have e2 := (hk1.trans (hk2.trans hk3)).box1
    have hlt3 := lt_of_kept (hk1.trans (hk2.trans hk3))
    have hne : ¬ w.heap.size = w3.heap.size := by omega
    have hne' : ¬ w3.heap.size = w.heap.size := by omega
    clear hk1 hk2 hk3
    go_wp2_with fail
    go_at_call 16
    refine (dsort_any A n c L _ (HD.out.kept HQ.out) (by omega)).mono ?_
    rintro e u ⟨A1, m, c1', X, rfl, hd, hs, hm, hku⟩
    have HB := Lib.hid (HBQ.out.trans hku)
    clear e1 e2 hne hne' hlt3 f1 f2 s1 t4
    have HU := Lib.hid (HQ.out.trans hku)
    have HX := Lib.hid hd
    have HS := Lib.hid hs
    have HM := Lib.hid hd.1
    have hm100 : m ≤ 100 := by have := HL.out; omega
    have hxc1 := hd.cap.1
    have hxc2 := hd.cap.2
    clear hd hs hku hm
    go_wp2_with fail
    go_loopw [9] (fun i wr => ∃ k : Nat, 1 ≤ k ∧ k ≤ m + 1 ∧ i = .int .i64 k ∧ Kept u wr) (fun i _ => m + 1 - (intOf i).toNat)
    case atStart => exact ⟨1, Nat.le_refl _, by omega, rfl, Kept.refl _⟩
    case round =>
      obtain ⟨k, hk1, hk2, rfl, hkr⟩ := hrel
      have HK := Lib.hid hkr
      clear hkr
      by_cases hlt : k < m
      · obtain ⟨j, hkj⟩ : ∃ j, k = j + 1 := ⟨k - 1, by omega⟩
        have hsub : IntKind.i64.wrap ((k : Int) - 1) = (j : Int) := by rw [IntWalk.i64_in _ (by omega)]; omega
        have hjm : j < m := by omega
        obtain ⟨g, o, ⟨y1, y2⟩, hA, hy, c1, c2⟩ := (HX.out.kept HK.out).get hjm
        obtain ⟨g', o', ⟨z1, z2⟩, hA', hz, c3, c4⟩ := (HX.out.kept HK.out).get hlt
        obtain ⟨rfl, rfl⟩ : g = g' ∧ o = o' := by simpa using hA.symm.trans hA'
        subst hA
        obtain ⟨r, hr⟩ : ∃ r, cmpD (y1, y2) (z1, z2) = r := ⟨_, rfl⟩
        have hr0 : decide (0 ≤ r) = false := by
          rw [decide_eq_false_iff_not]
          have := (cmpD_lt (y1, y2) (z1, z2)).2 (rise_get HS.out.rise hy hz (by omega))
          omega
        have AC := Lib.hid (fun w => dcmp_c (y1, y2) (z1, z2) r hr w)
        simp only at c1 c2 c3 c4
        have d1 := KExt.cell c1
        have d2 := KExt.cell c2
        have d3 := KExt.cell c3
        have d4 := KExt.cell c4
        clear c1 c2 c3 c4 hy hz hr hA' hkj
        go_wp2_with fail
        refine region_kept _ (by kernel_rfl) (by kernel_rfl) (Kept.refl _) ?_
        repeat (go_big_quiet_step ((first
          | (go_at_call 9; (with_reducible exact KExt.callsK (AC.out _)))
          | fail)))
        refine wpQuiet_nil ?_
        intro G
        clear d1 d2 d3 d4 hsub
        go_wp2_with fail
        go_roundw
        case rel => exact ⟨k + 1, by omega, by omega, by go_num, HK.out.trans G.g⟩
        case measure => simp [intOf]; omega
      · clear hk2
        go_wp2_with fail
        go_loopw [61] (fun i wr => ∃ k : Nat, k ≤ n ∧ i = .int .i64 k ∧ Kept u wr) (fun i _ => n - (intOf i).toNat)
        case atStart => exact ⟨0, Nat.zero_le _, rfl, HK.out⟩
        case round =>
          obtain ⟨k2, hk2, rfl, hkr⟩ := hrel
          replace HK := Lib.hid hkr
          clear hkr
          by_cases hlt2 : k2 < n
          · obtain ⟨g, o, ⟨y1, y2⟩, rfl, hy, c1, c2⟩ := (HD.out.kept (HU.out.trans HK.out)).get hlt2
            simp only at c1 c2
            have hin : decide (((y1, y2) : Int × Int) ∈ X) = true := by rw [decide_eq_true_iff, HS.out.mem]; exact List.mem_of_getElem? hy
            have HC := Lib.hid (fun W h => dhas_c A1 m c1' X (y1, y2) true hin W h)
            have HK2 := Lib.hid (HX.out.kept (HK.out.trans ((Kept.refl _).alloc #[.int .i64 y1, .int .i64 y2] 24)))
            clear hy hin
            go_wp2_with (go_at_call 20; ((with_reducible refine (HC.out _ HK2.out).mono ?_); rintro e wk ⟨rfl, hk⟩))
            clear c1 c2
            go_roundw
            case rel => exact ⟨k2 + 1, hlt2, by go_num, HK.out.trans (((Kept.refl _).alloc _ _).trans hk)⟩
            case measure => simp [intOf]; omega
          · obtain rfl : k2 = n := by omega
            go_wp2_with fail
            go_loopw [72] (fun i wr => ∃ k : Nat, k ≤ m ∧ i = .int .i64 k ∧ Kept u wr) (fun i _ => m - (intOf i).toNat)
            case atStart => exact ⟨0, Nat.zero_le _, rfl, HK.out⟩
            case round =>
              obtain ⟨k3, hk3, rfl, hkr⟩ := hrel
              replace HK := Lib.hid hkr
              clear hkr
              by_cases hlt3 : k3 < m
              · obtain ⟨g, o, ⟨y1, y2⟩, rfl, hy, c1, c2⟩ := (HX.out.kept HK.out).get hlt3
                simp only at c1 c2
                have hin : decide (((y1, y2) : Int × Int) ∈ L) = true := by rw [decide_eq_true_iff, ← HS.out.mem]; exact List.mem_of_getElem? hy
                have HC := Lib.hid (fun W h => dhas_c A k2 c L (y1, y2) true hin W h)
                have HK2 := Lib.hid (HD.out.kept (HU.out.trans (HK.out.trans ((Kept.refl _).alloc #[.int .i64 y1, .int .i64 y2] 24))))
                clear hy hin
                go_wp2_with (go_at_call 20; ((with_reducible refine (HC.out _ HK2.out).mono ?_); rintro e wk ⟨rfl, hk⟩))
                clear c1 c2
                go_roundw
                case rel => exact ⟨k3 + 1, hlt3, by go_num, HK.out.trans (((Kept.refl _).alloc _ _).trans hk)⟩
                case measure => simp [intOf]; omega
              · obtain rfl : k3 = m := by omega
                have e1 := (HB.out.trans HK.out).box0
                have e2 := (HB.out.trans HK.out).box1
                have HWI := Lib.hid (fun W h => dwith_any A1 k3 c1' X x1 x2 W h HS.out.rise (by omega))
                go_wp2_with fail
                go_at_call 18
                refine (HWI.out _ (HX.out.kept HK.out)).mono ?_
                rintro e w5 ⟨A5, m5, c5, Y, rfl, hd5, hw5, hm5, hk5⟩
                have HD5 := Lib.hid hd5
                have HK5 := Lib.hid (HK.out.trans hk5)
                obtain ⟨z, hz⟩ : ∃ z, decide (((x1, x2) : Int × Int) ∈ X) = z := ⟨_, rfl⟩
                have hlen := len_z HS.out.rise hw5 HM.out hd5.1 hz
                have hy5 : decide (((x1, x2) : Int × Int) ∈ Y) = true := by rw [decide_eq_true_iff, hw5.mem]; exact .inr rfl
                have H1 := Lib.hid (fun W h => dhas_c A5 m5 c5 Y (x1, x2) true hy5 W h)
                have H2 := Lib.hid (fun W h => dhas_c A1 k3 c1' X (x1, x2) z hz W h)
                have hKc := HK5.out
                clear e1 e2 hd5 hw5 hm5 hk5 hy5 hz
                have e1 := (HB.out.trans hKc).box0
                have e2 := (HB.out.trans hKc).box1
                cases z
                all_goals
                  go_wp2_with (first
                    | (go_at_call 20; ((with_reducible refine (H1.out _ HD5.out).mono ?_); rintro e wk ⟨rfl, hk⟩; (replace hKc := hKc.trans hk); clear e1 e2 hk; have e1 := (HB.out.trans hKc).box0; have e2 := (HB.out.trans hKc).box1))
                    | (go_at_call 20; ((with_reducible refine (H2.out _ (HX.out.kept hKc)).mono ?_); rintro e wk ⟨rfl, hk⟩; (replace hKc := hKc.trans hk); clear e1 e2 hk; have e1 := (HB.out.trans hKc).box0; have e2 := (HB.out.trans hKc).box1))
                    | (go_at_call 6; ((with_reducible refine (dawake_any _ (HLW.out.kept (HU.out.trans hKc))).mono ?_); rintro e wk ⟨rfl, hk⟩; (replace hKc := hKc.trans hk))))
                  go_ret
                  exact ⟨rfl, HU.out.trans hKc⟩

theorem dsorts_any (A : Option Addr) (n c : Nat) (L : List (Int × Int)) (x1 x2 : Int) (w : World) (h : Dl w A n c L) (hl : LaidW w) (g1 : -9223372036854775808 ≤ x1) (g2 : x1 ≤ 9223372036854775807) (g3 : -9223372036854775808 ≤ x2) (g4 : x2 ≤ 9223372036854775807) :
    Calls Tryd.prog 4 #[.slice A n c, .agg #[.int .i64 x1, .int .i64 x2]] w fun e w' => e = .returned (.bool true) ∧ Kept w w' := by
  by_cases hn : n ≤ 100
  · exact dsorts_small A n c L x1 x2 w h hn hl g1 g2 g3 g4
  · exact dsorts_big A n c x1 x2 w (by omega) hl
end Go.Proofs.YtnfchfldpdnjoaaDoor
