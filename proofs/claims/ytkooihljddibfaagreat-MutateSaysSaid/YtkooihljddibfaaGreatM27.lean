/-
  What is proved: rightVec, rightCloud and Right of package ctx, called with any set that lies in memory, tell whether it is right (P6.1); the world has new blocks at most.
  Within of package ctx, called with any right sets that lie in memory, tells whether all of the one is in the other (P6.7); the world has new blocks at most.
-/
import Derived.Test.YtkooihljddibfaaGreatM21
import Derived.Test.YtkooihljddibfaaGreatM19
import Derived.Test.YtkooihljddibfaaGreatM10
import Derived.Test.YtkooihljddibfaaGreatCComp
import Derived.Test.YtkooihljddibfaaGreatM13
namespace Go.Proofs.YtkooihljddibfaaGreat
open Go.RowKit

def VecR (V : List Int) : Prop := VecOk V ∧ ∀ k : Nat, V.length = k + 1 → V.getD k 0 ≠ 0
theorem vecR_of {V : List Int} (hb : ∀ (i : Nat) (x : Int), V[i]? = some x → 0 ≤ x ∧ x ≤ 1073741824) (hl : V.length ≤ 64) (hz : ∀ k : Nat, V.length = k + 1 → V.getD k 0 ≠ 0) : VecR V :=
  ⟨⟨hl, fun x hx => by obtain ⟨i, hi⟩ := List.getElem?_of_mem hx; exact hb i x hi⟩, hz⟩

set_option maxRecDepth 100000 in
set_option maxHeartbeats 2000000 in
theorem rvec_any (A : Option Addr) (n c : Nat) (V : List Int) (w : World) (h : Il w A n c V) (r : Bool) (hr : r = true ↔ VecR V) :
    Calls Tryz.prog 68 #[.slice A n c] w fun e w' => e = .returned (.bool r) ∧ w = w' := by
  have hcap := h.cap.1; have hcap2 := h.cap.2
  have HN := Lib.hid h.1
  have HI := Lib.hid h
  have HR := Lib.hid hr
  have HT := Lib.hid (trim_any A n c V w h)
  clear h hr
  go_enter Tryz.func68, Tryz.ntmps68
  go_wp2_with fail
  go_loop [7] (fun i => ∃ t : Nat, t ≤ n ∧ i = .int .i64 t ∧ ∀ i x, i < t → V[i]? = some x → 0 ≤ x ∧ x ≤ 1073741824) (fun i => n - (intOf i).toNat)
  case atStart => exact ⟨0, Nat.zero_le _, rfl, fun i x hi => absurd hi (by omega)⟩
  case round =>
    obtain ⟨t, ht, rfl, hall⟩ := hrel
    have HA := Lib.hid hall
    clear hall
    by_cases hlt : t < n
    · obtain ⟨g, o, x, rfl, hx, g1⟩ := HI.out.get hlt
      have HX := Lib.hid hx
      clear hx
      by_cases h1 : x < 0
      · have d1 : decide (x < 0) = true := by simpa using h1
        have HF := Lib.hid (no_r HR.out fun hh => by have := (hh.1.bd x (List.mem_of_getElem? HX.out)).1; omega)
        clear h1
        go_wp2_with fail
        go_ret
        exact ⟨ret_bool HF.out, rfl⟩
      by_cases h2 : 1073741824 < x
      · have d1 : decide (x < 0) = false := by simpa using h1
        have d2 : decide (1073741824 < x) = true := by simpa using h2
        have HF := Lib.hid (no_r HR.out fun hh => by have := (hh.1.bd x (List.mem_of_getElem? HX.out)).2; omega)
        clear h1 h2
        go_wp2_with fail
        go_ret
        exact ⟨ret_bool HF.out, rfl⟩
      have d1 : decide (x < 0) = false := by simpa using h1
      have d2 : decide (1073741824 < x) = false := by simpa using h2
      have HN2 := Lib.hid (show ∀ i y, i < t + 1 → V[i]? = some y → 0 ≤ y ∧ y ≤ 1073741824 from fun i y hi hy => by
        rcases Nat.lt_or_ge i t with h | h
        · exact HA.out i y h hy
        · obtain rfl : i = t := by omega
          obtain rfl := Option.some.inj (hy.symm.trans HX.out)
          exact ⟨by omega, by omega⟩)
      clear h1 h2
      go_wp2_with fail
      go_round
      case rel => exact ⟨t + 1, hlt, by go_num, HN2.out⟩
      case measure => simp [intOf]; omega
    · have HB := Lib.hid (show ∀ (i : Nat) (x : Int), V[i]? = some x → 0 ≤ x ∧ x ≤ 1073741824 from fun i x hx => HA.out i x (by have := (List.getElem?_eq_some_iff.1 hx).1; have := HN.out; omega) hx)
      by_cases h64 : n ≤ 64
      · have f1 : decide ((n : Int) ≤ 64) = true := by rw [decide_eq_true_iff]; omega
        have f2 : decide (n ≤ 64) = true := by rw [decide_eq_true_iff]; omega
        go_wp2_with fail
        go_at_call 87
        refine HT.out.mono ?_
        rintro e w1 ⟨q, hq, rfl, hz, hl, rfl⟩
        by_cases hqn : q = n
        · subst hqn
          have HF := Lib.hid (yes_r (b := true) HR.out ⟨fun _ => vecR_of HB.out (by have := HN.out; omega) fun k hk => hl k (by have := HN.out; omega), fun _ => rfl⟩)
          clear hz hl h64
          go_wp2_with fail
          go_ret
          exact ⟨ret_bool (by have := HF.out; simpa using this), rfl⟩
        · have d1 : ((q : Int) == (n : Int)) = false := by rw [beq_eq_false_iff_ne]; omega
          have d2 : (q == n) = false := by rw [beq_eq_false_iff_ne]; exact hqn
          have HF := Lib.hid (no_r HR.out fun hh => hh.2 (n - 1) (by have := HN.out; omega) (hz (n - 1) (by omega)))
          clear hz hl h64 hqn
          go_wp2_with fail
          go_ret
          exact ⟨ret_bool HF.out, rfl⟩
      · have f1 : decide ((n : Int) ≤ 64) = false := by rw [decide_eq_false_iff_not]; omega
        have f2 : decide (n ≤ 64) = false := by rw [decide_eq_false_iff_not]; omega
        have HF := Lib.hid (no_r HR.out fun hh => by have := hh.1.len; have := HN.out; omega)
        clear h64
        go_wp2_with fail
        go_ret
        exact ⟨ret_bool HF.out, rfl⟩

set_option maxRecDepth 100000 in
set_option maxHeartbeats 4000000 in
theorem rcloud_any (A : Option Addr) (n c : Nat) (V : List Int) (B : Option Addr) (m k : Nat) (C : List (Int × Int)) (w : World) (h : Il w A n c V) (hd : Dl w B m k C) (r : Bool) (hr : r = true ↔ ∀ j d, C[j]? = some d → DotOk V C j d) :
    Calls Tryz.prog 69 #[.agg #[.slice A n c, .slice B m k]] w fun e w' => e = .returned (.bool r) ∧ Kept w w' := by
  have hcap := h.cap.1; have hcap2 := h.cap.2; have hdap := hd.cap.1; have hdap2 := hd.cap.2
  have HM := Lib.hid hd.1
  have HI := Lib.hid h; have HD := Lib.hid hd
  have HR := Lib.hid hr
  have HK := Lib.hid ((Kept.refl w).alloc #[.slice A n c, .slice B m k] 26)
  clear h hd hr
  go_enter Tryz.func69, Tryz.ntmps69
  go_wp2_with fail
  go_loopw [9] (fun i wr => ∃ t : Nat, t ≤ m ∧ i = .int .i64 t ∧ Kept (w.alloc (.cells #[.slice A n c, .slice B m k] 26)) wr ∧ ∀ j d, j < t → C[j]? = some d → DotOk V C j d) (fun i _ => m - (intOf i).toNat)
  case atStart => exact ⟨0, Nat.zero_le _, rfl, Kept.refl _, fun i x hi => absurd hi (by omega)⟩
  case round =>
    obtain ⟨t, ht, rfl, hkr, hall⟩ := hrel
    have HR2 := Lib.hid hkr
    have HA2 := Lib.hid hall
    clear hkr hall
    by_cases hlt : t < m
    · obtain ⟨g, o, ⟨y1, y2⟩, hA, hy, g1, g2⟩ := (HD.out.kept (HK.out.trans HR2.out)).get hlt
      simp only at g1 g2
      have HY := Lib.hid hy
      clear hy
      have e0 := KExt.cell ((HR2.out.alloc #[.int .i64 y1, .int .i64 y2] 30).box0)
      have e1 := KExt.cell ((HR2.out.alloc #[.int .i64 y1, .int .i64 y2] 30).box1)
      have d0 := KExt.cell (Kept.box0 (Kept.refl (wr.alloc (.cells #[.int .i64 y1, .int .i64 y2] 30))))
      have d1 := KExt.cell (Kept.box1 (Kept.refl (wr.alloc (.cells #[.int .i64 y1, .int .i64 y2] 30))))
      have HI2 := Lib.hid (HI.out.kept (HK.out.trans (HR2.out.alloc #[.int .i64 y1, .int .i64 y2] 30)))
      rcases Nat.eq_zero_or_pos t with h6 | h6
      · have f2 : ((t : Int) == 0) = true := by rw [beq_iff_eq]; omega
        have f3 : (t == 0) = true := by rw [beq_iff_eq]; exact h6
        have HT0 := Lib.hid h6
        have AC := Lib.hid (fun w => dcmp_c (y1, y2) (y1, y2) 0 ((cmpD_eq _ _).2 rfl) w)
        subst hA
        clear h6
        obtain ⟨q, hq⟩ : ∃ q, rightD (y1, y2) = q := ⟨_, rfl⟩
        have AR := Lib.hid (fun w => dright_c (y1, y2) q hq w)
        obtain ⟨a, ha⟩ : ∃ a, atV V y1 = a := ⟨_, rfl⟩
        have AA := Lib.hid (fun w h => num_c A n c V (some ⟨g, o, none⟩) m k y1 a ha w h)
        have HQ := Lib.hid hq
        have HAV := Lib.hid ha
        clear hq ha
        cases q with
        | false =>
          have HF := Lib.hid (no_r HR.out fun hh => by have := (hh _ _ HY.out).1; rw [HQ.out] at this; cases this)
          go_wp2_with fail
          refine region_kept (wr.alloc (.cells #[.int .i64 y1, .int .i64 y2] 30)) (by kernel_rfl) (by kernel_rfl) (Kept.refl _) ?_
          repeat (go_big_quiet_step ((first
            | (go_at_call 67; (with_reducible exact KExt.callsK (AC.out _)))
            | fail)))
          refine wpQuiet_nil ?_
          intro G4
          go_wp2_with fail

          refine region_kept (wr.alloc (.cells #[.int .i64 y1, .int .i64 y2] 30)) (by kernel_rfl) (by kernel_rfl) G4.g ?_
          repeat (go_big_quiet_step ((first
            | (go_at_call 37; (with_reducible exact KExt.callsK (AR.out _)))
            | (go_at_call 56; (with_reducible exact KExt.callsK (AA.out _ (HI2.out.kept (KExt.g _)))))
            | fail)))
          refine wpQuiet_nil ?_
          intro G

          clear e0 e1 d0 d1 g1 g2
          go_wp2_with fail
          go_ret
          exact ⟨ret_bool HF.out, HK.out.trans (HR2.out.trans (((Kept.refl _).alloc _ _).trans G.g))⟩
        | true =>
          obtain ⟨b1, b2, b3, b4⟩ := rightD_bd HQ.out
          simp only at b1 b2 b3 b4
          have hsub : IntKind.i64.wrap (y2 - 1) = y2 - 1 := by rw [IntWalk.i64_in _ (by omega)]
          clear b1 b2
          by_cases h5 : y2 - 1 ≤ a
          · have f1 : decide (y2 - 1 ≤ a) = true := by simpa using h5
            have HF := Lib.hid (no_r HR.out fun hh => by have := (hh _ _ HY.out).2.1; simp only at this; rw [HAV.out] at this; omega)
            clear h5 b3 b4
            go_wp2_with fail
            refine region_kept (wr.alloc (.cells #[.int .i64 y1, .int .i64 y2] 30)) (by kernel_rfl) (by kernel_rfl) (Kept.refl _) ?_
            repeat (go_big_quiet_step ((first
              | (go_at_call 67; (with_reducible exact KExt.callsK (AC.out _)))
              | fail)))
            refine wpQuiet_nil ?_
            intro G4
            go_wp2_with fail

            refine region_kept (wr.alloc (.cells #[.int .i64 y1, .int .i64 y2] 30)) (by kernel_rfl) (by kernel_rfl) G4.g ?_
            repeat (go_big_quiet_step ((first
              | (go_at_call 37; (with_reducible exact KExt.callsK (AR.out _)))
              | (go_at_call 56; (with_reducible exact KExt.callsK (AA.out _ (HI2.out.kept (KExt.g _)))))
              | fail)))
            refine wpQuiet_nil ?_
            intro G

            clear e0 e1 d0 d1 g1 g2
            go_wp2_with fail
            go_ret
            exact ⟨ret_bool HF.out, HK.out.trans (HR2.out.trans (((Kept.refl _).alloc _ _).trans G.g))⟩
          · have f1 : decide (y2 - 1 ≤ a) = false := by simpa using h5
            have HN2 := Lib.hid (show ∀ j d, j < t + 1 → C[j]? = some d → DotOk V C j d from fun j' d hj hd => by
              rcases Nat.lt_or_ge j' t with h | h
              · exact HA2.out j' d h hd
              · obtain rfl : j' = t := by omega
                obtain rfl := Option.some.inj (hd.symm.trans HY.out)
                exact ⟨HQ.out, by simp only; rw [HAV.out]; omega, fun i e hi => by have := HT0.out; omega⟩)
            clear h5 b3 b4
            go_wp2_with fail
            refine region_kept (wr.alloc (.cells #[.int .i64 y1, .int .i64 y2] 30)) (by kernel_rfl) (by kernel_rfl) (Kept.refl _) ?_
            repeat (go_big_quiet_step ((first
              | (go_at_call 67; (with_reducible exact KExt.callsK (AC.out _)))
              | fail)))
            refine wpQuiet_nil ?_
            intro G4
            go_wp2_with fail

            refine region_kept (wr.alloc (.cells #[.int .i64 y1, .int .i64 y2] 30)) (by kernel_rfl) (by kernel_rfl) G4.g ?_
            repeat (go_big_quiet_step ((first
              | (go_at_call 37; (with_reducible exact KExt.callsK (AR.out _)))
              | (go_at_call 56; (with_reducible exact KExt.callsK (AA.out _ (HI2.out.kept (KExt.g _)))))
              | fail)))
            refine wpQuiet_nil ?_
            intro G

            clear e0 e1 d0 d1 g1 g2
            go_wp2_with fail
            go_roundw
            case rel => exact ⟨t + 1, hlt, by go_num, HR2.out.trans (((Kept.refl _).alloc _ _).trans G.g), HN2.out⟩
            case measure => simp [intOf]; omega
      · have f2 : ((t : Int) == 0) = false := by rw [beq_eq_false_iff_ne]; omega
        have f3 : (t == 0) = false := by rw [beq_eq_false_iff_ne]; omega
        obtain ⟨j, hkj⟩ : ∃ j, t = j + 1 := ⟨t - 1, by omega⟩
        have hsub2 : IntKind.i64.wrap ((t : Int) - 1) = (j : Int) := by rw [IntWalk.i64_in _ (by omega)]; omega
        have hjm : j < m := by omega
        obtain ⟨g', o', ⟨z1, z2⟩, hA', hz, c3, c4⟩ := (HD.out.kept (HK.out.trans (HR2.out.alloc #[.int .i64 y1, .int .i64 y2] 30))).get hjm
        obtain ⟨rfl, rfl⟩ : g = g' ∧ o = o' := by simpa using hA.symm.trans hA'
        simp only at c3 c4
        have d3 := KExt.cell c3
        have d4 := KExt.cell c4
        have HZ := Lib.hid hz
        have HKJ := Lib.hid hkj
        obtain ⟨z, hzz⟩ : ∃ z, cmpD (z1, z2) (y1, y2) = z := ⟨_, rfl⟩
        have AC := Lib.hid (fun w => dcmp_c (z1, z2) (y1, y2) z hzz w)
        have HZZ := Lib.hid hzz
        subst hA
        clear hz c3 c4 hA' hkj hzz h6
        by_cases h7 : z < 0
        · have f4 : decide (z < 0) = true := by simpa using h7
          have HLT := Lib.hid (show LtD (z1, z2) (y1, y2) from (cmpD_lt _ _).1 (by rw [HZZ.out]; exact h7))
          clear h7
          obtain ⟨q, hq⟩ : ∃ q, rightD (y1, y2) = q := ⟨_, rfl⟩
          have AR := Lib.hid (fun w => dright_c (y1, y2) q hq w)
          obtain ⟨a, ha⟩ : ∃ a, atV V y1 = a := ⟨_, rfl⟩
          have AA := Lib.hid (fun w h => num_c A n c V (some ⟨g, o, none⟩) m k y1 a ha w h)
          have HQ := Lib.hid hq
          have HAV := Lib.hid ha
          clear hq ha
          cases q with
          | false =>
            have HF := Lib.hid (no_r HR.out fun hh => by have := (hh _ _ HY.out).1; rw [HQ.out] at this; cases this)
            go_wp2_with fail
            refine region_kept (wr.alloc (.cells #[.int .i64 y1, .int .i64 y2] 30)) (by kernel_rfl) (by kernel_rfl) (Kept.refl _) ?_
            repeat (go_big_quiet_step ((first
              | (go_at_call 67; (with_reducible exact KExt.callsK (AC.out _)))
              | fail)))
            refine wpQuiet_nil ?_
            intro G4
            go_wp2_with fail

            refine region_kept (wr.alloc (.cells #[.int .i64 y1, .int .i64 y2] 30)) (by kernel_rfl) (by kernel_rfl) G4.g ?_
            repeat (go_big_quiet_step ((first
              | (go_at_call 37; (with_reducible exact KExt.callsK (AR.out _)))
              | (go_at_call 56; (with_reducible exact KExt.callsK (AA.out _ (HI2.out.kept (KExt.g _)))))
              | fail)))
            refine wpQuiet_nil ?_
            intro G

            clear e0 e1 d0 d1 g1 g2 d3 d4
            go_wp2_with fail
            go_ret
            exact ⟨ret_bool HF.out, HK.out.trans (HR2.out.trans (((Kept.refl _).alloc _ _).trans G.g))⟩
          | true =>
            obtain ⟨b1, b2, b3, b4⟩ := rightD_bd HQ.out
            simp only at b1 b2 b3 b4
            have hsub : IntKind.i64.wrap (y2 - 1) = y2 - 1 := by rw [IntWalk.i64_in _ (by omega)]
            clear b1 b2
            by_cases h5 : y2 - 1 ≤ a
            · have f1 : decide (y2 - 1 ≤ a) = true := by simpa using h5
              have HF := Lib.hid (no_r HR.out fun hh => by have := (hh _ _ HY.out).2.1; simp only at this; rw [HAV.out] at this; omega)
              clear h5 b3 b4
              go_wp2_with fail
              refine region_kept (wr.alloc (.cells #[.int .i64 y1, .int .i64 y2] 30)) (by kernel_rfl) (by kernel_rfl) (Kept.refl _) ?_
              repeat (go_big_quiet_step ((first
                | (go_at_call 67; (with_reducible exact KExt.callsK (AC.out _)))
                | fail)))
              refine wpQuiet_nil ?_
              intro G4
              go_wp2_with fail

              refine region_kept (wr.alloc (.cells #[.int .i64 y1, .int .i64 y2] 30)) (by kernel_rfl) (by kernel_rfl) G4.g ?_
              repeat (go_big_quiet_step ((first
                | (go_at_call 37; (with_reducible exact KExt.callsK (AR.out _)))
                | (go_at_call 56; (with_reducible exact KExt.callsK (AA.out _ (HI2.out.kept (KExt.g _)))))
                | fail)))
              refine wpQuiet_nil ?_
              intro G

              clear e0 e1 d0 d1 g1 g2 d3 d4
              go_wp2_with fail
              go_ret
              exact ⟨ret_bool HF.out, HK.out.trans (HR2.out.trans (((Kept.refl _).alloc _ _).trans G.g))⟩
            · have f1 : decide (y2 - 1 ≤ a) = false := by simpa using h5
              have HN2 := Lib.hid (show ∀ j d, j < t + 1 → C[j]? = some d → DotOk V C j d from fun j' d hj hd => by
                rcases Nat.lt_or_ge j' t with h | h
                · exact HA2.out j' d h hd
                · obtain rfl : j' = t := by omega
                  obtain rfl := Option.some.inj (hd.symm.trans HY.out)
                  exact ⟨HQ.out, by simp only; rw [HAV.out]; omega, fun i e hi he => by
                    obtain rfl : i = j := by have := HKJ.out; omega
                    obtain rfl := Option.some.inj (he.symm.trans HZ.out)
                    exact HLT.out⟩)
              clear h5 b3 b4
              go_wp2_with fail
              refine region_kept (wr.alloc (.cells #[.int .i64 y1, .int .i64 y2] 30)) (by kernel_rfl) (by kernel_rfl) (Kept.refl _) ?_
              repeat (go_big_quiet_step ((first
                | (go_at_call 67; (with_reducible exact KExt.callsK (AC.out _)))
                | fail)))
              refine wpQuiet_nil ?_
              intro G4
              go_wp2_with fail

              refine region_kept (wr.alloc (.cells #[.int .i64 y1, .int .i64 y2] 30)) (by kernel_rfl) (by kernel_rfl) G4.g ?_
              repeat (go_big_quiet_step ((first
                | (go_at_call 37; (with_reducible exact KExt.callsK (AR.out _)))
                | (go_at_call 56; (with_reducible exact KExt.callsK (AA.out _ (HI2.out.kept (KExt.g _)))))
                | fail)))
              refine wpQuiet_nil ?_
              intro G

              clear e0 e1 d0 d1 g1 g2 d3 d4
              go_wp2_with fail
              go_roundw
              case rel => exact ⟨t + 1, hlt, by go_num, HR2.out.trans (((Kept.refl _).alloc _ _).trans G.g), HN2.out⟩
              case measure => simp [intOf]; omega
        · have f4 : decide (z < 0) = false := by simpa using h7
          have AR := AC
          have AA := AC
          have HF := Lib.hid (no_r HR.out fun hh => by
            have := (cmpD_lt (z1, z2) (y1, y2)).2 ((hh _ _ HY.out).2.2 j _ HKJ.out HZ.out)
            rw [HZZ.out] at this
            omega)
          clear h7
          go_wp2_with fail
          refine region_kept (wr.alloc (.cells #[.int .i64 y1, .int .i64 y2] 30)) (by kernel_rfl) (by kernel_rfl) (Kept.refl _) ?_
          repeat (go_big_quiet_step ((first
            | (go_at_call 67; (with_reducible exact KExt.callsK (AC.out _)))
            | fail)))
          refine wpQuiet_nil ?_
          intro G4
          go_wp2_with fail

          refine region_kept (wr.alloc (.cells #[.int .i64 y1, .int .i64 y2] 30)) (by kernel_rfl) (by kernel_rfl) G4.g ?_
          repeat (go_big_quiet_step ((first
            | (go_at_call 37; (with_reducible exact KExt.callsK (AR.out _)))
            | (go_at_call 56; (with_reducible exact KExt.callsK (AA.out _ (HI2.out.kept (KExt.g _)))))
            | fail)))
          refine wpQuiet_nil ?_
          intro G

          clear e0 e1 d0 d1 g1 g2 d3 d4
          go_wp2_with fail
          go_ret
          exact ⟨ret_bool HF.out, HK.out.trans (HR2.out.trans (((Kept.refl _).alloc _ _).trans G.g))⟩
    · have htm : t = m := by omega
      have HC := Lib.hid (show ∀ j d, C[j]? = some d → DotOk V C j d from fun j d hd => HA2.out j d (by have := (List.getElem?_eq_some_iff.1 hd).1; have := HM.out; omega) hd)
      have HF := Lib.hid (yes_r (b := true) HR.out ⟨fun _ => HC.out, fun _ => rfl⟩)
      clear htm
      go_wp2_with fail
      go_ret
      exact ⟨ret_bool HF.out, HK.out.trans HR2.out⟩

theorem right_split (V : List Int) (C : List (Int × Int)) : RightC V C ↔ VecR V ∧ ∀ j d, C[j]? = some d → DotOk V C j d :=
  ⟨fun h => ⟨⟨h.vec, h.last⟩, fun _ _ hd => h.ok hd⟩, fun ⟨h1, h2⟩ => right_of (fun i x hx => ⟨(h1.1.bd x (List.mem_of_getElem? hx)).1, (h1.1.bd x (List.mem_of_getElem? hx)).2, fun hl => by
    have := h1.2 i hl.symm
    rwa [List.getD_eq_getElem?_getD, hx] at this⟩) h2 h1.1.len⟩
open Classical in
set_option maxRecDepth 100000 in
set_option maxHeartbeats 1000000 in
theorem gright_any (A : Option Addr) (n c : Nat) (V : List Int) (B : Option Addr) (m k : Nat) (C : List (Int × Int)) (w : World) (h : Il w A n c V) (hd : Dl w B m k C) (r : Bool) (hr : r = true ↔ RightC V C) :
    Calls Tryz.prog 44 #[.agg #[.slice A n c, .slice B m k]] w fun e w' => e = .returned (.bool r) ∧ Kept w w' := by
  have hK := (Kept.refl w).alloc #[.slice A n c, .slice B m k] 26
  obtain ⟨u, hu⟩ : ∃ u : Bool, u = true ↔ VecR V := ⟨decide (VecR V), by rw [decide_eq_true_iff]⟩
  obtain ⟨z, hz⟩ : ∃ z : Bool, z = true ↔ ∀ j d, C[j]? = some d → DotOk V C j d := ⟨decide (∀ j d, C[j]? = some d → DotOk V C j d), by rw [decide_eq_true_iff]⟩
  have AV := Lib.hid (rvec_any A n c V _ (h.kept hK) u hu)
  have AC := Lib.hid (rcloud_any A n c V B m k C _ (h.kept hK) (hd.kept hK) z hz)
  have e0 := Kept.box0 (Kept.refl (w.alloc (.cells #[.slice A n c, .slice B m k] 26)))
  have e1 := Kept.box1 (Kept.refl (w.alloc (.cells #[.slice A n c, .slice B m k] 26)))
  have HK := Lib.hid hK
  have hrr : r = (u && z) := by rw [Bool.eq_iff_iff, hr, right_split, Bool.and_eq_true, hu, hz]
  clear h hd hK hr hu hz
  cases u with
  | false =>
    have HR := Lib.hid (show false = r by rw [hrr]; rfl)
    clear hrr
    go_enter Tryz.func44, Tryz.ntmps44
    go_wp2_with fail
    go_at_call 68
    refine AV.out.mono ?_
    rintro e w1 ⟨rfl, rfl⟩
    go_wp2_with fail
    go_ret
    exact ⟨ret_bool HR.out, HK.out⟩
  | true =>
    have HR := Lib.hid (show z = r by rw [hrr]; rfl)
    clear hrr
    go_enter Tryz.func44, Tryz.ntmps44
    go_wp2_with fail
    go_at_call 68
    refine AV.out.mono ?_
    rintro e w1 ⟨rfl, rfl⟩
    go_wp2_with fail
    go_at_call 69
    refine AC.out.mono ?_
    rintro e w2 ⟨rfl, hk2⟩
    go_wp2_with fail
    go_ret
    exact ⟨ret_bool HR.out, HK.out.trans hk2⟩
end Go.Proofs.YtkooihljddibfaaGreat

namespace Go.Proofs.YtkooihljddibfaaGreat
open Go.RowKit

theorem within_iff {V V' : List Int} {C C' : List (Int × Int)} (h' : RightC V' C') : (∀ d, hasC V C d → hasC V' C' d) ↔ (∀ (k : Nat) (x : Int), V[k]? = some x → x ≤ atV V' k) ∧ ∀ d ∈ C, hasC V' C' d := by
  constructor
  · intro h
    refine ⟨fun k x hx => ?_, fun d hd => h d (.inr hd)⟩
    have := right_le h'.vec h'.apart h (k : Int)
    rwa [atV_in hx] at this
  · rintro ⟨h1, h2⟩ d (⟨a, b⟩ | hd)
    · refine .inl ⟨a, ?_⟩
      by_cases hr : 0 ≤ d.1 ∧ d.1 < V.length
      · obtain ⟨k, hk⟩ : ∃ k : Nat, d.1 = k := ⟨d.1.toNat, by omega⟩
        have hkl : k < V.length := by omega
        have := h1 k _ (List.getElem?_eq_getElem hkl)
        rw [hk] at b ⊢
        rw [atV_in (List.getElem?_eq_getElem hkl)] at b
        omega
      · rcases Int.lt_or_le d.1 0 with h0 | h0
        · rw [atV_neg V h0] at b; omega
        · rw [atV_out V (by omega)] at b; omega
    · exact h2 d hd

set_option maxRecDepth 100000 in
set_option maxHeartbeats 4000000 in
theorem gwithin_any (A : Option Addr) (n c : Nat) (V : List Int) (B : Option Addr) (m k : Nat) (C : List (Int × Int)) (A' : Option Addr) (n' c' : Nat) (V' : List Int) (B' : Option Addr) (m' k' : Nat) (C' : List (Int × Int)) (w : World)
    (h : Il w A n c V) (hd : Dl w B m k C) (h' : Il w A' n' c' V') (hd' : Dl w B' m' k' C') (hv' : RightC V' C') (hm : m' ≤ 999980) (r : Bool) (hr : r = true ↔ ∀ d, hasC V C d → hasC V' C' d) :
    Calls Tryz.prog 45 #[.agg #[.slice A n c, .slice B m k], .agg #[.slice A' n' c', .slice B' m' k']] w fun e w' => e = .returned (.bool r) ∧ Kept w w' := by
  have hcap := h.cap.1; have hcap2 := h.cap.2; have hdap := hd.cap.1; have hdap2 := hd.cap.2
  have HN := Lib.hid h.1; have HM := Lib.hid hd.1
  have hK : Kept w ((w.alloc (.cells #[.slice A n c, .slice B m k] 26)).alloc (.cells #[.slice A' n' c', .slice B' m' k'] 26)) := ((Kept.refl w).alloc #[.slice A n c, .slice B m k] 26).alloc #[.slice A' n' c', .slice B' m' k'] 26
  have HI := Lib.hid (h.kept hK); have HD := Lib.hid (hd.kept hK); have HI' := Lib.hid (h'.kept hK); have HD' := Lib.hid (hd'.kept hK)
  have HV' := Lib.hid hv'
  rw [within_iff hv'] at hr
  have HR := Lib.hid hr
  have b0 := Box2.new w (.slice A n c) (.slice B m k) 26 |>.kept ((Kept.refl _).alloc #[.slice A' n' c', .slice B' m' k'] 26)
  have b1 := Box2.new (w.alloc (.cells #[.slice A n c, .slice B m k] 26)) (.slice A' n' c') (.slice B' m' k') 26
  rw [show (w.alloc (.cells #[.slice A n c, .slice B m k] 26)).heap.size = w.heap.size + 1 by simp] at b1
  obtain ⟨U, hU⟩ : ∃ U, (w.alloc (.cells #[.slice A n c, .slice B m k] 26)).alloc (.cells #[.slice A' n' c', .slice B' m' k'] 26) = U := ⟨_, rfl⟩
  rw [hU] at hK HI HD HI' HD' b0 b1
  have HK := Lib.hid hK
  have HX := Lib.hid b0
  have HX' := Lib.hid b1
  have HU := Lib.hid hU
  clear h hd h' hd' hv' hK b0 b1 hr hU
  go_enter Tryz.func45, Tryz.ntmps45
  go_wp2_with fail
  go_loopw [14] (fun i wr => ∃ t : Nat, t ≤ n ∧ i = .int .i64 t ∧ Kept U wr ∧ ∀ (j : Nat) (x : Int), j < t → V[j]? = some x → x ≤ atV V' j) (fun i _ => n - (intOf i).toNat)
  case atStart => exact ⟨0, Nat.zero_le _, rfl, by rw [HU.out]; exact Kept.refl _, fun j x hj => absurd hj (by omega)⟩
  case round =>
    obtain ⟨t, ht, rfl, hkr, hall⟩ := hrel
    have HKR := Lib.hid hkr
    have HA := Lib.hid hall
    clear hkr hall
    by_cases hlt : t < n
    · obtain ⟨g, o, x, rfl, hx, g1⟩ := (HI.out.kept HKR.out).get hlt
      have HXV := Lib.hid hx
      obtain ⟨a, ha⟩ : ∃ a, atV V' (t : Int) = a := ⟨_, rfl⟩
      have AA := Lib.hid (num_c A' n' c' V' B' m' k' t a ha wr (HI'.out.kept HKR.out))
      have HAV := Lib.hid ha
      have e0 := (HX'.out.kept HKR.out).c0
      have e1 := (HX'.out.kept HKR.out).c1
      clear hx ha
      by_cases hxa : a < x
      · have d1 : decide (a < x) = true := by simpa using hxa
        have HF := Lib.hid (no_r HR.out fun hh => by have := hh.1 t x HXV.out; rw [HAV.out] at this; omega)
        clear hxa
        go_wp2_with fail
        go_at_call 56
        refine AA.out.mono ?_
        rintro e w5 ⟨rfl, hk5⟩
        go_wp2_with fail
        go_ret
        exact ⟨ret_bool HF.out, HK.out.trans (HKR.out.trans hk5)⟩
      · have d1 : decide (a < x) = false := by simpa using hxa
        have HN2 := Lib.hid (show ∀ (j : Nat) (y : Int), j < t + 1 → V[j]? = some y → y ≤ atV V' j from fun j y hj hy => by
          rcases Nat.lt_or_ge j t with h | h
          · exact HA.out j y h hy
          · obtain rfl : j = t := by omega
            obtain rfl := Option.some.inj (hy.symm.trans HXV.out)
            rw [HAV.out]; omega)
        clear hxa
        go_wp2_with fail
        go_at_call 56
        refine AA.out.mono ?_
        rintro e w5 ⟨rfl, hk5⟩
        clear g1 e0 e1
        go_wp2_with fail
        go_roundw
        case rel => exact ⟨t + 1, hlt, by go_num, HKR.out.trans hk5, HN2.out⟩
        case measure => simp [intOf]; omega
    · have HVV := Lib.hid (show ∀ (j : Nat) (x : Int), V[j]? = some x → x ≤ atV V' j from fun j x hx => HA.out j x (by have := (List.getElem?_eq_some_iff.1 hx).1; have := HN.out; omega) hx)
      have e0 := (HX.out.kept HKR.out).c0
      have e1 := (HX.out.kept HKR.out).c1
      go_wp2_with fail
      clear e0 e1
      go_loopw [28] (fun i wr => ∃ t : Nat, t ≤ m ∧ i = .int .i64 t ∧ Kept U wr ∧ ∀ (j : Nat) (d : Int × Int), j < t → C[j]? = some d → hasC V' C' d) (fun i _ => m - (intOf i).toNat)
      case atStart => exact ⟨0, Nat.zero_le _, rfl, HKR.out, fun j x hj => absurd hj (by omega)⟩
      case round =>
        clear hlt ht
        obtain ⟨t, ht, rfl, hkr, hall⟩ := hrel
        have HK2 := Lib.hid hkr
        have HA2 := Lib.hid hall
        clear hkr hall
        by_cases hlt : t < m
        · obtain ⟨g, o, ⟨y1, y2⟩, rfl, hy, g1, g2⟩ := (HD.out.kept HK2.out).get hlt
          simp only at g1 g2
          have HY := Lib.hid hy
          obtain ⟨q, hq⟩ : ∃ q, decide (((y1, y2) : Int × Int) ∈ C') = q := ⟨_, rfl⟩
          obtain ⟨u, hu⟩ : ∃ u, upB V' (y1, y2) = u := ⟨_, rfl⟩
          have hkb := HK2.out.alloc #[.int .i64 y1, .int .i64 y2] 30
          have AS := Lib.hid (search_any B' m' k' C' y1 y2 (wr.alloc (.cells #[.int .i64 y1, .int .i64 y2] 30)) (HD'.out.kept hkb) HV'.out.rise (by omega))
          have AU := Lib.hid (fun w h => up_any A' n' c' V' B' m' k' y1 y2 w h u hu)
          have HKB := Lib.hid hkb
          have hin : decide (hasC V' C' (y1, y2)) = (u || q) := by rw [hasC_up, hu, hq]
          have HIN := Lib.hid hin
          have hb := Box2.new wr (.int .i64 y1) (.int .i64 y2) 30
          rw [hq] at AS
          have HB := Lib.hid hb
          have e0 := (HX'.out.kept hkb).c0
          have e1 := (HX'.out.kept hkb).c1
          clear hy hq hu hkb hin hb
          cases q with
          | true =>
            have HN2 := Lib.hid (show ∀ (j : Nat) (d : Int × Int), j < t + 1 → C[j]? = some d → hasC V' C' d from fun j d hj hd => by
              rcases Nat.lt_or_ge j t with h | h
              · exact HA2.out j d h hd
              · obtain rfl : j = t := by omega
                obtain rfl := Option.some.inj (hd.symm.trans HY.out)
                have := HIN.out
                rw [Bool.or_true] at this
                exact of_decide_eq_true this)
            go_wp2_with fail
            go_at_call 70
            refine AS.out.mono ?_
            rintro e w5 ⟨p, rfl, _, _, _, hk5⟩
            clear g1 g2 e0 e1
            go_wp2_with fail
            go_roundw
            case rel => exact ⟨t + 1, hlt, by go_num, HKB.out.trans hk5, HN2.out⟩
            case measure => simp [intOf]; omega
          | false =>
            go_wp2_with fail
            go_at_call 70
            refine AS.out.mono ?_
            rintro e w5 ⟨p, rfl, _, _, _, hk5⟩
            have f0 := hk5.cell e0
            have f1 := hk5.cell e1
            have hb5 := HB.out.kept hk5
            have f2 := hb5.c0
            have f3 := hb5.c1
            have AU2 := Lib.hid (AU.out w5 (HI'.out.kept (HKB.out.trans hk5)))
            clear g1 g2 e0 e1 hb5
            cases u with
            | true =>
              have HN2 := Lib.hid (show ∀ (j : Nat) (d : Int × Int), j < t + 1 → C[j]? = some d → hasC V' C' d from fun j d hj hd => by
                rcases Nat.lt_or_ge j t with h | h
                · exact HA2.out j d h hd
                · obtain rfl : j = t := by omega
                  obtain rfl := Option.some.inj (hd.symm.trans HY.out)
                  exact of_decide_eq_true HIN.out)
              go_wp2_with fail
              go_at_call 42
              refine AU2.out.mono ?_
              rintro e w6 ⟨rfl, hk6⟩
              clear f0 f1 f2 f3
              go_wp2_with fail
              go_roundw
              case rel => exact ⟨t + 1, hlt, by go_num, HKB.out.trans (hk5.trans hk6), HN2.out⟩
              case measure => simp [intOf]; omega
            | false =>
              have HF := Lib.hid (no_r HR.out fun hh => of_decide_eq_false HIN.out (hh.2 _ (List.mem_of_getElem? HY.out)))
              go_wp2_with fail
              go_at_call 42
              refine AU2.out.mono ?_
              rintro e w6 ⟨rfl, hk6⟩
              clear f0 f1 f2 f3
              go_wp2_with fail
              go_ret
              exact ⟨ret_bool HF.out, HK.out.trans (HKB.out.trans (hk5.trans hk6))⟩
        · have HCC := Lib.hid (show ∀ d ∈ C, hasC V' C' d from fun d hd => by
            obtain ⟨j, hj⟩ := List.getElem?_of_mem hd
            exact HA2.out j d (by have := (List.getElem?_eq_some_iff.1 hj).1; have := HM.out; omega) hj)
          have HF := Lib.hid (yes_r (b := true) HR.out ⟨fun _ => ⟨HVV.out, HCC.out⟩, fun _ => rfl⟩)
          go_wp2_with fail
          go_ret
          exact ⟨ret_bool HF.out, HK.out.trans HK2.out⟩
end Go.Proofs.YtkooihljddibfaaGreat

