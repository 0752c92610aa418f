/-
  What is proved: rightVec, rightCloud and Right of package ctx, called with any set that lies in memory, tell whether it is right (P6.1); the world has new blocks at most.
-/
import Derived.Test.YtgofecnpmohmgaaGTrim
import Derived.Test.YtgofecnpmohmgaaGNum
import Derived.Test.YtgofecnpmohmgaaCRight
namespace Go.Proofs.Ytgofecnpmohmgaa
open Go.RowKit

def VecR (V : List Int) : Prop := VecOk V ∧ ∀ k : Nat, V.length = k + 1 → V.getD k 0 ≠ 0
theorem vecR_of {V : List Int} (hb : ∀ (i : Nat) (x : Int), V[i]? = some x → 0 ≤ x ∧ x ≤ 1073741824) (hl : V.length ≤ 64) (hz : ∀ k : Nat, V.length = k + 1 → V.getD k 0 ≠ 0) : VecR V :=
  ⟨⟨hl, fun x hx => by obtain ⟨i, hi⟩ := List.getElem?_of_mem hx; exact hb i x hi⟩, hz⟩

set_option maxRecDepth 100000 in
set_option maxHeartbeats 2000000 in
theorem rvec_any (A : Option Addr) (n c : Nat) (V : List Int) (w : World) (h : Il w A n c V) (r : Bool) (hr : r = true ↔ VecR V) :
    Calls Try.prog 38 #[.slice A n c] w fun e w' => e = .returned (.bool r) ∧ w = w' := by
  have hcap := h.cap.1; have hcap2 := h.cap.2
  have HN := Lib.hid h.1
  have HI := Lib.hid h
  have HR := Lib.hid hr
  have HT := Lib.hid (trim_any A n c V w h)
  clear h hr
  go_enter Try.func38, Try.ntmps38
  go_wp2_with fail
  go_loop [7] (fun i => ∃ t : Nat, t ≤ n ∧ i = .int .i64 t ∧ ∀ i x, i < t → V[i]? = some x → 0 ≤ x ∧ x ≤ 1073741824) (fun i => n - (intOf i).toNat)
  case atStart => exact ⟨0, Nat.zero_le _, rfl, fun i x hi => absurd hi (by omega)⟩
  case round =>
    obtain ⟨t, ht, rfl, hall⟩ := hrel
    have HA := Lib.hid hall
    clear hall
    by_cases hlt : t < n
    · obtain ⟨g, o, x, rfl, hx, g1⟩ := HI.out.get hlt
      have HX := Lib.hid hx
      clear hx
      by_cases h1 : x < 0
      · have d1 : decide (x < 0) = true := by simpa using h1
        have HF := Lib.hid (no_r HR.out fun hh => by have := (hh.1.bd x (List.mem_of_getElem? HX.out)).1; omega)
        clear h1
        go_wp2_with fail
        go_ret
        exact ⟨ret_bool HF.out, rfl⟩
      by_cases h2 : 1073741824 < x
      · have d1 : decide (x < 0) = false := by simpa using h1
        have d2 : decide (1073741824 < x) = true := by simpa using h2
        have HF := Lib.hid (no_r HR.out fun hh => by have := (hh.1.bd x (List.mem_of_getElem? HX.out)).2; omega)
        clear h1 h2
        go_wp2_with fail
        go_ret
        exact ⟨ret_bool HF.out, rfl⟩
      have d1 : decide (x < 0) = false := by simpa using h1
      have d2 : decide (1073741824 < x) = false := by simpa using h2
      have HN2 := Lib.hid (show ∀ i y, i < t + 1 → V[i]? = some y → 0 ≤ y ∧ y ≤ 1073741824 from fun i y hi hy => by
        rcases Nat.lt_or_ge i t with h | h
        · exact HA.out i y h hy
        · obtain rfl : i = t := by omega
          obtain rfl := Option.some.inj (hy.symm.trans HX.out)
          exact ⟨by omega, by omega⟩)
      clear h1 h2
      go_wp2_with fail
      go_round
      case rel => exact ⟨t + 1, hlt, by go_num, HN2.out⟩
      case measure => simp [intOf]; omega
    · have HB := Lib.hid (show ∀ (i : Nat) (x : Int), V[i]? = some x → 0 ≤ x ∧ x ≤ 1073741824 from fun i x hx => HA.out i x (by have := (List.getElem?_eq_some_iff.1 hx).1; have := HN.out; omega) hx)
      by_cases h64 : n ≤ 64
      · have f1 : decide ((n : Int) ≤ 64) = true := by rw [decide_eq_true_iff]; omega
        have f2 : decide (n ≤ 64) = true := by rw [decide_eq_true_iff]; omega
        go_wp2_with fail
        go_at_call 53
        refine HT.out.mono ?_
        rintro e w1 ⟨q, hq, rfl, hz, hl, rfl⟩
        by_cases hqn : q = n
        · subst hqn
          have HF := Lib.hid (yes_r (b := true) HR.out ⟨fun _ => vecR_of HB.out (by have := HN.out; omega) fun k hk => hl k (by have := HN.out; omega), fun _ => rfl⟩)
          clear hz hl h64
          go_wp2_with fail
          go_ret
          exact ⟨ret_bool (by have := HF.out; simpa using this), rfl⟩
        · have d1 : ((q : Int) == (n : Int)) = false := by rw [beq_eq_false_iff_ne]; omega
          have d2 : (q == n) = false := by rw [beq_eq_false_iff_ne]; exact hqn
          have HF := Lib.hid (no_r HR.out fun hh => hh.2 (n - 1) (by have := HN.out; omega) (hz (n - 1) (by omega)))
          clear hz hl h64 hqn
          go_wp2_with fail
          go_ret
          exact ⟨ret_bool HF.out, rfl⟩
      · have f1 : decide ((n : Int) ≤ 64) = false := by rw [decide_eq_false_iff_not]; omega
        have f2 : decide (n ≤ 64) = false := by rw [decide_eq_false_iff_not]; omega
        have HF := Lib.hid (no_r HR.out fun hh => by have := hh.1.len; have := HN.out; omega)
        clear h64
        go_wp2_with fail
        go_ret
        exact ⟨ret_bool HF.out, rfl⟩

set_option maxRecDepth 100000 in
set_option maxHeartbeats 4000000 in
theorem rcloud_any (A : Option Addr) (n c : Nat) (V : List Int) (B : Option Addr) (m k : Nat) (C : List (Int × Int)) (w : World) (h : Il w A n c V) (hd : Dl w B m k C) (r : Bool) (hr : r = true ↔ ∀ j d, C[j]? = some d → DotOk V C j d) :
    Calls Try.prog 39 #[.agg #[.slice A n c, .slice B m k]] w fun e w' => e = .returned (.bool r) ∧ Kept w w' := by
  have hcap := h.cap.1; have hcap2 := h.cap.2; have hdap := hd.cap.1; have hdap2 := hd.cap.2
  have HM := Lib.hid hd.1
  have HI := Lib.hid h; have HD := Lib.hid hd
  have HR := Lib.hid hr
  have HK := Lib.hid ((Kept.refl w).alloc #[.slice A n c, .slice B m k] 25)
  clear h hd hr
  go_enter Try.func39, Try.ntmps39
  go_wp2_with fail
  go_loopw [9] (fun i wr => ∃ t : Nat, t ≤ m ∧ i = .int .i64 t ∧ Kept (w.alloc (.cells #[.slice A n c, .slice B m k] 25)) wr ∧ ∀ j d, j < t → C[j]? = some d → DotOk V C j d) (fun i _ => m - (intOf i).toNat)
  case atStart => exact ⟨0, Nat.zero_le _, rfl, Kept.refl _, fun i x hi => absurd hi (by omega)⟩
  case round =>
    obtain ⟨t, ht, rfl, hkr, hall⟩ := hrel
    have HR2 := Lib.hid hkr
    have HA2 := Lib.hid hall
    clear hkr hall
    by_cases hlt : t < m
    · obtain ⟨g, o, ⟨y1, y2⟩, hA, hy, g1, g2⟩ := (HD.out.kept (HK.out.trans HR2.out)).get hlt
      simp only at g1 g2
      have HY := Lib.hid hy
      clear hy
      have e0 := KExt.cell ((HR2.out.alloc #[.int .i64 y1, .int .i64 y2] 36).box0)
      have e1 := KExt.cell ((HR2.out.alloc #[.int .i64 y1, .int .i64 y2] 36).box1)
      have d0 := KExt.cell (Kept.box0 (Kept.refl (wr.alloc (.cells #[.int .i64 y1, .int .i64 y2] 36))))
      have d1 := KExt.cell (Kept.box1 (Kept.refl (wr.alloc (.cells #[.int .i64 y1, .int .i64 y2] 36))))
      have HI2 := Lib.hid (HI.out.kept (HK.out.trans (HR2.out.alloc #[.int .i64 y1, .int .i64 y2] 36)))
      rcases Nat.eq_zero_or_pos t with h6 | h6
      · have f2 : ((t : Int) == 0) = true := by rw [beq_iff_eq]; omega
        have f3 : (t == 0) = true := by rw [beq_iff_eq]; exact h6
        have HT0 := Lib.hid h6
        have AC := Lib.hid (fun w => dcmp_c (y1, y2) (y1, y2) 0 ((cmpD_eq _ _).2 rfl) w)
        subst hA
        clear h6
        obtain ⟨q, hq⟩ : ∃ q, rightD (y1, y2) = q := ⟨_, rfl⟩
        have AR := Lib.hid (fun w => dright_c (y1, y2) q hq w)
        obtain ⟨a, ha⟩ : ∃ a, atV V y1 = a := ⟨_, rfl⟩
        have AA := Lib.hid (fun w h => num_c A n c V (some ⟨g, o, none⟩) m k y1 a ha w h)
        have HQ := Lib.hid hq
        have HAV := Lib.hid ha
        clear hq ha
        cases q with
        | false =>
          have HF := Lib.hid (no_r HR.out fun hh => by have := (hh _ _ HY.out).1; rw [HQ.out] at this; cases this)
          go_wp2_with fail
          refine region_kept (wr.alloc (.cells #[.int .i64 y1, .int .i64 y2] 36)) (by kernel_rfl) (by kernel_rfl) (Kept.refl _) ?_
          repeat (go_big_quiet_step ((first
            | (go_at_call 58; (with_reducible exact KExt.callsK (AC.out _)))
            | fail)))
          refine wpQuiet_nil ?_
          intro G4
          go_wp2_with fail

          refine region_kept (wr.alloc (.cells #[.int .i64 y1, .int .i64 y2] 36)) (by kernel_rfl) (by kernel_rfl) G4.g ?_
          repeat (go_big_quiet_step ((first
            | (go_at_call 34; (with_reducible exact KExt.callsK (AR.out _)))
            | (go_at_call 51; (with_reducible exact KExt.callsK (AA.out _ (HI2.out.kept (KExt.g _)))))
            | fail)))
          refine wpQuiet_nil ?_
          intro G

          clear e0 e1 d0 d1 g1 g2
          go_wp2_with fail
          go_ret
          exact ⟨ret_bool HF.out, HK.out.trans (HR2.out.trans (((Kept.refl _).alloc _ _).trans G.g))⟩
        | true =>
          obtain ⟨b1, b2, b3, b4⟩ := rightD_bd HQ.out
          simp only at b1 b2 b3 b4
          have hsub : IntKind.i64.wrap (y2 - 1) = y2 - 1 := by rw [IntWalk.i64_in _ (by omega)]
          clear b1 b2
          by_cases h5 : y2 - 1 ≤ a
          · have f1 : decide (y2 - 1 ≤ a) = true := by simpa using h5
            have HF := Lib.hid (no_r HR.out fun hh => by have := (hh _ _ HY.out).2.1; simp only at this; rw [HAV.out] at this; omega)
            clear h5 b3 b4
            go_wp2_with fail
            refine region_kept (wr.alloc (.cells #[.int .i64 y1, .int .i64 y2] 36)) (by kernel_rfl) (by kernel_rfl) (Kept.refl _) ?_
            repeat (go_big_quiet_step ((first
              | (go_at_call 58; (with_reducible exact KExt.callsK (AC.out _)))
              | fail)))
            refine wpQuiet_nil ?_
            intro G4
            go_wp2_with fail

            refine region_kept (wr.alloc (.cells #[.int .i64 y1, .int .i64 y2] 36)) (by kernel_rfl) (by kernel_rfl) G4.g ?_
            repeat (go_big_quiet_step ((first
              | (go_at_call 34; (with_reducible exact KExt.callsK (AR.out _)))
              | (go_at_call 51; (with_reducible exact KExt.callsK (AA.out _ (HI2.out.kept (KExt.g _)))))
              | fail)))
            refine wpQuiet_nil ?_
            intro G

            clear e0 e1 d0 d1 g1 g2
            go_wp2_with fail
            go_ret
            exact ⟨ret_bool HF.out, HK.out.trans (HR2.out.trans (((Kept.refl _).alloc _ _).trans G.g))⟩
          · have f1 : decide (y2 - 1 ≤ a) = false := by simpa using h5
            have HN2 := Lib.hid (show ∀ j d, j < t + 1 → C[j]? = some d → DotOk V C j d from fun j' d hj hd => by
              rcases Nat.lt_or_ge j' t with h | h
              · exact HA2.out j' d h hd
              · obtain rfl : j' = t := by omega
                obtain rfl := Option.some.inj (hd.symm.trans HY.out)
                exact ⟨HQ.out, by simp only; rw [HAV.out]; omega, fun i e hi => by have := HT0.out; omega⟩)
            clear h5 b3 b4
            go_wp2_with fail
            refine region_kept (wr.alloc (.cells #[.int .i64 y1, .int .i64 y2] 36)) (by kernel_rfl) (by kernel_rfl) (Kept.refl _) ?_
            repeat (go_big_quiet_step ((first
              | (go_at_call 58; (with_reducible exact KExt.callsK (AC.out _)))
              | fail)))
            refine wpQuiet_nil ?_
            intro G4
            go_wp2_with fail

            refine region_kept (wr.alloc (.cells #[.int .i64 y1, .int .i64 y2] 36)) (by kernel_rfl) (by kernel_rfl) G4.g ?_
            repeat (go_big_quiet_step ((first
              | (go_at_call 34; (with_reducible exact KExt.callsK (AR.out _)))
              | (go_at_call 51; (with_reducible exact KExt.callsK (AA.out _ (HI2.out.kept (KExt.g _)))))
              | fail)))
            refine wpQuiet_nil ?_
            intro G

            clear e0 e1 d0 d1 g1 g2
            go_wp2_with fail
            go_roundw
            case rel => exact ⟨t + 1, hlt, by go_num, HR2.out.trans (((Kept.refl _).alloc _ _).trans G.g), HN2.out⟩
            case measure => simp [intOf]; omega
      · have f2 : ((t : Int) == 0) = false := by rw [beq_eq_false_iff_ne]; omega
        have f3 : (t == 0) = false := by rw [beq_eq_false_iff_ne]; omega
        obtain ⟨j, hkj⟩ : ∃ j, t = j + 1 := ⟨t - 1, by omega⟩
        have hsub2 : IntKind.i64.wrap ((t : Int) - 1) = (j : Int) := by rw [IntWalk.i64_in _ (by omega)]; omega
        have hjm : j < m := by omega
        obtain ⟨g', o', ⟨z1, z2⟩, hA', hz, c3, c4⟩ := (HD.out.kept (HK.out.trans (HR2.out.alloc #[.int .i64 y1, .int .i64 y2] 36))).get hjm
        obtain ⟨rfl, rfl⟩ : g = g' ∧ o = o' := by simpa using hA.symm.trans hA'
        simp only at c3 c4
        have d3 := KExt.cell c3
        have d4 := KExt.cell c4
        have HZ := Lib.hid hz
        have HKJ := Lib.hid hkj
        obtain ⟨z, hzz⟩ : ∃ z, cmpD (z1, z2) (y1, y2) = z := ⟨_, rfl⟩
        have AC := Lib.hid (fun w => dcmp_c (z1, z2) (y1, y2) z hzz w)
        have HZZ := Lib.hid hzz
        subst hA
        clear hz c3 c4 hA' hkj hzz h6
        by_cases h7 : z < 0
        · have f4 : decide (z < 0) = true := by simpa using h7
          have HLT := Lib.hid (show LtD (z1, z2) (y1, y2) from (cmpD_lt _ _).1 (by rw [HZZ.out]; exact h7))
          clear h7
          obtain ⟨q, hq⟩ : ∃ q, rightD (y1, y2) = q := ⟨_, rfl⟩
          have AR := Lib.hid (fun w => dright_c (y1, y2) q hq w)
          obtain ⟨a, ha⟩ : ∃ a, atV V y1 = a := ⟨_, rfl⟩
          have AA := Lib.hid (fun w h => num_c A n c V (some ⟨g, o, none⟩) m k y1 a ha w h)
          have HQ := Lib.hid hq
          have HAV := Lib.hid ha
          clear hq ha
          cases q with
          | false =>
            have HF := Lib.hid (no_r HR.out fun hh => by have := (hh _ _ HY.out).1; rw [HQ.out] at this; cases this)
            go_wp2_with fail
            refine region_kept (wr.alloc (.cells #[.int .i64 y1, .int .i64 y2] 36)) (by kernel_rfl) (by kernel_rfl) (Kept.refl _) ?_
            repeat (go_big_quiet_step ((first
              | (go_at_call 58; (with_reducible exact KExt.callsK (AC.out _)))
              | fail)))
            refine wpQuiet_nil ?_
            intro G4
            go_wp2_with fail

            refine region_kept (wr.alloc (.cells #[.int .i64 y1, .int .i64 y2] 36)) (by kernel_rfl) (by kernel_rfl) G4.g ?_
            repeat (go_big_quiet_step ((first
              | (go_at_call 34; (with_reducible exact KExt.callsK (AR.out _)))
              | (go_at_call 51; (with_reducible exact KExt.callsK (AA.out _ (HI2.out.kept (KExt.g _)))))
              | fail)))
            refine wpQuiet_nil ?_
            intro G

            clear e0 e1 d0 d1 g1 g2 d3 d4
            go_wp2_with fail
            go_ret
            exact ⟨ret_bool HF.out, HK.out.trans (HR2.out.trans (((Kept.refl _).alloc _ _).trans G.g))⟩
          | true =>
            obtain ⟨b1, b2, b3, b4⟩ := rightD_bd HQ.out
            simp only at b1 b2 b3 b4
            have hsub : IntKind.i64.wrap (y2 - 1) = y2 - 1 := by rw [IntWalk.i64_in _ (by omega)]
            clear b1 b2
            by_cases h5 : y2 - 1 ≤ a
            · have f1 : decide (y2 - 1 ≤ a) = true := by simpa using h5
              have HF := Lib.hid (no_r HR.out fun hh => by have := (hh _ _ HY.out).2.1; simp only at this; rw [HAV.out] at this; omega)
              clear h5 b3 b4
              go_wp2_with fail
              refine region_kept (wr.alloc (.cells #[.int .i64 y1, .int .i64 y2] 36)) (by kernel_rfl) (by kernel_rfl) (Kept.refl _) ?_
              repeat (go_big_quiet_step ((first
                | (go_at_call 58; (with_reducible exact KExt.callsK (AC.out _)))
                | fail)))
              refine wpQuiet_nil ?_
              intro G4
              go_wp2_with fail

              refine region_kept (wr.alloc (.cells #[.int .i64 y1, .int .i64 y2] 36)) (by kernel_rfl) (by kernel_rfl) G4.g ?_
              repeat (go_big_quiet_step ((first
                | (go_at_call 34; (with_reducible exact KExt.callsK (AR.out _)))
                | (go_at_call 51; (with_reducible exact KExt.callsK (AA.out _ (HI2.out.kept (KExt.g _)))))
                | fail)))
              refine wpQuiet_nil ?_
              intro G

              clear e0 e1 d0 d1 g1 g2 d3 d4
              go_wp2_with fail
              go_ret
              exact ⟨ret_bool HF.out, HK.out.trans (HR2.out.trans (((Kept.refl _).alloc _ _).trans G.g))⟩
            · have f1 : decide (y2 - 1 ≤ a) = false := by simpa using h5
              have HN2 := Lib.hid (show ∀ j d, j < t + 1 → C[j]? = some d → DotOk V C j d from fun j' d hj hd => by
                rcases Nat.lt_or_ge j' t with h | h
                · exact HA2.out j' d h hd
                · obtain rfl : j' = t := by omega
                  obtain rfl := Option.some.inj (hd.symm.trans HY.out)
                  exact ⟨HQ.out, by simp only; rw [HAV.out]; omega, fun i e hi he => by
                    obtain rfl : i = j := by have := HKJ.out; omega
                    obtain rfl := Option.some.inj (he.symm.trans HZ.out)
                    exact HLT.out⟩)
              clear h5 b3 b4
              go_wp2_with fail
              refine region_kept (wr.alloc (.cells #[.int .i64 y1, .int .i64 y2] 36)) (by kernel_rfl) (by kernel_rfl) (Kept.refl _) ?_
              repeat (go_big_quiet_step ((first
                | (go_at_call 58; (with_reducible exact KExt.callsK (AC.out _)))
                | fail)))
              refine wpQuiet_nil ?_
              intro G4
              go_wp2_with fail

              refine region_kept (wr.alloc (.cells #[.int .i64 y1, .int .i64 y2] 36)) (by kernel_rfl) (by kernel_rfl) G4.g ?_
              repeat (go_big_quiet_step ((first
                | (go_at_call 34; (with_reducible exact KExt.callsK (AR.out _)))
                | (go_at_call 51; (with_reducible exact KExt.callsK (AA.out _ (HI2.out.kept (KExt.g _)))))
                | fail)))
              refine wpQuiet_nil ?_
              intro G

              clear e0 e1 d0 d1 g1 g2 d3 d4
              go_wp2_with fail
              go_roundw
              case rel => exact ⟨t + 1, hlt, by go_num, HR2.out.trans (((Kept.refl _).alloc _ _).trans G.g), HN2.out⟩
              case measure => simp [intOf]; omega
        · have f4 : decide (z < 0) = false := by simpa using h7
          have AR := AC
          have AA := AC
          have HF := Lib.hid (no_r HR.out fun hh => by
            have := (cmpD_lt (z1, z2) (y1, y2)).2 ((hh _ _ HY.out).2.2 j _ HKJ.out HZ.out)
            rw [HZZ.out] at this
            omega)
          clear h7
          go_wp2_with fail
          refine region_kept (wr.alloc (.cells #[.int .i64 y1, .int .i64 y2] 36)) (by kernel_rfl) (by kernel_rfl) (Kept.refl _) ?_
          repeat (go_big_quiet_step ((first
            | (go_at_call 58; (with_reducible exact KExt.callsK (AC.out _)))
            | fail)))
          refine wpQuiet_nil ?_
          intro G4
          go_wp2_with fail

          refine region_kept (wr.alloc (.cells #[.int .i64 y1, .int .i64 y2] 36)) (by kernel_rfl) (by kernel_rfl) G4.g ?_
          repeat (go_big_quiet_step ((first
            | (go_at_call 34; (with_reducible exact KExt.callsK (AR.out _)))
            | (go_at_call 51; (with_reducible exact KExt.callsK (AA.out _ (HI2.out.kept (KExt.g _)))))
            | fail)))
          refine wpQuiet_nil ?_
          intro G

          clear e0 e1 d0 d1 g1 g2 d3 d4
          go_wp2_with fail
          go_ret
          exact ⟨ret_bool HF.out, HK.out.trans (HR2.out.trans (((Kept.refl _).alloc _ _).trans G.g))⟩
    · have htm : t = m := by omega
      have HC := Lib.hid (show ∀ j d, C[j]? = some d → DotOk V C j d from fun j d hd => HA2.out j d (by have := (List.getElem?_eq_some_iff.1 hd).1; have := HM.out; omega) hd)
      have HF := Lib.hid (yes_r (b := true) HR.out ⟨fun _ => HC.out, fun _ => rfl⟩)
      clear htm
      go_wp2_with fail
      go_ret
      exact ⟨ret_bool HF.out, HK.out.trans HR2.out⟩

theorem right_split (V : List Int) (C : List (Int × Int)) : RightC V C ↔ VecR V ∧ ∀ j d, C[j]? = some d → DotOk V C j d :=
  ⟨fun h => ⟨⟨h.vec, h.last⟩, fun _ _ hd => h.ok hd⟩, fun ⟨h1, h2⟩ => right_of (fun i x hx => ⟨(h1.1.bd x (List.mem_of_getElem? hx)).1, (h1.1.bd x (List.mem_of_getElem? hx)).2, fun hl => by
    have := h1.2 i hl.symm
    rwa [List.getD_eq_getElem?_getD, hx] at this⟩) h2 h1.1.len⟩
open Classical in
set_option maxRecDepth 100000 in
set_option maxHeartbeats 1000000 in
theorem gright_any (A : Option Addr) (n c : Nat) (V : List Int) (B : Option Addr) (m k : Nat) (C : List (Int × Int)) (w : World) (h : Il w A n c V) (hd : Dl w B m k C) (r : Bool) (hr : r = true ↔ RightC V C) :
    Calls Try.prog 8 #[.agg #[.slice A n c, .slice B m k]] w fun e w' => e = .returned (.bool r) ∧ Kept w w' := by
  have hK := (Kept.refl w).alloc #[.slice A n c, .slice B m k] 25
  obtain ⟨u, hu⟩ : ∃ u : Bool, u = true ↔ VecR V := ⟨decide (VecR V), by rw [decide_eq_true_iff]⟩
  obtain ⟨z, hz⟩ : ∃ z : Bool, z = true ↔ ∀ j d, C[j]? = some d → DotOk V C j d := ⟨decide (∀ j d, C[j]? = some d → DotOk V C j d), by rw [decide_eq_true_iff]⟩
  have AV := Lib.hid (rvec_any A n c V _ (h.kept hK) u hu)
  have AC := Lib.hid (rcloud_any A n c V B m k C _ (h.kept hK) (hd.kept hK) z hz)
  have e0 := Kept.box0 (Kept.refl (w.alloc (.cells #[.slice A n c, .slice B m k] 25)))
  have e1 := Kept.box1 (Kept.refl (w.alloc (.cells #[.slice A n c, .slice B m k] 25)))
  have HK := Lib.hid hK
  have hrr : r = (u && z) := by rw [Bool.eq_iff_iff, hr, right_split, Bool.and_eq_true, hu, hz]
  clear h hd hK hr hu hz
  cases u with
  | false =>
    have HR := Lib.hid (show false = r by rw [hrr]; rfl)
    clear hrr
    go_enter Try.func8, Try.ntmps8
    go_wp2_with fail
    go_at_call 38
    refine AV.out.mono ?_
    rintro e w1 ⟨rfl, rfl⟩
    go_wp2_with fail
    go_ret
    exact ⟨ret_bool HR.out, HK.out⟩
  | true =>
    have HR := Lib.hid (show z = r by rw [hrr]; rfl)
    clear hrr
    go_enter Try.func8, Try.ntmps8
    go_wp2_with fail
    go_at_call 38
    refine AV.out.mono ?_
    rintro e w1 ⟨rfl, rfl⟩
    go_wp2_with fail
    go_at_call 39
    refine AC.out.mono ?_
    rintro e w2 ⟨rfl, hk2⟩
    go_wp2_with fail
    go_ret
    exact ⟨ret_bool HR.out, HK.out.trans hk2⟩
end Go.Proofs.Ytgofecnpmohmgaa
