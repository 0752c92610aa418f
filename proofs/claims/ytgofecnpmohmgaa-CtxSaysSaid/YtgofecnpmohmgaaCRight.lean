/-
  What is proved: the document's Right of layer 6, called with any set that lies in memory, tells whether it is right (P6.1); the world has new blocks at most.
-/
import Derived.Test.YtgofecnpmohmgaaCAt
import Derived.Test.YtgofecnpmohmgaaRDWith
namespace Go.Proofs.Ytgofecnpmohmgaa
open Go.RowKit

/-- What is asked of the j-th dot. -/
def DotOk (V : List Int) (C : List (Int × Int)) (j : Nat) (d : Int × Int) : Prop := rightD d = true ∧ atV V d.1 < d.2 - 1 ∧ ∀ i e, j = i + 1 → C[i]? = some e → LtD e d
theorem right_of {V : List Int} {C : List (Int × Int)} (hb : ∀ i x, V[i]? = some x → 0 ≤ x ∧ x ≤ 1073741824 ∧ (i + 1 = V.length → x ≠ 0)) (hc : ∀ j d, C[j]? = some d → DotOk V C j d) (hl : V.length ≤ 64) : RightC V C := by
  have hrise : ∀ m, m ≤ C.length → Rise (C.take m) := by
    intro m
    induction m with
    | zero => intro _; rw [List.take_zero]; exact rise_nil
    | succ m ih =>
      intro hm
      have h1 := ih (by omega)
      have hd := List.getElem?_eq_getElem (show m < C.length by omega)
      rw [List.take_add_one, hd]
      unfold Rise
      rw [List.pairwise_append]
      refine ⟨h1, by simp, fun x hx y hy => ?_⟩
      obtain rfl : y = C[m] := by simpa using hy
      have hok := (hc m _ hd).2.2
      cases m with
      | zero => rw [List.take_zero] at hx; cases hx
      | succ i =>
        have he := List.getElem?_eq_getElem (show i < C.length by omega)
        have hlt := hok i _ rfl he
        obtain ⟨q, hq⟩ := List.getElem?_of_mem hx
        have hql := (List.getElem?_eq_some_iff.1 hq).1
        rw [List.length_take] at hql
        rcases Nat.lt_or_ge q i with h | h
        · have hi : (C.take (i + 1))[i]? = some C[i] := by rw [List.getElem?_take, if_pos (by omega)]; exact he
          exact (rise_get h1 hq hi h).trans hlt
        · obtain rfl : q = i := by omega
          rw [List.getElem?_take, if_pos (by omega), he] at hq
          obtain rfl := Option.some.inj hq
          exact hlt
  refine ⟨⟨hl, fun x hx => ?_⟩, fun k hk => ?_, ?_, fun d hd => ?_, fun d hd => ?_⟩
  · obtain ⟨i, hi⟩ := List.getElem?_of_mem hx
    exact ⟨(hb i x hi).1, (hb i x hi).2.1⟩
  · have hi := List.getElem?_eq_getElem (show k < V.length by omega)
    rw [List.getD_eq_getElem?_getD, hi]
    exact (hb k _ hi).2.2 hk.symm
  · have := hrise C.length (Nat.le_refl _)
    rwa [List.take_length] at this
  · obtain ⟨j, hj⟩ := List.getElem?_of_mem hd
    exact (hc j d hj).1
  · obtain ⟨j, hj⟩ := List.getElem?_of_mem hd
    exact (hc j d hj).2.1
theorem RightC.ok {V : List Int} {C : List (Int × Int)} (h : RightC V C) {j : Nat} {d : Int × Int} (hd : C[j]? = some d) : DotOk V C j d :=
  ⟨h.right d (List.mem_of_getElem? hd), h.apart d (List.mem_of_getElem? hd), fun i e hj he => rise_get h.rise he hd (by omega)⟩
theorem no_r {r : Bool} {P : Prop} (hr : r = true ↔ P) (h : ¬ P) : false = r := by
  cases r with
  | true => exact absurd (hr.1 rfl) h
  | false => rfl
theorem yes_r {r b : Bool} {P : Prop} (hr : r = true ↔ P) (h : b = true ↔ P) : b = r := by
  rw [Bool.eq_iff_iff, h, hr]

set_option maxRecDepth 100000 in
set_option maxHeartbeats 4000000 in
theorem rrightC_any (A : Option Addr) (n c : Nat) (V : List Int) (B : Option Addr) (m k : Nat) (C : List (Int × Int)) (w : World) (h : Il w A n c V) (hd : Dl w B m k C) (r : Bool) (hr : r = true ↔ RightC V C) :
    Calls Try.prog 9 #[.agg #[.slice A n c, .slice B m k]] w fun e w' => e = .returned (.bool r) ∧ Kept w w' := by
  have hcap := h.cap.1; have hcap2 := h.cap.2; have hdap := hd.cap.1; have hdap2 := hd.cap.2
  have HN := Lib.hid h.1; have HM := Lib.hid hd.1
  have HI := Lib.hid h; have HD := Lib.hid hd
  have HR := Lib.hid hr
  have HK := Lib.hid ((Kept.refl w).alloc #[.slice A n c, .slice B m k] 25)
  clear h hd hr
  go_enter Try.func9, Try.ntmps9
  go_wp2_with fail
  go_loopw [10] (fun i wr => ∃ t : Nat, t ≤ n ∧ i = .int .i64 t ∧ Kept (w.alloc (.cells #[.slice A n c, .slice B m k] 25)) wr ∧ ∀ i x, i < t → V[i]? = some x → 0 ≤ x ∧ x ≤ 1073741824 ∧ (i + 1 = V.length → x ≠ 0)) (fun i _ => n - (intOf i).toNat)
  case atStart => exact ⟨0, Nat.zero_le _, rfl, Kept.refl _, fun i x hi => absurd hi (by omega)⟩
  case round =>
    obtain ⟨t, ht, rfl, hkr, hall⟩ := hrel
    have HR1 := Lib.hid hkr
    have HA := Lib.hid hall
    have e0 := hkr.box0
    have e1 := hkr.box1
    clear hkr hall
    by_cases hlt : t < n
    · obtain ⟨g, o, x, rfl, hx, g1⟩ := (HI.out.kept (HK.out.trans HR1.out)).get hlt
      have HX := Lib.hid hx
      clear hx
      have hsub : IntKind.i64.wrap ((n : Int) - 1) = (n : Int) - 1 := by rw [IntWalk.i64_in _ (by omega)]
      by_cases h1 : x < 0
      · have d1 : decide (x < 0) = true := by simpa using h1
        have HF := Lib.hid (no_r HR.out fun hh => by have := (hh.vec.bd x (List.mem_of_getElem? HX.out)).1; omega)
        clear h1
        go_wp2_with fail
        go_ret
        exact ⟨ret_bool HF.out, HK.out.trans HR1.out⟩
      by_cases h2 : 1073741824 < x
      · have d1 : decide (x < 0) = false := by simpa using h1
        have d2 : decide (1073741824 < x) = true := by simpa using h2
        have HF := Lib.hid (no_r HR.out fun hh => by have := (hh.vec.bd x (List.mem_of_getElem? HX.out)).2; omega)
        clear h1 h2
        go_wp2_with fail
        go_ret
        exact ⟨ret_bool HF.out, HK.out.trans HR1.out⟩
      have d1 : decide (x < 0) = false := by simpa using h1
      have d2 : decide (1073741824 < x) = false := by simpa using h2
      by_cases h3 : t + 1 = n
      · have d3 : ((t : Int) == (n : Int) - 1) = true := by rw [beq_iff_eq]; omega
        by_cases h4 : x = 0
        · have d4 : (x == 0) = true := by simpa using h4
          have HF := Lib.hid (no_r HR.out fun hh => hh.last t (by have := HN.out; omega) (by rw [List.getD_eq_getElem?_getD, HX.out, h4]; rfl))
          clear h1 h2 h3 h4
          go_wp2_with fail
          go_ret
          exact ⟨ret_bool HF.out, HK.out.trans HR1.out⟩
        · have d4 : (x == 0) = false := by simpa using h4
          have HN2 := Lib.hid (show ∀ i y, i < t + 1 → V[i]? = some y → 0 ≤ y ∧ y ≤ 1073741824 ∧ (i + 1 = V.length → y ≠ 0) from fun i y hi hy => by
            rcases Nat.lt_or_ge i t with h | h
            · exact HA.out i y h hy
            · obtain rfl : i = t := by omega
              obtain rfl := Option.some.inj (hy.symm.trans HX.out)
              exact ⟨by omega, by omega, fun _ => h4⟩)
          clear h1 h2 h3 h4 e0 e1
          have e0 := HR1.out.box0
          go_wp2_with fail
          go_roundw
          case rel => exact ⟨t + 1, hlt, by go_num, HR1.out, HN2.out⟩
          case measure => simp [intOf]; omega
      · have d3 : ((t : Int) == (n : Int) - 1) = false := by rw [beq_eq_false_iff_ne]; omega
        have HN2 := Lib.hid (show ∀ i y, i < t + 1 → V[i]? = some y → 0 ≤ y ∧ y ≤ 1073741824 ∧ (i + 1 = V.length → y ≠ 0) from fun i y hi hy => by
          rcases Nat.lt_or_ge i t with h | h
          · exact HA.out i y h hy
          · obtain rfl : i = t := by omega
            obtain rfl := Option.some.inj (hy.symm.trans HX.out)
            exact ⟨by omega, by omega, fun hl => absurd hl (by have := HN.out; omega)⟩)
        clear h1 h2 h3 e0 e1
        have e0 := HR1.out.box0
        go_wp2_with fail
        go_roundw
        case rel => exact ⟨t + 1, hlt, by go_num, HR1.out, HN2.out⟩
        case measure => simp [intOf]; omega
    · have htn : t = n := by omega
      have HB := Lib.hid (show ∀ i x, V[i]? = some x → 0 ≤ x ∧ x ≤ 1073741824 ∧ (i + 1 = V.length → x ≠ 0) from fun i x hx => HA.out i x (by have := (List.getElem?_eq_some_iff.1 hx).1; have := HN.out; omega) hx)
      clear htn
      go_wp2_with fail
      go_loopw [37] (fun i wr => ∃ t : Nat, t ≤ m ∧ i = .int .i64 t ∧ Kept (w.alloc (.cells #[.slice A n c, .slice B m k] 25)) wr ∧ ∀ j d, j < t → C[j]? = some d → DotOk V C j d) (fun i _ => m - (intOf i).toNat)
      case atStart => exact ⟨0, Nat.zero_le _, rfl, HR1.out, fun i x hi => absurd hi (by omega)⟩
      case round =>
        clear hlt ht e0 e1
        obtain ⟨t, ht, rfl, hkr, hall⟩ := hrel
        have HR2 := Lib.hid hkr
        have HA2 := Lib.hid hall
        clear hkr hall
        by_cases hlt : t < m
        · obtain ⟨g, o, ⟨y1, y2⟩, hA, hy, g1, g2⟩ := (HD.out.kept (HK.out.trans HR2.out)).get hlt
          simp only at g1 g2
          have HY := Lib.hid hy
          clear hy
          have e0 := KExt.cell ((HR2.out.alloc #[.int .i64 y1, .int .i64 y2] 36).box0)
          have e1 := KExt.cell ((HR2.out.alloc #[.int .i64 y1, .int .i64 y2] 36).box1)
          have d0 := KExt.cell (Kept.box0 (Kept.refl (wr.alloc (.cells #[.int .i64 y1, .int .i64 y2] 36))))
          have d1 := KExt.cell (Kept.box1 (Kept.refl (wr.alloc (.cells #[.int .i64 y1, .int .i64 y2] 36))))
          obtain ⟨q, hq⟩ : ∃ q, rightD (y1, y2) = q := ⟨_, rfl⟩
          have AR := Lib.hid (fun w => rrightD_c (y1, y2) q hq w)
          obtain ⟨a, ha⟩ : ∃ a, atV V y1 = a := ⟨_, rfl⟩
          have AA := Lib.hid (fun w h => at_c A n c V B m k y1 a ha w h)
          have HI2 := Lib.hid (HI.out.kept (HK.out.trans (HR2.out.alloc #[.int .i64 y1, .int .i64 y2] 36)))
          have HQ := Lib.hid hq
          have HAV := Lib.hid ha
          clear hq ha
          cases q with
          | false =>
            have AC := AR
            have HF := Lib.hid (no_r HR.out fun hh => by have := hh.right _ (List.mem_of_getElem? HY.out); rw [HQ.out] at this; cases this)
            subst hA
            go_wp2_with fail
            refine region_kept _ (by kernel_rfl) (by kernel_rfl) (Kept.refl _) ?_
            repeat (go_big_quiet_step ((first
              | (go_at_call 40; (with_reducible exact KExt.callsK (AR.out _)))
              | (go_at_call 41; (with_reducible exact KExt.callsK (AA.out _ (HI2.out.kept (KExt.g _)))))
              | (go_at_call 42; (with_reducible exact KExt.callsK (AC.out _)))
              | fail)))
            refine wpQuiet_nil ?_
            intro G

            clear e0 e1 d0 d1 g1 g2
            go_wp2_with fail
            go_ret
            exact ⟨ret_bool HF.out, HK.out.trans (HR2.out.trans (((Kept.refl _).alloc _ _).trans G.g))⟩
          | true =>
            obtain ⟨b1, b2, b3, b4⟩ := rightD_bd HQ.out
            simp only at b1 b2 b3 b4
            have hsub : IntKind.i64.wrap (y2 - 1) = y2 - 1 := by rw [IntWalk.i64_in _ (by omega)]
            clear b1 b2
            by_cases h5 : y2 - 1 ≤ a
            · have f1 : decide (y2 - 1 ≤ a) = true := by simpa using h5
              have AC := AR
              have HF := Lib.hid (no_r HR.out fun hh => by have := hh.apart _ (List.mem_of_getElem? HY.out); simp only at this; rw [HAV.out] at this; omega)
              clear h5 b3 b4
              subst hA
              go_wp2_with fail
              refine region_kept _ (by kernel_rfl) (by kernel_rfl) (Kept.refl _) ?_
              repeat (go_big_quiet_step ((first
                | (go_at_call 40; (with_reducible exact KExt.callsK (AR.out _)))
                | (go_at_call 41; (with_reducible exact KExt.callsK (AA.out _ (HI2.out.kept (KExt.g _)))))
                | (go_at_call 42; (with_reducible exact KExt.callsK (AC.out _)))
                | fail)))
              refine wpQuiet_nil ?_
              intro G

              clear e0 e1 d0 d1 g1 g2
              go_wp2_with fail
              go_ret
              exact ⟨ret_bool HF.out, HK.out.trans (HR2.out.trans (((Kept.refl _).alloc _ _).trans G.g))⟩
            · have f1 : decide (y2 - 1 ≤ a) = false := by simpa using h5
              rcases Nat.eq_zero_or_pos t with h6 | h6
              · have f2 : decide ((0 : Int) < t) = false := by rw [decide_eq_false_iff_not]; omega
                have f3 : decide (0 < t) = false := by rw [decide_eq_false_iff_not]; omega
                have AC := AR
                have HN2 := Lib.hid (show ∀ j d, j < t + 1 → C[j]? = some d → DotOk V C j d from fun j d hj hd => by
                  obtain rfl : j = t := by omega
                  obtain rfl := Option.some.inj (hd.symm.trans HY.out)
                  exact ⟨HQ.out, by simp only; rw [HAV.out]; omega, fun i e hi => by omega⟩)
                clear h5 h6 b3 b4
                subst hA
                go_wp2_with fail
                refine region_kept _ (by kernel_rfl) (by kernel_rfl) (Kept.refl _) ?_
                repeat (go_big_quiet_step ((first
                  | (go_at_call 40; (with_reducible exact KExt.callsK (AR.out _)))
                  | (go_at_call 41; (with_reducible exact KExt.callsK (AA.out _ (HI2.out.kept (KExt.g _)))))
                  | (go_at_call 42; (with_reducible exact KExt.callsK (AC.out _)))
                  | fail)))
                refine wpQuiet_nil ?_
                intro G

                clear e0 e1 d0 d1 g1 g2
                go_wp2_with fail
                go_roundw
                case rel => exact ⟨t + 1, hlt, by go_num, HR2.out.trans (((Kept.refl _).alloc _ _).trans G.g), HN2.out⟩
                case measure => simp [intOf]; omega
              · have f2 : decide ((0 : Int) < t) = true := by rw [decide_eq_true_iff]; omega
                have f3 : decide (0 < t) = true := by rw [decide_eq_true_iff]; omega
                obtain ⟨j, hkj⟩ : ∃ j, t = j + 1 := ⟨t - 1, by omega⟩
                have hsub2 : IntKind.i64.wrap ((t : Int) - 1) = (j : Int) := by rw [IntWalk.i64_in _ (by omega)]; omega
                have hjm : j < m := by omega
                obtain ⟨g', o', ⟨z1, z2⟩, hA', hz, c3, c4⟩ := (HD.out.kept (HK.out.trans (HR2.out.alloc #[.int .i64 y1, .int .i64 y2] 36))).get hjm
                obtain ⟨rfl, rfl⟩ : g = g' ∧ o = o' := by simpa using hA.symm.trans hA'
                simp only at c3 c4
                have d3 := KExt.cell c3
                have d4 := KExt.cell c4
                have HZ := Lib.hid hz
                have HKJ := Lib.hid hkj
                obtain ⟨z, hzz⟩ : ∃ z, cmpD (z1, z2) (y1, y2) = z := ⟨_, rfl⟩
                have AC := Lib.hid (fun w => rcmp_c (z1, z2) (y1, y2) z hzz w)
                clear hz c3 c4 hA'
                by_cases h7 : 0 ≤ z
                · have f4 : decide (0 ≤ z) = true := by simpa using h7
                  have HF := Lib.hid (no_r HR.out fun hh => by
                    have := (cmpD_lt (z1, z2) (y1, y2)).2 ((hh.ok HY.out).2.2 j _ HKJ.out HZ.out)
                    omega)
                  clear h5 h6 h7 b3 b4 hzz hkj
                  subst hA
                  go_wp2_with fail
                  refine region_kept _ (by kernel_rfl) (by kernel_rfl) (Kept.refl _) ?_
                  repeat (go_big_quiet_step ((first
                    | (go_at_call 40; (with_reducible exact KExt.callsK (AR.out _)))
                    | (go_at_call 41; (with_reducible exact KExt.callsK (AA.out _ (HI2.out.kept (KExt.g _)))))
                    | (go_at_call 42; (with_reducible exact KExt.callsK (AC.out _)))
                    | fail)))
                  refine wpQuiet_nil ?_
                  intro G

                  clear e0 e1 d0 d1 g1 g2
                  go_wp2_with fail
                  go_ret
                  exact ⟨ret_bool HF.out, HK.out.trans (HR2.out.trans (((Kept.refl _).alloc _ _).trans G.g))⟩
                · have f4 : decide (0 ≤ z) = false := by simpa using h7
                  have HN2 := Lib.hid (show ∀ j d, j < t + 1 → C[j]? = some d → DotOk V C j d from fun j' d hj hd => by
                    rcases Nat.lt_or_ge j' t with h | h
                    · exact HA2.out j' d h hd
                    · obtain rfl : j' = t := by omega
                      obtain rfl := Option.some.inj (hd.symm.trans HY.out)
                      refine ⟨HQ.out, by simp only; rw [HAV.out]; omega, fun i e hi he => ?_⟩
                      obtain rfl : i = j := by omega
                      obtain rfl := Option.some.inj (he.symm.trans HZ.out)
                      exact (cmpD_lt _ _).1 (by rw [hzz]; omega))
                  clear h5 h6 h7 b3 b4 hzz hkj
                  subst hA
                  go_wp2_with fail
                  refine region_kept _ (by kernel_rfl) (by kernel_rfl) (Kept.refl _) ?_
                  repeat (go_big_quiet_step ((first
                    | (go_at_call 40; (with_reducible exact KExt.callsK (AR.out _)))
                    | (go_at_call 41; (with_reducible exact KExt.callsK (AA.out _ (HI2.out.kept (KExt.g _)))))
                    | (go_at_call 42; (with_reducible exact KExt.callsK (AC.out _)))
                    | fail)))
                  refine wpQuiet_nil ?_
                  intro G

                  clear e0 e1 d0 d1 g1 g2
                  go_wp2_with fail
                  go_roundw
                  case rel => exact ⟨t + 1, hlt, by go_num, HR2.out.trans (((Kept.refl _).alloc _ _).trans G.g), HN2.out⟩
                  case measure => simp [intOf]; omega
        · have htm : t = m := by omega
          have HC := Lib.hid (show ∀ j d, C[j]? = some d → DotOk V C j d from fun j d hd => HA2.out j d (by have := (List.getElem?_eq_some_iff.1 hd).1; have := HM.out; omega) hd)
          have e0 := HR2.out.box0
          have e1 := HR2.out.box1
          have HF := Lib.hid (yes_r (b := decide (n ≤ 64)) HR.out ⟨fun hb => right_of HB.out HC.out (by have := of_decide_eq_true hb; have := HN.out; omega), fun hh => by rw [decide_eq_true_iff]; have := hh.vec.len; have := HN.out; omega⟩)
          clear htm
          by_cases h64 : n ≤ 64
          · have f1 : decide ((n : Int) ≤ 64) = true := by rw [decide_eq_true_iff]; omega
            have f2 : decide (n ≤ 64) = true := by rw [decide_eq_true_iff]; omega
            rw [f2] at HF
            clear h64
            go_wp2_with fail
            go_ret
            exact ⟨ret_bool HF.out, HK.out.trans HR2.out⟩
          · have f1 : decide ((n : Int) ≤ 64) = false := by rw [decide_eq_false_iff_not]; omega
            have f2 : decide (n ≤ 64) = false := by rw [decide_eq_false_iff_not]; omega
            rw [f2] at HF
            clear h64
            go_wp2_with fail
            go_ret
            exact ⟨ret_bool HF.out, HK.out.trans HR2.out⟩
end Go.Proofs.Ytgofecnpmohmgaa
