/-
  What is proved: the document's Right of layer 13 (P13.4), called with any table of bounded texts and two kinds, tells whether it is right; the world has new blocks at most.
-/
import Derived.Test.YtjcnjmlgedmmoaaDoorM11
namespace Go.Proofs.YtjcnjmlgedmmoaaDoor
open Go.RowKit
set_option linter.unusedVariables false

theorem zero_t {x : Va} (h : x = .zero) : x.t.toList = [] := by rw [h]; show (⟨#[]⟩ : ByteArray).toList = []; rw [Lib.toList_data]
theorem va_nz {x : Va} (h : x ≠ .zero) : (x.k == 0) = false ∨ ((x.k == 0) = true ∧ (x.n == 0) = false) ∨ ((x.k == 0) = true ∧ (x.n == 0) = true ∧ ¬ x.t.toList = []) := by
  rcases va_ne h with h0 | ⟨h0, h1⟩ | ⟨h0, h1, h2⟩
  · exact .inl h0
  · exact .inr (.inl ⟨h0, h1⟩)
  · refine .inr (.inr ⟨h0, h1, fun e => ?_⟩)
    rw [e, ← zero_t (x := .zero) rfl] at h2
    simp at h2
theorem RightU.kinds {T : Tb} {a b : Int} (h : RightU T a b) : KindsP T.L a b := ⟨⟨h.ok, h.once⟩, h.few⟩
theorem first_to {L : List Pa} {v : Va} {y : Pa} {z : Bool} (h : firstR L v true = (y, z)) : z = false ↔ fstT L v = none := by
  rw [firstR_T] at h
  split at h <;> rename_i e <;> obtain ⟨_, rfl⟩ := Prod.mk.inj h <;> simp [e]
theorem rbackK (A : Option Addr) (n c : Nat) (T : Tb) (v : Va) (R : Va) (hR : backT T v = R) (w : World) (h : Pal w A n c T.L) :
    Calls Tryd.prog 33 #[.agg #[.slice A n c, .bool T.keep, .int .i64 T.d.k, .int .i64 T.d.n, .string T.d.t, .int .i64 T.b.k, .int .i64 T.b.n, .string T.b.t, .bool T.tu], .agg #[.int .i64 v.k, .int .i64 v.n, .string v.t]] w fun e w' => e = .returned (.agg #[.int .i64 R.k, .int .i64 R.n, .string R.t]) ∧ Kept w w' := rback_any A n c T v w h R hR
theorem rforthK (A : Option Addr) (n c : Nat) (T : Tb) (v : Va) (R : Va) (hR : forthT T v = R) (w : World) (h : Pal w A n c T.L) :
    Calls Tryd.prog 34 #[.agg #[.slice A n c, .bool T.keep, .int .i64 T.d.k, .int .i64 T.d.n, .string T.d.t, .int .i64 T.b.k, .int .i64 T.b.n, .string T.b.t, .bool T.tu], .agg #[.int .i64 v.k, .int .i64 v.n, .string v.t]] w fun e w' => e = .returned (.agg #[.int .i64 R.k, .int .i64 R.n, .string R.t]) ∧ Kept w w' := rforth_any A n c T v w h R hR
set_option maxRecDepth 100000 in
set_option maxHeartbeats 8000000 in
theorem rtr_any (A : Option Addr) (n c : Nat) (T : Tb) (a b : Int) (w : World) (h : Pal w A n c T.L) (hz : SzP T.L) (hd : T.d.t.size ≤ 1099511627776) (hb : T.b.t.size ≤ 1099511627776) (r : Bool) (hr : r = true ↔ RightT T a b) :
    Calls Tryd.prog 19 #[.agg #[.slice A n c, .bool T.keep, .int .i64 T.d.k, .int .i64 T.d.n, .string T.d.t, .int .i64 T.b.k, .int .i64 T.b.n, .string T.b.t, .bool T.tu], .int .i64 a, .int .i64 b] w fun e w' => e = .returned (.bool r) ∧ Kept w w' := by
  have hk := (Kept.refl w).alloc #[.slice A n c, .bool T.keep, .int .i64 T.d.k, .int .i64 T.d.n, .string T.d.t, .int .i64 T.b.k, .int .i64 T.b.n, .string T.b.t, .bool T.tu] 26
  have hcap := h.cap.1; have hcap2 := h.cap.2
  have HNL := Lib.hid h.1; have HSZ := Lib.hid hz; have HSD := Lib.hid hd; have HSB := Lib.hid hb
  have HT := Lib.hid (TabB.new w A n c T 26)
  have HH := Lib.hid (h.kept hk)
  obtain ⟨U, hU⟩ : ∃ U, w.alloc (.cells #[.slice A n c, .bool T.keep, .int .i64 T.d.k, .int .i64 T.d.n, .string T.d.t, .int .i64 T.b.k, .int .i64 T.b.n, .string T.b.t, .bool T.tu] 26) = U := ⟨_, rfl⟩
  rw [hU] at hk HT HH
  have HK := Lib.hid hk; have HUU := Lib.hid hU
  have t8 := HT.out.c8
  clear h hz hd hb hk hU
  unfold RightT at hr
  rcases Bool.eq_false_or_eq_true T.tu with htu | htu
  · rw [htu, if_pos rfl] at hr
    obtain ⟨k, hk⟩ := bool_of (KindsP T.L b a)
    have AK := Lib.hid (fun w h => rkinds_any A n c T b a w h HSZ.out k hk)
    have HKD := Lib.hid hk
    have HR := Lib.hid hr
    clear hk hr
    have t0 := HT.out.c0; have t1 := HT.out.c1; have t2 := HT.out.c2; have t3 := HT.out.c3; have t4 := HT.out.c4; have t5 := HT.out.c5; have t6 := HT.out.c6; have t7 := HT.out.c7; 
    rw [htu] at t8 AK HUU ⊢
    have HTU := Lib.hid htu
    clear htu
    go_enter Tryd.func19, Tryd.ntmps19
    go_wp2_with fail
    rw [HUU.out]
    go_wp2_with fail
    go_at_call 40
    refine (AK.out _ HH.out).mono ?_
    rintro e w1 ⟨rfl, hk1⟩
    replace HK := Lib.hid (HK.out.trans hk1); replace HT := Lib.hid (HT.out.kept hk1); replace HH := Lib.hid (HH.out.kept hk1)
    clear t0 t1 t2 t3 t4 t5 t6 t7 t8
    clear hk1
    have t0 := HT.out.c0; have t1 := HT.out.c1; have t2 := HT.out.c2; have t3 := HT.out.c3; have t4 := HT.out.c4; have t5 := HT.out.c5; have t6 := HT.out.c6; have t7 := HT.out.c7; have t8 := HT.out.c8
    rw [HTU.out] at t8
    cases k with
    | false =>
      have HF := Lib.hid (show false = r by rw [eq_comm, ← Bool.not_eq_true, HR.out]; exact fun k => by have := HKD.out.2 k.kinds; cases this)
      go_wp2_with fail
      go_ret
      exact ⟨ret_bool HF.out, HK.out⟩
    | true =>
      have HKIN := Lib.hid (show KindsP T.L b a by simpa using HKD.out)
      by_cases h1 : b < 1
      · have HF := Lib.hid (show false = r by rw [eq_comm, ← Bool.not_eq_true, HR.out]; exact fun k => by have := k.ka; omega)
        have f11 : decide (b < (1 : Int)) = true := decide_eq_true (by omega)
        clear h1
        go_wp2_with fail
        go_ret
        exact ⟨ret_bool HF.out, HK.out⟩
      · by_cases h2 : 3 < b
        · have HF := Lib.hid (show false = r by rw [eq_comm, ← Bool.not_eq_true, HR.out]; exact fun k => by have := k.ka; omega)
          have f11 : decide (b < (1 : Int)) = false := decide_eq_false (by omega)
          have f21 : decide ((3 : Int) < b) = true := decide_eq_true (by omega)
          have f2b1 : decide (b > (3 : Int)) = true := decide_eq_true (by omega)
          clear h1 h2
          go_wp2_with fail
          go_ret
          exact ⟨ret_bool HF.out, HK.out⟩
        · by_cases h3 : a < 1
          · have HF := Lib.hid (show false = r by rw [eq_comm, ← Bool.not_eq_true, HR.out]; exact fun k => by have := k.kb; omega)
            have f11 : decide (b < (1 : Int)) = false := decide_eq_false (by omega)
            have f21 : decide ((3 : Int) < b) = false := decide_eq_false (by omega)
            have f31 : decide (a < (1 : Int)) = true := decide_eq_true (by omega)
            clear h1 h2 h3
            go_wp2_with fail
            go_ret
            exact ⟨ret_bool HF.out, HK.out⟩
          · by_cases h4 : 3 < a
            · have HF := Lib.hid (show false = r by rw [eq_comm, ← Bool.not_eq_true, HR.out]; exact fun k => by have := k.kb; omega)
              have f11 : decide (b < (1 : Int)) = false := decide_eq_false (by omega)
              have f21 : decide ((3 : Int) < b) = false := decide_eq_false (by omega)
              have f31 : decide (a < (1 : Int)) = false := decide_eq_false (by omega)
              have f41 : decide ((3 : Int) < a) = true := decide_eq_true (by omega)
              clear h1 h2 h3 h4
              go_wp2_with fail
              go_ret
              exact ⟨ret_bool HF.out, HK.out⟩
            · have f11 : decide (b < (1 : Int)) = false := decide_eq_false (by omega)
              have f21 : decide ((3 : Int) < b) = false := decide_eq_false (by omega)
              have f31 : decide (a < (1 : Int)) = false := decide_eq_false (by omega)
              have f41 : decide ((3 : Int) < a) = false := decide_eq_false (by omega)
              have HRA := Lib.hid (show 1 ≤ b ∧ b ≤ 3 by omega); have HRB := Lib.hid (show 1 ≤ a ∧ a ≤ 3 by omega)
              clear h1 h2 h3 h4
              rcases Bool.eq_false_or_eq_true T.keep with hkp | hkp
              · rw [hkp] at t1
                have HKP := Lib.hid hkp
                clear hkp
                go_wp2_with fail
                clear t0 t1 t2 t3 t4 t5 t6 t7 t8 f11 f21 f31 f41
                obtain ⟨V, hV⟩ : ∃ V, w1 = V := ⟨_, rfl⟩
                rw [hV] at HK HT HH ⊢
                clear hV
                go_loopw [86] (fun i wr => ∃ t : Nat, t ≤ n ∧ i = .int .i64 t ∧ Kept V wr ∧ ∀ p ∈ T.L.take t, fstT T.L p.f = none → backT T p.t = p.f) (fun i _ => n - (intOf i).toNat)
                case atStart => exact ⟨0, Nat.zero_le _, rfl, Kept.refl _, fun p hp => by simp at hp⟩
                case round =>
                  obtain ⟨t, ht, rfl, hkr, hall⟩ := hrel
                  have HKR := Lib.hid hkr; have HA := Lib.hid hall
                  clear hkr hall
                  by_cases hlt : t < n
                  · obtain ⟨g, o, x, rfl, hx, EX⟩ := (HH.out.kept HKR.out).get hlt
                    have x0 := EX.c0; have x1 := EX.c1; have x2 := EX.c2; have x3 := EX.c3; have x4 := EX.c4; have x5 := EX.c5
                    have HXX := Lib.hid hx
                    have hka := (Kept.refl wr).alloc #[.int .i64 x.f.k, .int .i64 x.f.n, .string x.f.t, .int .i64 x.t.k, .int .i64 x.t.n, .string x.t.t] 44
                    have HE := Lib.hid (PaB.new wr x 44)
                    have t0 := (HT.out.kept (HKR.out.trans hka)).c0
                    obtain ⟨W1, hW1⟩ : ∃ W1, wr.alloc (.cells #[.int .i64 x.f.k, .int .i64 x.f.n, .string x.f.t, .int .i64 x.t.k, .int .i64 x.t.n, .string x.t.t] 44) = W1 := ⟨_, rfl⟩
                    have HKA := Lib.hid (HKR.out.trans hka)
                    rw [hW1] at HKA HE
                    have HW1 := Lib.hid hW1
                    clear EX hx hka hW1
                    obtain ⟨y, z, hyz⟩ : ∃ y z, firstR T.L x.f true = (y, z) := ⟨_, _, rfl⟩
                    have AF := Lib.hid (fun w h => rfirst_any (some ⟨g, o, none⟩) n c T.L x.f true w h y z hyz)
                    obtain ⟨v, hv⟩ : ∃ v, backT T x.t = v := ⟨_, rfl⟩
                    have AB := Lib.hid (fun w h => rbackK (some ⟨g, o, none⟩) n c T x.t v hv w h)
                    have HYZ := Lib.hid (first_to hyz); have HV := Lib.hid hv
                    rw [HKP.out, HTU.out] at AB
                    clear hyz hv
                    have e0 := HE.out.c0; have e1 := HE.out.c1; have e2 := HE.out.c2
                    go_wp2_with fail
                    rw [HW1.out]
                    clear x0 x1 x2 x3 x4 x5
                    go_at_call 42
                    refine (AF.out _ (HH.out.kept HKA.out)).mono ?_
                    rintro e w2 ⟨rfl, hk2⟩
                    have hka := (Kept.refl w2).alloc #[.int .i64 y.f.k, .int .i64 y.f.n, .string y.f.t, .int .i64 y.t.k, .int .i64 y.t.n, .string y.t.t] 44
                    replace HKA := Lib.hid (HKA.out.trans (hk2.trans hka)); replace HE := Lib.hid (HE.out.kept (hk2.trans hka))
                    obtain ⟨W2, hW2⟩ : ∃ W2, w2.alloc (.cells #[.int .i64 y.f.k, .int .i64 y.f.n, .string y.f.t, .int .i64 y.t.k, .int .i64 y.t.n, .string y.t.t] 44) = W2 := ⟨_, rfl⟩
                    rw [hW2] at HKA HE
                    have HW2 := Lib.hid hW2
                    clear hk2 hka hW2 e0 e1 e2 t0
                    go_wp2_with fail
                    rw [HW2.out]
                    have HT2 := Lib.hid (HT.out.kept HKA.out); have HH2 := Lib.hid (HH.out.kept HKA.out)
                    have T0 := KExt.cell HT2.out.c0; have T1 := KExt.cell HT2.out.c1; have T2 := KExt.cell HT2.out.c2; have T3 := KExt.cell HT2.out.c3; have T4 := KExt.cell HT2.out.c4; have T5 := KExt.cell HT2.out.c5; have T6 := KExt.cell HT2.out.c6; have T7 := KExt.cell HT2.out.c7; have T8 := KExt.cell HT2.out.c8
                    rw [HKP.out] at T1
                    rw [HTU.out] at T8
                    have E0 := KExt.cell HE.out.c0; have E1 := KExt.cell HE.out.c1; have E2 := KExt.cell HE.out.c2; have E3 := KExt.cell HE.out.c3; have E4 := KExt.cell HE.out.c4; have E5 := KExt.cell HE.out.c5
                    cases z with
                    | true =>
                      have HN := Lib.hid (show ∀ p ∈ T.L.take (t + 1), fstT T.L p.f = none → backT T p.t = p.f from fun p hp => by
                        rw [List.take_add_one, HXX.out, Option.toList_some, List.mem_append, List.mem_singleton] at hp
                        rcases hp with hp | rfl
                        · exact HA.out p hp
                        · intro e; have := HYZ.out.2 e; cases this)
                      refine region_kept _ (by kernel_rfl) (by kernel_rfl) (Kept.refl _) ?_
                      repeat (go_big_quiet_step ((first | (go_at_call 33; (with_reducible exact KExt.callsK (AB.out _ (HH2.out.kept (KExt.g _))))) | fail)))
                      refine wpQuiet_nil ?_
                      intro G
                      clear T0 T1 T2 T3 T4 T5 T6 T7 T8 E0 E1 E2 E3 E4 E5
                      go_wp2_with fail
                      go_roundw
                      case rel => exact ⟨t + 1, hlt, by go_num, HKA.out.trans G.g, HN.out⟩
                      case measure => simp [intOf]; omega
                    | false =>
                      by_cases q : v = x.f
                      · have HN := Lib.hid (show ∀ p ∈ T.L.take (t + 1), fstT T.L p.f = none → backT T p.t = p.f from fun p hp => by
                          rw [List.take_add_one, HXX.out, Option.toList_some, List.mem_append, List.mem_singleton] at hp
                          rcases hp with hp | rfl
                          · exact HA.out p hp
                          · intro _; rw [HV.out, q])
                        obtain ⟨q0, q1, q2⟩ := va_eq q
                        clear q
                        refine region_kept _ (by kernel_rfl) (by kernel_rfl) (Kept.refl _) ?_
                        repeat (go_big_quiet_step ((first | (go_at_call 33; (with_reducible exact KExt.callsK (AB.out _ (HH2.out.kept (KExt.g _))))) | fail)))
                        refine wpQuiet_nil ?_
                        intro G
                        clear T0 T1 T2 T3 T4 T5 T6 T7 T8 E0 E1 E2 E3 E4 E5
                        go_wp2_with fail
                        go_roundw
                        case rel => exact ⟨t + 1, hlt, by go_num, HKA.out.trans G.g, HN.out⟩
                        case measure => simp [intOf]; omega
                      · have HF := Lib.hid (show false = r by
                          rw [eq_comm, ← Bool.not_eq_true, HR.out]
                          intro k
                          exact q (by rw [← HV.out]; exact (k.kp HKP.out).2.2.2 x (List.mem_of_getElem? HXX.out) (by simpa using HYZ.out)))
                        rcases va_ne q with q0 | ⟨q0, q1⟩ | ⟨q0, q1, q2⟩ <;> clear q
                        · refine region_kept _ (by kernel_rfl) (by kernel_rfl) (Kept.refl _) ?_
                          repeat (go_big_quiet_step ((first | (go_at_call 33; (with_reducible exact KExt.callsK (AB.out _ (HH2.out.kept (KExt.g _))))) | fail)))
                          refine wpQuiet_nil ?_
                          intro G
                          clear T0 T1 T2 T3 T4 T5 T6 T7 T8 E0 E1 E2 E3 E4 E5
                          go_wp2_with fail
                          go_ret
                          exact ⟨ret_bool HF.out, HK.out.trans (HKA.out.trans G.g)⟩
                        · refine region_kept _ (by kernel_rfl) (by kernel_rfl) (Kept.refl _) ?_
                          repeat (go_big_quiet_step ((first | (go_at_call 33; (with_reducible exact KExt.callsK (AB.out _ (HH2.out.kept (KExt.g _))))) | fail)))
                          refine wpQuiet_nil ?_
                          intro G
                          clear T0 T1 T2 T3 T4 T5 T6 T7 T8 E0 E1 E2 E3 E4 E5
                          go_wp2_with fail
                          go_ret
                          exact ⟨ret_bool HF.out, HK.out.trans (HKA.out.trans G.g)⟩
                        · refine region_kept _ (by kernel_rfl) (by kernel_rfl) (Kept.refl _) ?_
                          repeat (go_big_quiet_step ((first | (go_at_call 33; (with_reducible exact KExt.callsK (AB.out _ (HH2.out.kept (KExt.g _))))) | fail)))
                          refine wpQuiet_nil ?_
                          intro G
                          clear T0 T1 T2 T3 T4 T5 T6 T7 T8 E0 E1 E2 E3 E4 E5
                          go_wp2_with fail
                          go_ret
                          exact ⟨ret_bool HF.out, HK.out.trans (HKA.out.trans G.g)⟩
                  · obtain rfl : t = n := by omega
                    have HALL := Lib.hid (show ∀ p ∈ T.L, fstT T.L p.f = none → backT T p.t = p.f from fun p hp => HA.out p (by rw [List.take_of_length_le (by rw [← HNL.out]; exact Nat.le_refl _)]; exact hp))
                    replace HT := Lib.hid (HT.out.kept HKR.out)
                    have t0 := HT.out.c0; have t1 := HT.out.c1; have t2 := HT.out.c2; have t3 := HT.out.c3; have t4 := HT.out.c4; have t5 := HT.out.c5; have t6 := HT.out.c6; have t7 := HT.out.c7; have t8 := HT.out.c8
                    by_cases q : b = a
                    · have HEq := Lib.hid q
                      have q1 : (b == a) = true := by rw [q]; simp
                      have q2 : (b != a) = false := by rw [q]; simp
                      have q3 : decide (b = a) = true := decide_eq_true q
                      clear q
                      by_cases dz : T.d = .zero
                      · have HEdz := Lib.hid dz
                        obtain ⟨dz0, dz1, _⟩ := va_eq dz
                        have dz2 := zero_t dz
                        simp only [Va.zero] at dz0 dz1
                        clear dz
                        by_cases bz : T.b = .zero
                        · have HEbz := Lib.hid bz
                          obtain ⟨bz0, bz1, _⟩ := va_eq bz
                          have bz2 := zero_t bz
                          simp only [Va.zero] at bz0 bz1
                          clear bz
                          have HF := Lib.hid (show true = r from (HR.out.2 ⟨HRA.out, HRB.out, HKIN.out.2, HKIN.out.1.ok, HKIN.out.1.once, (fun e => by rw [HKP.out] at e; cases e), fun _ => ⟨HEq.out, HEdz.out, HEbz.out, HALL.out⟩⟩).symm)
                          go_wp2_with fail
                          go_ret
                          exact ⟨ret_bool HF.out, HK.out.trans HKR.out⟩
                        · have HF := Lib.hid (show false = r by rw [eq_comm, ← Bool.not_eq_true, HR.out]; exact fun k => bz (k.kp HKP.out).2.2.1)
                          rcases va_nz bz with bz0 | ⟨bz0, bz1⟩ | ⟨bz0, bz1, bz2⟩ <;> clear bz
                          · go_wp2_with fail
                            go_ret
                            exact ⟨ret_bool HF.out, HK.out.trans HKR.out⟩
                          · go_wp2_with fail
                            go_ret
                            exact ⟨ret_bool HF.out, HK.out.trans HKR.out⟩
                          · go_wp2_with fail
                            go_ret
                            exact ⟨ret_bool HF.out, HK.out.trans HKR.out⟩
                      · have HF := Lib.hid (show false = r by rw [eq_comm, ← Bool.not_eq_true, HR.out]; exact fun k => dz (k.kp HKP.out).2.1)
                        rcases va_nz dz with dz0 | ⟨dz0, dz1⟩ | ⟨dz0, dz1, dz2⟩ <;> clear dz
                        · go_wp2_with fail
                          go_ret
                          exact ⟨ret_bool HF.out, HK.out.trans HKR.out⟩
                        · go_wp2_with fail
                          go_ret
                          exact ⟨ret_bool HF.out, HK.out.trans HKR.out⟩
                        · go_wp2_with fail
                          go_ret
                          exact ⟨ret_bool HF.out, HK.out.trans HKR.out⟩
                    · have HF := Lib.hid (show false = r by rw [eq_comm, ← Bool.not_eq_true, HR.out]; exact fun k => q (k.kp HKP.out).1)
                      have q1 : (b == a) = false := by simpa using q
                      have q2 : (b != a) = true := by simpa using q
                      have q3 : decide (b = a) = false := decide_eq_false q
                      clear q
                      go_wp2_with fail
                      go_ret
                      exact ⟨ret_bool HF.out, HK.out.trans HKR.out⟩
              · rw [hkp] at t1
                obtain ⟨q1, hq1⟩ : ∃ b, rightVa T.d = b := ⟨_, rfl⟩
                obtain ⟨q3, hq3⟩ : ∃ b, rightVa T.b = b := ⟨_, rfl⟩
                obtain ⟨v1, hv1⟩ : ∃ v, backT T T.d = v := ⟨_, rfl⟩
                obtain ⟨v2, hv2⟩ : ∃ v, forthT T v1 = v := ⟨_, rfl⟩
                obtain ⟨v3, hv3⟩ : ∃ v, forthT T T.b = v := ⟨_, rfl⟩
                obtain ⟨v4, hv4⟩ : ∃ v, backT T v3 = v := ⟨_, rfl⟩
                have A1 := Lib.hid (fun w => rrightK T.d q1 hq1 HSD.out w)
                have A3 := Lib.hid (fun w => rrightK T.b q3 hq3 HSB.out w)
                have A5 := Lib.hid (fun w h => rbackK A n c T T.d v1 hv1 w h)
                have A6 := Lib.hid (fun w h => rforthK A n c T v1 v2 hv2 w h)
                have A7 := Lib.hid (fun w h => rforthK A n c T T.b v3 hv3 w h)
                have A8 := Lib.hid (fun w h => rbackK A n c T v3 v4 hv4 w h)
                have HFB := Lib.hid (show forthT T (backT T T.d) = v2 by rw [hv1, hv2]); have HBF := Lib.hid (show backT T (forthT T T.b) = v4 by rw [hv3, hv4])
                have HQ1 := Lib.hid hq1; have HQ3 := Lib.hid hq3; have HKP := Lib.hid hkp
                rw [hkp, HTU.out] at A5 A6 A7 A8
                clear hq1 hq3 hv1 hv2 hv3 hv4 hkp
                go_wp2_with fail
                clear t0 t1 t2 t3 t4 t5 t6 t7 t8 f11 f21 f31 f41
                have T0 := KExt.cell HT.out.c0; have T1 := KExt.cell HT.out.c1; have T2 := KExt.cell HT.out.c2; have T3 := KExt.cell HT.out.c3; have T4 := KExt.cell HT.out.c4; have T5 := KExt.cell HT.out.c5; have T6 := KExt.cell HT.out.c6; have T7 := KExt.cell HT.out.c7; have T8 := KExt.cell HT.out.c8
                rw [HKP.out] at T1
                rw [HTU.out] at T8
                cases q1 with
                | false =>
                  have HF := Lib.hid (show false = r by rw [eq_comm, ← Bool.not_eq_true, HR.out]; exact fun k => by have e := k.nk HKP.out; have e1 := e.1; rw [HQ1.out] at e1; cases e1)
                  refine region_kept _ (by kernel_rfl) (by kernel_rfl) (Kept.refl _) ?_
                  repeat (go_big_quiet_step ((first
                      | (go_at_call 41; (with_reducible first | exact KExt.callsK (A1.out _) | exact KExt.callsK (A3.out _)))
                      | (go_at_call 33; (with_reducible first | exact KExt.callsK (A5.out _ (HH.out.kept (KExt.g _))) | exact KExt.callsK (A8.out _ (HH.out.kept (KExt.g _)))))
                      | (go_at_call 34; (with_reducible first | exact KExt.callsK (A6.out _ (HH.out.kept (KExt.g _))) | exact KExt.callsK (A7.out _ (HH.out.kept (KExt.g _)))))
                      | fail)))
                  refine wpQuiet_nil ?_
                  intro G
                  clear T0 T1 T2 T3 T4 T5 T6 T7 T8
                  go_wp2_with fail
                  go_ret
                  exact ⟨ret_bool HF.out, HK.out.trans G.g⟩
                | true =>
                  by_cases q2 : T.d.k = a
                  · have HEq2 := Lib.hid q2
                    have q21 : (T.d.k == a) = true := by rw [q2]; simp
                    have q22 : (T.d.k != a) = false := by rw [q2]; simp
                    have q23 : decide (T.d.k = a) = true := decide_eq_true q2
                    clear q2
                    cases q3 with
                    | false =>
                      have HF := Lib.hid (show false = r by rw [eq_comm, ← Bool.not_eq_true, HR.out]; exact fun k => by have e := k.nk HKP.out; have e3 := e.2.2.1; rw [HQ3.out] at e3; cases e3)
                      refine region_kept _ (by kernel_rfl) (by kernel_rfl) (Kept.refl _) ?_
                      repeat (go_big_quiet_step ((first
                          | (go_at_call 41; (with_reducible first | exact KExt.callsK (A1.out _) | exact KExt.callsK (A3.out _)))
                          | (go_at_call 33; (with_reducible first | exact KExt.callsK (A5.out _ (HH.out.kept (KExt.g _))) | exact KExt.callsK (A8.out _ (HH.out.kept (KExt.g _)))))
                          | (go_at_call 34; (with_reducible first | exact KExt.callsK (A6.out _ (HH.out.kept (KExt.g _))) | exact KExt.callsK (A7.out _ (HH.out.kept (KExt.g _)))))
                          | fail)))
                      refine wpQuiet_nil ?_
                      intro G
                      clear T0 T1 T2 T3 T4 T5 T6 T7 T8
                      go_wp2_with fail
                      go_ret
                      exact ⟨ret_bool HF.out, HK.out.trans G.g⟩
                    | true =>
                      by_cases q4 : T.b.k = b
                      · have HEq4 := Lib.hid q4
                        have q41 : (T.b.k == b) = true := by rw [q4]; simp
                        have q42 : (T.b.k != b) = false := by rw [q4]; simp
                        have q43 : decide (T.b.k = b) = true := decide_eq_true q4
                        clear q4
                        by_cases q5 : v2 = T.d
                        · have HEq5 := Lib.hid q5
                          obtain ⟨q50, q51, q52⟩ := va_eq q5
                          clear q5
                          by_cases q6 : v4 = T.b
                          · have HEq6 := Lib.hid q6
                            obtain ⟨q60, q61, q62⟩ := va_eq q6
                            clear q6
                            have HF := Lib.hid (show true = r from (HR.out.2 ⟨HRA.out, HRB.out, HKIN.out.2, HKIN.out.1.ok, HKIN.out.1.once, fun _ => ⟨HQ1.out, HEq2.out, HQ3.out, HEq4.out, by rw [HFB.out, HEq5.out], by rw [HBF.out, HEq6.out]⟩, fun e => by rw [HKP.out] at e; cases e⟩).symm)
                            refine region_kept _ (by kernel_rfl) (by kernel_rfl) (Kept.refl _) ?_
                            repeat (go_big_quiet_step ((first
                                | (go_at_call 41; (with_reducible first | exact KExt.callsK (A1.out _) | exact KExt.callsK (A3.out _)))
                                | (go_at_call 33; (with_reducible first | exact KExt.callsK (A5.out _ (HH.out.kept (KExt.g _))) | exact KExt.callsK (A8.out _ (HH.out.kept (KExt.g _)))))
                                | (go_at_call 34; (with_reducible first | exact KExt.callsK (A6.out _ (HH.out.kept (KExt.g _))) | exact KExt.callsK (A7.out _ (HH.out.kept (KExt.g _)))))
                                | fail)))
                            refine wpQuiet_nil ?_
                            intro G
                            clear T0 T1 T2 T3 T4 T5 T6 T7 T8
                            go_wp2_with fail
                            go_ret
                            exact ⟨ret_bool HF.out, HK.out.trans G.g⟩
                          · have HF := Lib.hid (show false = r by rw [eq_comm, ← Bool.not_eq_true, HR.out]; exact fun k => by have e := k.nk HKP.out; exact q6 (by rw [← HBF.out]; exact e.2.2.2.2.2))
                            rcases va_ne q6 with q60 | ⟨q60, q61⟩ | ⟨q60, q61, q62⟩ <;> clear q6
                            · refine region_kept _ (by kernel_rfl) (by kernel_rfl) (Kept.refl _) ?_
                              repeat (go_big_quiet_step ((first
                                  | (go_at_call 41; (with_reducible first | exact KExt.callsK (A1.out _) | exact KExt.callsK (A3.out _)))
                                  | (go_at_call 33; (with_reducible first | exact KExt.callsK (A5.out _ (HH.out.kept (KExt.g _))) | exact KExt.callsK (A8.out _ (HH.out.kept (KExt.g _)))))
                                  | (go_at_call 34; (with_reducible first | exact KExt.callsK (A6.out _ (HH.out.kept (KExt.g _))) | exact KExt.callsK (A7.out _ (HH.out.kept (KExt.g _)))))
                                  | fail)))
                              refine wpQuiet_nil ?_
                              intro G
                              clear T0 T1 T2 T3 T4 T5 T6 T7 T8
                              go_wp2_with fail
                              go_ret
                              exact ⟨ret_bool HF.out, HK.out.trans G.g⟩
                            · refine region_kept _ (by kernel_rfl) (by kernel_rfl) (Kept.refl _) ?_
                              repeat (go_big_quiet_step ((first
                                  | (go_at_call 41; (with_reducible first | exact KExt.callsK (A1.out _) | exact KExt.callsK (A3.out _)))
                                  | (go_at_call 33; (with_reducible first | exact KExt.callsK (A5.out _ (HH.out.kept (KExt.g _))) | exact KExt.callsK (A8.out _ (HH.out.kept (KExt.g _)))))
                                  | (go_at_call 34; (with_reducible first | exact KExt.callsK (A6.out _ (HH.out.kept (KExt.g _))) | exact KExt.callsK (A7.out _ (HH.out.kept (KExt.g _)))))
                                  | fail)))
                              refine wpQuiet_nil ?_
                              intro G
                              clear T0 T1 T2 T3 T4 T5 T6 T7 T8
                              go_wp2_with fail
                              go_ret
                              exact ⟨ret_bool HF.out, HK.out.trans G.g⟩
                            · refine region_kept _ (by kernel_rfl) (by kernel_rfl) (Kept.refl _) ?_
                              repeat (go_big_quiet_step ((first
                                  | (go_at_call 41; (with_reducible first | exact KExt.callsK (A1.out _) | exact KExt.callsK (A3.out _)))
                                  | (go_at_call 33; (with_reducible first | exact KExt.callsK (A5.out _ (HH.out.kept (KExt.g _))) | exact KExt.callsK (A8.out _ (HH.out.kept (KExt.g _)))))
                                  | (go_at_call 34; (with_reducible first | exact KExt.callsK (A6.out _ (HH.out.kept (KExt.g _))) | exact KExt.callsK (A7.out _ (HH.out.kept (KExt.g _)))))
                                  | fail)))
                              refine wpQuiet_nil ?_
                              intro G
                              clear T0 T1 T2 T3 T4 T5 T6 T7 T8
                              go_wp2_with fail
                              go_ret
                              exact ⟨ret_bool HF.out, HK.out.trans G.g⟩
                        · have HF := Lib.hid (show false = r by rw [eq_comm, ← Bool.not_eq_true, HR.out]; exact fun k => by have e := k.nk HKP.out; exact q5 (by rw [← HFB.out]; exact e.2.2.2.2.1))
                          rcases va_ne q5 with q50 | ⟨q50, q51⟩ | ⟨q50, q51, q52⟩ <;> clear q5
                          · refine region_kept _ (by kernel_rfl) (by kernel_rfl) (Kept.refl _) ?_
                            repeat (go_big_quiet_step ((first
                                | (go_at_call 41; (with_reducible first | exact KExt.callsK (A1.out _) | exact KExt.callsK (A3.out _)))
                                | (go_at_call 33; (with_reducible first | exact KExt.callsK (A5.out _ (HH.out.kept (KExt.g _))) | exact KExt.callsK (A8.out _ (HH.out.kept (KExt.g _)))))
                                | (go_at_call 34; (with_reducible first | exact KExt.callsK (A6.out _ (HH.out.kept (KExt.g _))) | exact KExt.callsK (A7.out _ (HH.out.kept (KExt.g _)))))
                                | fail)))
                            refine wpQuiet_nil ?_
                            intro G
                            clear T0 T1 T2 T3 T4 T5 T6 T7 T8
                            go_wp2_with fail
                            go_ret
                            exact ⟨ret_bool HF.out, HK.out.trans G.g⟩
                          · refine region_kept _ (by kernel_rfl) (by kernel_rfl) (Kept.refl _) ?_
                            repeat (go_big_quiet_step ((first
                                | (go_at_call 41; (with_reducible first | exact KExt.callsK (A1.out _) | exact KExt.callsK (A3.out _)))
                                | (go_at_call 33; (with_reducible first | exact KExt.callsK (A5.out _ (HH.out.kept (KExt.g _))) | exact KExt.callsK (A8.out _ (HH.out.kept (KExt.g _)))))
                                | (go_at_call 34; (with_reducible first | exact KExt.callsK (A6.out _ (HH.out.kept (KExt.g _))) | exact KExt.callsK (A7.out _ (HH.out.kept (KExt.g _)))))
                                | fail)))
                            refine wpQuiet_nil ?_
                            intro G
                            clear T0 T1 T2 T3 T4 T5 T6 T7 T8
                            go_wp2_with fail
                            go_ret
                            exact ⟨ret_bool HF.out, HK.out.trans G.g⟩
                          · refine region_kept _ (by kernel_rfl) (by kernel_rfl) (Kept.refl _) ?_
                            repeat (go_big_quiet_step ((first
                                | (go_at_call 41; (with_reducible first | exact KExt.callsK (A1.out _) | exact KExt.callsK (A3.out _)))
                                | (go_at_call 33; (with_reducible first | exact KExt.callsK (A5.out _ (HH.out.kept (KExt.g _))) | exact KExt.callsK (A8.out _ (HH.out.kept (KExt.g _)))))
                                | (go_at_call 34; (with_reducible first | exact KExt.callsK (A6.out _ (HH.out.kept (KExt.g _))) | exact KExt.callsK (A7.out _ (HH.out.kept (KExt.g _)))))
                                | fail)))
                            refine wpQuiet_nil ?_
                            intro G
                            clear T0 T1 T2 T3 T4 T5 T6 T7 T8
                            go_wp2_with fail
                            go_ret
                            exact ⟨ret_bool HF.out, HK.out.trans G.g⟩
                      · have HF := Lib.hid (show false = r by rw [eq_comm, ← Bool.not_eq_true, HR.out]; exact fun k => by have e := k.nk HKP.out; exact q4 e.2.2.2.1)
                        have q41 : (T.b.k == b) = false := by simpa using q4
                        have q42 : (T.b.k != b) = true := by simpa using q4
                        have q43 : decide (T.b.k = b) = false := decide_eq_false q4
                        clear q4
                        refine region_kept _ (by kernel_rfl) (by kernel_rfl) (Kept.refl _) ?_
                        repeat (go_big_quiet_step ((first
                            | (go_at_call 41; (with_reducible first | exact KExt.callsK (A1.out _) | exact KExt.callsK (A3.out _)))
                            | (go_at_call 33; (with_reducible first | exact KExt.callsK (A5.out _ (HH.out.kept (KExt.g _))) | exact KExt.callsK (A8.out _ (HH.out.kept (KExt.g _)))))
                            | (go_at_call 34; (with_reducible first | exact KExt.callsK (A6.out _ (HH.out.kept (KExt.g _))) | exact KExt.callsK (A7.out _ (HH.out.kept (KExt.g _)))))
                            | fail)))
                        refine wpQuiet_nil ?_
                        intro G
                        clear T0 T1 T2 T3 T4 T5 T6 T7 T8
                        go_wp2_with fail
                        go_ret
                        exact ⟨ret_bool HF.out, HK.out.trans G.g⟩
                  · have HF := Lib.hid (show false = r by rw [eq_comm, ← Bool.not_eq_true, HR.out]; exact fun k => by have e := k.nk HKP.out; exact q2 e.2.1)
                    have q21 : (T.d.k == a) = false := by simpa using q2
                    have q22 : (T.d.k != a) = true := by simpa using q2
                    have q23 : decide (T.d.k = a) = false := decide_eq_false q2
                    clear q2
                    refine region_kept _ (by kernel_rfl) (by kernel_rfl) (Kept.refl _) ?_
                    repeat (go_big_quiet_step ((first
                        | (go_at_call 41; (with_reducible first | exact KExt.callsK (A1.out _) | exact KExt.callsK (A3.out _)))
                        | (go_at_call 33; (with_reducible first | exact KExt.callsK (A5.out _ (HH.out.kept (KExt.g _))) | exact KExt.callsK (A8.out _ (HH.out.kept (KExt.g _)))))
                        | (go_at_call 34; (with_reducible first | exact KExt.callsK (A6.out _ (HH.out.kept (KExt.g _))) | exact KExt.callsK (A7.out _ (HH.out.kept (KExt.g _)))))
                        | fail)))
                    refine wpQuiet_nil ?_
                    intro G
                    clear T0 T1 T2 T3 T4 T5 T6 T7 T8
                    go_wp2_with fail
                    go_ret
                    exact ⟨ret_bool HF.out, HK.out.trans G.g⟩
  · rw [htu, if_neg (by simp)] at hr
    obtain ⟨k, hk⟩ := bool_of (KindsP T.L a b)
    have AK := Lib.hid (fun w h => rkinds_any A n c T a b w h HSZ.out k hk)
    have HKD := Lib.hid hk
    have HR := Lib.hid hr
    clear hk hr
    have t0 := HT.out.c0; have t1 := HT.out.c1; have t2 := HT.out.c2; have t3 := HT.out.c3; have t4 := HT.out.c4; have t5 := HT.out.c5; have t6 := HT.out.c6; have t7 := HT.out.c7; 
    rw [htu] at t8 AK HUU ⊢
    have HTU := Lib.hid htu
    clear htu
    go_enter Tryd.func19, Tryd.ntmps19
    go_wp2_with fail
    rw [HUU.out]
    go_wp2_with fail
    go_at_call 40
    refine (AK.out _ HH.out).mono ?_
    rintro e w1 ⟨rfl, hk1⟩
    replace HK := Lib.hid (HK.out.trans hk1); replace HT := Lib.hid (HT.out.kept hk1); replace HH := Lib.hid (HH.out.kept hk1)
    clear t0 t1 t2 t3 t4 t5 t6 t7 t8
    clear hk1
    have t0 := HT.out.c0; have t1 := HT.out.c1; have t2 := HT.out.c2; have t3 := HT.out.c3; have t4 := HT.out.c4; have t5 := HT.out.c5; have t6 := HT.out.c6; have t7 := HT.out.c7; have t8 := HT.out.c8
    rw [HTU.out] at t8
    cases k with
    | false =>
      have HF := Lib.hid (show false = r by rw [eq_comm, ← Bool.not_eq_true, HR.out]; exact fun k => by have := HKD.out.2 k.kinds; cases this)
      go_wp2_with fail
      go_ret
      exact ⟨ret_bool HF.out, HK.out⟩
    | true =>
      have HKIN := Lib.hid (show KindsP T.L a b by simpa using HKD.out)
      by_cases h1 : a < 1
      · have HF := Lib.hid (show false = r by rw [eq_comm, ← Bool.not_eq_true, HR.out]; exact fun k => by have := k.ka; omega)
        have f11 : decide (a < (1 : Int)) = true := decide_eq_true (by omega)
        clear h1
        go_wp2_with fail
        go_ret
        exact ⟨ret_bool HF.out, HK.out⟩
      · by_cases h2 : 3 < a
        · have HF := Lib.hid (show false = r by rw [eq_comm, ← Bool.not_eq_true, HR.out]; exact fun k => by have := k.ka; omega)
          have f11 : decide (a < (1 : Int)) = false := decide_eq_false (by omega)
          have f21 : decide ((3 : Int) < a) = true := decide_eq_true (by omega)
          have f2b1 : decide (a > (3 : Int)) = true := decide_eq_true (by omega)
          clear h1 h2
          go_wp2_with fail
          go_ret
          exact ⟨ret_bool HF.out, HK.out⟩
        · by_cases h3 : b < 1
          · have HF := Lib.hid (show false = r by rw [eq_comm, ← Bool.not_eq_true, HR.out]; exact fun k => by have := k.kb; omega)
            have f11 : decide (a < (1 : Int)) = false := decide_eq_false (by omega)
            have f21 : decide ((3 : Int) < a) = false := decide_eq_false (by omega)
            have f31 : decide (b < (1 : Int)) = true := decide_eq_true (by omega)
            clear h1 h2 h3
            go_wp2_with fail
            go_ret
            exact ⟨ret_bool HF.out, HK.out⟩
          · by_cases h4 : 3 < b
            · have HF := Lib.hid (show false = r by rw [eq_comm, ← Bool.not_eq_true, HR.out]; exact fun k => by have := k.kb; omega)
              have f11 : decide (a < (1 : Int)) = false := decide_eq_false (by omega)
              have f21 : decide ((3 : Int) < a) = false := decide_eq_false (by omega)
              have f31 : decide (b < (1 : Int)) = false := decide_eq_false (by omega)
              have f41 : decide ((3 : Int) < b) = true := decide_eq_true (by omega)
              clear h1 h2 h3 h4
              go_wp2_with fail
              go_ret
              exact ⟨ret_bool HF.out, HK.out⟩
            · have f11 : decide (a < (1 : Int)) = false := decide_eq_false (by omega)
              have f21 : decide ((3 : Int) < a) = false := decide_eq_false (by omega)
              have f31 : decide (b < (1 : Int)) = false := decide_eq_false (by omega)
              have f41 : decide ((3 : Int) < b) = false := decide_eq_false (by omega)
              have HRA := Lib.hid (show 1 ≤ a ∧ a ≤ 3 by omega); have HRB := Lib.hid (show 1 ≤ b ∧ b ≤ 3 by omega)
              clear h1 h2 h3 h4
              rcases Bool.eq_false_or_eq_true T.keep with hkp | hkp
              · rw [hkp] at t1
                have HKP := Lib.hid hkp
                clear hkp
                go_wp2_with fail
                clear t0 t1 t2 t3 t4 t5 t6 t7 t8 f11 f21 f31 f41
                obtain ⟨V, hV⟩ : ∃ V, w1 = V := ⟨_, rfl⟩
                rw [hV] at HK HT HH ⊢
                clear hV
                go_loopw [86] (fun i wr => ∃ t : Nat, t ≤ n ∧ i = .int .i64 t ∧ Kept V wr ∧ ∀ p ∈ T.L.take t, fstT T.L p.f = none → backT T p.t = p.f) (fun i _ => n - (intOf i).toNat)
                case atStart => exact ⟨0, Nat.zero_le _, rfl, Kept.refl _, fun p hp => by simp at hp⟩
                case round =>
                  obtain ⟨t, ht, rfl, hkr, hall⟩ := hrel
                  have HKR := Lib.hid hkr; have HA := Lib.hid hall
                  clear hkr hall
                  by_cases hlt : t < n
                  · obtain ⟨g, o, x, rfl, hx, EX⟩ := (HH.out.kept HKR.out).get hlt
                    have x0 := EX.c0; have x1 := EX.c1; have x2 := EX.c2; have x3 := EX.c3; have x4 := EX.c4; have x5 := EX.c5
                    have HXX := Lib.hid hx
                    have hka := (Kept.refl wr).alloc #[.int .i64 x.f.k, .int .i64 x.f.n, .string x.f.t, .int .i64 x.t.k, .int .i64 x.t.n, .string x.t.t] 44
                    have HE := Lib.hid (PaB.new wr x 44)
                    have t0 := (HT.out.kept (HKR.out.trans hka)).c0
                    obtain ⟨W1, hW1⟩ : ∃ W1, wr.alloc (.cells #[.int .i64 x.f.k, .int .i64 x.f.n, .string x.f.t, .int .i64 x.t.k, .int .i64 x.t.n, .string x.t.t] 44) = W1 := ⟨_, rfl⟩
                    have HKA := Lib.hid (HKR.out.trans hka)
                    rw [hW1] at HKA HE
                    have HW1 := Lib.hid hW1
                    clear EX hx hka hW1
                    obtain ⟨y, z, hyz⟩ : ∃ y z, firstR T.L x.f true = (y, z) := ⟨_, _, rfl⟩
                    have AF := Lib.hid (fun w h => rfirst_any (some ⟨g, o, none⟩) n c T.L x.f true w h y z hyz)
                    obtain ⟨v, hv⟩ : ∃ v, backT T x.t = v := ⟨_, rfl⟩
                    have AB := Lib.hid (fun w h => rbackK (some ⟨g, o, none⟩) n c T x.t v hv w h)
                    have HYZ := Lib.hid (first_to hyz); have HV := Lib.hid hv
                    rw [HKP.out, HTU.out] at AB
                    clear hyz hv
                    have e0 := HE.out.c0; have e1 := HE.out.c1; have e2 := HE.out.c2
                    go_wp2_with fail
                    rw [HW1.out]
                    clear x0 x1 x2 x3 x4 x5
                    go_at_call 42
                    refine (AF.out _ (HH.out.kept HKA.out)).mono ?_
                    rintro e w2 ⟨rfl, hk2⟩
                    have hka := (Kept.refl w2).alloc #[.int .i64 y.f.k, .int .i64 y.f.n, .string y.f.t, .int .i64 y.t.k, .int .i64 y.t.n, .string y.t.t] 44
                    replace HKA := Lib.hid (HKA.out.trans (hk2.trans hka)); replace HE := Lib.hid (HE.out.kept (hk2.trans hka))
                    obtain ⟨W2, hW2⟩ : ∃ W2, w2.alloc (.cells #[.int .i64 y.f.k, .int .i64 y.f.n, .string y.f.t, .int .i64 y.t.k, .int .i64 y.t.n, .string y.t.t] 44) = W2 := ⟨_, rfl⟩
                    rw [hW2] at HKA HE
                    have HW2 := Lib.hid hW2
                    clear hk2 hka hW2 e0 e1 e2 t0
                    go_wp2_with fail
                    rw [HW2.out]
                    have HT2 := Lib.hid (HT.out.kept HKA.out); have HH2 := Lib.hid (HH.out.kept HKA.out)
                    have T0 := KExt.cell HT2.out.c0; have T1 := KExt.cell HT2.out.c1; have T2 := KExt.cell HT2.out.c2; have T3 := KExt.cell HT2.out.c3; have T4 := KExt.cell HT2.out.c4; have T5 := KExt.cell HT2.out.c5; have T6 := KExt.cell HT2.out.c6; have T7 := KExt.cell HT2.out.c7; have T8 := KExt.cell HT2.out.c8
                    rw [HKP.out] at T1
                    rw [HTU.out] at T8
                    have E0 := KExt.cell HE.out.c0; have E1 := KExt.cell HE.out.c1; have E2 := KExt.cell HE.out.c2; have E3 := KExt.cell HE.out.c3; have E4 := KExt.cell HE.out.c4; have E5 := KExt.cell HE.out.c5
                    cases z with
                    | true =>
                      have HN := Lib.hid (show ∀ p ∈ T.L.take (t + 1), fstT T.L p.f = none → backT T p.t = p.f from fun p hp => by
                        rw [List.take_add_one, HXX.out, Option.toList_some, List.mem_append, List.mem_singleton] at hp
                        rcases hp with hp | rfl
                        · exact HA.out p hp
                        · intro e; have := HYZ.out.2 e; cases this)
                      refine region_kept _ (by kernel_rfl) (by kernel_rfl) (Kept.refl _) ?_
                      repeat (go_big_quiet_step ((first | (go_at_call 33; (with_reducible exact KExt.callsK (AB.out _ (HH2.out.kept (KExt.g _))))) | fail)))
                      refine wpQuiet_nil ?_
                      intro G
                      clear T0 T1 T2 T3 T4 T5 T6 T7 T8 E0 E1 E2 E3 E4 E5
                      go_wp2_with fail
                      go_roundw
                      case rel => exact ⟨t + 1, hlt, by go_num, HKA.out.trans G.g, HN.out⟩
                      case measure => simp [intOf]; omega
                    | false =>
                      by_cases q : v = x.f
                      · have HN := Lib.hid (show ∀ p ∈ T.L.take (t + 1), fstT T.L p.f = none → backT T p.t = p.f from fun p hp => by
                          rw [List.take_add_one, HXX.out, Option.toList_some, List.mem_append, List.mem_singleton] at hp
                          rcases hp with hp | rfl
                          · exact HA.out p hp
                          · intro _; rw [HV.out, q])
                        obtain ⟨q0, q1, q2⟩ := va_eq q
                        clear q
                        refine region_kept _ (by kernel_rfl) (by kernel_rfl) (Kept.refl _) ?_
                        repeat (go_big_quiet_step ((first | (go_at_call 33; (with_reducible exact KExt.callsK (AB.out _ (HH2.out.kept (KExt.g _))))) | fail)))
                        refine wpQuiet_nil ?_
                        intro G
                        clear T0 T1 T2 T3 T4 T5 T6 T7 T8 E0 E1 E2 E3 E4 E5
                        go_wp2_with fail
                        go_roundw
                        case rel => exact ⟨t + 1, hlt, by go_num, HKA.out.trans G.g, HN.out⟩
                        case measure => simp [intOf]; omega
                      · have HF := Lib.hid (show false = r by
                          rw [eq_comm, ← Bool.not_eq_true, HR.out]
                          intro k
                          exact q (by rw [← HV.out]; exact (k.kp HKP.out).2.2.2 x (List.mem_of_getElem? HXX.out) (by simpa using HYZ.out)))
                        rcases va_ne q with q0 | ⟨q0, q1⟩ | ⟨q0, q1, q2⟩ <;> clear q
                        · refine region_kept _ (by kernel_rfl) (by kernel_rfl) (Kept.refl _) ?_
                          repeat (go_big_quiet_step ((first | (go_at_call 33; (with_reducible exact KExt.callsK (AB.out _ (HH2.out.kept (KExt.g _))))) | fail)))
                          refine wpQuiet_nil ?_
                          intro G
                          clear T0 T1 T2 T3 T4 T5 T6 T7 T8 E0 E1 E2 E3 E4 E5
                          go_wp2_with fail
                          go_ret
                          exact ⟨ret_bool HF.out, HK.out.trans (HKA.out.trans G.g)⟩
                        · refine region_kept _ (by kernel_rfl) (by kernel_rfl) (Kept.refl _) ?_
                          repeat (go_big_quiet_step ((first | (go_at_call 33; (with_reducible exact KExt.callsK (AB.out _ (HH2.out.kept (KExt.g _))))) | fail)))
                          refine wpQuiet_nil ?_
                          intro G
                          clear T0 T1 T2 T3 T4 T5 T6 T7 T8 E0 E1 E2 E3 E4 E5
                          go_wp2_with fail
                          go_ret
                          exact ⟨ret_bool HF.out, HK.out.trans (HKA.out.trans G.g)⟩
                        · refine region_kept _ (by kernel_rfl) (by kernel_rfl) (Kept.refl _) ?_
                          repeat (go_big_quiet_step ((first | (go_at_call 33; (with_reducible exact KExt.callsK (AB.out _ (HH2.out.kept (KExt.g _))))) | fail)))
                          refine wpQuiet_nil ?_
                          intro G
                          clear T0 T1 T2 T3 T4 T5 T6 T7 T8 E0 E1 E2 E3 E4 E5
                          go_wp2_with fail
                          go_ret
                          exact ⟨ret_bool HF.out, HK.out.trans (HKA.out.trans G.g)⟩
                  · obtain rfl : t = n := by omega
                    have HALL := Lib.hid (show ∀ p ∈ T.L, fstT T.L p.f = none → backT T p.t = p.f from fun p hp => HA.out p (by rw [List.take_of_length_le (by rw [← HNL.out]; exact Nat.le_refl _)]; exact hp))
                    replace HT := Lib.hid (HT.out.kept HKR.out)
                    have t0 := HT.out.c0; have t1 := HT.out.c1; have t2 := HT.out.c2; have t3 := HT.out.c3; have t4 := HT.out.c4; have t5 := HT.out.c5; have t6 := HT.out.c6; have t7 := HT.out.c7; have t8 := HT.out.c8
                    by_cases q : a = b
                    · have HEq := Lib.hid q
                      have q1 : (a == b) = true := by rw [q]; simp
                      have q2 : (a != b) = false := by rw [q]; simp
                      have q3 : decide (a = b) = true := decide_eq_true q
                      clear q
                      by_cases dz : T.d = .zero
                      · have HEdz := Lib.hid dz
                        obtain ⟨dz0, dz1, _⟩ := va_eq dz
                        have dz2 := zero_t dz
                        simp only [Va.zero] at dz0 dz1
                        clear dz
                        by_cases bz : T.b = .zero
                        · have HEbz := Lib.hid bz
                          obtain ⟨bz0, bz1, _⟩ := va_eq bz
                          have bz2 := zero_t bz
                          simp only [Va.zero] at bz0 bz1
                          clear bz
                          have HF := Lib.hid (show true = r from (HR.out.2 ⟨HRA.out, HRB.out, HKIN.out.2, HKIN.out.1.ok, HKIN.out.1.once, (fun e => by rw [HKP.out] at e; cases e), fun _ => ⟨HEq.out, HEdz.out, HEbz.out, HALL.out⟩⟩).symm)
                          go_wp2_with fail
                          go_ret
                          exact ⟨ret_bool HF.out, HK.out.trans HKR.out⟩
                        · have HF := Lib.hid (show false = r by rw [eq_comm, ← Bool.not_eq_true, HR.out]; exact fun k => bz (k.kp HKP.out).2.2.1)
                          rcases va_nz bz with bz0 | ⟨bz0, bz1⟩ | ⟨bz0, bz1, bz2⟩ <;> clear bz
                          · go_wp2_with fail
                            go_ret
                            exact ⟨ret_bool HF.out, HK.out.trans HKR.out⟩
                          · go_wp2_with fail
                            go_ret
                            exact ⟨ret_bool HF.out, HK.out.trans HKR.out⟩
                          · go_wp2_with fail
                            go_ret
                            exact ⟨ret_bool HF.out, HK.out.trans HKR.out⟩
                      · have HF := Lib.hid (show false = r by rw [eq_comm, ← Bool.not_eq_true, HR.out]; exact fun k => dz (k.kp HKP.out).2.1)
                        rcases va_nz dz with dz0 | ⟨dz0, dz1⟩ | ⟨dz0, dz1, dz2⟩ <;> clear dz
                        · go_wp2_with fail
                          go_ret
                          exact ⟨ret_bool HF.out, HK.out.trans HKR.out⟩
                        · go_wp2_with fail
                          go_ret
                          exact ⟨ret_bool HF.out, HK.out.trans HKR.out⟩
                        · go_wp2_with fail
                          go_ret
                          exact ⟨ret_bool HF.out, HK.out.trans HKR.out⟩
                    · have HF := Lib.hid (show false = r by rw [eq_comm, ← Bool.not_eq_true, HR.out]; exact fun k => q (k.kp HKP.out).1)
                      have q1 : (a == b) = false := by simpa using q
                      have q2 : (a != b) = true := by simpa using q
                      have q3 : decide (a = b) = false := decide_eq_false q
                      clear q
                      go_wp2_with fail
                      go_ret
                      exact ⟨ret_bool HF.out, HK.out.trans HKR.out⟩
              · rw [hkp] at t1
                obtain ⟨q1, hq1⟩ : ∃ b, rightVa T.d = b := ⟨_, rfl⟩
                obtain ⟨q3, hq3⟩ : ∃ b, rightVa T.b = b := ⟨_, rfl⟩
                obtain ⟨v1, hv1⟩ : ∃ v, backT T T.d = v := ⟨_, rfl⟩
                obtain ⟨v2, hv2⟩ : ∃ v, forthT T v1 = v := ⟨_, rfl⟩
                obtain ⟨v3, hv3⟩ : ∃ v, forthT T T.b = v := ⟨_, rfl⟩
                obtain ⟨v4, hv4⟩ : ∃ v, backT T v3 = v := ⟨_, rfl⟩
                have A1 := Lib.hid (fun w => rrightK T.d q1 hq1 HSD.out w)
                have A3 := Lib.hid (fun w => rrightK T.b q3 hq3 HSB.out w)
                have A5 := Lib.hid (fun w h => rbackK A n c T T.d v1 hv1 w h)
                have A6 := Lib.hid (fun w h => rforthK A n c T v1 v2 hv2 w h)
                have A7 := Lib.hid (fun w h => rforthK A n c T T.b v3 hv3 w h)
                have A8 := Lib.hid (fun w h => rbackK A n c T v3 v4 hv4 w h)
                have HFB := Lib.hid (show forthT T (backT T T.d) = v2 by rw [hv1, hv2]); have HBF := Lib.hid (show backT T (forthT T T.b) = v4 by rw [hv3, hv4])
                have HQ1 := Lib.hid hq1; have HQ3 := Lib.hid hq3; have HKP := Lib.hid hkp
                rw [hkp, HTU.out] at A5 A6 A7 A8
                clear hq1 hq3 hv1 hv2 hv3 hv4 hkp
                go_wp2_with fail
                clear t0 t1 t2 t3 t4 t5 t6 t7 t8 f11 f21 f31 f41
                have T0 := KExt.cell HT.out.c0; have T1 := KExt.cell HT.out.c1; have T2 := KExt.cell HT.out.c2; have T3 := KExt.cell HT.out.c3; have T4 := KExt.cell HT.out.c4; have T5 := KExt.cell HT.out.c5; have T6 := KExt.cell HT.out.c6; have T7 := KExt.cell HT.out.c7; have T8 := KExt.cell HT.out.c8
                rw [HKP.out] at T1
                rw [HTU.out] at T8
                cases q1 with
                | false =>
                  have HF := Lib.hid (show false = r by rw [eq_comm, ← Bool.not_eq_true, HR.out]; exact fun k => by have e := k.nk HKP.out; have e1 := e.1; rw [HQ1.out] at e1; cases e1)
                  refine region_kept _ (by kernel_rfl) (by kernel_rfl) (Kept.refl _) ?_
                  repeat (go_big_quiet_step ((first
                      | (go_at_call 41; (with_reducible first | exact KExt.callsK (A1.out _) | exact KExt.callsK (A3.out _)))
                      | (go_at_call 33; (with_reducible first | exact KExt.callsK (A5.out _ (HH.out.kept (KExt.g _))) | exact KExt.callsK (A8.out _ (HH.out.kept (KExt.g _)))))
                      | (go_at_call 34; (with_reducible first | exact KExt.callsK (A6.out _ (HH.out.kept (KExt.g _))) | exact KExt.callsK (A7.out _ (HH.out.kept (KExt.g _)))))
                      | fail)))
                  refine wpQuiet_nil ?_
                  intro G
                  clear T0 T1 T2 T3 T4 T5 T6 T7 T8
                  go_wp2_with fail
                  go_ret
                  exact ⟨ret_bool HF.out, HK.out.trans G.g⟩
                | true =>
                  by_cases q2 : T.d.k = b
                  · have HEq2 := Lib.hid q2
                    have q21 : (T.d.k == b) = true := by rw [q2]; simp
                    have q22 : (T.d.k != b) = false := by rw [q2]; simp
                    have q23 : decide (T.d.k = b) = true := decide_eq_true q2
                    clear q2
                    cases q3 with
                    | false =>
                      have HF := Lib.hid (show false = r by rw [eq_comm, ← Bool.not_eq_true, HR.out]; exact fun k => by have e := k.nk HKP.out; have e3 := e.2.2.1; rw [HQ3.out] at e3; cases e3)
                      refine region_kept _ (by kernel_rfl) (by kernel_rfl) (Kept.refl _) ?_
                      repeat (go_big_quiet_step ((first
                          | (go_at_call 41; (with_reducible first | exact KExt.callsK (A1.out _) | exact KExt.callsK (A3.out _)))
                          | (go_at_call 33; (with_reducible first | exact KExt.callsK (A5.out _ (HH.out.kept (KExt.g _))) | exact KExt.callsK (A8.out _ (HH.out.kept (KExt.g _)))))
                          | (go_at_call 34; (with_reducible first | exact KExt.callsK (A6.out _ (HH.out.kept (KExt.g _))) | exact KExt.callsK (A7.out _ (HH.out.kept (KExt.g _)))))
                          | fail)))
                      refine wpQuiet_nil ?_
                      intro G
                      clear T0 T1 T2 T3 T4 T5 T6 T7 T8
                      go_wp2_with fail
                      go_ret
                      exact ⟨ret_bool HF.out, HK.out.trans G.g⟩
                    | true =>
                      by_cases q4 : T.b.k = a
                      · have HEq4 := Lib.hid q4
                        have q41 : (T.b.k == a) = true := by rw [q4]; simp
                        have q42 : (T.b.k != a) = false := by rw [q4]; simp
                        have q43 : decide (T.b.k = a) = true := decide_eq_true q4
                        clear q4
                        by_cases q5 : v2 = T.d
                        · have HEq5 := Lib.hid q5
                          obtain ⟨q50, q51, q52⟩ := va_eq q5
                          clear q5
                          by_cases q6 : v4 = T.b
                          · have HEq6 := Lib.hid q6
                            obtain ⟨q60, q61, q62⟩ := va_eq q6
                            clear q6
                            have HF := Lib.hid (show true = r from (HR.out.2 ⟨HRA.out, HRB.out, HKIN.out.2, HKIN.out.1.ok, HKIN.out.1.once, fun _ => ⟨HQ1.out, HEq2.out, HQ3.out, HEq4.out, by rw [HFB.out, HEq5.out], by rw [HBF.out, HEq6.out]⟩, fun e => by rw [HKP.out] at e; cases e⟩).symm)
                            refine region_kept _ (by kernel_rfl) (by kernel_rfl) (Kept.refl _) ?_
                            repeat (go_big_quiet_step ((first
                                | (go_at_call 41; (with_reducible first | exact KExt.callsK (A1.out _) | exact KExt.callsK (A3.out _)))
                                | (go_at_call 33; (with_reducible first | exact KExt.callsK (A5.out _ (HH.out.kept (KExt.g _))) | exact KExt.callsK (A8.out _ (HH.out.kept (KExt.g _)))))
                                | (go_at_call 34; (with_reducible first | exact KExt.callsK (A6.out _ (HH.out.kept (KExt.g _))) | exact KExt.callsK (A7.out _ (HH.out.kept (KExt.g _)))))
                                | fail)))
                            refine wpQuiet_nil ?_
                            intro G
                            clear T0 T1 T2 T3 T4 T5 T6 T7 T8
                            go_wp2_with fail
                            go_ret
                            exact ⟨ret_bool HF.out, HK.out.trans G.g⟩
                          · have HF := Lib.hid (show false = r by rw [eq_comm, ← Bool.not_eq_true, HR.out]; exact fun k => by have e := k.nk HKP.out; exact q6 (by rw [← HBF.out]; exact e.2.2.2.2.2))
                            rcases va_ne q6 with q60 | ⟨q60, q61⟩ | ⟨q60, q61, q62⟩ <;> clear q6
                            · refine region_kept _ (by kernel_rfl) (by kernel_rfl) (Kept.refl _) ?_
                              repeat (go_big_quiet_step ((first
                                  | (go_at_call 41; (with_reducible first | exact KExt.callsK (A1.out _) | exact KExt.callsK (A3.out _)))
                                  | (go_at_call 33; (with_reducible first | exact KExt.callsK (A5.out _ (HH.out.kept (KExt.g _))) | exact KExt.callsK (A8.out _ (HH.out.kept (KExt.g _)))))
                                  | (go_at_call 34; (with_reducible first | exact KExt.callsK (A6.out _ (HH.out.kept (KExt.g _))) | exact KExt.callsK (A7.out _ (HH.out.kept (KExt.g _)))))
                                  | fail)))
                              refine wpQuiet_nil ?_
                              intro G
                              clear T0 T1 T2 T3 T4 T5 T6 T7 T8
                              go_wp2_with fail
                              go_ret
                              exact ⟨ret_bool HF.out, HK.out.trans G.g⟩
                            · refine region_kept _ (by kernel_rfl) (by kernel_rfl) (Kept.refl _) ?_
                              repeat (go_big_quiet_step ((first
                                  | (go_at_call 41; (with_reducible first | exact KExt.callsK (A1.out _) | exact KExt.callsK (A3.out _)))
                                  | (go_at_call 33; (with_reducible first | exact KExt.callsK (A5.out _ (HH.out.kept (KExt.g _))) | exact KExt.callsK (A8.out _ (HH.out.kept (KExt.g _)))))
                                  | (go_at_call 34; (with_reducible first | exact KExt.callsK (A6.out _ (HH.out.kept (KExt.g _))) | exact KExt.callsK (A7.out _ (HH.out.kept (KExt.g _)))))
                                  | fail)))
                              refine wpQuiet_nil ?_
                              intro G
                              clear T0 T1 T2 T3 T4 T5 T6 T7 T8
                              go_wp2_with fail
                              go_ret
                              exact ⟨ret_bool HF.out, HK.out.trans G.g⟩
                            · refine region_kept _ (by kernel_rfl) (by kernel_rfl) (Kept.refl _) ?_
                              repeat (go_big_quiet_step ((first
                                  | (go_at_call 41; (with_reducible first | exact KExt.callsK (A1.out _) | exact KExt.callsK (A3.out _)))
                                  | (go_at_call 33; (with_reducible first | exact KExt.callsK (A5.out _ (HH.out.kept (KExt.g _))) | exact KExt.callsK (A8.out _ (HH.out.kept (KExt.g _)))))
                                  | (go_at_call 34; (with_reducible first | exact KExt.callsK (A6.out _ (HH.out.kept (KExt.g _))) | exact KExt.callsK (A7.out _ (HH.out.kept (KExt.g _)))))
                                  | fail)))
                              refine wpQuiet_nil ?_
                              intro G
                              clear T0 T1 T2 T3 T4 T5 T6 T7 T8
                              go_wp2_with fail
                              go_ret
                              exact ⟨ret_bool HF.out, HK.out.trans G.g⟩
                        · have HF := Lib.hid (show false = r by rw [eq_comm, ← Bool.not_eq_true, HR.out]; exact fun k => by have e := k.nk HKP.out; exact q5 (by rw [← HFB.out]; exact e.2.2.2.2.1))
                          rcases va_ne q5 with q50 | ⟨q50, q51⟩ | ⟨q50, q51, q52⟩ <;> clear q5
                          · refine region_kept _ (by kernel_rfl) (by kernel_rfl) (Kept.refl _) ?_
                            repeat (go_big_quiet_step ((first
                                | (go_at_call 41; (with_reducible first | exact KExt.callsK (A1.out _) | exact KExt.callsK (A3.out _)))
                                | (go_at_call 33; (with_reducible first | exact KExt.callsK (A5.out _ (HH.out.kept (KExt.g _))) | exact KExt.callsK (A8.out _ (HH.out.kept (KExt.g _)))))
                                | (go_at_call 34; (with_reducible first | exact KExt.callsK (A6.out _ (HH.out.kept (KExt.g _))) | exact KExt.callsK (A7.out _ (HH.out.kept (KExt.g _)))))
                                | fail)))
                            refine wpQuiet_nil ?_
                            intro G
                            clear T0 T1 T2 T3 T4 T5 T6 T7 T8
                            go_wp2_with fail
                            go_ret
                            exact ⟨ret_bool HF.out, HK.out.trans G.g⟩
                          · refine region_kept _ (by kernel_rfl) (by kernel_rfl) (Kept.refl _) ?_
                            repeat (go_big_quiet_step ((first
                                | (go_at_call 41; (with_reducible first | exact KExt.callsK (A1.out _) | exact KExt.callsK (A3.out _)))
                                | (go_at_call 33; (with_reducible first | exact KExt.callsK (A5.out _ (HH.out.kept (KExt.g _))) | exact KExt.callsK (A8.out _ (HH.out.kept (KExt.g _)))))
                                | (go_at_call 34; (with_reducible first | exact KExt.callsK (A6.out _ (HH.out.kept (KExt.g _))) | exact KExt.callsK (A7.out _ (HH.out.kept (KExt.g _)))))
                                | fail)))
                            refine wpQuiet_nil ?_
                            intro G
                            clear T0 T1 T2 T3 T4 T5 T6 T7 T8
                            go_wp2_with fail
                            go_ret
                            exact ⟨ret_bool HF.out, HK.out.trans G.g⟩
                          · refine region_kept _ (by kernel_rfl) (by kernel_rfl) (Kept.refl _) ?_
                            repeat (go_big_quiet_step ((first
                                | (go_at_call 41; (with_reducible first | exact KExt.callsK (A1.out _) | exact KExt.callsK (A3.out _)))
                                | (go_at_call 33; (with_reducible first | exact KExt.callsK (A5.out _ (HH.out.kept (KExt.g _))) | exact KExt.callsK (A8.out _ (HH.out.kept (KExt.g _)))))
                                | (go_at_call 34; (with_reducible first | exact KExt.callsK (A6.out _ (HH.out.kept (KExt.g _))) | exact KExt.callsK (A7.out _ (HH.out.kept (KExt.g _)))))
                                | fail)))
                            refine wpQuiet_nil ?_
                            intro G
                            clear T0 T1 T2 T3 T4 T5 T6 T7 T8
                            go_wp2_with fail
                            go_ret
                            exact ⟨ret_bool HF.out, HK.out.trans G.g⟩
                      · have HF := Lib.hid (show false = r by rw [eq_comm, ← Bool.not_eq_true, HR.out]; exact fun k => by have e := k.nk HKP.out; exact q4 e.2.2.2.1)
                        have q41 : (T.b.k == a) = false := by simpa using q4
                        have q42 : (T.b.k != a) = true := by simpa using q4
                        have q43 : decide (T.b.k = a) = false := decide_eq_false q4
                        clear q4
                        refine region_kept _ (by kernel_rfl) (by kernel_rfl) (Kept.refl _) ?_
                        repeat (go_big_quiet_step ((first
                            | (go_at_call 41; (with_reducible first | exact KExt.callsK (A1.out _) | exact KExt.callsK (A3.out _)))
                            | (go_at_call 33; (with_reducible first | exact KExt.callsK (A5.out _ (HH.out.kept (KExt.g _))) | exact KExt.callsK (A8.out _ (HH.out.kept (KExt.g _)))))
                            | (go_at_call 34; (with_reducible first | exact KExt.callsK (A6.out _ (HH.out.kept (KExt.g _))) | exact KExt.callsK (A7.out _ (HH.out.kept (KExt.g _)))))
                            | fail)))
                        refine wpQuiet_nil ?_
                        intro G
                        clear T0 T1 T2 T3 T4 T5 T6 T7 T8
                        go_wp2_with fail
                        go_ret
                        exact ⟨ret_bool HF.out, HK.out.trans G.g⟩
                  · have HF := Lib.hid (show false = r by rw [eq_comm, ← Bool.not_eq_true, HR.out]; exact fun k => by have e := k.nk HKP.out; exact q2 e.2.1)
                    have q21 : (T.d.k == b) = false := by simpa using q2
                    have q22 : (T.d.k != b) = true := by simpa using q2
                    have q23 : decide (T.d.k = b) = false := decide_eq_false q2
                    clear q2
                    refine region_kept _ (by kernel_rfl) (by kernel_rfl) (Kept.refl _) ?_
                    repeat (go_big_quiet_step ((first
                        | (go_at_call 41; (with_reducible first | exact KExt.callsK (A1.out _) | exact KExt.callsK (A3.out _)))
                        | (go_at_call 33; (with_reducible first | exact KExt.callsK (A5.out _ (HH.out.kept (KExt.g _))) | exact KExt.callsK (A8.out _ (HH.out.kept (KExt.g _)))))
                        | (go_at_call 34; (with_reducible first | exact KExt.callsK (A6.out _ (HH.out.kept (KExt.g _))) | exact KExt.callsK (A7.out _ (HH.out.kept (KExt.g _)))))
                        | fail)))
                    refine wpQuiet_nil ?_
                    intro G
                    clear T0 T1 T2 T3 T4 T5 T6 T7 T8
                    go_wp2_with fail
                    go_ret
                    exact ⟨ret_bool HF.out, HK.out.trans G.g⟩
end Go.Proofs.YtjcnjmlgedmmoaaDoor
