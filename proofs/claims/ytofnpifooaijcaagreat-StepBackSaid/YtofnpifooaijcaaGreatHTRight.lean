/-
  What is proved: package table's isKind, isOf, rightPairs, restStays, restGoes and Right of layer 13 (P13.4), called with any table of bounded texts, tell what the chapter says; the world has new blocks at most.
-/
import Derived.Test.YtofnpifooaijcaaGreatHTFind
import Derived.Test.YtofnpifooaijcaaGreatM13
namespace Go.Proofs.YtofnpifooaijcaaGreat
open Go.RowKit
set_option linter.unusedVariables false
theorem plc_low {rt : Bool} {L : List Pa} {v : Va} {r : Int} {t : Nat} {x : Pa} (h : Plc rt L v r) (hx : L[t]? = some x) (hv : sideR rt x = v) (hlt : r < (t : Int)) : ∃ y ∈ L.take t, sideR rt y = v := by
  rcases h with ⟨u, y, rfl, h2, h3, h4⟩ | ⟨rfl, h2⟩
  · refine ⟨y, ?_, h3⟩
    rw [List.mem_iff_getElem?]
    exact ⟨u, by rw [List.getElem?_take, if_pos (by omega), h2]⟩
  · exact absurd hv (h2 x (List.mem_of_getElem? hx))
theorem plc_high {rt : Bool} {L : List Pa} {v : Va} {r : Int} {t : Nat} (h : Plc rt L v r) (hlt : ¬ r < (t : Int)) : ∀ y ∈ L.take t, sideR rt y ≠ v := by
  rcases h with ⟨u, y, rfl, h2, h3, h4⟩ | ⟨rfl, h2⟩
  · intro z hz
    refine h4 z ?_
    obtain ⟨i, hi⟩ := List.getElem?_of_mem hz
    rw [List.getElem?_take] at hi
    split at hi
    · rw [List.mem_iff_getElem?]
      exact ⟨i, by rw [List.getElem?_take, if_pos (by omega), hi]⟩
    · cases hi
  · omega
theorem plc_neg {rt : Bool} {L : List Pa} {v : Va} {r : Int} (h : Plc rt L v r) : r < 0 ↔ ∀ y ∈ L, sideR rt y ≠ v := by
  rcases h with ⟨u, y, rfl, h2, h3, h4⟩ | ⟨rfl, h2⟩
  · exact ⟨fun e => by omega, fun e => absurd h3 (e y (List.mem_of_getElem? h2))⟩
  · exact ⟨fun _ => h2, fun _ => by omega⟩
theorem trightK (v : Va) (b : Bool) (h : rightVa v = b) (hs : v.t.size ≤ 1099511627776) (w : World) :
    Calls Tryz.prog 105 #[.agg #[.int .i64 v.k, .int .i64 v.n, .string v.t]] w fun e w' => e = .returned (.bool b) ∧ Kept w w' :=
  (vright_c v.k v.n v.t b h w (by omega)).mono fun _ _ ⟨he, hg⟩ => ⟨he, kept_of hg⟩
set_option maxRecDepth 100000 in
set_option maxHeartbeats 8000000 in
theorem tkind_any (k : Int) (r : Bool) (hr : r = true ↔ 1 ≤ k ∧ k ≤ 3) (w : World) :
    Calls Tryz.prog 161 #[.int .i64 k] w fun e w' => e = .returned (.bool r) ∧ Kept w w' := by
  have HR := Lib.hid hr
  clear hr
  by_cases h1 : 1 ≤ k
  · by_cases h2 : k ≤ 3
    · have HF := Lib.hid (show true = r from (HR.out.2 ⟨h1, h2⟩).symm)
      have f1 : decide ((1 : Int) ≤ k) = true := decide_eq_true h1
      have f2 : decide (k ≤ (3 : Int)) = true := decide_eq_true h2
      clear h1 h2
      go_enter Tryz.func161, Tryz.ntmps161
      go_wp2_with fail
      go_ret
      exact ⟨ret_bool HF.out, Kept.refl _⟩
    · have HF := Lib.hid (show false = r by rw [eq_comm, ← Bool.not_eq_true, HR.out]; exact fun k => h2 k.2)
      have f1 : decide ((1 : Int) ≤ k) = true := decide_eq_true h1
      have f2 : decide (k ≤ (3 : Int)) = false := decide_eq_false h2
      clear h1 h2
      go_enter Tryz.func161, Tryz.ntmps161
      go_wp2_with fail
      go_ret
      exact ⟨ret_bool HF.out, Kept.refl _⟩
  · have HF := Lib.hid (show false = r by rw [eq_comm, ← Bool.not_eq_true, HR.out]; exact fun k => h1 k.1)
    have f1 : decide ((1 : Int) ≤ k) = false := decide_eq_false h1
    clear h1
    go_enter Tryz.func161, Tryz.ntmps161
    go_wp2_with fail
    go_ret
    exact ⟨ret_bool HF.out, Kept.refl _⟩
set_option maxRecDepth 100000 in
set_option maxHeartbeats 8000000 in
theorem tof_any (v : Va) (k : Int) (hs : v.t.size ≤ 1099511627776) (r : Bool) (hr : r = true ↔ rightVa v = true ∧ v.k = k) (w : World) :
    Calls Tryz.prog 171 #[.agg #[.int .i64 v.k, .int .i64 v.n, .string v.t], .int .i64 k] w fun e w' => e = .returned (.bool r) ∧ Kept w w' := by
  have hk := (Kept.refl w).alloc #[.int .i64 v.k, .int .i64 v.n, .string v.t] 26
  have HV := Lib.hid (VaO.new w v 26)
  obtain ⟨q, hq⟩ : ∃ b, rightVa v = b := ⟨_, rfl⟩
  have AV := Lib.hid (fun w => trightK v q hq hs w)
  have HK := Lib.hid hk; have HR := Lib.hid hr; have HQ := Lib.hid hq
  have v0 := HV.out.c0; have v1 := HV.out.c1; have v2 := HV.out.c2
  clear hs hr hk hq
  go_enter Tryz.func171, Tryz.ntmps171
  go_wp2_with fail
  go_at_call 105
  refine (AV.out _).mono ?_
  rintro e w1 ⟨rfl, hk1⟩
  replace HK := Lib.hid (HK.out.trans hk1)
  have d0 := (HV.out.kept hk1).c0
  clear v0 v1 v2 hk1
  cases q with
  | false =>
    have HF := Lib.hid (show false = r by rw [eq_comm, ← Bool.not_eq_true, HR.out]; exact fun k => by have := k.1; rw [HQ.out] at this; cases this)
    go_wp2_with fail
    go_ret
    exact ⟨ret_bool HF.out, HK.out⟩
  | true =>
    by_cases h : v.k = k
    · have HF := Lib.hid (show true = r from (HR.out.2 ⟨HQ.out, h⟩).symm)
      have h1 : (v.k == k) = true := by rw [h]; simp
      have h2 : (v.k != k) = false := by rw [h]; simp
      have h3 : decide (v.k = k) = true := decide_eq_true h
      clear h
      go_wp2_with fail
      go_ret
      exact ⟨ret_bool HF.out, HK.out⟩
    · have HF := Lib.hid (show false = r by rw [eq_comm, ← Bool.not_eq_true, HR.out]; exact fun k => h k.2)
      have h1 : (v.k == k) = false := by simpa using h
      have h2 : (v.k != k) = true := by simpa using h
      have h3 : decide (v.k = k) = false := decide_eq_false h
      clear h
      go_wp2_with fail
      go_ret
      exact ⟨ret_bool HF.out, HK.out⟩
set_option maxRecDepth 100000 in
set_option maxHeartbeats 8000000 in
theorem tpairs_any (A : Option Addr) (n c : Nat) (T : Tb) (a b : Int) (w : World) (h : Pal w A n c T.L) (hz : SzP T.L) (r : Bool) (hr : r = true ↔ KindsP T.L a b) :
    Calls Tryz.prog 162 #[.agg #[.slice A n c, .bool T.keep, .int .i64 T.d.k, .int .i64 T.d.n, .string T.d.t, .int .i64 T.b.k, .int .i64 T.b.n, .string T.b.t, .bool T.tu], .int .i64 a, .int .i64 b] w fun e w' => e = .returned (.bool r) ∧ Kept w w' := by
  have hk := (Kept.refl w).alloc #[.slice A n c, .bool T.keep, .int .i64 T.d.k, .int .i64 T.d.n, .string T.d.t, .int .i64 T.b.k, .int .i64 T.b.n, .string T.b.t, .bool T.tu] 31
  have hcap := h.cap.1; have hcap2 := h.cap.2
  have HNL := Lib.hid h.1; have HR := Lib.hid hr
  have HT := Lib.hid (TabB.new w A n c T 31)
  have HH := Lib.hid (h.kept hk)
  obtain ⟨U, hU⟩ : ∃ U, w.alloc (.cells #[.slice A n c, .bool T.keep, .int .i64 T.d.k, .int .i64 T.d.n, .string T.d.t, .int .i64 T.b.k, .int .i64 T.b.n, .string T.b.t, .bool T.tu] 31) = U := ⟨_, rfl⟩
  rw [hU] at hk HT HH
  have HK := Lib.hid hk; have HUU := Lib.hid hU
  have HSZ := Lib.hid hz
  have t0 := HT.out.c0
  clear h hz hr hk hU
  by_cases h8 : n ≤ 8
  case neg =>
    have HF := Lib.hid (show false = r by rw [eq_comm, ← Bool.not_eq_true, HR.out]; exact fun k => h8 (by have := k.2; have := HNL.out; omega))
    have f1 : decide ((8 : Int) < (n : Int)) = true := decide_eq_true (by omega)
    have f2 : decide ((n : Int) > (8 : Int)) = true := decide_eq_true (by omega)
    have f3 : decide (8 < n) = true := decide_eq_true (by omega)
    clear h8
    go_enter Tryz.func162, Tryz.ntmps162
    go_wp2_with fail
    rw [HUU.out]
    go_wp2_with fail
    go_ret
    exact ⟨ret_bool HF.out, HK.out⟩
  have f1 : decide ((8 : Int) < (n : Int)) = false := decide_eq_false (by omega)
  have f2 : decide ((n : Int) > (8 : Int)) = false := decide_eq_false (by omega)
  have f3 : decide (8 < n) = false := decide_eq_false (by omega)
  have H8 := Lib.hid h8
  clear h8
  go_enter Tryz.func162, Tryz.ntmps162
  go_wp2_with fail
  rw [HUU.out]
  go_wp2_with fail
  clear t0 f1 f2 f3
  go_loopw [16] (fun i wr => ∃ t : Nat, t ≤ n ∧ i = .int .i64 t ∧ Kept U wr ∧ KinP (T.L.take t) a b) (fun i _ => n - (intOf i).toNat)
  case atStart => exact ⟨0, Nat.zero_le _, rfl, Kept.refl _, by rw [List.take_zero]; exact KinP.nil a b⟩
  case round =>
    obtain ⟨t, ht, rfl, hkr, hpre⟩ := hrel
    have HKR := Lib.hid hkr; have HPRE := Lib.hid hpre
    clear hkr hpre
    by_cases hlt : t < n
    · obtain ⟨g, o, x, rfl, hx, EX⟩ := (HH.out.kept HKR.out).get hlt
      have x0 := EX.c0; have x1 := EX.c1; have x2 := EX.c2; have x3 := EX.c3; have x4 := EX.c4; have x5 := EX.c5
      have HXX := Lib.hid hx
      have hka := (Kept.refl wr).alloc #[.int .i64 x.f.k, .int .i64 x.f.n, .string x.f.t, .int .i64 x.t.k, .int .i64 x.t.n, .string x.t.t] 99
      have HE := Lib.hid (PaB.new wr x 99)
      have HZX := Lib.hid (HSZ.out x (List.mem_of_getElem? hx))
      obtain ⟨q1, hq1⟩ := bool_of (rightVa x.f = true ∧ x.f.k = a)
      obtain ⟨q2, hq2⟩ := bool_of (rightVa x.t = true ∧ x.t.k = b)
      obtain ⟨u, hu⟩ := plc_ex false T.L x.f
      have A1 := Lib.hid (fun w => tof_any x.f a HZX.out.1 q1 hq1 w)
      have A2 := Lib.hid (fun w => tof_any x.t b HZX.out.2 q2 hq2 w)
      have A3 := Lib.hid (fun w h => onL_any (some ⟨g, o, none⟩) n c T x.f w h u hu)
      have HQ1 := Lib.hid hq1; have HQ2 := Lib.hid hq2; have HU := Lib.hid hu
      obtain ⟨W1, hW1⟩ : ∃ W1, wr.alloc (.cells #[.int .i64 x.f.k, .int .i64 x.f.n, .string x.f.t, .int .i64 x.t.k, .int .i64 x.t.n, .string x.t.t] 99) = W1 := ⟨_, rfl⟩
      have HKA := Lib.hid (HKR.out.trans hka)
      rw [hW1] at HKA HE
      have HW1 := Lib.hid hW1
      clear EX hx hka hq1 hq2 hW1 hu
      have e0 := HE.out.c0; have e1 := HE.out.c1; have e2 := HE.out.c2
      go_wp2_with fail
      rw [HW1.out]
      clear x0 x1 x2 x3 x4 x5
      go_wp2_with fail
      go_at_call 171
      refine (A1.out _).mono ?_
      rintro e w1 ⟨rfl, hk1⟩
      replace HKA := Lib.hid (HKA.out.trans hk1); replace HE := Lib.hid (HE.out.kept hk1)
      clear hk1 e0 e1 e2
      have e0 := HE.out.c0; have e1 := HE.out.c1; have e2 := HE.out.c2; have e3 := HE.out.c3; have e4 := HE.out.c4; have e5 := HE.out.c5
      cases q1 with
      | false =>
        have HF := Lib.hid (show false = r by rw [eq_comm, ← Bool.not_eq_true, HR.out]; exact kinP_not HXX.out (fun k => by have := HQ1.out.2 ⟨k.1, k.2.2.1⟩; cases this))
        go_wp2_with fail
        go_ret
        exact ⟨ret_bool HF.out, HK.out.trans HKA.out⟩
      | true =>
        go_wp2_with fail
        go_at_call 171
        refine (A2.out _).mono ?_
        rintro e w2 ⟨rfl, hk1⟩
        replace HKA := Lib.hid (HKA.out.trans hk1); replace HE := Lib.hid (HE.out.kept hk1)
        clear hk1 e0 e1 e2 e3 e4 e5
        have e0 := HE.out.c0; have e1 := HE.out.c1; have e2 := HE.out.c2; have e3 := HE.out.c3; have e4 := HE.out.c4; have e5 := HE.out.c5
        cases q2 with
        | false =>
          have HF := Lib.hid (show false = r by rw [eq_comm, ← Bool.not_eq_true, HR.out]; exact kinP_not HXX.out (fun k => by have := HQ2.out.2 ⟨k.2.1, k.2.2.2⟩; cases this))
          go_wp2_with fail
          go_ret
          exact ⟨ret_bool HF.out, HK.out.trans HKA.out⟩
        | true =>
          have HT2 := Lib.hid (HT.out.kept HKA.out)
          have t0 := HT2.out.c0; have t1 := HT2.out.c1; have t2 := HT2.out.c2; have t3 := HT2.out.c3; have t4 := HT2.out.c4; have t5 := HT2.out.c5; have t6 := HT2.out.c6; have t7 := HT2.out.c7; have t8 := HT2.out.c8
          go_wp2_with fail
          go_at_call 172
          refine (A3.out _ (HH.out.kept HKA.out)).mono ?_
          rintro e w3 ⟨rfl, hk1⟩
          replace HKA := Lib.hid (HKA.out.trans hk1)
          clear hk1 e0 e1 e2 e3 e4 e5 t0 t1 t2 t3 t4 t5 t6 t7 t8
          by_cases hlt2 : u < (t : Int)
          · have d1 : decide (u < (t : Int)) = true := decide_eq_true hlt2
            have HF := Lib.hid (show false = r by rw [eq_comm, ← Bool.not_eq_true, HR.out]; exact by obtain ⟨y, hy, e⟩ := plc_low HU.out HXX.out rfl hlt2; exact kinP_twice HXX.out hy e)
            clear hlt2
            go_wp2_with fail
            go_ret
            exact ⟨ret_bool HF.out, HK.out.trans HKA.out⟩
          · have HN := Lib.hid (HPRE.out.snoc HXX.out ⟨(HQ1.out.1 (by first | rfl | trivial)).1, (HQ2.out.1 (by first | rfl | trivial)).1, (HQ1.out.1 (by first | rfl | trivial)).2, (HQ2.out.1 (by first | rfl | trivial)).2⟩ (plc_high HU.out hlt2))
            have d1 : decide (u < (t : Int)) = false := decide_eq_false hlt2
            clear hlt2
            go_wp2_with fail
            go_roundw
            case rel => exact ⟨t + 1, hlt, by go_num, HKA.out, HN.out⟩
            case measure => simp [intOf]; omega
    · obtain rfl : t = n := by omega
      have HF := Lib.hid (show true = r from (HR.out.2 ⟨by
        have := HPRE.out
        rw [show T.L.take t = T.L from List.take_of_length_le (by rw [← HNL.out]; exact Nat.le_refl _)] at this
        exact this, by have := H8.out; have := HNL.out; omega⟩).symm)
      go_wp2_with fail
      go_ret
      exact ⟨ret_bool HF.out, HK.out.trans HKR.out⟩
set_option maxRecDepth 100000 in
set_option maxHeartbeats 8000000 in
theorem tstays_any (A : Option Addr) (n c : Nat) (T : Tb) (w : World) (h : Pal w A n c T.L) (ho : T.L.Pairwise fun p q => p.f ≠ q.f) (r : Bool) (hr : r = true ↔ T.d = .zero ∧ T.b = .zero ∧ ∀ p ∈ T.L, fstT T.L p.f = none → backT T p.t = p.f) :
    Calls Tryz.prog 163 #[.agg #[.slice A n c, .bool T.keep, .int .i64 T.d.k, .int .i64 T.d.n, .string T.d.t, .int .i64 T.b.k, .int .i64 T.b.n, .string T.b.t, .bool T.tu]] w fun e w' => e = .returned (.bool r) ∧ Kept w w' := by
  have hk := (Kept.refl w).alloc #[.slice A n c, .bool T.keep, .int .i64 T.d.k, .int .i64 T.d.n, .string T.d.t, .int .i64 T.b.k, .int .i64 T.b.n, .string T.b.t, .bool T.tu] 31
  have hcap := h.cap.1; have hcap2 := h.cap.2
  have HNL := Lib.hid h.1; have HR := Lib.hid hr
  have HT := Lib.hid (TabB.new w A n c T 31)
  have HH := Lib.hid (h.kept hk)
  obtain ⟨U, hU⟩ : ∃ U, w.alloc (.cells #[.slice A n c, .bool T.keep, .int .i64 T.d.k, .int .i64 T.d.n, .string T.d.t, .int .i64 T.b.k, .int .i64 T.b.n, .string T.b.t, .bool T.tu] 31) = U := ⟨_, rfl⟩
  rw [hU] at hk HT HH
  have HK := Lib.hid hk; have HUU := Lib.hid hU
  have HO := Lib.hid ho
  have t0 := HT.out.c0; have t1 := HT.out.c1; have t2 := HT.out.c2; have t3 := HT.out.c3; have t4 := HT.out.c4; have t5 := HT.out.c5; have t6 := HT.out.c6; have t7 := HT.out.c7; have t8 := HT.out.c8
  clear h hr hk hU ho
  by_cases dz : T.d = .zero
  · have HEdz := Lib.hid dz
    obtain ⟨dz0, dz1, _⟩ := va_eq dz
    have dz2 := zero_t dz
    simp only [Va.zero] at dz0 dz1
    clear dz
    by_cases bz : T.b = .zero
    · have HEbz := Lib.hid bz
      obtain ⟨bz0, bz1, _⟩ := va_eq bz
      have bz2 := zero_t bz
      simp only [Va.zero] at bz0 bz1
      clear bz
      go_enter Tryz.func163, Tryz.ntmps163
      go_wp2_with fail
      rw [HUU.out]
      go_wp2_with fail
      clear t0 t1 t2 t3 t4 t5 t6 t7 t8 dz0 dz1 dz2 bz0 bz1 bz2
      go_loopw [18] (fun i wr => ∃ t : Nat, t ≤ n ∧ i = .int .i64 t ∧ Kept U wr ∧ ∀ p ∈ T.L.take t, fstT T.L p.f = none → backT T p.t = p.f) (fun i _ => n - (intOf i).toNat)
      case atStart => exact ⟨0, Nat.zero_le _, rfl, Kept.refl _, fun p hp => by simp at hp⟩
      case round =>
        obtain ⟨t, ht, rfl, hkr, hall⟩ := hrel
        have HKR := Lib.hid hkr; have HA := Lib.hid hall
        clear hkr hall
        by_cases hlt : t < n
        · obtain ⟨g, o, x, rfl, hx, EX⟩ := (HH.out.kept HKR.out).get hlt
          have x0 := EX.c0; have x1 := EX.c1; have x2 := EX.c2; have x3 := EX.c3; have x4 := EX.c4; have x5 := EX.c5
          have HT.b := Lib.hid hx
          have hka := (Kept.refl wr).alloc #[.int .i64 x.f.k, .int .i64 x.f.n, .string x.f.t, .int .i64 x.t.k, .int .i64 x.t.n, .string x.t.t] 99
          have HE := Lib.hid (PaB.new wr x 99)
          have HFX := Lib.hid (forth_left HO.out (List.mem_of_getElem? hx))
          obtain ⟨W1, hW1⟩ : ∃ W1, wr.alloc (.cells #[.int .i64 x.f.k, .int .i64 x.f.n, .string x.f.t, .int .i64 x.t.k, .int .i64 x.t.n, .string x.t.t] 99) = W1 := ⟨_, rfl⟩
          have HKA := Lib.hid (HKR.out.trans hka)
          rw [hW1] at HKA HE
          have HW1 := Lib.hid hW1
          clear EX hx hka hW1
          obtain ⟨u, hu⟩ := plc_ex true T.L x.f
          have AF := Lib.hid (fun w h => onR_any (some ⟨g, o, none⟩) n c T x.f w h u hu)
          obtain ⟨v, hv⟩ : ∃ v, backT T x.t = v := ⟨_, rfl⟩
          have AO := Lib.hid (fun w h => tforth_any (some ⟨g, o, none⟩) n c T x.f x.t HFX.out w h)
          have AB := Lib.hid (fun w h => tback_any (some ⟨g, o, none⟩) n c T x.t v hv w h)
          have HPL := Lib.hid (show u < 0 ↔ fstT T.L x.f = none from (plc_neg hu).trans fstT_none.symm); have HV := Lib.hid hv
          clear hu hv
          go_wp2_with fail
          rw [HW1.out]
          clear x0 x1 x2 x3 x4 x5
          go_wp2_with fail
          have HT2 := Lib.hid (HT.out.kept HKA.out); have HH2 := Lib.hid (HH.out.kept HKA.out)
          have T0 := KExt.cell HT2.out.c0; have T1 := KExt.cell HT2.out.c1; have T2 := KExt.cell HT2.out.c2; have T3 := KExt.cell HT2.out.c3; have T4 := KExt.cell HT2.out.c4; have T5 := KExt.cell HT2.out.c5; have T6 := KExt.cell HT2.out.c6; have T7 := KExt.cell HT2.out.c7; have T8 := KExt.cell HT2.out.c8
          have E0 := KExt.cell HE.out.c0; have E1 := KExt.cell HE.out.c1; have E2 := KExt.cell HE.out.c2; have E3 := KExt.cell HE.out.c3; have E4 := KExt.cell HE.out.c4; have E5 := KExt.cell HE.out.c5
          by_cases hneg : u < 0
          case neg =>
            have d1 : decide (u < (0 : Int)) = false := decide_eq_false hneg
            have HN := Lib.hid (show ∀ p ∈ T.L.take (t + 1), fstT T.L p.f = none → backT T p.t = p.f from fun p hp => by
              rw [List.take_add_one, HT.b.out, Option.toList_some, List.mem_append, List.mem_singleton] at hp
              rcases hp with hp | rfl
              · exact HA.out p hp
              · intro e; exact absurd (HPL.out.2 e) hneg)
            clear hneg
            refine region_kept _ (by kernel_rfl) (by kernel_rfl) (Kept.refl _) ?_
            repeat (go_big_quiet_step ((first
                | (go_at_call 173; (with_reducible exact KExt.callsK (AF.out _ (HH2.out.kept (KExt.g _)))))
                | (go_at_call 166; (with_reducible exact KExt.callsK (AO.out _ (HH2.out.kept (KExt.g _)))))
                | (go_at_call 165; (with_reducible exact KExt.callsK (AB.out _ (HH2.out.kept (KExt.g _)))))
                | fail)))
            refine wpQuiet_nil ?_
            intro G
            clear T0 T1 T2 T3 T4 T5 T6 T7 T8 E0 E1 E2 E3 E4 E5
            go_wp2_with fail
            go_roundw
            case rel => exact ⟨t + 1, hlt, by go_num, HKA.out.trans G.g, HN.out⟩
            case measure => simp [intOf]; omega
          have d1 : decide (u < (0 : Int)) = true := decide_eq_true hneg
          have HNEG := Lib.hid hneg
          clear hneg
          by_cases q : v = x.f
          · have HN := Lib.hid (show ∀ p ∈ T.L.take (t + 1), fstT T.L p.f = none → backT T p.t = p.f from fun p hp => by
              rw [List.take_add_one, HT.b.out, Option.toList_some, List.mem_append, List.mem_singleton] at hp
              rcases hp with hp | rfl
              · exact HA.out p hp
              · intro _; rw [HV.out, q])
            obtain ⟨q0, q1, q2⟩ := va_eq q
            clear q
            refine region_kept _ (by kernel_rfl) (by kernel_rfl) (Kept.refl _) ?_
            repeat (go_big_quiet_step ((first
                | (go_at_call 173; (with_reducible exact KExt.callsK (AF.out _ (HH2.out.kept (KExt.g _)))))
                | (go_at_call 166; (with_reducible exact KExt.callsK (AO.out _ (HH2.out.kept (KExt.g _)))))
                | (go_at_call 165; (with_reducible exact KExt.callsK (AB.out _ (HH2.out.kept (KExt.g _)))))
                | fail)))
            refine wpQuiet_nil ?_
            intro G
            clear T0 T1 T2 T3 T4 T5 T6 T7 T8 E0 E1 E2 E3 E4 E5
            go_wp2_with fail
            go_roundw
            case rel => exact ⟨t + 1, hlt, by go_num, HKA.out.trans G.g, HN.out⟩
            case measure => simp [intOf]; omega
          · have HF := Lib.hid (show false = r by
              rw [eq_comm, ← Bool.not_eq_true, HR.out]
              intro k
              exact q (by rw [← HV.out]; exact k.2.2 x (List.mem_of_getElem? HT.b.out) (HPL.out.1 HNEG.out)))
            rcases va_ne q with q0 | ⟨q0, q1⟩ | ⟨q0, q1, q2⟩ <;> clear q
            · refine region_kept _ (by kernel_rfl) (by kernel_rfl) (Kept.refl _) ?_
              repeat (go_big_quiet_step ((first
                  | (go_at_call 173; (with_reducible exact KExt.callsK (AF.out _ (HH2.out.kept (KExt.g _)))))
                  | (go_at_call 166; (with_reducible exact KExt.callsK (AO.out _ (HH2.out.kept (KExt.g _)))))
                  | (go_at_call 165; (with_reducible exact KExt.callsK (AB.out _ (HH2.out.kept (KExt.g _)))))
                  | fail)))
              refine wpQuiet_nil ?_
              intro G
              clear T0 T1 T2 T3 T4 T5 T6 T7 T8 E0 E1 E2 E3 E4 E5
              go_wp2_with fail
              go_ret
              exact ⟨ret_bool HF.out, HK.out.trans (HKA.out.trans G.g)⟩
            · refine region_kept _ (by kernel_rfl) (by kernel_rfl) (Kept.refl _) ?_
              repeat (go_big_quiet_step ((first
                  | (go_at_call 173; (with_reducible exact KExt.callsK (AF.out _ (HH2.out.kept (KExt.g _)))))
                  | (go_at_call 166; (with_reducible exact KExt.callsK (AO.out _ (HH2.out.kept (KExt.g _)))))
                  | (go_at_call 165; (with_reducible exact KExt.callsK (AB.out _ (HH2.out.kept (KExt.g _)))))
                  | fail)))
              refine wpQuiet_nil ?_
              intro G
              clear T0 T1 T2 T3 T4 T5 T6 T7 T8 E0 E1 E2 E3 E4 E5
              go_wp2_with fail
              go_ret
              exact ⟨ret_bool HF.out, HK.out.trans (HKA.out.trans G.g)⟩
            · refine region_kept _ (by kernel_rfl) (by kernel_rfl) (Kept.refl _) ?_
              repeat (go_big_quiet_step ((first
                  | (go_at_call 173; (with_reducible exact KExt.callsK (AF.out _ (HH2.out.kept (KExt.g _)))))
                  | (go_at_call 166; (with_reducible exact KExt.callsK (AO.out _ (HH2.out.kept (KExt.g _)))))
                  | (go_at_call 165; (with_reducible exact KExt.callsK (AB.out _ (HH2.out.kept (KExt.g _)))))
                  | fail)))
              refine wpQuiet_nil ?_
              intro G
              clear T0 T1 T2 T3 T4 T5 T6 T7 T8 E0 E1 E2 E3 E4 E5
              go_wp2_with fail
              go_ret
              exact ⟨ret_bool HF.out, HK.out.trans (HKA.out.trans G.g)⟩
        · obtain rfl : t = n := by omega
          have HF := Lib.hid (show true = r from (HR.out.2 ⟨HEdz.out, HEbz.out, fun p hp => HA.out p (by rw [List.take_of_length_le (by rw [← HNL.out]; exact Nat.le_refl _)]; exact hp)⟩).symm)
          go_wp2_with fail
          go_ret
          exact ⟨ret_bool HF.out, HK.out.trans HKR.out⟩
    · have HF := Lib.hid (show false = r by rw [eq_comm, ← Bool.not_eq_true, HR.out]; exact fun k => bz k.2.1)
      rcases va_nz bz with bz0 | ⟨bz0, bz1⟩ | ⟨bz0, bz1, bz2⟩ <;> clear bz
      · go_enter Tryz.func163, Tryz.ntmps163
        go_wp2_with fail
        rw [HUU.out]
        go_wp2_with fail
        go_ret
        exact ⟨ret_bool HF.out, HK.out⟩
      · go_enter Tryz.func163, Tryz.ntmps163
        go_wp2_with fail
        rw [HUU.out]
        go_wp2_with fail
        go_ret
        exact ⟨ret_bool HF.out, HK.out⟩
      · go_enter Tryz.func163, Tryz.ntmps163
        go_wp2_with fail
        rw [HUU.out]
        go_wp2_with fail
        go_ret
        exact ⟨ret_bool HF.out, HK.out⟩
  · have HF := Lib.hid (show false = r by rw [eq_comm, ← Bool.not_eq_true, HR.out]; exact fun k => dz k.1)
    rcases va_nz dz with dz0 | ⟨dz0, dz1⟩ | ⟨dz0, dz1, dz2⟩ <;> clear dz
    · go_enter Tryz.func163, Tryz.ntmps163
      go_wp2_with fail
      rw [HUU.out]
      go_wp2_with fail
      go_ret
      exact ⟨ret_bool HF.out, HK.out⟩
    · go_enter Tryz.func163, Tryz.ntmps163
      go_wp2_with fail
      rw [HUU.out]
      go_wp2_with fail
      go_ret
      exact ⟨ret_bool HF.out, HK.out⟩
    · go_enter Tryz.func163, Tryz.ntmps163
      go_wp2_with fail
      rw [HUU.out]
      go_wp2_with fail
      go_ret
      exact ⟨ret_bool HF.out, HK.out⟩
end Go.Proofs.YtofnpifooaijcaaGreat
