/-
  What is proved: package schema's Right of layer 11 (P11.2), called with any schema of bounded texts, tells whether it is right; the world has new blocks at most.
  package schema's Take of layer 11 (P11.7), called with any text of up to 100000 bytes, returns what that says; the world has new blocks at most.
  package step's takeField (a part of P14.6), called with any text of up to 100000 bytes, returns the field that it begins with, and what follows it, or the error; the world has new blocks at most.
-/
import Derived.Test.YtofnpifooaijcaaGreatM15
import Derived.Test.YtofnpifooaijcaaGreatM13
import Derived.Test.YtofnpifooaijcaaGreatFSField2
import Derived.Test.YtofnpifooaijcaaGreatM17
import Derived.Test.YtofnpifooaijcaaGreatM18
namespace Go.Proofs.YtofnpifooaijcaaGreat
open Go.RowKit
set_option linter.unusedVariables false
def folF (x : Fd) (M : List Fd) : Bool := M.all fun y => decide (LtP y.p x.p) && L4.apS y.p x.p
theorem apS_comm (a b : ByteArray) : L4.apS b a = L4.apS a b := L4.apL_comm _ _
theorem folF_true {x : Fd} {M : List Fd} (h : folF x M = true) {y : Fd} (hy : y ∈ M) : LtP y.p x.p ∧ L4.apS x.p y.p = true := by
  unfold folF at h
  rw [List.all_eq_true] at h
  have := h y hy
  rw [Bool.and_eq_true, decide_eq_true_iff] at this
  exact ⟨this.1, by rw [apS_comm]; exact this.2⟩
theorem folF_all {x : Fd} {M : List Fd} (h : ∀ y ∈ M, LtP y.p x.p ∧ L4.apS y.p x.p = true) : folF x M = true := by
  unfold folF
  rw [List.all_eq_true]
  intro y hy
  rw [Bool.and_eq_true, decide_eq_true_iff]
  exact h y hy
theorem folF_not {x : Fd} {M : List Fd} {y : Fd} (hy : y ∈ M) (h : ¬ LtP y.p x.p ∨ L4.apS y.p x.p = false) : folF x M = false := by
  rw [← Bool.not_eq_true]
  intro k
  have := folF_true k hy
  rcases h with h | h
  · exact h this.1
  · rw [apS_comm, this.2] at h; cases h
theorem folF_false {x : Fd} {M : List Fd} (h : folF x M = false) : ∃ y ∈ M, ¬ LtP y.p x.p ∨ L4.apS x.p y.p = false := by
  refine Classical.byContradiction fun k => ?_
  rw [folF_all (fun y hy => ?_)] at h
  · cases h
  · refine Classical.byContradiction fun q => k ⟨y, hy, ?_⟩
    by_cases h1 : LtP y.p x.p
    · right
      rw [← Bool.not_eq_true, apS_comm]
      exact fun h2 => q ⟨h1, h2⟩
    · exact .inl h1
set_option maxRecDepth 100000 in
set_option maxHeartbeats 8000000 in
theorem sfo_any (x : Fd) (A : Option Addr) (n c : Nat) (L : List Fd) (w : World) (h : Fl w A n c L) (hp : x.p.size ≤ 1099511627776) (hw : ∀ x ∈ L, x.p.size ≤ 1099511627776) :
    Calls Tryz.prog 78 #[.agg #[.string x.p, .int .i64 x.k, .int .i64 x.t, .int .i64 x.vk, .int .i64 x.vn, .string x.vt], .slice A n c] w fun e w' => e = .returned (.bool (folF x L)) ∧ Kept w w' := by
  have hk := (Kept.refl w).alloc #[.string x.p, .int .i64 x.k, .int .i64 x.t, .int .i64 x.vk, .int .i64 x.vn, .string x.vt] 28
  have hcap := h.cap.1; have hcap2 := h.cap.2
  have HNL := Lib.hid h.1; have HSZ := Lib.hid hw; have HP := Lib.hid hp
  have HB := Lib.hid (FdB.new w x 28)
  have HH := Lib.hid (h.kept hk)
  obtain ⟨U, hU⟩ : ∃ U, w.alloc (.cells #[.string x.p, .int .i64 x.k, .int .i64 x.t, .int .i64 x.vk, .int .i64 x.vn, .string x.vt] 28) = U := ⟨_, rfl⟩
  rw [hU] at hk HB HH
  have HK := Lib.hid hk; have HUU := Lib.hid hU
  clear h hw hp hk hU
  go_enter Tryz.func78, Tryz.ntmps78
  go_wp2_with fail
  rw [HUU.out]
  go_loopw [9] (fun i wr => ∃ t : Nat, t ≤ n ∧ i = .int .i64 t ∧ Kept U wr ∧ ∀ y ∈ L.take t, LtP y.p x.p ∧ L4.apS y.p x.p = true) (fun i _ => n - (intOf i).toNat)
  case atStart => exact ⟨0, Nat.zero_le _, rfl, Kept.refl _, fun y hy => by simp at hy⟩
  case round =>
    obtain ⟨t, ht, rfl, hkr, hall⟩ := hrel
    have HKR := Lib.hid hkr; have HA := Lib.hid hall
    clear hkr hall
    by_cases hlt : t < n
    · obtain ⟨g, o, y, rfl, hy, EY⟩ := (HH.out.kept HKR.out).get hlt
      have y0 := EY.c0; have y1 := EY.c1; have y2 := EY.c2; have y3 := EY.c3; have y4 := EY.c4; have y5 := EY.c5
      have HYY := Lib.hid hy
      have hym := List.mem_of_getElem? hy
      have hka := (Kept.refl wr).alloc #[.string y.p, .int .i64 y.k, .int .i64 y.t, .int .i64 y.vk, .int .i64 y.vn, .string y.vt] 28
      have hx0 := (HB.out.kept (HKR.out.trans hka)).c0
      have HKA := Lib.hid (HKR.out.trans hka)
      obtain ⟨ap, hap⟩ : ∃ b, L4.apS y.p x.p = b := ⟨_, rfl⟩
      have AP := Lib.hid (fun w => apK y.p x.p ap hap (HSZ.out y hym) HP.out w)
      have HAP := Lib.hid hap
      have HYM := Lib.hid (show y ∈ L from hym)
      clear EY hy hym hka hap
      by_cases hlp : LtP y.p x.p
      · have s1 : Op.bytesLess y.p.toList x.p.toList = true := by rw [less_of]; exact decide_eq_true hlp
        have HLP := Lib.hid hlp
        clear hlp
        go_wp2_with fail
        go_at_call 128
        refine (AP.out _).mono ?_
        rintro e w5 ⟨rfl, hk5⟩
        have HK5 := Lib.hid (HKA.out.trans hk5)
        clear hk5 y0 y1 y2 y3 y4 y5 hx0
        cases ap with
        | false =>
          have HF := Lib.hid (show false = folF x L from (folF_not HYM.out (.inr HAP.out)).symm)
          go_wp2_with fail
          go_ret
          exact ⟨ret_bool HF.out, HK.out.trans HK5.out⟩
        | true =>
          have HN := Lib.hid (show ∀ z ∈ L.take (t + 1), LtP z.p x.p ∧ L4.apS z.p x.p = true from fun z hz => by
            rw [List.take_add_one, HYY.out, Option.toList_some, List.mem_append, List.mem_singleton] at hz
            rcases hz with hz | rfl
            · exact HA.out z hz
            · exact ⟨HLP.out, HAP.out⟩)
          go_wp2_with fail
          go_roundw
          case rel => exact ⟨t + 1, hlt, by go_num, HK5.out, HN.out⟩
          case measure => simp [intOf]; omega
      · have s1 : Op.bytesLess y.p.toList x.p.toList = false := by rw [less_of]; exact decide_eq_false hlp
        have HF := Lib.hid (show false = folF x L from (folF_not HYM.out (.inl hlp)).symm)
        clear hlp
        go_wp2_with fail
        go_ret
        exact ⟨ret_bool HF.out, HK.out.trans HKA.out⟩
    · obtain rfl : t = n := by omega
      have HF := Lib.hid (show true = folF x L from (folF_all (fun y hy => HA.out y (by rw [List.take_of_length_le (by rw [← HNL.out]; exact Nat.le_refl _)]; exact hy))).symm)
      go_wp2_with fail
      go_ret
      exact ⟨ret_bool HF.out, HK.out.trans HKR.out⟩
set_option maxRecDepth 100000 in
set_option maxHeartbeats 8000000 in
theorem ssc_any (A : Option Addr) (n c : Nat) (L : List Fd) (w : World) (h : Fl w A n c L) (hw : ∀ x ∈ L, x.p.size ≤ 1099511627776 ∧ x.vt.size ≤ 1099511627776) (r : Bool) (hr : r = true ↔ ScOk L) :
    Calls Tryz.prog 23 #[.agg #[.slice A n c]] w fun e w' => e = .returned (.bool r) ∧ Kept w w' := by
  have hk := (Kept.refl w).alloc #[.slice A n c] 24
  have hcap := h.cap.1; have hcap2 := h.cap.2
  have HNL := Lib.hid h.1; have HSZ := Lib.hid hw; have HR := Lib.hid hr
  have HB := Lib.hid (Box1.new w (.slice A n c) 24)
  have HH := Lib.hid (h.kept hk)
  obtain ⟨U, hU⟩ : ∃ U, w.alloc (.cells #[.slice A n c] 24) = U := ⟨_, rfl⟩
  rw [hU] at hk HB HH
  have HK := Lib.hid hk; have HUU := Lib.hid hU
  have d0 := HB.out.c0
  clear h hw hr hk hU
  by_cases h24 : 24 < n
  · have f1 : decide ((24 : Int) < (n : Int)) = true := decide_eq_true (by omega)
    have f2 : decide (24 < n) = true := decide_eq_true h24
    have HF := Lib.hid (show false = r by
      rw [eq_comm, ← Bool.not_eq_true, HR.out]
      intro s
      have := s.few; have := HNL.out; omega)
    clear h24
    go_enter Tryz.func23, Tryz.ntmps23
    go_wp2_with fail
    rw [HUU.out]
    go_wp2_with fail
    go_ret
    exact ⟨ret_bool HF.out, HK.out⟩
  · have f1 : decide ((24 : Int) < (n : Int)) = false := decide_eq_false (by omega)
    have f2 : decide (24 < n) = false := decide_eq_false h24
    go_enter Tryz.func23, Tryz.ntmps23
    go_wp2_with fail
    rw [HUU.out]
    go_wp2_with fail
    clear d0
    go_loopw [12] (fun i wr => ∃ t : Nat, t ≤ n ∧ i = .int .i64 t ∧ Kept U wr ∧ PreF (L.take t)) (fun i _ => n - (intOf i).toNat)
    case atStart => exact ⟨0, Nat.zero_le _, rfl, Kept.refl _, by rw [List.take_zero]; exact PreF.nil⟩
    case round =>
      obtain ⟨t, ht, rfl, hkr, hpre⟩ := hrel
      have HKR := Lib.hid hkr; have HPRE := Lib.hid hpre
      clear hkr hpre
      by_cases hlt : t < n
      · obtain ⟨g, o, x, rfl, hx, EX⟩ := (HH.out.kept HKR.out).get hlt
        have x0 := EX.c0; have x1 := EX.c1; have x2 := EX.c2; have x3 := EX.c3; have x4 := EX.c4; have x5 := EX.c5
        have HXX := Lib.hid hx
        have hka := (Kept.refl wr).alloc #[.string x.p, .int .i64 x.k, .int .i64 x.t, .int .i64 x.vk, .int .i64 x.vn, .string x.vt] 28
        have HE := Lib.hid (FdB.new wr x 28)
        have HZX := Lib.hid (HSZ.out x (List.mem_of_getElem? hx))
        obtain ⟨fr, hfr⟩ : ∃ b, rightF x = b := ⟨_, rfl⟩
        have AF := Lib.hid (fun w => sfr_c x fr hfr w HZX.out.1 HZX.out.2)
        have HFR := Lib.hid hfr
        obtain ⟨W1, hW1⟩ : ∃ W1, wr.alloc (.cells #[.string x.p, .int .i64 x.k, .int .i64 x.t, .int .i64 x.vk, .int .i64 x.vn, .string x.vt] 28) = W1 := ⟨_, rfl⟩
        have HKA := Lib.hid (HKR.out.trans hka)
        rw [hW1] at HKA HE
        have HW1 := Lib.hid hW1
        have hth : t ≤ c := by omega
        have HTH := Lib.hid (show t ≤ n from ht)
        clear EX hx hka hfr hW1
        go_wp2_with fail
        rw [HW1.out]
        clear x0 x1 x2 x3 x4 x5
        have X0 := KExt.cell HE.out.c0; have X1 := KExt.cell HE.out.c1; have X2 := KExt.cell HE.out.c2; have X3 := KExt.cell HE.out.c3; have X4 := KExt.cell HE.out.c4; have X5 := KExt.cell HE.out.c5
        cases fr with
        | false =>
          have HF := Lib.hid (show false = r by rw [eq_comm, ← Bool.not_eq_true, HR.out]; exact scOk_ent HXX.out HFR.out)
          refine region_plan W1 12 (.read [0] (.one 1 (.read [2, 3, 4, 5, 6, 7, 8] (.one 9 (.read [10, 11] .stop))))) (by kernel_rfl) (by kernel_rfl) (by kernel_rfl) (by kernel_rfl) (by kernel_rfl) (fun _ d _ _ _ h => by cases d <;> exact h) (Kept.refl _) ?_
          intro wd hwd
          have HV := Lib.hid hwd
          clear hwd
          rw [wpPlan_read]
          simp only [pA, pB, pC, pD]
          repeat (go_big_quiet_step (fail))
          refine wpQuiet_nil ?_
          rw [wpPlan_one]
          simp only [pA, pB, pC, pD, pE]
          go_wp2_with (go_at_call 77; refine (AF.out _).mono ?_; rintro e u1 ⟨rfl, hkz⟩)
          replace HV := Lib.hid (HV.out.trans hkz)
          clear hkz
          refine soloP HV.out ?_
          rw [wpPlan_read]
          simp only [pA, pB, pC, pD, pE]
          repeat (go_big_quiet_step (fail))
          refine wpQuiet_nil ?_
          rw [wpPlan_one]
          simp only [pA, pB, pC, pD, pE]
          go_wp2_with fail
          refine soloP HV.out ?_
          rw [wpPlan_read]
          simp only [pA, pB, pC, pD, pE]
          repeat (go_big_quiet_step (fail))
          refine wpQuiet_nil ?_
          refine wpPlan_stop ?_
          clear X0 X1 X2 X3 X4 X5
          go_wp2_with fail
          go_ret
          exact ⟨ret_bool HF.out, HK.out.trans (HKA.out.trans HV.out)⟩
        | true =>
          have D0 := KExt.cell (HB.out.kept HKA.out).c0
          have hrh := run_fhead (some ⟨g, o, none⟩) n c t hth
          have hrh2 := run_fhead2 (some ⟨g, o, none⟩) n c t hth
          have HHD := Lib.hid ((fl_head HH.out HTH.out hth (Nat.le_refl c)).kept HKA.out)
          obtain ⟨fo, hfo⟩ : ∃ b, folF x (L.take t) = b := ⟨_, rfl⟩
          have AG := Lib.hid (show ∀ wz, Kept W1 wz → Calls Tryz.prog 78 #[.agg #[.string x.p, .int .i64 x.k, .int .i64 x.t, .int .i64 x.vk, .int .i64 x.vn, .string x.vt], .slice (some ⟨g, o, none⟩) t c] wz fun e w' => e = .returned (.bool fo) ∧ Kept wz w' from fun wz hz => by
            rw [← hfo]
            exact sfo_any x _ t c (L.take t) wz (HHD.out.kept hz) HZX.out.1 (fun y hy => (HSZ.out y (List.mem_of_mem_take hy)).1))
          have HFO := Lib.hid hfo
          clear hfo
          cases fo with
          | false =>
            have HF := Lib.hid (show false = r by
              rw [eq_comm, ← Bool.not_eq_true, HR.out]
              obtain ⟨y, hy, hq⟩ := folF_false HFO.out
              obtain ⟨k, hk⟩ := List.mem_iff_getElem?.1 hy
              rw [List.getElem?_take] at hk
              split at hk
              · rcases hq with hq | hq
                · exact scOk_rise hk HXX.out (by assumption) hq
                · exact scOk_apart hk HXX.out (by assumption) hq
              · cases hk)
            refine region_plan W1 12 (.read [0] (.one 1 (.read [2, 3, 4, 5, 6, 7, 8] (.one 9 (.read [10, 11] .stop))))) (by kernel_rfl) (by kernel_rfl) (by kernel_rfl) (by kernel_rfl) (by kernel_rfl) (fun _ d _ _ _ h => by cases d <;> exact h) (Kept.refl _) ?_
            intro wd hwd
            have HV := Lib.hid hwd
            clear hwd
            rw [wpPlan_read]
            simp only [pA, pB, pC, pD]
            repeat (go_big_quiet_step (fail))
            refine wpQuiet_nil ?_
            rw [wpPlan_one]
            simp only [pA, pB, pC, pD, pE]
            go_wp2_with (go_at_call 77; refine (AF.out _).mono ?_; rintro e u1 ⟨rfl, hkz⟩)
            replace HV := Lib.hid (HV.out.trans hkz)
            clear hkz
            refine soloP HV.out ?_
            rw [wpPlan_read]
            simp only [pA, pB, pC, pD, pE]
            repeat (go_big_quiet_step (fail))
            refine wpQuiet_nil ?_
            rw [wpPlan_one]
            simp only [pA, pB, pC, pD, pE]
            go_wp2_with (go_at_call 78; refine (AG.out _ HV.out).mono ?_; rintro e u2 ⟨rfl, hkz⟩)
            replace HV := Lib.hid (HV.out.trans hkz)
            clear hkz
            refine soloP HV.out ?_
            rw [wpPlan_read]
            simp only [pA, pB, pC, pD, pE]
            repeat (go_big_quiet_step (fail))
            refine wpQuiet_nil ?_
            refine wpPlan_stop ?_
            clear X0 X1 X2 X3 X4 X5 D0 hrh hrh2
            go_wp2_with fail
            go_ret
            exact ⟨ret_bool HF.out, HK.out.trans (HKA.out.trans HV.out)⟩
          | true =>
            have HN := Lib.hid (HPRE.out.step HXX.out HFR.out (fun k y hk hy => (folF_true HFO.out (List.mem_iff_getElem?.2 ⟨k, by rw [List.getElem?_take, if_pos (by omega)]; exact hy⟩)).1) (fun y hy => (folF_true HFO.out hy).2))
            refine region_plan W1 12 (.read [0] (.one 1 (.read [2, 3, 4, 5, 6, 7, 8] (.one 9 (.read [10, 11] .stop))))) (by kernel_rfl) (by kernel_rfl) (by kernel_rfl) (by kernel_rfl) (by kernel_rfl) (fun _ d _ _ _ h => by cases d <;> exact h) (Kept.refl _) ?_
            intro wd hwd
            have HV := Lib.hid hwd
            clear hwd
            rw [wpPlan_read]
            simp only [pA, pB, pC, pD]
            repeat (go_big_quiet_step (fail))
            refine wpQuiet_nil ?_
            rw [wpPlan_one]
            simp only [pA, pB, pC, pD, pE]
            go_wp2_with (go_at_call 77; refine (AF.out _).mono ?_; rintro e u1 ⟨rfl, hkz⟩)
            replace HV := Lib.hid (HV.out.trans hkz)
            clear hkz
            refine soloP HV.out ?_
            rw [wpPlan_read]
            simp only [pA, pB, pC, pD, pE]
            repeat (go_big_quiet_step (fail))
            refine wpQuiet_nil ?_
            rw [wpPlan_one]
            simp only [pA, pB, pC, pD, pE]
            go_wp2_with (go_at_call 78; refine (AG.out _ HV.out).mono ?_; rintro e u2 ⟨rfl, hkz⟩)
            replace HV := Lib.hid (HV.out.trans hkz)
            clear hkz
            refine soloP HV.out ?_
            rw [wpPlan_read]
            simp only [pA, pB, pC, pD, pE]
            repeat (go_big_quiet_step (fail))
            refine wpQuiet_nil ?_
            refine wpPlan_stop ?_
            clear X0 X1 X2 X3 X4 X5 D0 hrh hrh2
            go_wp2_with fail
            go_roundw
            case rel => exact ⟨t + 1, hlt, by go_num, HKA.out.trans HV.out, HN.out⟩
            case measure => simp [intOf]; omega
      · obtain rfl : t = n := by omega
        have HALL := Lib.hid (show PreF L by
          have := HPRE.out
          rw [show L.take t = L from List.take_of_length_le (by rw [← HNL.out]; exact Nat.le_refl _)] at this
          exact this)
        have HF := Lib.hid (show true = r from (HR.out.2 ⟨by have := HNL.out; omega, HALL.out.ent, HALL.out.rise, HALL.out.apart⟩).symm)
        go_wp2_with fail
        go_ret
        exact ⟨ret_bool HF.out, HK.out.trans HKR.out⟩
end Go.Proofs.YtofnpifooaijcaaGreat
namespace Go.Proofs.YtofnpifooaijcaaGreat
open Go.RowKit
set_option linter.unusedVariables false
open Classical in
set_option maxRecDepth 100000 in
set_option maxHeartbeats 8000000 in
theorem stake_any (s : ByteArray) (w : World) (hs : s.size ≤ 100000) :
    Calls Tryz.prog 104 #[.string s] w (TakS s w) := by
  have hk := (Kept.refl w).alloc #[.slice none 0 0] 24
  have HRES := Lib.hid (Box1.new w (.slice none 0 0) 24)
  have HK := Lib.hid hk
  have hrs := tkR_size s
  clear hk
  by_cases h0 : tkE s ≠ 0
  · obtain ⟨z, hz⟩ : ∃ z : Nat, tkE s = z := ⟨_, rfl⟩
    have f1' : ((z : Int) == 0) = false := by simp; omega
    have f2' : ((z : Int) != 0) = true := by simp; omega
    have HT := Lib.hid (show tscL s = ([], ⟨#[]⟩, z) by unfold tscL; rw [if_pos h0, hz])
    have AK := Lib.hid (fun w => take_c s _ _ (z : Int) rfl rfl (by omega) (by omega) w)
    clear h0 hz hs hrs
    go_enter Tryz.func104, Tryz.ntmps104
    go_wp2_with fail
    go_at_call 100
    refine (AK.out _).mono ?_
    rintro e w1 ⟨rfl, hg⟩
    have hk := kept_of hg
    replace HK := Lib.hid (HK.out.trans hk)
    replace HRES := Lib.hid (HRES.out.kept hk)
    clear hg hk
    have hr := HRES.out
    have rf := hr.f
    have r0 := hr.c0
    clear hr
    have HF := Lib.hid (takS_err HT.out (HK.out.setCell (a := ⟨w.heap.size, 0, none⟩) (Nat.le_refl _) (.slice none 0 0)))
    go_wp2_with fail
    exact bodyPost_ret (by simp [results, Tryz.results104, go_sem, *]) rfl HF.out
  · obtain ⟨a, ha⟩ : ∃ a, tkN s = a := ⟨_, rfl⟩
    by_cases ga : 24 < a
    · have AK := Lib.hid (fun w => take_c s (a : Int) _ 0 (by rw [ha]) rfl (by omega) (by omega) w)
      have g1 : decide ((24 : Int) < (a : Int)) = true := decide_eq_true (by omega)
      have g2 : decide (24 < a) = true := decide_eq_true ga
      have HT := Lib.hid (show tscL s = ([], ⟨#[]⟩, 4) by unfold tscL; rw [if_neg h0, if_pos (by omega)])
      clear h0 ha ga hs hrs
      go_enter Tryz.func104, Tryz.ntmps104
      go_wp2_with fail
      go_at_call 100
      refine (AK.out _).mono ?_
      rintro e w1 ⟨rfl, hg⟩
      have hk := kept_of hg
      replace HK := Lib.hid (HK.out.trans hk)
      replace HRES := Lib.hid (HRES.out.kept hk)
      clear hg hk
      have hr := HRES.out
      have rf := hr.f
      have r0 := hr.c0
      clear hr
      have HF := Lib.hid (takS_err (z := 4) HT.out (HK.out.setCell (a := ⟨w.heap.size, 0, none⟩) (Nat.le_refl _) (.slice none 0 0)))
      go_wp2_with fail
      exact bodyPost_ret (by simp [results, Tryz.results104, go_sem, *]) rfl HF.out
    · obtain ⟨r, hr⟩ : ∃ r, tkR s = r := ⟨_, rfl⟩
      have AK := Lib.hid (fun w => take_c s (a : Int) r 0 (by rw [ha]) hr (by omega) (by omega) w)
      have g1 : decide ((24 : Int) < (a : Int)) = false := decide_eq_false (by omega)
      have g2 : decide (24 < a) = false := decide_eq_false ga
      have hw1 : IntKind.i64.wrap (a : Int) = (a : Int) := by rw [IntWalk.i64_in _ (by omega)]
      have ha24 : a ≤ 24 := by omega
      have hrs2 : r.size ≤ 100000 := by rw [← hr]; omega
      have HTT := Lib.hid (show tscL s = if (takeFs a [] r).2.2 ≠ 0 then ([], ⟨#[]⟩, (takeFs a [] r).2.2) else if ScOk (takeFs a [] r).1 then ((takeFs a [] r).1, (takeFs a [] r).2.1, 0) else ([], ⟨#[]⟩, 3) by
        unfold tscL
        rw [if_neg h0, if_neg (by omega), ha, hr])
      clear h0 ha ga hs hrs hr
      go_enter Tryz.func104, Tryz.ntmps104
      go_wp2_with fail
      go_at_call 100
      refine (AK.out _).mono ?_
      rintro e w1 ⟨rfl, hg⟩
      have hk := kept_of hg
      replace HK := Lib.hid (HK.out.trans hk)
      replace HRES := Lib.hid (HRES.out.kept hk)
      have hka := (Kept.refl w1).alloc #[.slice none 0 0] 24
      have HB7 := Lib.hid (Box1.new w1 (.slice none 0 0) 24)
      have HLB := Lib.hid (show w.heap.size + 1 ≤ w1.heap.size by have := HRES.out.lt; omega)
      replace HK := Lib.hid (HK.out.trans hka)
      replace HRES := Lib.hid (HRES.out.kept hka)
      obtain ⟨b7, hb7⟩ : ∃ b, w1.heap.size = b := ⟨_, rfl⟩
      obtain ⟨U, hU⟩ : ∃ U, w1.alloc (.cells #[.slice none 0 0] 24) = U := ⟨_, rfl⟩
      rw [hU] at HK HRES HB7
      rw [hb7] at HB7 HLB
      have HUU := Lib.hid hU
      have HBB := Lib.hid hb7
      clear hg hk hka hU hb7
      go_wp2_with fail
      rw [HUU.out, HBB.out]
      have hb7U := HB7.out.lt
      go_loopw [6, 26] (fun v i wr => ∃ (t : Nat) (s1 : ByteArray) (L : List Fd) (u : Value), t ≤ a ∧ i = .int .u64 t ∧ v = .string s1 ∧ s1.size ≤ 100000 ∧ L.length = t ∧ takeFs (a - t) L s1 = takeFs a [] r ∧ (∀ x ∈ L, x.p.size ≤ 1000 ∧ x.vt.size ≤ 1000) ∧ TakM b7 U wr u L) (fun _ i _ => a - (intOf i).toNat)
      case atStart => exact ⟨0, r, [], .slice none 0 0, Nat.zero_le _, rfl, rfl, hrs2, rfl, rfl, (fun x hx => (by cases hx)), TakM.start HB7.out⟩
      case round =>
        obtain ⟨t, s1, L, u, ht, rfl, rfl, hs1, hll, htk, hsm, hm⟩ := hrel
        obtain ⟨A3, c3, rfl, hf3⟩ := hm.form
        rw [hll] at hm hf3
        have HM := Lib.hid hm; have HTK := Lib.hid htk; have HSM := Lib.hid hsm; have HLL := Lib.hid hll; have HF3 := Lib.hid hf3
        have h31 := hf3.cap.1; have h32 := hf3.cap.2
        have HKW := Lib.hid (hm.ke.kept HK.out (by have := HLB.out; omega))
        have HRW := Lib.hid (HRES.out.keptE hm.ke (by have := HLB.out; omega))
        clear hm htk hsm hll hf3
        by_cases hlt : t < a
        · have hadd : IntKind.u64.wrap ((t : Int) + 1) = ((t + 1 : Nat) : Int) := by rw [IntKind.wrap_u64]; omega
          obtain ⟨x, hx⟩ : ∃ x, tfX s1 = x := ⟨_, rfl⟩
          obtain ⟨y, hy⟩ : ∃ y, tfR s1 = y := ⟨_, rfl⟩
          obtain ⟨q, hq⟩ : ∃ q, tfE s1 = q := ⟨_, rfl⟩
          have AF := Lib.hid (fun w => stf_any s1 w hs1)
          rw [hx, hy, hq] at AF
          by_cases hq0 : q = 0
          · have hz := tf_sizes (s := s1) (by rw [hq]; exact hq0)
            rw [hx, hy] at hz
            have hys : y.size ≤ 100000 := by omega
            have HSM2 := Lib.hid (show ∀ v ∈ L ++ [x], v.p.size ≤ 1000 ∧ v.vt.size ≤ 1000 from fun v hv => by
              rw [List.mem_append, List.mem_singleton] at hv
              rcases hv with hv | rfl
              · exact HSM.out v hv
              · exact ⟨hz.1, hz.2.1⟩)
            have HN := Lib.hid (show takeFs (a - (t + 1)) (L ++ [x]) y = takeFs a [] r by
              rw [← HTK.out, show a - t = (a - (t + 1)) + 1 by omega, takeFs_ok (by rw [hq]; exact hq0), hx, hy])
            rw [hq0] at AF
            clear hx hy hq hq0 hz
            go_wp2_with fail
            go_at_call 143
            refine (AF.out _).mono ?_
            rintro e w5 ⟨rfl, hk5⟩
            have hk6 := (hk5.trans ((Kept.refl w5).alloc #[.string x.p, .int .i64 x.k, .int .i64 x.t, .int .i64 x.vk, .int .i64 x.vn, .string x.vt] 28)).trans ((Kept.refl (w5.alloc (.cells #[.string x.p, .int .i64 x.k, .int .i64 x.t, .int .i64 x.vk, .int .i64 x.vn, .string x.vt] 28))).alloc #[.string x.p, .int .i64 x.k, .int .i64 x.t, .int .i64 x.vk, .int .i64 x.vn, .string x.vt] 28)
            have HE5 := FdB.new w5 x 28
            have hone := fl_one (FdB.new (w5.alloc (.cells #[.string x.p, .int .i64 x.k, .int .i64 x.t, .int .i64 x.vk, .int .i64 x.vn, .string x.vt] 28)) x 28)
            obtain ⟨v8, w8, hr8, hc8, hf8, hm8⟩ := TakM.app (HLL.out ▸ HM.out.kept hk6 : TakM b7 U _ (.slice A3 t c3) L) hb7U _ _ _ _ hone (by have := HLL.out; omega)
            rw [show (w5.alloc (.cells #[.string x.p, .int .i64 x.k, .int .i64 x.t, .int .i64 x.vk, .int .i64 x.vn, .string x.vt] 28)).heap.size = w5.heap.size + 1 by simp] at hr8
            obtain ⟨A8, c8, rfl, hfo8⟩ := hm8.form
            have hl8 : (L ++ [x]).length = t + 1 := by rw [List.length_append, HLL.out]; rfl
            have HL8 := Lib.hid hl8
            rw [hl8] at hr8 hm8 hfo8
            have h81 := hfo8.cap.1; have h82 := hfo8.cap.2
            have HR8 := Lib.hid hr8; have HM8 := Lib.hid hm8
            have b0 := ((HM.out.box.kept hk5).kept ((Kept.refl w5).alloc #[.string x.p, .int .i64 x.k, .int .i64 x.t, .int .i64 x.vk, .int .i64 x.vn, .string x.vt] 28)).c0
            have x0 := HE5.c0; have x1 := HE5.c1; have x2 := HE5.c2; have x3 := HE5.c3; have x4 := HE5.c4; have x5 := HE5.c5
            have hf80 := hf8 0
            clear hr8 hm8 hone hk5 hk6 HE5 hf8 hl8 hfo8
            go_wp2_with (at_builtin; refine Lib.wpList_append_run _ rfl (.tmp 39) (.tmp 41) _ _ rfl _ _ rfl rfl _ _ HR8.out ?_)
            go_roundw
            case rel => exact ⟨t + 1, y, L ++ [x], _, hlt, by first | rfl | go_num, rfl, hys, HL8.out, HN.out, HSM2.out, HM8.out⟩
            case measure => simp [intOf]; omega
          · have f1' : ((q : Int) == 0) = false := by simp; omega
            have f2' : ((q : Int) != 0) = true := by simp; omega
            have HT := Lib.hid (show tscL s = ([], ⟨#[]⟩, q) by
              have e : takeFs a [] r = ([], ⟨#[]⟩, q) := by
                rw [← HTK.out, show a - t = (a - (t + 1)) + 1 by omega, takeFs_err (by rw [hq]; exact hq0), hq]
              rw [HTT.out, e, if_pos hq0])
            clear hx hy hq hq0
            go_wp2_with fail
            go_at_call 143
            refine (AF.out _).mono ?_
            rintro e w5 ⟨rfl, hk5⟩
            have hk6 := hk5.trans ((Kept.refl w5).alloc #[.string x.p, .int .i64 x.k, .int .i64 x.t, .int .i64 x.vk, .int .i64 x.vn, .string x.vt] 28)
            have hr := HRW.out.kept hk6
            have rf := hr.f
            have r0 := hr.c0
            have HKF := Lib.hid (HKW.out.trans hk6)
            clear hr hk5 hk6
            have HF := Lib.hid (takS_err HT.out (HKF.out.setCell (a := ⟨w.heap.size, 0, none⟩) (Nat.le_refl _) (.slice none 0 0)))
            go_wp2_with fail
            exact bodyPost_ret (by simp [results, Tryz.results104, go_sem, *]) rfl HF.out
        · have hta : t = a := by omega
          have HALL := Lib.hid (show takeFs a [] r = (L, s1, 0) by rw [← HTK.out, hta, Nat.sub_self]; rfl)
          rw [hta] at HLL ⊢
          rw [hta] at HF3 HM h31
          clear hlt ht hta
          have b0 := HM.out.box.c0
          obtain ⟨ok, hok⟩ : ∃ b : Bool, b = true ↔ ScOk L := by
            by_cases e : ScOk L
            · exact ⟨true, fun _ => e, fun _ => rfl⟩
            · exact ⟨false, (fun h => by cases h), fun h => absurd h e⟩
          have AR := Lib.hid (ssc_any A3 a c3 L wr HF3.out (fun v hv => ⟨Nat.le_trans (HSM.out v hv).1 (by decide), Nat.le_trans (HSM.out v hv).2 (by decide)⟩) ok hok)
          have HOK := Lib.hid hok
          clear hok
          go_wp2_with fail
          go_at_call 23
          refine AR.out.mono ?_
          rintro e w6 ⟨rfl, hk6⟩
          have hr := HRW.out.kept hk6
          have rf := hr.f
          have r0 := hr.c0
          have HKF := Lib.hid (HKW.out.trans hk6)
          have HFF := Lib.hid (HF3.out.kept hk6)
          have HRF := Lib.hid (HRW.out.kept hk6)
          have b1 := hk6.cell b0
          clear hr hk6 b0
          cases ok with
          | false =>
            have HT := Lib.hid (show tscL s = ([], ⟨#[]⟩, 3) by
              rw [HTT.out, HALL.out, if_neg (by simp), if_neg (fun h => by have := HOK.out.2 h; cases this)])
            have HF := Lib.hid (takS_err (z := 3) HT.out (HKF.out.setCell (a := ⟨w.heap.size, 0, none⟩) (Nat.le_refl _) (.slice none 0 0)))
            go_wp2_with fail
            exact bodyPost_ret (by simp [results, Tryz.results104, go_sem, *]) rfl HF.out
          | true =>
            have HT := Lib.hid (show tscL s = (L, s1, 0) by
              rw [HTT.out, HALL.out, if_neg (by simp), if_pos (HOK.out.1 rfl)])
            have HF := Lib.hid (show TakS s w (.returned (.tuple #[.agg #[.slice A3 a c3], .string s1, .int .i64 0])) (w6.setCell ⟨w.heap.size, 0, none⟩ (.slice A3 a c3)) by
              have h1 := takS_ok HT.out (A := A3) (c := c3) (w := w) (w' := w6.setCell ⟨w.heap.size, 0, none⟩ (.slice A3 a c3)) (by rw [HLL.out]; exact HRF.out.fl _ HFF.out) (HKF.out.setCell (a := ⟨w.heap.size, 0, none⟩) (Nat.le_refl _) _)
              rw [HLL.out] at h1
              exact h1)
            go_wp2_with fail
            exact bodyPost_ret (by simp [results, Tryz.results104, go_sem, *]) rfl HF.out
end Go.Proofs.YtofnpifooaijcaaGreat
namespace Go.Proofs.YtofnpifooaijcaaGreat
open Go.RowKit
set_option linter.unusedVariables false
set_option maxRecDepth 100000 in
set_option maxHeartbeats 16000000 in
theorem sfield_any (s : ByteArray) (w : World) (hs : s.size ≤ 100000) (v : Fd) (r : ByteArray) (k : Nat) (h : fdL s = (v, r, k)) :
    Calls Tryz.prog 39 #[.string s] w fun e w' => e = .returned (.tuple #[.agg #[.string v.p, .int .i64 v.k, .int .i64 v.t, .int .i64 v.vk, .int .i64 v.vn, .string v.vt], .string r, .int .i64 (k : Int)]) ∧ Kept w w' := by
  have hk := (Kept.refl w).alloc #[.string ⟨#[]⟩, .int .i64 0, .int .i64 0, .int .i64 0, .int .i64 0, .string ⟨#[]⟩] 28
  have hr : FdB (w.alloc (.cells #[.string ⟨#[]⟩, .int .i64 0, .int .i64 0, .int .i64 0, .int .i64 0, .string ⟨#[]⟩] 28)) w.heap.size .none := FdB.new w .none 28
  simp only [Fd.none] at hr
  obtain ⟨U, hU⟩ : ∃ U, w.alloc (.cells #[.string ⟨#[]⟩, .int .i64 0, .int .i64 0, .int .i64 0, .int .i64 0, .string ⟨#[]⟩] 28) = U := ⟨_, rfl⟩
  rw [hU] at hk hr
  have hn := noF_size
  have HK := Lib.hid hk; have HR := Lib.hid hr; have HUU := Lib.hid hU
  clear hk hr hU
  have A1 : ∀ W : World, Calls Tryz.prog 66 #[.agg #[.string ⟨#[]⟩, .int .i64 0, .int .i64 0, .int .i64 0, .int .i64 0, .string ⟨#[]⟩]] W fun e w' => e = .returned (.string noF) ∧ Kept W w' := fun W => salone_put .none W noF_S noF rfl
  replace A1 := Lib.hid A1
  by_cases hp : noF.data.toList <+: s.data.toList
  · rw [fdL_pre hp] at h
    obtain ⟨h1, h2⟩ := Prod.mk.inj h; obtain ⟨h2, h3⟩ := Prod.mk.inj h2; subst h1 h2 h3
    clear h
    have A2 := Lib.hid (fun W => scutp_any s noF true (by simp [hp]) (s.extract noF.size s.size) rfl (by omega) (by omega) W)
    clear hn
    go_enter Tryz.func39, Tryz.ntmps39
    go_wp2_with (rw [HUU.out])
    go_at_call 66
    refine (A1.out _).mono ?_
    rintro e w1 ⟨rfl, hg⟩
    replace HK := Lib.hid (HK.out.trans hg); replace HR := Lib.hid (HR.out.kept hg)
    clear hg
    go_wp2_with fail
    go_at_call 55
    refine (A2.out _).mono ?_
    rintro e w2 ⟨rfl, rfl⟩
    have r0 := HR.out.c0; have r1 := HR.out.c1; have r2 := HR.out.c2; have r3 := HR.out.c3; have r4 := HR.out.c4; have r5 := HR.out.c5; have rf := HR.out.f
    clear hp hs
    go_wp2_with fail
    exact bodyPost_ret (by simp [results, Tryz.results39, go_sem, Fd.none, *]) rfl ⟨rfl, ((((((HK.out.setCell (a := ⟨w.heap.size, 0, none⟩) (Nat.le_refl _) _).setCell (a := ⟨w.heap.size, 1, none⟩) (Nat.le_refl _) _).setCell (a := ⟨w.heap.size, 2, none⟩) (Nat.le_refl _) _).setCell (a := ⟨w.heap.size, 3, none⟩) (Nat.le_refl _) _).setCell (a := ⟨w.heap.size, 4, none⟩) (Nat.le_refl _) _).setCell (a := ⟨w.heap.size, 5, none⟩) (Nat.le_refl _) _)⟩
  · have hgoL : ¬ noF.data.toList <+: s.data.toList := hp
    obtain ⟨⟨L, q, z⟩, ht⟩ : ∃ x, tscL s = x := ⟨_, rfl⟩
    obtain ⟨n, hn9⟩ : ∃ n, L.length = n := ⟨_, rfl⟩
    have A3 : ∀ W : World, Calls Tryz.prog 104 #[.string s] W fun e w' => ∃ A c, e = .returned (.tuple #[.agg #[.slice A n c], .string q, .int .i64 (z : Int)]) ∧ Fl w' A n c L ∧ Kept W w' := fun W => (stake_any s W hs).mono fun e w' h => by unfold TakS at h; rw [ht] at h; rw [← hn9]; exact h
    replace A3 := Lib.hid A3
    have A2 := Lib.hid (fun W => scutp_any s noF false (by simp [hp]) s rfl (by omega) (by omega) W)
    clear hn
    go_enter Tryz.func39, Tryz.ntmps39
    go_wp2_with (rw [HUU.out])
    go_at_call 66
    refine (A1.out _).mono ?_
    rintro e w1 ⟨rfl, hg⟩
    replace HK := Lib.hid (HK.out.trans hg); replace HR := Lib.hid (HR.out.kept hg)
    clear hg
    go_wp2_with fail
    go_at_call 55
    refine (A2.out _).mono ?_
    rintro e w2 ⟨rfl, rfl⟩
    go_wp2_with fail
    go_at_call 104
    refine (A3.out _).mono ?_
    rintro e w3 ⟨A, c, rfl, hf, hg3⟩
    have hb9 := Box1.new w3 (.slice A n c) 24
    have hka := (Kept.refl w3).alloc #[.slice A n c] 24
    have hr := (HR.out.kept hg3).kept hka
    have HK3 := Lib.hid ((HK.out.trans hg3).trans hka); have HFL := Lib.hid (hf.kept hka); have HR3 := Lib.hid hr
    have b0 := hb9.c0
    have hcap := hf.cap.1; have hcap2 := hf.cap.2
    clear hg3 hf hka hr hb9
    by_cases hz : z = 0
    rotate_left
    · have e0 : (((z : Nat) : Int) == 0) = false := by simp; omega
      have HL := Lib.hid (show Ending.returned (.tuple #[.agg #[.string ⟨#[]⟩, .int .i64 0, .int .i64 0, .int .i64 0, .int .i64 0, .string ⟨#[]⟩], .string ⟨#[]⟩, .int .i64 (z : Int)]) = Ending.returned (.tuple #[.agg #[.string v.p, .int .i64 v.k, .int .i64 v.t, .int .i64 v.vk, .int .i64 v.vn, .string v.vt], .string r, .int .i64 (k : Int)]) by
        rw [fdL_err hgoL (by rw [ht]; exact hz), ht] at h
        obtain ⟨rfl, h2⟩ := Prod.mk.inj h; obtain ⟨rfl, rfl⟩ := Prod.mk.inj h2; rfl)
      clear h ht hz hgoL hn9 hs hp
      have r0 := HR3.out.c0; have r1 := HR3.out.c1; have r2 := HR3.out.c2; have r3 := HR3.out.c3; have r4 := HR3.out.c4; have r5 := HR3.out.c5; have rf := HR3.out.f
      go_wp2_with fail
      exact bodyPost_ret (by simp [results, Tryz.results39, go_sem, *]) rfl ⟨HL.out, ((((((HK3.out.setCell (a := ⟨w.heap.size, 0, none⟩) (Nat.le_refl _) _).setCell (a := ⟨w.heap.size, 1, none⟩) (Nat.le_refl _) _).setCell (a := ⟨w.heap.size, 2, none⟩) (Nat.le_refl _) _).setCell (a := ⟨w.heap.size, 3, none⟩) (Nat.le_refl _) _).setCell (a := ⟨w.heap.size, 4, none⟩) (Nat.le_refl _) _).setCell (a := ⟨w.heap.size, 5, none⟩) (Nat.le_refl _) _)⟩
    subst hz
    by_cases hl : n = 1
    rotate_left
    · have e1 : (((n : Nat) : Int) == 1) = false := by simp; omega
      have HL := Lib.hid (show Ending.returned (.tuple #[.agg #[.string ⟨#[]⟩, .int .i64 0, .int .i64 0, .int .i64 0, .int .i64 0, .string ⟨#[]⟩], .string ⟨#[]⟩, .int .i64 3]) = Ending.returned (.tuple #[.agg #[.string v.p, .int .i64 v.k, .int .i64 v.t, .int .i64 v.vk, .int .i64 v.vn, .string v.vt], .string r, .int .i64 (k : Int)]) by
        rw [fdL_many hgoL (by rw [ht]) (by rw [ht]; show L.length ≠ 1; omega)] at h
        obtain ⟨rfl, h2⟩ := Prod.mk.inj h; obtain ⟨rfl, rfl⟩ := Prod.mk.inj h2; rfl)
      have e2 : ((1 : Int) == (n : Int)) = false := by simp; omega
      have e3 : ¬ ((n : Int) = 1) := by omega
      have e4 : ¬ (n = 1) := hl
      clear h ht hl hn9 hgoL hs hp
      have r0 := HR3.out.c0; have r1 := HR3.out.c1; have r2 := HR3.out.c2; have r3 := HR3.out.c3; have r4 := HR3.out.c4; have r5 := HR3.out.c5; have rf := HR3.out.f
      go_wp2_with fail
      exact bodyPost_ret (by simp [results, Tryz.results39, go_sem, *]) rfl ⟨HL.out, ((((((HK3.out.setCell (a := ⟨w.heap.size, 0, none⟩) (Nat.le_refl _) _).setCell (a := ⟨w.heap.size, 1, none⟩) (Nat.le_refl _) _).setCell (a := ⟨w.heap.size, 2, none⟩) (Nat.le_refl _) _).setCell (a := ⟨w.heap.size, 3, none⟩) (Nat.le_refl _) _).setCell (a := ⟨w.heap.size, 4, none⟩) (Nat.le_refl _) _).setCell (a := ⟨w.heap.size, 5, none⟩) (Nat.le_refl _) _)⟩
    subst hl
    obtain ⟨x, rfl⟩ := List.length_eq_one_iff.1 hn9
    obtain ⟨g, o, y, rfl, hy, EX⟩ := HFL.out.get (k := 0) (by decide)
    obtain rfl : x = y := by simpa using hy
    rw [Nat.zero_mul, Nat.add_zero] at EX
    have HL := Lib.hid (show Ending.returned (.tuple #[.agg #[.string x.p, .int .i64 x.k, .int .i64 x.t, .int .i64 x.vk, .int .i64 x.vn, .string x.vt], .string q, .int .i64 0]) = Ending.returned (.tuple #[.agg #[.string v.p, .int .i64 v.k, .int .i64 v.t, .int .i64 v.vk, .int .i64 v.vn, .string v.vt], .string r, .int .i64 (k : Int)]) by
      rw [fdL_one hgoL (x := x) (by rw [ht]) (by rw [ht]), ht] at h
      obtain ⟨rfl, h2⟩ := Prod.mk.inj h; obtain ⟨rfl, rfl⟩ := Prod.mk.inj h2; rfl)
    have x0 := EX.c0; have x1 := EX.c1; have x2 := EX.c2; have x3 := EX.c3; have x4 := EX.c4; have x5 := EX.c5
    clear h ht hn9 hgoL hs hp hy EX
    have r0 := HR3.out.c0; have r1 := HR3.out.c1; have r2 := HR3.out.c2; have r3 := HR3.out.c3; have r4 := HR3.out.c4; have r5 := HR3.out.c5; have rf := HR3.out.f
    go_wp2_with fail
    exact bodyPost_ret (by simp [results, Tryz.results39, go_sem, *]) rfl ⟨HL.out, ((((((HK3.out.setCell (a := ⟨w.heap.size, 0, none⟩) (Nat.le_refl _) _).setCell (a := ⟨w.heap.size, 1, none⟩) (Nat.le_refl _) _).setCell (a := ⟨w.heap.size, 2, none⟩) (Nat.le_refl _) _).setCell (a := ⟨w.heap.size, 3, none⟩) (Nat.le_refl _) _).setCell (a := ⟨w.heap.size, 4, none⟩) (Nat.le_refl _) _).setCell (a := ⟨w.heap.size, 5, none⟩) (Nat.le_refl _) _)⟩
end Go.Proofs.YtofnpifooaijcaaGreat
