/-
  What is proved: the document's Right of layer 11 (P11.2), called with any schema of bounded texts, tells whether it is right; the world has new blocks at most.
-/
import Derived.Test.YtapcaflmfkcfkaaM11
import Derived.Test.YtapcaflmfkcfkaaPlan
import Derived.Test.YtapcaflmfkcfkaaM2
import Derived.Deep.DeepCutAuto
namespace Go.Proofs.Ytapcaflmfkcfkaa
open Go.RowKit
set_option linter.unusedVariables false

theorem run_fhead (A : Option Addr) (n c k : Nat) (hk : k ≤ c) (W : World) :
    (Instr.slice 22 (.slice A n c) none (some (.int .i64 (k : Int))) none).run Try.prog W = .ok (.slice A k c) W := by
  rw [run_slice_h W 22 _ n c (by kernel_rfl) .i64 (k : Int) (by omega) (by omega), size_fl]
  cases A <;> simp [Result.andThen, sliced, Addr.add]
theorem run_fhead2 (A : Option Addr) (n c k : Nat) (hk : k ≤ c) (W : World) :
    (Instr.sliceAt 22 (.slice A n c) none (some (.int .i64 (k : Int))) none).run Try.prog W = .ok (.slice A k c) W := by
  rw [run_sliceAt_slice W _ _ _ _ _ (by kernel_rfl)]; exact run_fhead A n c k hk W
theorem cellF_not {x : Fd} {i : Nat} {u : Value} (h : (cellF x)[i]? = some u) (a : Option Addr) (n c : Nat) : u ≠ .slice a n c := by
  have hm := List.mem_of_getElem? h
  simp only [cellF, List.mem_cons, List.not_mem_nil, or_false] at hm
  rcases hm with rfl | rfl | rfl | rfl | rfl | rfl <;> exact fun e => by cases e
theorem Box1.fl {w : World} {b : Nat} {a0 : Option Addr} {n0 c0 : Nat} (h : Box1 w b (.slice a0 n0 c0)) (v : Value) {A : Option Addr} {n c : Nat} {L : List Fd} (hi : Fl w A n c L) : Fl (w.setCell ⟨b, 0, none⟩ v) A n c L :=
  ⟨hi.1, hi.2.1, hi.2.2.1, hi.2.2.2.1, hi.2.2.2.2.imp id fun ⟨g, o, hA, hc⟩ => ⟨g, o, hA, fun j x hj => FdO.of_flat fun i u hu => by
    have hcell := (hc j x hj).flat i u hu
    have e0 : (⟨g, o + j * 6 + i, none⟩ : Addr) ≠ ⟨b, 0, none⟩ := fun e => by rw [e, h.c0] at hcell; exact cellF_not hu _ _ _ (Option.some.inj hcell).symm
    rw [World.cell?_setCell_other _ _ _ _ (by first | exact e0 | exact e0.symm)]
    exact hcell⟩⟩
/-- What Right has seen of the first fields. -/
structure PreF (M : List Fd) : Prop where
  ent : ∀ x ∈ M, rightF x = true
  rise : M.Pairwise fun x y => LtP x.p y.p
  apart : M.Pairwise fun x y => L4.apS y.p x.p = true
theorem PreF.nil : PreF [] := ⟨fun x hx => (by cases hx), .nil, .nil⟩
theorem PreF.step {L : List Fd} {t : Nat} {x : Fd} (hx : L[t]? = some x) (h : PreF (L.take t)) (h1 : rightF x = true) (h2 : ∀ k y, t = k + 1 → L[k]? = some y → LtP y.p x.p) (h3 : ∀ y ∈ L.take t, L4.apS x.p y.p = true) : PreF (L.take (t + 1)) := by
  rw [List.take_add_one, hx, Option.toList_some]
  have key : ∀ y ∈ L.take t, LtP y.p x.p := fun y hy => by
    cases t with
    | zero => simp at hy
    | succ k =>
      have hl := (List.getElem?_eq_some_iff.1 hx).1
      have hk : L[k]? = some L[k] := List.getElem?_eq_getElem (by omega)
      have hlast := h2 k _ rfl hk
      rw [List.take_add_one, hk, Option.toList_some, List.mem_append, List.mem_singleton] at hy
      rcases hy with hy | rfl
      · have hr := h.rise
        rw [List.take_add_one, hk, Option.toList_some, List.pairwise_append] at hr
        exact (hr.2.2 y hy L[k] (by simp)).trans hlast
      · exact hlast
  refine ⟨fun y hy => ?_, ?_, ?_⟩
  · rw [List.mem_append, List.mem_singleton] at hy
    rcases hy with hy | rfl
    · exact h.ent y hy
    · exact h1
  · rw [List.pairwise_append]
    exact ⟨h.rise, List.pairwise_singleton _ _, fun a ha b hb => by rw [List.mem_singleton] at hb; subst hb; exact key a ha⟩
  · rw [List.pairwise_append]
    exact ⟨h.apart, List.pairwise_singleton _ _, fun a ha b hb => by rw [List.mem_singleton] at hb; subst hb; exact h3 a ha⟩
theorem scOk_ent {L : List Fd} {t : Nat} {x : Fd} (hx : L[t]? = some x) (h : rightF x = false) : ¬ ScOk L := fun k => by
  have := k.ent x (List.mem_of_getElem? hx); rw [h] at this; cases this
theorem scOk_rise {L : List Fd} {k t : Nat} {y x : Fd} (hy : L[k]? = some y) (hx : L[t]? = some x) (hkt : k < t) (h : ¬ LtP y.p x.p) : ¬ ScOk L := fun s => by
  obtain ⟨h1, e1⟩ := List.getElem?_eq_some_iff.1 hy
  obtain ⟨h2, e2⟩ := List.getElem?_eq_some_iff.1 hx
  have := List.pairwise_iff_getElem.1 s.rise k t h1 h2 hkt
  rw [e1, e2] at this
  exact h this
theorem scOk_apart {L : List Fd} {k t : Nat} {y x : Fd} (hy : L[k]? = some y) (hx : L[t]? = some x) (hkt : k < t) (h : L4.apS x.p y.p = false) : ¬ ScOk L := fun s => by
  obtain ⟨h1, e1⟩ := List.getElem?_eq_some_iff.1 hy
  obtain ⟨h2, e2⟩ := List.getElem?_eq_some_iff.1 hx
  have := List.pairwise_iff_getElem.1 s.apart k t h1 h2 hkt
  rw [e1, e2, h] at this
  cases this
set_option maxRecDepth 100000 in
set_option maxHeartbeats 8000000 in
theorem rsc_any (A : Option Addr) (n c : Nat) (L : List Fd) (w : World) (h : Fl w A n c L) (hw : ∀ x ∈ L, x.p.size ≤ 1099511627776 ∧ x.vt.size ≤ 1099511627776) (r : Bool) (hr : r = true ↔ ScOk L) :
    Calls Try.prog 15 #[.agg #[.slice A n c]] w fun e w' => e = .returned (.bool r) ∧ Kept w w' := by
  have hk := (Kept.refl w).alloc #[.slice A n c] 24
  have hcap := h.cap.1; have hcap2 := h.cap.2
  have HNL := Lib.hid h.1; have HSZ := Lib.hid hw; have HR := Lib.hid hr
  have HB := Lib.hid (Box1.new w (.slice A n c) 24)
  have HH := Lib.hid (h.kept hk)
  obtain ⟨U, hU⟩ : ∃ U, w.alloc (.cells #[.slice A n c] 24) = U := ⟨_, rfl⟩
  rw [hU] at hk HB HH
  have HK := Lib.hid hk; have HUU := Lib.hid hU
  have d0 := HB.out.c0
  clear h hw hr hk hU
  go_enter Try.func15, Try.ntmps15
  go_wp2_with fail
  rw [HUU.out]
  go_wp2_with fail
  clear d0
  go_loopw [10] (fun i wr => ∃ t : Nat, t ≤ n ∧ i = .int .i64 t ∧ Kept U wr ∧ PreF (L.take t)) (fun i _ => n - (intOf i).toNat)
  case atStart => exact ⟨0, Nat.zero_le _, rfl, Kept.refl _, by rw [List.take_zero]; exact PreF.nil⟩
  case round =>
    obtain ⟨t, ht, rfl, hkr, hpre⟩ := hrel
    have HKR := Lib.hid hkr; have HPRE := Lib.hid hpre
    clear hkr hpre
    by_cases hlt : t < n
    · obtain ⟨g, o, x, rfl, hx, EX⟩ := (HH.out.kept HKR.out).get hlt
      have x0 := EX.c0; have x1 := EX.c1; have x2 := EX.c2; have x3 := EX.c3; have x4 := EX.c4; have x5 := EX.c5
      have HXX := Lib.hid hx
      have hka := (Kept.refl wr).alloc #[.string x.p, .int .i64 x.k, .int .i64 x.t, .int .i64 x.vk, .int .i64 x.vn, .string x.vt] 44
      have HE := Lib.hid (FdB.new wr x 44)
      have HZX := Lib.hid (HSZ.out x (List.mem_of_getElem? hx))
      obtain ⟨fr, hfr⟩ : ∃ b, rightF x = b := ⟨_, rfl⟩
      have AF := Lib.hid (fun w => rfr_c x fr hfr w HZX.out.1 HZX.out.2)
      have HFR := Lib.hid hfr
      obtain ⟨W1, hW1⟩ : ∃ W1, wr.alloc (.cells #[.string x.p, .int .i64 x.k, .int .i64 x.t, .int .i64 x.vk, .int .i64 x.vn, .string x.vt] 44) = W1 := ⟨_, rfl⟩
      have HKA := Lib.hid (HKR.out.trans hka)
      have hsz1 : W1.heap.size = wr.heap.size + 1 := by rw [← hW1]; simp
      rw [hW1] at HKA HE
      have HW1 := Lib.hid hW1
      clear EX hx hka hfr hW1
      go_wp2_with fail
      rw [HW1.out]
      clear x0 x1 x2 x3 x4 x5
      cases fr with
      | false =>
        have HF := Lib.hid (show false = r by rw [eq_comm, ← Bool.not_eq_true, HR.out]; exact scOk_ent HXX.out HFR.out)
        have X0 := KExt.cell HE.out.c0; have X1 := KExt.cell HE.out.c1; have X2 := KExt.cell HE.out.c2; have X3 := KExt.cell HE.out.c3; have X4 := KExt.cell HE.out.c4; have X5 := KExt.cell HE.out.c5
        refine region_plan W1 19 (.read [0] (.one 1 (.read [2, 3, 4, 5, 6, 7, 8, 9, 10, 11, 12, 13, 14, 15, 16, 17, 18] .stop))) (by kernel_rfl) (by kernel_rfl) (by kernel_rfl) (by kernel_rfl) (by kernel_rfl) (fun _ d _ _ _ h => by cases d <;> exact h) (Kept.refl _) ?_
        intro wd hwd
        have HV := Lib.hid hwd
        clear hwd
        rw [wpPlan_read]
        simp only [pickOps_cons, pickOps_nil, consO_some, List.getElem?_cons_zero]
        repeat (go_big_quiet_step (fail))
        refine wpQuiet_nil ?_
        rw [wpPlan_one]
        simp only [pickOps_cons, pickOps_nil, consO_some, List.getElem?_cons_zero, List.getElem?_cons_succ]
        go_wp2_with (go_at_call 28; refine (AF.out _).mono ?_; rintro e u1 ⟨rfl, hkz⟩)
        replace HV := Lib.hid (HV.out.trans hkz)
        clear hkz
        refine soloP HV.out ?_
        rw [wpPlan_read]
        simp only [pickOps_cons, pickOps_nil, consO_some, List.getElem?_cons_zero, List.getElem?_cons_succ]
        repeat (go_big_quiet_step (fail))
        refine wpQuiet_nil ?_
        refine wpPlan_stop ?_
        clear X0 X1 X2 X3 X4 X5
        go_wp2_with fail
        go_ret
        exact ⟨ret_bool HF.out, HK.out.trans (HKA.out.trans HV.out)⟩
      | true =>
        by_cases ht0 : t = 0
        · have HPREV := Lib.hid (show ∀ k y, t = k + 1 → L[k]? = some y → LtP y.p x.p from fun k y hk => by omega)
          have q1 : decide ((0 : Int) < (t : Int)) = false := decide_eq_false (by omega)
          have q2 : decide (0 < t) = false := decide_eq_false (by omega)
          clear ht0
          have X0 := KExt.cell HE.out.c0; have X1 := KExt.cell HE.out.c1; have X2 := KExt.cell HE.out.c2; have X3 := KExt.cell HE.out.c3; have X4 := KExt.cell HE.out.c4; have X5 := KExt.cell HE.out.c5
          go_cut [33] (fun v wx => v = .bool false ∧ Kept W1 wx)
          case first =>
            refine region_plan W1 19 (.read [0] (.one 1 (.read [2, 3, 4, 5, 6, 7, 8, 9, 10, 11, 12, 13, 14, 15, 16, 17, 18] .stop))) (by kernel_rfl) (by kernel_rfl) (by kernel_rfl) (by kernel_rfl) (by kernel_rfl) (fun _ d _ _ _ h => by cases d <;> exact h) (Kept.refl _) ?_
            intro wd hwd
            have HV := Lib.hid hwd
            clear hwd
            rw [wpPlan_read]
            simp only [pickOps_cons, pickOps_nil, consO_some, List.getElem?_cons_zero]
            repeat (go_big_quiet_step (fail))
            refine wpQuiet_nil ?_
            rw [wpPlan_one]
            simp only [pickOps_cons, pickOps_nil, consO_some, List.getElem?_cons_zero, List.getElem?_cons_succ]
            go_wp2_with (go_at_call 28; refine (AF.out _).mono ?_; rintro e u1 ⟨rfl, hkz⟩)
            replace HV := Lib.hid (HV.out.trans hkz)
            clear hkz
            refine soloP HV.out ?_
            rw [wpPlan_read]
            simp only [pickOps_cons, pickOps_nil, consO_some, List.getElem?_cons_zero, List.getElem?_cons_succ]
            repeat (go_big_quiet_step (fail))
            refine wpQuiet_nil ?_
            refine wpPlan_stop ?_
            clear X0 X1 X2 X3 X4 X5
            go_wp2_with fail
            go_meet
            exact ⟨rfl, HV.out⟩
          case rest =>
            clear X0 X1 X2 X3 X4 X5
            obtain ⟨rfl, hkz⟩ := hcut
            have HK2 := Lib.hid (HKA.out.trans hkz)
            have HE2 := Lib.hid (HE.out.kept hkz)
            obtain ⟨W2, hW2⟩ : ∃ W2, wc = W2 := ⟨_, rfl⟩
            rw [hW2] at HK2 HE2 ⊢
            clear hkz hW2
            have d0 := (HB.out.kept HK2.out).c0
            have hth : t ≤ c := by omega
            have hrh := run_fhead (some ⟨g, o, none⟩) n c t hth
            have hrh2 := run_fhead2 (some ⟨g, o, none⟩) n c t hth
            have HHD := Lib.hid (fl_head HH.out (Nat.le_of_lt hlt) hth (Nat.le_refl c))
            go_wp2_with fail
            clear d0 hrh hrh2
            go_loopw [39] (fun i wr => ∃ j : Nat, j ≤ t ∧ i = .int .i64 j ∧ Kept W2 wr ∧ ∀ y ∈ L.take j, L4.apS x.p y.p = true) (fun i _ => t - (intOf i).toNat)
            case atStart => exact ⟨0, Nat.zero_le _, rfl, Kept.refl _, fun y hy => by simp at hy⟩
            case round =>
              obtain ⟨j, hj, rfl, hkj, hall⟩ := hrel
              have HKJ := Lib.hid hkj; have HA := Lib.hid hall
              clear hkj hall
              by_cases hjt : j < t
              · obtain ⟨g2, o2, y, hgo, hy, EY⟩ := (HHD.out.kept (HK2.out.trans HKJ.out)).get hjt
                obtain ⟨rfl, rfl⟩ : g = g2 ∧ o = o2 := by simpa using hgo
                have hy2 : L[j]? = some y := by rw [List.getElem?_take, if_pos hjt] at hy; exact hy
                have y0 := EY.c0; have y1 := EY.c1; have y2 := EY.c2; have y3 := EY.c3; have y4 := EY.c4; have y5 := EY.c5
                have HYY := Lib.hid hy2
                have hka := (Kept.refl wr).alloc #[.string y.p, .int .i64 y.k, .int .i64 y.t, .int .i64 y.vk, .int .i64 y.vn, .string y.vt] 44
                have HEY := FdB.new wr y 44
                have z0 := HEY.c0
                have v0 := ((HE2.out.kept HKJ.out).kept hka).c0
                obtain ⟨ap, hap⟩ : ∃ b, L4.apS x.p y.p = b := ⟨_, rfl⟩
                have AP := Lib.hid (fun w => rapK x.p y.p ap hap HZX.out.1 (HSZ.out y (List.mem_of_getElem? hy2)).1 w)
                have HAP := Lib.hid hap
                have HKB := Lib.hid (HKJ.out.trans hka)
                clear EY hy hy2 hgo hka HEY hap
                go_wp2_with fail
                go_at_call 29
                refine (AP.out _).mono ?_
                rintro e w5 ⟨rfl, hk5⟩
                have HK5 := Lib.hid (HKB.out.trans hk5)
                clear hk5 y0 y1 y2 y3 y4 y5 z0 v0
                cases ap with
                | false =>
                  have HF := Lib.hid (show false = r by rw [eq_comm, ← Bool.not_eq_true, HR.out]; exact scOk_apart HYY.out HXX.out hjt HAP.out)
                  go_wp2_with fail
                  go_ret
                  exact ⟨ret_bool HF.out, HK.out.trans (HK2.out.trans HK5.out)⟩
                | true =>
                  have HN := Lib.hid (show ∀ z ∈ L.take (j + 1), L4.apS x.p z.p = true from fun z hz => by
                    rw [List.take_add_one, HYY.out, Option.toList_some, List.mem_append, List.mem_singleton] at hz
                    rcases hz with hz | rfl
                    · exact HA.out z hz
                    · exact HAP.out)
                  go_wp2_with fail
                  go_roundw
                  case rel => exact ⟨j + 1, hjt, by go_num, HK5.out, HN.out⟩
                  case measure => simp [intOf]; omega
              · have hjj : j = t := by omega
                rw [hjj] at HA ⊢
                have HN := Lib.hid (HPRE.out.step HXX.out HFR.out HPREV.out HA.out)
                clear hjj hjt hj
                go_wp2_with fail
                go_roundw
                case rel => exact ⟨t + 1, hlt, by go_num, HK2.out.trans HKJ.out, HN.out⟩
                case measure => simp [intOf]; omega
        · obtain ⟨k, hk1⟩ : ∃ k, t = k + 1 := ⟨t - 1, by omega⟩
          obtain ⟨g3, o3, y, hgo, hy, EY⟩ := (HH.out.kept HKA.out).get (show k < n by omega)
          obtain ⟨rfl, rfl⟩ : g = g3 ∧ o = o3 := by simpa using hgo
          have q1 : decide ((0 : Int) < (t : Int)) = true := decide_eq_true (by omega)
          have q2 : decide (0 < t) = true := decide_eq_true (by omega)
          have q3 : IntKind.i64.wrap ((t : Int) - 1) = (k : Int) := by rw [IntWalk.i64_in _ (by omega)]; omega
          have HYP := Lib.hid hy
          have Y0 := KExt.cell EY.c0
          have D0 := KExt.cell (HB.out.kept HKA.out).c0
          have HKT := Lib.hid hk1
          have hkn : k < n := by omega
          clear hgo hy EY hk1 ht0
          by_cases hlp : LtP y.p x.p
          · have HPREV := Lib.hid (show ∀ k y, t = k + 1 → L[k]? = some y → LtP y.p x.p from fun k' y' hk' hy' => by
              have h1 := HKT.out
              obtain rfl : k = k' := by omega
              rw [HYP.out] at hy'
              obtain rfl := Option.some.inj hy'
              exact hlp)
            have s1 : Op.bytesLess y.p.toList x.p.toList = true := by rw [less_of]; exact decide_eq_true hlp
            clear hlp
            have X0 := KExt.cell HE.out.c0; have X1 := KExt.cell HE.out.c1; have X2 := KExt.cell HE.out.c2; have X3 := KExt.cell HE.out.c3; have X4 := KExt.cell HE.out.c4; have X5 := KExt.cell HE.out.c5
            go_cut [33] (fun v wx => v = .bool false ∧ Kept W1 wx)
            case first =>
              refine region_plan W1 19 (.read [0] (.one 1 (.read [2, 3, 4, 5, 6, 7, 8, 9, 10, 11, 12, 13, 14, 15, 16, 17, 18] .stop))) (by kernel_rfl) (by kernel_rfl) (by kernel_rfl) (by kernel_rfl) (by kernel_rfl) (fun _ d _ _ _ h => by cases d <;> exact h) (Kept.refl _) ?_
              intro wd hwd
              have HV := Lib.hid hwd
              clear hwd
              rw [wpPlan_read]
              simp only [pickOps_cons, pickOps_nil, consO_some, List.getElem?_cons_zero]
              repeat (go_big_quiet_step (fail))
              refine wpQuiet_nil ?_
              rw [wpPlan_one]
              simp only [pickOps_cons, pickOps_nil, consO_some, List.getElem?_cons_zero, List.getElem?_cons_succ]
              go_wp2_with (go_at_call 28; refine (AF.out _).mono ?_; rintro e u1 ⟨rfl, hkz⟩)
              replace HV := Lib.hid (HV.out.trans hkz)
              clear hkz
              refine soloP HV.out ?_
              rw [wpPlan_read]
              simp only [pickOps_cons, pickOps_nil, consO_some, List.getElem?_cons_zero, List.getElem?_cons_succ]
              repeat (go_big_quiet_step (fail))
              refine wpQuiet_nil ?_
              refine wpPlan_stop ?_
              clear X0 X1 X2 X3 X4 X5
              clear Y0 D0
              go_wp2_with fail
              go_meet
              exact ⟨rfl, HV.out⟩
            case rest =>
              clear X0 X1 X2 X3 X4 X5 Y0 D0
              obtain ⟨rfl, hkz⟩ := hcut
              have HK2 := Lib.hid (HKA.out.trans hkz)
              have HE2 := Lib.hid (HE.out.kept hkz)
              obtain ⟨W2, hW2⟩ : ∃ W2, wc = W2 := ⟨_, rfl⟩
              rw [hW2] at HK2 HE2 ⊢
              clear hkz hW2
              have d0 := (HB.out.kept HK2.out).c0
              have hth : t ≤ c := by omega
              have hrh := run_fhead (some ⟨g, o, none⟩) n c t hth
              have hrh2 := run_fhead2 (some ⟨g, o, none⟩) n c t hth
              have HHD := Lib.hid (fl_head HH.out (Nat.le_of_lt hlt) hth (Nat.le_refl c))
              go_wp2_with fail
              clear d0 hrh hrh2
              go_loopw [39] (fun i wr => ∃ j : Nat, j ≤ t ∧ i = .int .i64 j ∧ Kept W2 wr ∧ ∀ y ∈ L.take j, L4.apS x.p y.p = true) (fun i _ => t - (intOf i).toNat)
              case atStart => exact ⟨0, Nat.zero_le _, rfl, Kept.refl _, fun y hy => by simp at hy⟩
              case round =>
                obtain ⟨j, hj, rfl, hkj, hall⟩ := hrel
                have HKJ := Lib.hid hkj; have HA := Lib.hid hall
                clear hkj hall
                by_cases hjt : j < t
                · obtain ⟨g2, o2, y, hgo, hy, EY⟩ := (HHD.out.kept (HK2.out.trans HKJ.out)).get hjt
                  obtain ⟨rfl, rfl⟩ : g = g2 ∧ o = o2 := by simpa using hgo
                  have hy2 : L[j]? = some y := by rw [List.getElem?_take, if_pos hjt] at hy; exact hy
                  have y0 := EY.c0; have y1 := EY.c1; have y2 := EY.c2; have y3 := EY.c3; have y4 := EY.c4; have y5 := EY.c5
                  have HYY := Lib.hid hy2
                  have hka := (Kept.refl wr).alloc #[.string y.p, .int .i64 y.k, .int .i64 y.t, .int .i64 y.vk, .int .i64 y.vn, .string y.vt] 44
                  have HEY := FdB.new wr y 44
                  have z0 := HEY.c0
                  have v0 := ((HE2.out.kept HKJ.out).kept hka).c0
                  obtain ⟨ap, hap⟩ : ∃ b, L4.apS x.p y.p = b := ⟨_, rfl⟩
                  have AP := Lib.hid (fun w => rapK x.p y.p ap hap HZX.out.1 (HSZ.out y (List.mem_of_getElem? hy2)).1 w)
                  have HAP := Lib.hid hap
                  have HKB := Lib.hid (HKJ.out.trans hka)
                  clear EY hy hy2 hgo hka HEY hap
                  go_wp2_with fail
                  go_at_call 29
                  refine (AP.out _).mono ?_
                  rintro e w5 ⟨rfl, hk5⟩
                  have HK5 := Lib.hid (HKB.out.trans hk5)
                  clear hk5 y0 y1 y2 y3 y4 y5 z0 v0
                  cases ap with
                  | false =>
                    have HF := Lib.hid (show false = r by rw [eq_comm, ← Bool.not_eq_true, HR.out]; exact scOk_apart HYY.out HXX.out hjt HAP.out)
                    go_wp2_with fail
                    go_ret
                    exact ⟨ret_bool HF.out, HK.out.trans (HK2.out.trans HK5.out)⟩
                  | true =>
                    have HN := Lib.hid (show ∀ z ∈ L.take (j + 1), L4.apS x.p z.p = true from fun z hz => by
                      rw [List.take_add_one, HYY.out, Option.toList_some, List.mem_append, List.mem_singleton] at hz
                      rcases hz with hz | rfl
                      · exact HA.out z hz
                      · exact HAP.out)
                    go_wp2_with fail
                    go_roundw
                    case rel => exact ⟨j + 1, hjt, by go_num, HK5.out, HN.out⟩
                    case measure => simp [intOf]; omega
                · have hjj : j = t := by omega
                  rw [hjj] at HA ⊢
                  have HN := Lib.hid (HPRE.out.step HXX.out HFR.out HPREV.out HA.out)
                  clear hjj hjt hj
                  go_wp2_with fail
                  go_roundw
                  case rel => exact ⟨t + 1, hlt, by go_num, HK2.out.trans HKJ.out, HN.out⟩
                  case measure => simp [intOf]; omega
          · have HF := Lib.hid (show false = r by rw [eq_comm, ← Bool.not_eq_true, HR.out]; exact scOk_rise HYP.out HXX.out (by have := HKT.out; omega) hlp)
            have s1 : Op.bytesLess y.p.toList x.p.toList = false := by rw [less_of]; exact decide_eq_false hlp
            clear hlp
            have X0 := KExt.cell HE.out.c0; have X1 := KExt.cell HE.out.c1; have X2 := KExt.cell HE.out.c2; have X3 := KExt.cell HE.out.c3; have X4 := KExt.cell HE.out.c4; have X5 := KExt.cell HE.out.c5
            refine region_plan W1 19 (.read [0] (.one 1 (.read [2, 3, 4, 5, 6, 7, 8, 9, 10, 11, 12, 13, 14, 15, 16, 17, 18] .stop))) (by kernel_rfl) (by kernel_rfl) (by kernel_rfl) (by kernel_rfl) (by kernel_rfl) (fun _ d _ _ _ h => by cases d <;> exact h) (Kept.refl _) ?_
            intro wd hwd
            have HV := Lib.hid hwd
            clear hwd
            rw [wpPlan_read]
            simp only [pickOps_cons, pickOps_nil, consO_some, List.getElem?_cons_zero]
            repeat (go_big_quiet_step (fail))
            refine wpQuiet_nil ?_
            rw [wpPlan_one]
            simp only [pickOps_cons, pickOps_nil, consO_some, List.getElem?_cons_zero, List.getElem?_cons_succ]
            go_wp2_with (go_at_call 28; refine (AF.out _).mono ?_; rintro e u1 ⟨rfl, hkz⟩)
            replace HV := Lib.hid (HV.out.trans hkz)
            clear hkz
            refine soloP HV.out ?_
            rw [wpPlan_read]
            simp only [pickOps_cons, pickOps_nil, consO_some, List.getElem?_cons_zero, List.getElem?_cons_succ]
            repeat (go_big_quiet_step (fail))
            refine wpQuiet_nil ?_
            refine wpPlan_stop ?_
            clear X0 X1 X2 X3 X4 X5
            clear Y0 D0
            go_wp2_with fail
            go_ret
            exact ⟨ret_bool HF.out, HK.out.trans (HKA.out.trans HV.out)⟩
    · obtain rfl : t = n := by omega
      have hb := HB.out.kept HKR.out
      have d0 := hb.c0
      clear hb
      have HALL := Lib.hid (show PreF L by
        have := HPRE.out
        rw [show L.take t = L from List.take_of_length_le (by rw [← HNL.out]; exact Nat.le_refl _)] at this
        exact this)
      by_cases h1 : t ≤ 24
      · have f1 : decide ((t : Int) ≤ (24 : Int)) = true := decide_eq_true (by omega)
        have f2 : decide (t ≤ 24) = true := decide_eq_true h1
        have HF := Lib.hid (show true = r from (HR.out.2 ⟨by have := HNL.out; omega, HALL.out.ent, HALL.out.rise, HALL.out.apart⟩).symm)
        clear h1
        go_wp2_with fail
        go_ret
        exact ⟨ret_bool HF.out, HK.out.trans HKR.out⟩
      · have f1 : decide ((t : Int) ≤ (24 : Int)) = false := decide_eq_false (by omega)
        have f2 : decide (t ≤ 24) = false := decide_eq_false h1
        have HF := Lib.hid (show false = r by
          rw [eq_comm, ← Bool.not_eq_true, HR.out]
          intro s
          have := s.few; have := HNL.out; omega)
        clear h1
        go_wp2_with fail
        go_ret
        exact ⟨ret_bool HF.out, HK.out.trans HKR.out⟩
end Go.Proofs.Ytapcaflmfkcfkaa
