/-
  What is proved: SchemaSays of layer 11's laws, called with any schema, path and bytes, returns true; the world has new blocks at most.
-/
import Derived.Test.YtjieofiaoepccaaGreatDoorFAwake
import Derived.Test.YtjieofiaoepccaaGreatDoorM27
import Derived.Test.YtjieofiaoepccaaGreatDoorFOf
namespace Go.Proofs.YtjieofiaoepccaaGreatDoor
open Go.RowKit
set_option linter.unusedVariables false

def IntF (L : List Fd) : Prop := ∀ x ∈ L, x.p.size ≤ 9223372036854775807 ∧ x.vt.size ≤ 9223372036854775807 ∧ -9223372036854775808 ≤ x.vn ∧ x.vn ≤ 9223372036854775807
theorem IntF.w {L : List Fd} (h : IntF L) : ∀ x ∈ L, x.p.size ≤ 9223372036854775807 ∧ x.vt.size ≤ 9223372036854775807 := fun x hx => ⟨(h x hx).1, (h x hx).2.1⟩
theorem IntF.s {L : List Fd} (h : IntF L) {n : Nat} (k : ShortF L n) : ∀ x ∈ L, FdS x := fun x hx => ⟨(k.1 x hx).1, (k.1 x hx).2, (h x hx).2.2.1, (h x hx).2.2.2⟩
theorem fl_ofn {w : World} {A : Option Addr} {c : Nat} {L : List Fd} (h : Fl w A L.length c (ofF L)) : Fl w A L.length c (ofF L) := h
open Classical in
set_option maxRecDepth 100000 in
set_option maxHeartbeats 32000000 in
theorem fsays_any (A : Option Addr) (n c : Nat) (L : List Fd) (p b : ByteArray) (w : World) (h : Fl w A n c L) (hw : IntF L) (hp : p.size ≤ 9223372036854775807) (hb : b.size ≤ 9223372036854775807) (hl : LaidF w) :
    Calls Tryz.prog 3 #[.agg #[.slice A n c], .string p, .string b] w fun e w' => e = .returned (.bool true) ∧ Kept w w' := by
  have hk := (Kept.refl w).alloc #[.slice A n c] 24
  have hcap := h.cap.1; have hcap2 := h.cap.2
  have HNL := Lib.hid h.1; have HSZ := Lib.hid hw; have HLW := Lib.hid hl
  have HB := Lib.hid (Box1.new w (.slice A n c) 24)
  have HH := Lib.hid (h.kept hk)
  obtain ⟨U, hU⟩ : ∃ U, w.alloc (.cells #[.slice A n c] 24) = U := ⟨_, rfl⟩
  rw [hU] at hk HB HH
  have HK := Lib.hid hk; have HUU := Lib.hid hU
  have d0 := HB.out.c0
  clear h hw hk hU hl
  go_enter Tryz.func3, Tryz.ntmps3
  go_wp2_with fail
  rw [HUU.out]
  go_wp2_with fail
  by_cases hS : ShortF L n
  · have AL := Lib.hid (fun w h => flong_any A n c L w h HSZ.out.w false ⟨(fun h => by cases h), fun h => absurd hS h⟩)
    by_cases h1 : 200 < p.size
    · have f1 : decide ((200 : Int) < (p.size : Int)) = true := decide_eq_true (by omega)
      have f2 : decide (200 < p.size) = true := decide_eq_true (by omega)
      clear hS h1
      go_at_call 4
      refine (AL.out _ HH.out).mono ?_
      rintro e w1 ⟨rfl, hk1⟩
      have HK1 := Lib.hid hk1
      have d0 := (HB.out.kept hk1).c0
      clear hk1
      go_wp2_with fail
      go_at_call 5
      refine (fawake_any _ (HLW.out.kept (HK.out.trans HK1.out))).mono ?_
      rintro e w2 ⟨rfl, hk2⟩
      have HK2 := Lib.hid hk2
      clear hk2
      go_wp2_with fail
      go_ret
      exact ⟨rfl, HK.out.trans (HK1.out.trans HK2.out)⟩
    · have f1 : decide ((200 : Int) < (p.size : Int)) = false := decide_eq_false (by omega)
      have f2 : decide (200 < p.size) = false := decide_eq_false (by omega)
      by_cases h2 : 4000 < b.size
      · have g1 : decide ((4000 : Int) < (b.size : Int)) = true := decide_eq_true (by omega)
        have g2 : decide (4000 < b.size) = true := decide_eq_true (by omega)
        clear hS h1 h2
        go_at_call 4
        refine (AL.out _ HH.out).mono ?_
        rintro e w1 ⟨rfl, hk1⟩
        have HK1 := Lib.hid hk1
        have d0 := (HB.out.kept hk1).c0
        clear hk1
        go_wp2_with fail
        go_at_call 5
        refine (fawake_any _ (HLW.out.kept (HK.out.trans HK1.out))).mono ?_
        rintro e w2 ⟨rfl, hk2⟩
        have HK2 := Lib.hid hk2
        clear hk2
        go_wp2_with fail
        go_ret
        exact ⟨rfl, HK.out.trans (HK1.out.trans HK2.out)⟩
      · have g1 : decide ((4000 : Int) < (b.size : Int)) = false := decide_eq_false (by omega)
        have g2 : decide (4000 < b.size) = false := decide_eq_false (by omega)
        go_at_call 4
        refine (AL.out _ HH.out).mono ?_
        rintro e w1 ⟨rfl, hk1⟩
        have HK1 := Lib.hid hk1
        have d0 := (HB.out.kept hk1).c0
        clear hk1
        have HS := Lib.hid (HSZ.out.s hS)
        have hn40 := hS.2
        clear hS
        go_wp2_with fail
        clear d0
        go_loopw [35] (fun i wr => ∃ t : Nat, t ≤ n ∧ i = .int .i64 t ∧ Kept U wr) (fun i _ => n - (intOf i).toNat)
        case atStart => exact ⟨0, Nat.zero_le _, rfl, HK1.out⟩
        case round =>
          obtain ⟨t, ht, rfl, hkr⟩ := hrel
          have HKR := Lib.hid hkr
          clear hkr
          by_cases hlt : t < n
          · obtain ⟨g, o, x, rfl, hx, EX⟩ := (HH.out.kept HKR.out).get hlt
            have x0 := EX.c0; have x1 := EX.c1; have x2 := EX.c2; have x3 := EX.c3; have x4 := EX.c4; have x5 := EX.c5
            have hka := (Kept.refl wr).alloc #[.string x.p, .int .i64 x.k, .int .i64 x.t, .int .i64 x.vk, .int .i64 x.vn, .string x.vt] 30
            have HE := Lib.hid (FdB.new wr x 30)
            obtain ⟨W5, hW5⟩ : ∃ W5, wr.alloc (.cells #[.string x.p, .int .i64 x.k, .int .i64 x.t, .int .i64 x.vk, .int .i64 x.vn, .string x.vt] 30) = W5 := ⟨_, rfl⟩
            rw [hW5] at hka HE
            have HKA := Lib.hid (HKR.out.trans hka)
            have HW5 := Lib.hid hW5
            have hfs := HS.out x (List.mem_of_getElem? hx)
            have hp1 : x.p.size ≤ 1099511627776 := Nat.le_trans hfs.p (by decide)
            have hp2 : x.vt.size ≤ 1099511627776 := Nat.le_trans hfs.vt (by decide)
            obtain ⟨bb, hbb⟩ : ∃ bb, rightF x = bb := ⟨_, rfl⟩
            have AD := Lib.hid (fun w => sfr_c x bb hbb w hp1 hp2)
            have AR := Lib.hid (fun w => rfr_c x bb hbb w hp1 hp2)
            clear EX hx hka hW5 hfs hp1 hp2 hbb
            go_wp2_with fail
            rw [HW5.out]
            clear x0 x1 x2 x3 x4 x5
            have z0 := KExt.cell HE.out.c0; have z1 := KExt.cell HE.out.c1; have z2 := KExt.cell HE.out.c2; have z3 := KExt.cell HE.out.c3; have z4 := KExt.cell HE.out.c4; have z5 := KExt.cell HE.out.c5
            try dsimp only [List.append]
            refine region_plan W5 5 (.read [0, 2] (.one 1 (.one 3 (.read [4] .stop)))) (by kernel_rfl) (by kernel_rfl) (by kernel_rfl) (by kernel_rfl) (by kernel_rfl) (fun _ d _ _ _ h => by cases d <;> exact h) (Kept.refl _) ?_
            intro wd hwd
            have HV := Lib.hid hwd
            clear hwd
            rw [wpPlan_read]
            simp only [pickOps_cons, pickOps_nil, consO_some, List.getElem?_cons_zero, List.getElem?_cons_succ]
            repeat (go_big_quiet_step (fail))
            refine wpQuiet_nil ?_
            rw [wpPlan_one]
            simp only [pickOps_cons, pickOps_nil, consO_some, List.getElem?_cons_zero, List.getElem?_cons_succ]
            go_wp2_with (go_at_call 6; refine (AD.out _).mono ?_; rintro e w3 ⟨rfl, hk⟩)
            replace HV := Lib.hid (HV.out.trans hk)
            clear hk
            refine soloP HV.out ?_
            rw [wpPlan_one]
            simp only [pickOps_cons, pickOps_nil, consO_some, List.getElem?_cons_zero, List.getElem?_cons_succ]
            go_wp2_with (go_at_call 7; refine (AR.out _).mono ?_; rintro e w4 ⟨rfl, hk⟩)
            replace HV := Lib.hid (HV.out.trans hk)
            clear hk
            refine soloP HV.out ?_
            rw [wpPlan_read]
            simp only [pickOps_cons, pickOps_nil, consO_some, List.getElem?_cons_zero, List.getElem?_cons_succ]
            repeat (go_big_quiet_step (fail))
            refine wpQuiet_nil ?_
            refine wpPlan_stop ?_
            clear z0 z1 z2 z3 z4 z5
            cases bb <;>
            · go_wp2_with fail
              go_roundw
              case rel => exact ⟨t + 1, hlt, by go_num, HKA.out.trans HV.out⟩
              case measure => simp [intOf]; omega
          · obtain rfl : t = n := by omega
            have hnt : decide ((t : Int) < (t : Int)) = false := decide_eq_false (by omega)
            have hnt2 : decide (t < t) = false := decide_eq_false (by omega)
            have HQ := Lib.hid (HK.out.trans HKR.out)
            replace HB := Lib.hid (HB.out.kept HKR.out); replace HH := Lib.hid (HH.out.kept HKR.out)
            obtain ⟨y, z, hyz⟩ : ∃ y z, findR L p = (y, z) := ⟨_, _, rfl⟩
            have HY := Lib.hid hyz
            clear hyz
            go_wp2_with fail
            clear hnt hnt2
            go_at_call 8
            refine (stake_any b _ (by omega)).mono ?_
            rintro e v1 ⟨A1, c1, rfl, h1, hk⟩
            have hka := (Kept.refl v1).alloc #[.slice A1 (tscL b).1.length c1] 24
            have HT1 := Lib.hid (h1.kept hka)
            have HBT1 := Lib.hid (Box1.new v1 (.slice A1 (tscL b).1.length c1) 24)
            replace HQ := Lib.hid (HQ.out.trans (hk.trans hka)); replace HB := Lib.hid (HB.out.kept (hk.trans hka)); replace HH := Lib.hid (HH.out.kept (hk.trans hka))
            clear hk hka h1
            go_wp2_with fail
            go_at_call 9
            refine (rftake_any b _ (by omega)).mono ?_
            rintro e v2 ⟨A2, c2, rfl, h2, hk⟩
            have hka := (Kept.refl v2).alloc #[.slice A2 (tscL b).1.length c2] 24
            have HT2 := Lib.hid (h2.kept hka)
            have HBT2 := Lib.hid (Box1.new v2 (.slice A2 (tscL b).1.length c2) 24)
            replace HQ := Lib.hid (HQ.out.trans (hk.trans hka)); replace HB := Lib.hid (HB.out.kept (hk.trans hka)); replace HH := Lib.hid (HH.out.kept (hk.trans hka)); replace HT1 := Lib.hid (HT1.out.kept (hk.trans hka)); replace HBT1 := Lib.hid (HBT1.out.kept (hk.trans hka))
            clear hk hka h2
            have d0 := HB.out.c0
            go_wp2_with fail
            go_at_call 10
            refine (sfind_any _ _ _ L p _ HH.out (fds_p2 HS.out) (by omega) y z HY.out).mono ?_
            rintro e v3 ⟨rfl, hk⟩
            have hka := (Kept.refl v3).alloc #[.string y.p, .int .i64 y.k, .int .i64 y.t, .int .i64 y.vk, .int .i64 y.vn, .string y.vt] 30
            have HF3 := Lib.hid (FdB.new v3 y 30)
            replace HQ := Lib.hid (HQ.out.trans (hk.trans hka)); replace HB := Lib.hid (HB.out.kept (hk.trans hka)); replace HH := Lib.hid (HH.out.kept (hk.trans hka)); replace HT1 := Lib.hid (HT1.out.kept (hk.trans hka)); replace HBT1 := Lib.hid (HBT1.out.kept (hk.trans hka)); replace HT2 := Lib.hid (HT2.out.kept (hk.trans hka)); replace HBT2 := Lib.hid (HBT2.out.kept (hk.trans hka))
            clear hk hka d0
            have d0 := HB.out.c0
            go_wp2_with fail
            go_at_call 11
            refine (rfind_any _ _ _ L p _ HH.out (fds_p2 HS.out) (by omega) y z HY.out).mono ?_
            rintro e v4 ⟨rfl, hk⟩
            have hka := (Kept.refl v4).alloc #[.string y.p, .int .i64 y.k, .int .i64 y.t, .int .i64 y.vk, .int .i64 y.vn, .string y.vt] 30
            have HF4 := Lib.hid (FdB.new v4 y 30)
            replace HQ := Lib.hid (HQ.out.trans (hk.trans hka)); replace HB := Lib.hid (HB.out.kept (hk.trans hka)); replace HH := Lib.hid (HH.out.kept (hk.trans hka)); replace HT1 := Lib.hid (HT1.out.kept (hk.trans hka)); replace HBT1 := Lib.hid (HBT1.out.kept (hk.trans hka)); replace HT2 := Lib.hid (HT2.out.kept (hk.trans hka)); replace HBT2 := Lib.hid (HBT2.out.kept (hk.trans hka)); replace HF3 := Lib.hid (HF3.out.kept (hk.trans hka))
            clear hk hka d0
            obtain ⟨W, hW⟩ : ∃ W, v4.alloc (.cells #[.string y.p, .int .i64 y.k, .int .i64 y.t, .int .i64 y.vk, .int .i64 y.vn, .string y.vt] 30) = W := ⟨_, rfl⟩
            rw [hW] at HQ HB HH HT1 HBT1 HT2 HBT2 HF3 HF4
            have HWW := Lib.hid hW
            clear hW
            go_wp2_with fail
            rw [HWW.out]
            have d0 := KExt.cell HB.out.c0; have d1 := KExt.cell HBT1.out.c0; have d2 := KExt.cell HBT2.out.c0
            have m0 := KExt.cell HF3.out.c0; have n0 := KExt.cell HF4.out.c0; have m1 := KExt.cell HF3.out.c1; have n1 := KExt.cell HF4.out.c1; have m2 := KExt.cell HF3.out.c2; have n2 := KExt.cell HF4.out.c2; have m3 := KExt.cell HF3.out.c3; have n3 := KExt.cell HF4.out.c3; have m4 := KExt.cell HF3.out.c4; have n4 := KExt.cell HF4.out.c4; have m5 := KExt.cell HF3.out.c5; have n5 := KExt.cell HF4.out.c5
            obtain ⟨rb, hrb⟩ : ∃ rb : Bool, rb = true ↔ ScOk L := ⟨decide (ScOk L), decide_eq_true_iff⟩
            obtain ⟨ub, hub⟩ : ∃ ub, underF L p = ub := ⟨_, rfl⟩
            obtain ⟨sb, hsb⟩ : ∃ sb : Bool, sb = true ↔ L = (tscL b).1 := ⟨decide (L = (tscL b).1), decide_eq_true_iff⟩
            have HRB := Lib.hid hrb; have HUB := Lib.hid hub; have HSB := Lib.hid hsb
            have hp9 : p.size ≤ 1099511627776 := by omega
            have hp5 : p.size ≤ 5000 := by omega
            have HP9 := Lib.hid hp9; have HP5 := Lib.hid hp5
            have HN4 := Lib.hid hn40
            clear hrb hub hsb hp9 hp5
            try dsimp only [List.append]
            refine region_plan W 77 (.read [0, 1] (.one 2 (.read [3, 4, 5, 6, 7, 8, 9, 10, 11, 12, 13, 14, 15, 16, 17, 18, 19, 20, 21, 22, 23, 24, 26] (.one 25 (.one 27 (.read [28, 29, 30, 31, 32, 34, 35] (.one 33 (.one 36 (.read [37, 38, 39, 40, 41, 43, 44] (.one 42 (.one 45 (.read [46, 47, 48, 49, 51] (.one 50 (.one 52 (.read [53, 54, 55, 56, 57, 59, 60] (.one 58 (.one 61 (.read [62, 63, 64, 65, 66, 68, 69] (.one 67 (.one 70 (.one 71 (.read [72, 73] (.one 74 (.read [75, 76] .stop)))))))))))))))))))))))) (by kernel_rfl) (by kernel_rfl) (by kernel_rfl) (by kernel_rfl) (by kernel_rfl) (fun _ d _ _ _ h => by cases d <;> exact h) (Kept.refl _) ?_
            intro wd hwd
            have HV := Lib.hid hwd
            clear hwd
            rw [wpPlan_read]
            simp only [pickOps_cons, pickOps_nil, consO_some, List.getElem?_cons_zero, List.getElem?_cons_succ]
            repeat (go_big_quiet_step (fail))
            refine wpQuiet_nil ?_
            rw [wpPlan_one]
            simp only [pickOps_cons, pickOps_nil, consO_some, List.getElem?_cons_zero, List.getElem?_cons_succ]
            go_wp2_with (go_at_call 12; refine (rfsame_any _ _ _ _ _ _ _ _ _ (HT1.out.kept HV.out) (HT2.out.kept HV.out) true (by simp)).mono ?_; rintro e u0 ⟨rfl, hk⟩)
            replace HV := Lib.hid (HV.out.trans hk)
            clear hk
            refine soloP HV.out ?_
            rw [wpPlan_read]
            simp only [pickOps_cons, pickOps_nil, consO_some, List.getElem?_cons_zero, List.getElem?_cons_succ]
            repeat (go_big_quiet_step (fail))
            refine wpQuiet_nil ?_
            rw [wpPlan_one]
            simp only [pickOps_cons, pickOps_nil, consO_some, List.getElem?_cons_zero, List.getElem?_cons_succ]
            go_wp2_with (go_at_call 13; refine (ssc_any _ _ _ L _ (HH.out.kept HV.out) (fds_w HS.out) rb HRB.out).mono ?_; rintro e u1 ⟨rfl, hk⟩)
            replace HV := Lib.hid (HV.out.trans hk)
            clear hk
            refine soloP HV.out ?_
            rw [wpPlan_one]
            simp only [pickOps_cons, pickOps_nil, consO_some, List.getElem?_cons_zero, List.getElem?_cons_succ]
            go_wp2_with (go_at_call 14; refine (rsc_any _ _ _ L _ (HH.out.kept HV.out) (fds_w HS.out) rb HRB.out).mono ?_; rintro e u2 ⟨rfl, hk⟩)
            replace HV := Lib.hid (HV.out.trans hk)
            clear hk
            refine soloP HV.out ?_
            rw [wpPlan_read]
            simp only [pickOps_cons, pickOps_nil, consO_some, List.getElem?_cons_zero, List.getElem?_cons_succ]
            repeat (go_big_quiet_step (fail))
            refine wpQuiet_nil ?_
            rw [wpPlan_one]
            simp only [pickOps_cons, pickOps_nil, consO_some, List.getElem?_cons_zero, List.getElem?_cons_succ]
            go_wp2_with (go_at_call 15; refine (sund_any _ _ _ L p _ (HH.out.kept HV.out) (fds_p HS.out) HP9.out ub HUB.out).mono ?_; rintro e u3 ⟨rfl, hk⟩)
            replace HV := Lib.hid (HV.out.trans hk)
            clear hk
            refine soloP HV.out ?_
            rw [wpPlan_one]
            simp only [pickOps_cons, pickOps_nil, consO_some, List.getElem?_cons_zero, List.getElem?_cons_succ]
            go_wp2_with (go_at_call 16; refine (runder_any _ _ _ L p _ (HH.out.kept HV.out) (fds_p HS.out) HP9.out ub HUB.out).mono ?_; rintro e u4 ⟨rfl, hk⟩)
            replace HV := Lib.hid (HV.out.trans hk)
            clear hk
            refine soloP HV.out ?_
            rw [wpPlan_read]
            simp only [pickOps_cons, pickOps_nil, consO_some, List.getElem?_cons_zero, List.getElem?_cons_succ]
            repeat (go_big_quiet_step (fail))
            refine wpQuiet_nil ?_
            rw [wpPlan_one]
            simp only [pickOps_cons, pickOps_nil, consO_some, List.getElem?_cons_zero, List.getElem?_cons_succ]
            go_wp2_with (go_at_call 17; refine (sput_any p _ _ _ L _ (HH.out.kept HV.out) HN4.out HS.out HP5.out).mono ?_; rintro e u5 ⟨rfl, hk⟩)
            replace HV := Lib.hid (HV.out.trans hk)
            clear hk
            refine soloP HV.out ?_
            rw [wpPlan_one]
            simp only [pickOps_cons, pickOps_nil, consO_some, List.getElem?_cons_zero, List.getElem?_cons_succ]
            go_wp2_with (go_at_call 18; refine (rfput_any p _ _ _ L _ (HH.out.kept HV.out) HN4.out HS.out HP5.out).mono ?_; rintro e u6 ⟨rfl, hk⟩)
            replace HV := Lib.hid (HV.out.trans hk)
            clear hk
            refine soloP HV.out ?_
            rw [wpPlan_read]
            simp only [pickOps_cons, pickOps_nil, consO_some, List.getElem?_cons_zero, List.getElem?_cons_succ]
            repeat (go_big_quiet_step (fail))
            refine wpQuiet_nil ?_
            rw [wpPlan_one]
            simp only [pickOps_cons, pickOps_nil, consO_some, List.getElem?_cons_zero, List.getElem?_cons_succ]
            go_wp2_with (go_at_call 19; refine (stext_any _ _ _ L _ (HH.out.kept HV.out) HN4.out HS.out (HLW.out.kept (HQ.out.trans HV.out))).mono ?_; rintro e u7 ⟨rfl, hk⟩)
            replace HV := Lib.hid (HV.out.trans hk)
            clear hk
            refine soloP HV.out ?_
            rw [wpPlan_one]
            simp only [pickOps_cons, pickOps_nil, consO_some, List.getElem?_cons_zero, List.getElem?_cons_succ]
            go_wp2_with (go_at_call 20; refine (rftext_any _ _ _ L _ (HH.out.kept HV.out) HN4.out HS.out).mono ?_; rintro e u8 ⟨rfl, hk⟩)
            replace HV := Lib.hid (HV.out.trans hk)
            clear hk
            refine soloP HV.out ?_
            rw [wpPlan_read]
            simp only [pickOps_cons, pickOps_nil, consO_some, List.getElem?_cons_zero, List.getElem?_cons_succ]
            repeat (go_big_quiet_step (fail))
            refine wpQuiet_nil ?_
            rw [wpPlan_one]
            simp only [pickOps_cons, pickOps_nil, consO_some, List.getElem?_cons_zero, List.getElem?_cons_succ]
            go_wp2_with (go_at_call 21; refine (ssame_any _ _ _ L _ _ _ _ _ (HH.out.kept HV.out) (HT1.out.kept HV.out) sb HSB.out).mono ?_; rintro e u9 ⟨rfl, hk⟩)
            replace HV := Lib.hid (HV.out.trans hk)
            clear hk
            refine soloP HV.out ?_
            rw [wpPlan_one]
            simp only [pickOps_cons, pickOps_nil, consO_some, List.getElem?_cons_zero, List.getElem?_cons_succ]
            go_wp2_with (go_at_call 12; refine (rfsame_any _ _ _ L _ _ _ _ _ (HH.out.kept HV.out) (HT2.out.kept HV.out) sb HSB.out).mono ?_; rintro e u10 ⟨rfl, hk⟩)
            replace HV := Lib.hid (HV.out.trans hk)
            clear hk
            refine soloP HV.out ?_
            rw [wpPlan_read]
            simp only [pickOps_cons, pickOps_nil, consO_some, List.getElem?_cons_zero, List.getElem?_cons_succ]
            repeat (go_big_quiet_step (fail))
            refine wpQuiet_nil ?_
            rw [wpPlan_one]
            simp only [pickOps_cons, pickOps_nil, consO_some, List.getElem?_cons_zero, List.getElem?_cons_succ]
            go_wp2_with (go_at_call 22; refine (sof_any _ _ _ L _ (HH.out.kept HV.out) (by have := HN4.out; omega)).mono ?_; rintro e u11 ⟨A11, c11, rfl, hf, hk⟩)
            have HO11 := Lib.hid hf
            replace HV := Lib.hid (HV.out.trans hk)
            clear hf hk
            refine soloP HV.out ?_
            rw [wpPlan_one]
            simp only [pickOps_cons, pickOps_nil, consO_some, List.getElem?_cons_zero, List.getElem?_cons_succ]
            go_wp2_with (go_at_call 23; refine (rfof_any _ _ _ L _ (HH.out.kept HV.out) (by have := HN4.out; omega)).mono ?_; rintro e u12 ⟨A12, c12, rfl, hf, hk⟩)
            have HO12 := Lib.hid hf
            replace HV := Lib.hid (HV.out.trans hk)
            replace HO11 := Lib.hid (HO11.out.kept hk)
            clear hf hk
            refine soloP HV.out ?_
            rw [wpPlan_one]
            simp only [pickOps_cons, pickOps_nil, consO_some, List.getElem?_cons_zero, List.getElem?_cons_succ]
            go_wp2_with (go_at_call 12; refine (rfsame_any _ _ _ (ofF L) _ _ _ (ofF L) _ (by have := HO11.out; exact fl_ofn this) (by have := HO12.out; exact fl_ofn this) true (by simp)).mono ?_; rintro e u13 ⟨rfl, hk⟩)
            replace HV := Lib.hid (HV.out.trans hk)
            clear hk
            refine soloP HV.out ?_
            rw [wpPlan_read]
            simp only [pickOps_cons, pickOps_nil, consO_some, List.getElem?_cons_zero, List.getElem?_cons_succ]
            repeat (go_big_quiet_step (fail))
            refine wpQuiet_nil ?_
            rw [wpPlan_one]
            simp only [pickOps_cons, pickOps_nil, consO_some, List.getElem?_cons_zero, List.getElem?_cons_succ]
            go_wp2_with (go_at_call 5; refine (fawake_any _ (HLW.out.kept (HQ.out.trans HV.out))).mono ?_; rintro e u14 ⟨rfl, hk⟩)
            replace HV := Lib.hid (HV.out.trans hk)
            clear hk
            refine soloP HV.out ?_
            rw [wpPlan_read]
            simp only [pickOps_cons, pickOps_nil, consO_some, List.getElem?_cons_zero, List.getElem?_cons_succ]
            repeat (go_big_quiet_step (fail))
            refine wpQuiet_nil ?_
            refine wpPlan_stop ?_
            clear d0 d1 d2 m0 n0 m1 n1 m2 n2 m3 n3 m4 n4 m5 n5
            go_wp2_with fail
            go_ret
            exact ⟨rfl, HQ.out.trans HV.out⟩
  · have AL := Lib.hid (fun w h => flong_any A n c L w h HSZ.out.w true ⟨fun _ => hS, fun _ => rfl⟩)
    clear hS
    go_at_call 4
    refine (AL.out _ HH.out).mono ?_
    rintro e w1 ⟨rfl, hk1⟩
    have HK1 := Lib.hid hk1
    have d0 := (HB.out.kept hk1).c0
    clear hk1
    go_wp2_with fail
    go_at_call 5
    refine (fawake_any _ (HLW.out.kept (HK.out.trans HK1.out))).mono ?_
    rintro e w2 ⟨rfl, hk2⟩
    have HK2 := Lib.hid hk2
    clear hk2
    go_wp2_with fail
    go_ret
    exact ⟨rfl, HK.out.trans (HK1.out.trans HK2.out)⟩
end Go.Proofs.YtjieofiaoepccaaGreatDoor
