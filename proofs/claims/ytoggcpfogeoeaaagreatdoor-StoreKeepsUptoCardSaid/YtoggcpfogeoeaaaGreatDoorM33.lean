/-
  What is proved: Right of package store (P8.1), called with any state whose set is right and whose texts are no longer than 2^40 bytes, returns whether it is right; the world has new blocks at most.
  Take of package store, called with any text of bounded length, returns what P8.6 says; the world has new blocks at most.
-/
import Derived.Test.YtoggcpfogeoeaaaGreatDoorM32
import Derived.Test.YtoggcpfogeoeaaaGreatDoorM24
import Derived.Test.YtoggcpfogeoeaaaGreatDoorM30
import Derived.IntWalk
namespace Go.Proofs.YtoggcpfogeoeaaaGreatDoor
open Go.RowKit
set_option linter.unusedVariables false

/-- What is asked of the t-th entry. -/
def EntOk (L : List En) (t : Nat) (x : En) : Prop := (∀ i y, t = i + 1 → L[i]? = some y → LtD y.d x.d) ∧ rightE x = true
theorem riseE_of {L : List En} (h : ∀ t x, L[t]? = some x → EntOk L t x) : RiseE L := List.pairwise_iff_getElem.2 fun i j hi hj hij => by
  obtain ⟨k, rfl⟩ : ∃ k, j = i + k + 1 := ⟨j - i - 1, by omega⟩
  clear hij
  induction k with
  | zero => exact (h (i + 1) _ (List.getElem?_eq_getElem hj)).1 i _ rfl (List.getElem?_eq_getElem hi)
  | succ k ih => exact (ih (by omega)).trans ((h (i + (k + 1) + 1) _ (List.getElem?_eq_getElem hj)).1 (i + k + 1) _ rfl (List.getElem?_eq_getElem (by omega)))
theorem stOk_iff {L : List En} {V : List Int} {C : List (Int × Int)} (hc : RightC V C) (h : ∀ t x, L[t]? = some x → EntOk L t x) {V6 : List Int} {C6 : List (Int × Int)} (hs : SetC (CompS [] (L.map (·.d))) V6 C6) :
    StOk L V C ↔ ∀ d, hasC V6 C6 d → hasC V C d := by
  have hall : ∀ x ∈ L, rightE x = true := fun x hx => by
    obtain ⟨t, ht⟩ := List.getElem?_of_mem hx
    exact (h t x ht).2
  constructor
  · intro k d hd
    have := (of_has _ d).1 ((hs.has d).1 hd)
    obtain ⟨x, hx, rfl⟩ := List.mem_map.1 this.2
    exact k.known x hx
  · intro k
    exact ⟨riseE_of h, hall, hc, fun x hx => k _ ((hs.has _).2 ((of_has _ _).2 ⟨rightE_dot (hall x hx), List.mem_map.2 ⟨x, hx, rfl⟩⟩))⟩

open Classical in
set_option maxRecDepth 100000 in
set_option maxHeartbeats 16000000 in
theorem sright_any (A : Option Addr) (n c : Nat) (L : List En) (B : Option Addr) (m k : Nat) (V : List Int) (D : Option Addr) (p q : Nat) (C : List (Int × Int)) (w : World)
    (h : El w A n c L) (hi : Il w B m k V) (hd : Dl w D p q C) (hc : RightC V C) (hn : n ≤ 100000) (hp : p ≤ 100000) (hsz : ∀ x ∈ L, x.p.size ≤ 1099511627776 ∧ x.vt.size ≤ 1099511627776) (r : Bool) (hr : r = true ↔ StOk L V C) :
    Calls Tryz.prog 8 #[.agg #[.slice A n c, .slice B m k, .slice D p q]] w fun e w' => e = .returned (.bool r) ∧ Kept w w' := by
  have hk := (Kept.refl w).alloc #[.slice A n c, .slice B m k, .slice D p q] 29
  have hcap := h.cap.1; have hcap2 := h.cap.2
  have HNL := Lib.hid h.1
  have HC := Lib.hid hc
  have HSZ := Lib.hid hsz
  have HR := Lib.hid hr
  have HK := Lib.hid hk
  have HB := Lib.hid (Box3.new w (.slice A n c) (.slice B m k) (.slice D p q) 29)
  have HH := Lib.hid (h.kept hk); have HI := Lib.hid (hi.kept hk); have HD := Lib.hid (hd.kept hk)
  obtain ⟨U, hU⟩ : ∃ U, w.alloc (.cells #[.slice A n c, .slice B m k, .slice D p q] 29) = U := ⟨_, rfl⟩
  rw [hU] at HK HB HH HI HD
  have HUU := Lib.hid hU
  clear h hi hd hc hsz hr hk hU
  go_enter Tryz.func8, Tryz.ntmps8
  go_wp2_with fail
  go_loopw [9] (fun i wr => ∃ t : Nat, t ≤ n ∧ i = .int .i64 t ∧ Kept U wr ∧ ∀ j x, j < t → L[j]? = some x → EntOk L j x) (fun i _ => n - (intOf i).toNat)
  case atStart => exact ⟨0, Nat.zero_le _, rfl, by rw [HUU.out]; exact Kept.refl _, fun j x hj => absurd hj (by omega)⟩
  case round =>
    obtain ⟨t, ht, rfl, hkr, hall⟩ := hrel
    have HR2 := Lib.hid hkr
    have HA2 := Lib.hid hall
    clear hkr hall
    by_cases hlt : t < n
    · obtain ⟨g, o, x, hA, hx, EX⟩ := (HH.out.kept HR2.out).get hlt
      have HX := Lib.hid hx
      have x0 := EX.c0; have x1 := EX.c1; have x2 := EX.c2; have x3 := EX.c3; have x4 := EX.c4; have x5 := EX.c5; have x6 := EX.c6; have x7 := EX.c7; have x8 := EX.c8
      have HXE := Lib.hid (Ent.new wr x 35)
      have d0 := KExt.cell HXE.out.c0; have d1 := KExt.cell HXE.out.c1; have d2 := KExt.cell HXE.out.c2; have d3 := KExt.cell HXE.out.c3; have d4 := KExt.cell HXE.out.c4; have d5 := KExt.cell HXE.out.c5; have d6 := KExt.cell HXE.out.c6; have d7 := KExt.cell HXE.out.c7; have d8 := KExt.cell HXE.out.c8
      have e0 := KExt.cell ((HB.out.kept (HR2.out.alloc #[.int .i64 x.d.1, .int .i64 x.d.2, .string x.p, .int .i64 x.k, .int .i64 x.vk, .int .i64 x.vn, .string x.vt, .int .i64 x.e.1, .int .i64 x.e.2] 35)).c0)
      clear EX hx
      rcases Nat.eq_zero_or_pos t with h6 | h6
      · have f2 : ((t : Int) == 0) = true := by rw [beq_iff_eq]; omega
        have f3 : (t == 0) = true := by rw [beq_iff_eq]; exact h6
        have HT0 := Lib.hid h6
        subst hA
        clear h6
        obtain ⟨qq, hq⟩ : ∃ qq, rightE x = qq := ⟨_, rfl⟩
        have AR := Lib.hid (fun w => eright_c x qq hq w (HSZ.out x (List.mem_of_getElem? HX.out)).1 (HSZ.out x (List.mem_of_getElem? HX.out)).2)
        have HQ := Lib.hid hq
        clear hq
        cases qq with
        | false =>
          have HF := Lib.hid (show false = r by rw [eq_comm, ← Bool.not_eq_true, HR.out]; intro hh; have := hh.ent x (List.mem_of_getElem? HX.out); rw [HQ.out] at this; cases this)
          go_wp2_with fail
          refine region_kept (wr.alloc (.cells #[.int .i64 x.d.1, .int .i64 x.d.2, .string x.p, .int .i64 x.k, .int .i64 x.vk, .int .i64 x.vn, .string x.vt, .int .i64 x.e.1, .int .i64 x.e.2] 35)) (by kernel_rfl) (by kernel_rfl) (Kept.refl _) ?_
          repeat (go_big_quiet_step (fail))
          refine wpQuiet_nil ?_
          intro G
          go_wp2_with (go_at_call 5; ((with_reducible refine (AR.out _).mono ?_); rintro e w6 ⟨rfl, hg⟩))
          go_ret
          exact ⟨ret_bool HF.out, HK.out.trans (HR2.out.trans ((((Kept.refl _).alloc _ _).trans G.g).trans hg))⟩
        | true =>
          have HN2 := Lib.hid (show ∀ j y, j < t + 1 → L[j]? = some y → EntOk L j y from fun j' y hj hy => by
            rcases Nat.lt_or_ge j' t with h | h
            · exact HA2.out j' y h hy
            · obtain rfl : j' = t := by omega
              obtain rfl := Option.some.inj (hy.symm.trans HX.out)
              exact ⟨fun i y hi => by have := HT0.out; omega, HQ.out⟩)
          go_wp2_with fail
          refine region_kept (wr.alloc (.cells #[.int .i64 x.d.1, .int .i64 x.d.2, .string x.p, .int .i64 x.k, .int .i64 x.vk, .int .i64 x.vn, .string x.vt, .int .i64 x.e.1, .int .i64 x.e.2] 35)) (by kernel_rfl) (by kernel_rfl) (Kept.refl _) ?_
          repeat (go_big_quiet_step (fail))
          refine wpQuiet_nil ?_
          intro G
          go_wp2_with (go_at_call 5; ((with_reducible refine (AR.out _).mono ?_); rintro e w6 ⟨rfl, hg⟩))
          go_roundw
          case rel => exact ⟨t + 1, hlt, by go_num, HR2.out.trans ((((Kept.refl _).alloc _ _).trans G.g).trans hg), HN2.out⟩
          case measure => simp [intOf]; omega
      · have f2 : ((t : Int) == 0) = false := by rw [beq_eq_false_iff_ne]; omega
        have f3 : (t == 0) = false := by rw [beq_eq_false_iff_ne]; omega
        obtain ⟨j, hkj⟩ : ∃ j, t = j + 1 := ⟨t - 1, by omega⟩
        have hsub2 : IntKind.i64.wrap ((t : Int) - 1) = (j : Int) := by rw [IntWalk.i64_in _ (by omega)]; omega
        have hjm : j < n := by omega
        obtain ⟨g', o', y, hA', hy, EY⟩ := (HH.out.kept (HR2.out.alloc #[.int .i64 x.d.1, .int .i64 x.d.2, .string x.p, .int .i64 x.k, .int .i64 x.vk, .int .i64 x.vn, .string x.vt, .int .i64 x.e.1, .int .i64 x.e.2] 35)).get hjm
        obtain ⟨rfl, rfl⟩ : g = g' ∧ o = o' := by simpa using hA.symm.trans hA'
        have y0 := KExt.cell EY.c0; have y1 := KExt.cell EY.c1; have y2 := KExt.cell EY.c2; have y3 := KExt.cell EY.c3; have y4 := KExt.cell EY.c4; have y5 := KExt.cell EY.c5; have y6 := KExt.cell EY.c6; have y7 := KExt.cell EY.c7; have y8 := KExt.cell EY.c8
        have HY := Lib.hid hy
        have HKJ := Lib.hid hkj
        obtain ⟨z, hzz⟩ : ∃ z, cmpD y.d x.d = z := ⟨_, rfl⟩
        have AC := Lib.hid (fun w => ecmp_c y x z hzz w)
        have HZZ := Lib.hid hzz
        subst hA
        clear hy EY hA' hkj hzz h6
        by_cases h7 : z < 0
        · have f4 : decide (z < 0) = true := by simpa using h7
          have HLT := Lib.hid (show LtD y.d x.d from (cmpD_lt _ _).1 (by rw [HZZ.out]; exact h7))
          clear h7
          obtain ⟨qq, hq⟩ : ∃ qq, rightE x = qq := ⟨_, rfl⟩
          have AR := Lib.hid (fun w => eright_c x qq hq w (HSZ.out x (List.mem_of_getElem? HX.out)).1 (HSZ.out x (List.mem_of_getElem? HX.out)).2)
          have HQ := Lib.hid hq
          clear hq
          cases qq with
          | false =>
            have HF := Lib.hid (show false = r by rw [eq_comm, ← Bool.not_eq_true, HR.out]; intro hh; have := hh.ent x (List.mem_of_getElem? HX.out); rw [HQ.out] at this; cases this)
            go_wp2_with fail
            refine region_kept (wr.alloc (.cells #[.int .i64 x.d.1, .int .i64 x.d.2, .string x.p, .int .i64 x.k, .int .i64 x.vk, .int .i64 x.vn, .string x.vt, .int .i64 x.e.1, .int .i64 x.e.2] 35)) (by kernel_rfl) (by kernel_rfl) (Kept.refl _) ?_
            repeat (go_big_quiet_step ((first | (go_at_call 25; (with_reducible exact KExt.callsK (AC.out _))) | fail)))
            refine wpQuiet_nil ?_
            intro G
            go_wp2_with (go_at_call 5; ((with_reducible refine (AR.out _).mono ?_); rintro e w6 ⟨rfl, hg⟩))
            go_ret
            exact ⟨ret_bool HF.out, HK.out.trans (HR2.out.trans ((((Kept.refl _).alloc _ _).trans G.g).trans hg))⟩
          | true =>
            have HN2 := Lib.hid (show ∀ j y, j < t + 1 → L[j]? = some y → EntOk L j y from fun j' y hj hy => by
              rcases Nat.lt_or_ge j' t with h | h
              · exact HA2.out j' y h hy
              · obtain rfl : j' = t := by omega
                obtain rfl := Option.some.inj (hy.symm.trans HX.out)
                exact ⟨fun i y2 hi hy2 => by have h9 := HKJ.out; have h10 : i = j := (by omega); rw [h10] at hy2; obtain rfl := Option.some.inj (hy2.symm.trans HY.out); exact HLT.out, HQ.out⟩)
            go_wp2_with fail
            refine region_kept (wr.alloc (.cells #[.int .i64 x.d.1, .int .i64 x.d.2, .string x.p, .int .i64 x.k, .int .i64 x.vk, .int .i64 x.vn, .string x.vt, .int .i64 x.e.1, .int .i64 x.e.2] 35)) (by kernel_rfl) (by kernel_rfl) (Kept.refl _) ?_
            repeat (go_big_quiet_step ((first | (go_at_call 25; (with_reducible exact KExt.callsK (AC.out _))) | fail)))
            refine wpQuiet_nil ?_
            intro G
            go_wp2_with (go_at_call 5; ((with_reducible refine (AR.out _).mono ?_); rintro e w6 ⟨rfl, hg⟩))
            go_roundw
            case rel => exact ⟨t + 1, hlt, by go_num, HR2.out.trans ((((Kept.refl _).alloc _ _).trans G.g).trans hg), HN2.out⟩
            case measure => simp [intOf]; omega
        · have f4 : decide (z < 0) = false := by simpa using h7
          have HF := Lib.hid (show false = r by
            rw [eq_comm, ← Bool.not_eq_true, HR.out]
            intro hh
            have h8 := riseE_get hh.rise HY.out HX.out (by have := HKJ.out; omega)
            rw [← cmpD_lt, HZZ.out] at h8
            exact h7 h8)
          clear h7
          go_wp2_with fail
          refine region_kept (wr.alloc (.cells #[.int .i64 x.d.1, .int .i64 x.d.2, .string x.p, .int .i64 x.k, .int .i64 x.vk, .int .i64 x.vn, .string x.vt, .int .i64 x.e.1, .int .i64 x.e.2] 35)) (by kernel_rfl) (by kernel_rfl) (Kept.refl _) ?_
          repeat (go_big_quiet_step ((first | (go_at_call 25; (with_reducible exact KExt.callsK (AC.out _))) | fail)))
          refine wpQuiet_nil ?_
          intro G
          go_wp2_with fail
          go_ret
          exact ⟨ret_bool HF.out, HK.out.trans (HR2.out.trans (((Kept.refl _).alloc _ _).trans G.g))⟩
    · have HALL := Lib.hid (show ∀ j x, L[j]? = some x → EntOk L j x from fun j x hx => HA2.out j x (by have := (List.getElem?_eq_some_iff.1 hx).1; have := HNL.out; omega) hx)
      go_wp2_with fail
      have b0 := KExt.cell HB.out.c0
      have b1 := KExt.cell HB.out.c1
      have b2 := KExt.cell HB.out.c2
      refine region_plan U 13 (.read [0, 1] (.one 2 (.read [3, 4, 5, 8, 9] (.one 6 (.one 7 (.one 10 (.read [11, 12] .stop))))))) (by kernel_rfl) (by kernel_rfl) (by kernel_rfl) (by kernel_rfl) (by kernel_rfl) (fun _ d _ _ _ h => by cases d <;> exact h) HR2.out ?_
      intro wd hwd
      have HKD := Lib.hid (HR2.out.trans hwd)
      clear hwd
      rw [wpPlan_read]
      simp only [pickOps_cons, pickOps_nil, consO_some, List.getElem?_cons_zero, List.getElem?_cons_succ]
      repeat (go_big_quiet_step (fail))
      refine wpQuiet_nil ?_
      rw [wpPlan_one]
      simp only [pickOps_cons, pickOps_nil, consO_some, List.getElem?_cons_zero, List.getElem?_cons_succ]
      go_wp2_with (go_at_call 26; refine (gright_any B m k V D p q C _ (HI.out.kept HKD.out) (HD.out.kept HKD.out) true ⟨fun _ => HC.out, fun _ => rfl⟩).mono ?_; rintro e w3 ⟨rfl, hk3⟩)
      have HK3 := Lib.hid (HKD.out.trans hk3)
      clear hk3
      refine soloP HK3.out ?_
      rw [wpPlan_read]
      simp only [pickOps_cons, pickOps_nil, consO_some, List.getElem?_cons_zero, List.getElem?_cons_succ]
      repeat (go_big_quiet_step (fail))
      refine wpQuiet_nil ?_
      rw [wpPlan_one]
      simp only [pickOps_cons, pickOps_nil, consO_some, List.getElem?_cons_zero, List.getElem?_cons_succ]
      go_wp2_with (go_at_call 29; refine (dots_any A n c L _ (HH.out.kept HK3.out) (by omega)).mono ?_; rintro e w4 ⟨G4, rfl, hd4, hk4⟩)
      have HK4 := Lib.hid (HK3.out.trans hk4)
      have HD4 := Lib.hid hd4
      clear hk4 hd4
      refine soloP HK4.out ?_
      rw [wpPlan_one]
      simp only [pickOps_cons, pickOps_nil, consO_some, List.getElem?_cons_zero, List.getElem?_cons_succ]
      go_wp2_with (go_at_call 28; refine (gof_any _ n n (L.map (·.d)) _ HD4.out (by omega)).mono ?_; rintro e w5 ⟨A5, n5, c5, B5, m5, k5, V5, C5, rfl, hi5, hd5, hs5, hm5, hk5, _, _⟩)
      have HK5 := Lib.hid (HK4.out.trans hk5)
      have HI5 := Lib.hid hi5; have HD5 := Lib.hid hd5
      have hm6 : m5 ≤ 100000 := by rw [List.length_map, ← HNL.out] at hm5; omega
      obtain ⟨r2, hr2⟩ : ∃ r2 : Bool, r2 = true ↔ ∀ d, hasC V5 C5 d → hasC V C d := ⟨decide (∀ d, hasC V5 C5 d → hasC V C d), by rw [decide_eq_true_iff]⟩
      have HF := Lib.hid (show r2 = r by rw [Bool.eq_iff_iff, hr2, HR.out, stOk_iff HC.out HALL.out hs5])
      have HR22 := Lib.hid hr2
      clear hi5 hd5 hs5 hm5 hk5 hr2
      refine soloP HK5.out ?_
      rw [wpPlan_one]
      simp only [pickOps_cons, pickOps_nil, consO_some, List.getElem?_cons_zero, List.getElem?_cons_succ]
      go_wp2_with (go_at_call 27; refine (gwithin_any A5 n5 c5 V5 B5 m5 k5 C5 B m k V D p q C _ HI5.out HD5.out (HI.out.kept HK5.out) (HD.out.kept HK5.out) HC.out (by omega) r2 HR22.out).mono ?_; rintro e w7 ⟨rfl, hk7⟩)
      have HK7 := Lib.hid (HK5.out.trans hk7)
      clear hk7
      refine soloP HK7.out ?_
      rw [wpPlan_read]
      simp only [pickOps_cons, pickOps_nil, consO_some, List.getElem?_cons_zero, List.getElem?_cons_succ]
      repeat (go_big_quiet_step (fail))
      refine wpQuiet_nil ?_
      refine wpPlan_stop ?_
      clear b0 b1 b2
      go_wp2_with fail
      go_ret
      exact ⟨ret_bool HF.out, HK.out.trans HK7.out⟩
end Go.Proofs.YtoggcpfogeoeaaaGreatDoor

namespace Go.Proofs.YtoggcpfogeoeaaaGreatDoor
open Go.RowKit
set_option linter.unusedVariables false

/-- What Take leaves. -/
def TakeS (s : ByteArray) (w : World) (e : Ending) (w' : World) : Prop :=
  ∃ A n c L B m k V D p q C r z, e = .returned (.tuple #[.agg #[.slice A n c, .slice B m k, .slice D p q], .string r, .int .i64 ((z : Nat) : Int)]) ∧ El w' A n c L ∧ Il w' B m k V ∧ Dl w' D p q C ∧ tsL s = (L, V, C, r, z) ∧ Kept w w'
section
variable {w : World} {b : Nat} {a0 a1 a2 : Option Addr} {n0 n1 n2 c0 c1 c2 : Nat}
theorem Box3.keep (h : Box3 w b (.slice a0 n0 c0) (.slice a1 n1 c1) (.slice a2 n2 c2)) (v0 v1 v2 : Value) {x : Addr} {u : Value} (hu : w.cell? x = some u) (hn : ∀ a n c, u ≠ .slice a n c) :
    (((w.setCell ⟨b, 0, none⟩ v0).setCell ⟨b, 1, none⟩ v1).setCell ⟨b, 2, none⟩ v2).cell? x = some u := by
  have e0 : x ≠ ⟨b, 0, none⟩ := fun e => by subst e; rw [h.c0] at hu; exact hn _ _ _ (Option.some.inj hu).symm
  have e1 : x ≠ ⟨b, 1, none⟩ := fun e => by subst e; rw [h.c1] at hu; exact hn _ _ _ (Option.some.inj hu).symm
  have e2 : x ≠ ⟨b, 2, none⟩ := fun e => by subst e; rw [h.c2] at hu; exact hn _ _ _ (Option.some.inj hu).symm
  rw [World.cell?_setCell_other _ _ _ _ (by first | exact e2 | exact e2.symm), World.cell?_setCell_other _ _ _ _ (by first | exact e1 | exact e1.symm), World.cell?_setCell_other _ _ _ _ (by first | exact e0 | exact e0.symm)]
  exact hu
theorem Box3.il (h : Box3 w b (.slice a0 n0 c0) (.slice a1 n1 c1) (.slice a2 n2 c2)) (v0 v1 v2 : Value) {A : Option Addr} {n c : Nat} {V : List Int} (hi : Il w A n c V) :
    Il (((w.setCell ⟨b, 0, none⟩ v0).setCell ⟨b, 1, none⟩ v1).setCell ⟨b, 2, none⟩ v2) A n c V :=
  ⟨hi.1, hi.2.1, hi.2.2.1, hi.2.2.2.1, hi.2.2.2.2.imp id fun ⟨g, o, hA, hc⟩ => ⟨g, o, hA, fun j x hj => h.keep _ _ _ (hc j x hj) (fun _ _ _ e => by cases e)⟩⟩
theorem Box3.dl (h : Box3 w b (.slice a0 n0 c0) (.slice a1 n1 c1) (.slice a2 n2 c2)) (v0 v1 v2 : Value) {A : Option Addr} {n c : Nat} {L : List (Int × Int)} (hi : Dl w A n c L) :
    Dl (((w.setCell ⟨b, 0, none⟩ v0).setCell ⟨b, 1, none⟩ v1).setCell ⟨b, 2, none⟩ v2) A n c L :=
  ⟨hi.1, hi.2.1, hi.2.2.1, hi.2.2.2.1, hi.2.2.2.2.imp id fun ⟨g, o, hA, hc⟩ => ⟨g, o, hA, fun j x hj => ⟨h.keep _ _ _ (hc j x hj).1 (fun _ _ _ e => by cases e), h.keep _ _ _ (hc j x hj).2 (fun _ _ _ e => by cases e)⟩⟩⟩
theorem cellE_not {x : En} {i : Nat} {u : Value} (h : (cellE x)[i]? = some u) (a : Option Addr) (n c : Nat) : u ≠ .slice a n c := by
  have hm := List.mem_of_getElem? h
  simp only [cellE, List.mem_cons, List.not_mem_nil, or_false] at hm
  rcases hm with rfl | rfl | rfl | rfl | rfl | rfl | rfl | rfl | rfl <;> exact fun e => by cases e
theorem Box3.el (h : Box3 w b (.slice a0 n0 c0) (.slice a1 n1 c1) (.slice a2 n2 c2)) (v0 v1 v2 : Value) {A : Option Addr} {n c : Nat} {L : List En} (hi : El w A n c L) :
    El (((w.setCell ⟨b, 0, none⟩ v0).setCell ⟨b, 1, none⟩ v1).setCell ⟨b, 2, none⟩ v2) A n c L :=
  ⟨hi.1, hi.2.1, hi.2.2.1, hi.2.2.2.1, hi.2.2.2.2.imp id fun ⟨g, o, hA, hc⟩ => ⟨g, o, hA, fun j x hj => EntO.of_flat fun i u hu => h.keep _ _ _ ((hc j x hj).flat i u hu) (cellE_not hu)⟩⟩
end
theorem TakeS.err {s : ByteArray} {w w5 : World} {b z : Nat} (hs : tsL s = ([], [], [], ⟨#[]⟩, z)) (hk : Kept w w5) (hb : w.heap.size ≤ b) :
    TakeS s w (.returned (.tuple #[.agg #[.slice none 0 0, .slice none 0 0, .slice none 0 0], .string ⟨#[]⟩, .int .i64 (z : Int)])) (((w5.setCell ⟨b, 0, none⟩ (.slice none 0 0)).setCell ⟨b, 1, none⟩ (.slice none 0 0)).setCell ⟨b, 2, none⟩ (.slice none 0 0)) :=
  ⟨none, 0, 0, [], none, 0, 0, [], none, 0, 0, [], ⟨#[]⟩, z, rfl, El.nil _, Il.nil _, Dl.nil _, hs, ((hk.setCell hb _).setCell hb _).setCell hb _⟩

theorem TakeS.kept {s : ByteArray} {w w' w2 : World} {e : Ending} (h : TakeS s w e w') (hk : Kept w' w2) : TakeS s w e w2 := by
  obtain ⟨A, n, c, L, B, m, k, V, D, p, q, C, r, z, h1, h2, h3, h4, h5, h6⟩ := h
  exact ⟨A, n, c, L, B, m, k, V, D, p, q, C, r, z, h1, h2.kept hk, h3.kept hk, h4.kept hk, h5, h6.trans hk⟩

open Classical in
set_option maxRecDepth 100000 in
set_option maxHeartbeats 8000000 in
theorem stake_any (s : ByteArray) (w : World) (hs : s.size ≤ 50000) :
    Calls Tryz.prog 13 #[.string s] w (TakeS s w) := by
  have hk := (Kept.refl w).alloc #[.slice none 0 0, .slice none 0 0, .slice none 0 0] 29
  have HB := Lib.hid (Box3.new w (.slice none 0 0) (.slice none 0 0) (.slice none 0 0) 29)
  have HK := Lib.hid hk
  have AV := Lib.hid (fun w => gtake_any s w (by omega))
  have HTS := Lib.hid (show tsL s = _ from tsL.eq_1 s)
  clear hk
  go_enter Tryz.func13, Tryz.ntmps13
  go_wp2_with fail
  go_at_call 35
  refine (AV.out _).mono ?_
  rintro e w1 ⟨B, m, k, D, p, q, V, C, r, z, rfl, hi, hd, htc, hk1⟩
  have HTC := Lib.hid htc
  have hp := HTS.out
  rw [htc] at hp
  simp only at hp
  have HP1 := Lib.hid hp
  have HI1 := Lib.hid (hi.kept ((Kept.refl w1).alloc #[.slice B m k, .slice D p q] 27))
  have HD1 := Lib.hid (hd.kept ((Kept.refl w1).alloc #[.slice B m k, .slice D p q] 27))
  have HX1 := Lib.hid (Box2.new w1 (.slice B m k) (.slice D p q) 27)
  have HB1 := Lib.hid (HB.out.kept (hk1.trans ((Kept.refl w1).alloc #[.slice B m k, .slice D p q] 27)))
  have HK1 := Lib.hid ((HK.out.trans hk1).trans ((Kept.refl w1).alloc #[.slice B m k, .slice D p q] 27))
  have HB01 := Lib.hid (HB.out.kept hk1)
  have HK01 := Lib.hid (HK.out.trans hk1)
  have hlt1 : w.heap.size < w1.heap.size := by have := hk1.2.2; simp at this; omega
  clear htc hp hi hd hk1
  by_cases hz : z = 0
  · have d1 : ((z : Int) != 0) = false := by simp [hz]
    have hta := tc_aft (s := s) (r := r) (V := V) (C := C) (by rw [HTC.out, hz])
    have hrsz : r.size ≤ s.size := by have := congrArg ByteArray.size hta.1; rw [ByteArray.size_append] at this; omega
    have HRC := Lib.hid hta.2
    have AE := Lib.hid (fun w => takeEs_any r w (by omega))
    have HP2 := Lib.hid (show tsL s = if (tesL r).2.2 ≠ 0 then ([], [], [], ⟨#[]⟩, (tesL r).2.2) else formS (tesL r).1 V C (tesL r).2.1 by rw [HP1.out, if_neg (by simp [hz])])
    clear hz hta
    go_wp2_with fail
    go_at_call 36
    refine (AE.out _).mono ?_
    rintro e w2 ⟨v, L, r2, z2, rfl, ho, hte, hr2, hsm, hll⟩
    obtain ⟨A4, c4, rfl, hel, hfr, h41, h42⟩ := ho.form
    have HO := Lib.hid ho
    have hp := HP2.out
    rw [hte] at hp
    simp only at hp
    have HP3 := Lib.hid hp
    have HB2 := Lib.hid (HB1.out.kept ho.ke)
    have HK2 := Lib.hid (HK1.out.trans ho.ke)
    have HX2 := Lib.hid (HX1.out.kept ho.ke)
    have HI2 := Lib.hid (HI1.out.kept ho.ke); have HD2 := Lib.hid (HD1.out.kept ho.ke)
    have HE2 := Lib.hid hel
    have HSM := Lib.hid hsm
    have e0 := HX2.out.c0; have e1 := HX2.out.c1
    have hpp := HD2.out.1
    clear hte hp ho hel hfr hsm
    by_cases hz2 : z2 = 0
    · have d2 : ((z2 : Int) != 0) = false := by simp [hz2]
      have HP4 := Lib.hid (show tsL s = formS L V C r2 by rw [HP3.out, if_neg (by simp [hz2])])
      obtain ⟨ok, hok⟩ : ∃ ok : Bool, ok = true ↔ StOk L V C := ⟨decide (StOk L V C), by rw [decide_eq_true_iff]⟩
      have hkb := (Kept.refl w2).alloc #[.slice A4 L.length c4, .slice B m k, .slice D p q] 29
      have hcl : (putC ⟨#[]⟩ V C).size ≤ s.size := by
        have := congrArg ByteArray.size (tc_aft (s := s) (r := r) (V := V) (C := C) (by rw [HTC.out]; simp only [Prod.mk.injEq, true_and]; simpa using d1)).1
        rw [ByteArray.size_append] at this; omega
      have hcl2 : C.length ≤ (putC ⟨#[]⟩ V C).size := by
        have := encCl_long C
        rw [putC_enc, ByteArray.size_append, ByteArray.size_append, ByteArray.size_append]; omega
      have AR := Lib.hid (sright_any A4 L.length c4 L B m k V D p q C _ (HE2.out.kept hkb) (HI2.out.kept hkb) (HD2.out.kept hkb) HRC.out (by omega) (by omega) (fun x hx => by have := HSM.out x hx; omega) ok hok)
      have HKB := Lib.hid hkb
      have HBX := Lib.hid (Box3.new w2 (.slice A4 L.length c4) (.slice B m k) (.slice D p q) 29)
      have HOK := Lib.hid hok
      clear hkb hok hz2 hcl hcl2 hpp
      go_wp2_with fail
      go_at_call 8
      refine AR.out.mono ?_
      rintro e w5 ⟨rfl, hk5⟩
      have hk6 := HKB.out.trans hk5
      have hx5 := HB2.out.kept hk6
      have b5 := HBX.out.kept hk5
      have f0 := hx5.c0; have f1 := hx5.c1; have f2 := hx5.c2; have ef0 := hx5.f 0; have ef1 := hx5.f 1; have ef2 := hx5.f 2
      have u0 := b5.c0; have u1 := b5.c1; have u2 := b5.c2
      have HB5 := Lib.hid hx5
      have HE5 := Lib.hid (HE2.out.kept hk6); have HI5 := Lib.hid (HI2.out.kept hk6); have HD5 := Lib.hid (HD2.out.kept hk6)
      have HK5 := Lib.hid (HK2.out.trans hk6)
      clear hx5 b5 hk5 hk6 e0 e1
      cases ok with
      | true =>
        have HEND := Lib.hid (show TakeS s w (.returned (.tuple #[.agg #[.slice A4 L.length c4, .slice B m k, .slice D p q], .string r2, .int .i64 0])) (((w5.setCell ⟨w.heap.size, 0, none⟩ (.slice A4 L.length c4)).setCell ⟨w.heap.size, 1, none⟩ (.slice B m k)).setCell ⟨w.heap.size, 2, none⟩ (.slice D p q)) from
          ⟨A4, L.length, c4, L, B, m, k, V, D, p, q, C, r2, 0, rfl, HB5.out.el _ _ _ HE5.out, HB5.out.il _ _ _ HI5.out, HB5.out.dl _ _ _ HD5.out, by rw [HP4.out]; exact formS_ok r2 (HOK.out.1 rfl), ((HK5.out.setCell (Nat.le_refl _) _).setCell (Nat.le_refl _) _).setCell (Nat.le_refl _) _⟩)
        go_wp2_with fail
        exact bodyPost_ret (by simp [results, Tryz.results13, go_sem, *]) rfl HEND.out
      | false =>
        have HEND := Lib.hid (TakeS.err (s := s) (b := w.heap.size) (by rw [HP4.out]; exact formS_no r2 (fun h => by have := HOK.out.2 h; cases this)) HK5.out (Nat.le_refl _))
        clear u0 u1 u2
        go_wp2_with fail
        exact bodyPost_ret (by simp [results, Tryz.results13, go_sem, *]) rfl HEND.out
    · have d2 : ((z2 : Int) != 0) = true := by simp [hz2]
      have HEND := Lib.hid (TakeS.err (s := s) (b := w.heap.size) (by rw [HP3.out, if_pos hz2]) HK2.out (Nat.le_refl _))
      have f0 := HB2.out.c0; have f1 := HB2.out.c1; have f2 := HB2.out.c2; have ef0 := HB2.out.f 0; have ef1 := HB2.out.f 1; have ef2 := HB2.out.f 2
      clear hz2 e0 e1
      go_wp2_with fail
      exact bodyPost_ret (by simp [results, Tryz.results13, go_sem, *]) rfl HEND.out
  · have d1 : ((z : Int) != 0) = true := by simp [hz]
    have HEND := Lib.hid ((TakeS.err (s := s) (b := w.heap.size) (by rw [HP1.out, if_pos hz]) HK01.out (Nat.le_refl _)).kept ((Kept.refl _).alloc #[.slice B m k, .slice D p q] 27))
    have f0 := HB01.out.c0; have f1 := HB01.out.c1; have f2 := HB01.out.c2; have ef0 := HB01.out.f 0; have ef1 := HB01.out.f 1; have ef2 := HB01.out.f 2
    clear hz
    go_wp2_with fail
    exact bodyPost_ret (by simp [results, Tryz.results13, go_sem, *]) rfl HEND.out
end Go.Proofs.YtoggcpfogeoeaaaGreatDoor

