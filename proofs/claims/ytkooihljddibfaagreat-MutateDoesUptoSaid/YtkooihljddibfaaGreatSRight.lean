/-
  What is proved: Right of package store (P8.1), called with any state whose set is right and whose texts are no longer than 2^40 bytes, returns whether it is right; the world has new blocks at most.
-/
import Derived.Test.YtkooihljddibfaaGreatM26
import Derived.Test.YtkooihljddibfaaGreatM23
import Derived.Test.YtkooihljddibfaaGreatM27
import Derived.IntWalk
namespace Go.Proofs.YtkooihljddibfaaGreat
open Go.RowKit
set_option linter.unusedVariables false

/-- What is asked of the t-th entry. -/
def EntOk (L : List En) (t : Nat) (x : En) : Prop := (∀ i y, t = i + 1 → L[i]? = some y → LtD y.d x.d) ∧ rightE x = true
theorem riseE_of {L : List En} (h : ∀ t x, L[t]? = some x → EntOk L t x) : RiseE L := List.pairwise_iff_getElem.2 fun i j hi hj hij => by
  obtain ⟨k, rfl⟩ : ∃ k, j = i + k + 1 := ⟨j - i - 1, by omega⟩
  clear hij
  induction k with
  | zero => exact (h (i + 1) _ (List.getElem?_eq_getElem hj)).1 i _ rfl (List.getElem?_eq_getElem hi)
  | succ k ih => exact (ih (by omega)).trans ((h (i + (k + 1) + 1) _ (List.getElem?_eq_getElem hj)).1 (i + k + 1) _ rfl (List.getElem?_eq_getElem (by omega)))
theorem stOk_iff {L : List En} {V : List Int} {C : List (Int × Int)} (hc : RightC V C) (h : ∀ t x, L[t]? = some x → EntOk L t x) {V6 : List Int} {C6 : List (Int × Int)} (hs : SetC (CompS [] (L.map (·.d))) V6 C6) :
    StOk L V C ↔ ∀ d, hasC V6 C6 d → hasC V C d := by
  have hall : ∀ x ∈ L, rightE x = true := fun x hx => by
    obtain ⟨t, ht⟩ := List.getElem?_of_mem hx
    exact (h t x ht).2
  constructor
  · intro k d hd
    have := (of_has _ d).1 ((hs.has d).1 hd)
    obtain ⟨x, hx, rfl⟩ := List.mem_map.1 this.2
    exact k.known x hx
  · intro k
    exact ⟨riseE_of h, hall, hc, fun x hx => k _ ((hs.has _).2 ((of_has _ _).2 ⟨rightE_dot (hall x hx), List.mem_map.2 ⟨x, hx, rfl⟩⟩))⟩

open Classical in
set_option maxRecDepth 100000 in
set_option maxHeartbeats 16000000 in
theorem sright_any (A : Option Addr) (n c : Nat) (L : List En) (B : Option Addr) (m k : Nat) (V : List Int) (D : Option Addr) (p q : Nat) (C : List (Int × Int)) (w : World)
    (h : El w A n c L) (hi : Il w B m k V) (hd : Dl w D p q C) (hc : RightC V C) (hn : n ≤ 100000) (hp : p ≤ 100000) (hsz : ∀ x ∈ L, x.p.size ≤ 1099511627776 ∧ x.vt.size ≤ 1099511627776) (r : Bool) (hr : r = true ↔ StOk L V C) :
    Calls Tryz.prog 19 #[.agg #[.slice A n c, .slice B m k, .slice D p q]] w fun e w' => e = .returned (.bool r) ∧ Kept w w' := by
  have hk := (Kept.refl w).alloc #[.slice A n c, .slice B m k, .slice D p q] 28
  have hcap := h.cap.1; have hcap2 := h.cap.2
  have HNL := Lib.hid h.1
  have HC := Lib.hid hc
  have HSZ := Lib.hid hsz
  have HR := Lib.hid hr
  have HK := Lib.hid hk
  have HB := Lib.hid (Box3.new w (.slice A n c) (.slice B m k) (.slice D p q) 28)
  have HH := Lib.hid (h.kept hk); have HI := Lib.hid (hi.kept hk); have HD := Lib.hid (hd.kept hk)
  obtain ⟨U, hU⟩ : ∃ U, w.alloc (.cells #[.slice A n c, .slice B m k, .slice D p q] 28) = U := ⟨_, rfl⟩
  rw [hU] at HK HB HH HI HD
  have HUU := Lib.hid hU
  clear h hi hd hc hsz hr hk hU
  go_enter Tryz.func19, Tryz.ntmps19
  go_wp2_with fail
  go_loopw [9] (fun i wr => ∃ t : Nat, t ≤ n ∧ i = .int .i64 t ∧ Kept U wr ∧ ∀ j x, j < t → L[j]? = some x → EntOk L j x) (fun i _ => n - (intOf i).toNat)
  case atStart => exact ⟨0, Nat.zero_le _, rfl, by rw [HUU.out]; exact Kept.refl _, fun j x hj => absurd hj (by omega)⟩
  case round =>
    obtain ⟨t, ht, rfl, hkr, hall⟩ := hrel
    have HR2 := Lib.hid hkr
    have HA2 := Lib.hid hall
    clear hkr hall
    by_cases hlt : t < n
    · obtain ⟨g, o, x, hA, hx, EX⟩ := (HH.out.kept HR2.out).get hlt
      have HX := Lib.hid hx
      have x0 := EX.c0; have x1 := EX.c1; have x2 := EX.c2; have x3 := EX.c3; have x4 := EX.c4; have x5 := EX.c5; have x6 := EX.c6; have x7 := EX.c7; have x8 := EX.c8
      have HXE := Lib.hid (Ent.new wr x 34)
      have d0 := KExt.cell HXE.out.c0; have d1 := KExt.cell HXE.out.c1; have d2 := KExt.cell HXE.out.c2; have d3 := KExt.cell HXE.out.c3; have d4 := KExt.cell HXE.out.c4; have d5 := KExt.cell HXE.out.c5; have d6 := KExt.cell HXE.out.c6; have d7 := KExt.cell HXE.out.c7; have d8 := KExt.cell HXE.out.c8
      have e0 := KExt.cell ((HB.out.kept (HR2.out.alloc #[.int .i64 x.d.1, .int .i64 x.d.2, .string x.p, .int .i64 x.k, .int .i64 x.vk, .int .i64 x.vn, .string x.vt, .int .i64 x.e.1, .int .i64 x.e.2] 34)).c0)
      clear EX hx
      rcases Nat.eq_zero_or_pos t with h6 | h6
      · have f2 : ((t : Int) == 0) = true := by rw [beq_iff_eq]; omega
        have f3 : (t == 0) = true := by rw [beq_iff_eq]; exact h6
        have HT0 := Lib.hid h6
        subst hA
        clear h6
        obtain ⟨qq, hq⟩ : ∃ qq, rightE x = qq := ⟨_, rfl⟩
        have AR := Lib.hid (fun w => eright_c x qq hq w (HSZ.out x (List.mem_of_getElem? HX.out)).1 (HSZ.out x (List.mem_of_getElem? HX.out)).2)
        have HQ := Lib.hid hq
        clear hq
        cases qq with
        | false =>
          have HF := Lib.hid (show false = r by rw [eq_comm, ← Bool.not_eq_true, HR.out]; intro hh; have := hh.ent x (List.mem_of_getElem? HX.out); rw [HQ.out] at this; cases this)
          go_wp2_with fail
          refine region_kept (wr.alloc (.cells #[.int .i64 x.d.1, .int .i64 x.d.2, .string x.p, .int .i64 x.k, .int .i64 x.vk, .int .i64 x.vn, .string x.vt, .int .i64 x.e.1, .int .i64 x.e.2] 34)) (by kernel_rfl) (by kernel_rfl) (Kept.refl _) ?_
          repeat (go_big_quiet_step (fail))
          refine wpQuiet_nil ?_
          intro G
          go_wp2_with (go_at_call 17; ((with_reducible refine (AR.out _).mono ?_); rintro e w6 ⟨rfl, hg⟩))
          go_ret
          exact ⟨ret_bool HF.out, HK.out.trans (HR2.out.trans ((((Kept.refl _).alloc _ _).trans G.g).trans hg))⟩
        | true =>
          have HN2 := Lib.hid (show ∀ j y, j < t + 1 → L[j]? = some y → EntOk L j y from fun j' y hj hy => by
            rcases Nat.lt_or_ge j' t with h | h
            · exact HA2.out j' y h hy
            · obtain rfl : j' = t := by omega
              obtain rfl := Option.some.inj (hy.symm.trans HX.out)
              exact ⟨fun i y hi => by have := HT0.out; omega, HQ.out⟩)
          go_wp2_with fail
          refine region_kept (wr.alloc (.cells #[.int .i64 x.d.1, .int .i64 x.d.2, .string x.p, .int .i64 x.k, .int .i64 x.vk, .int .i64 x.vn, .string x.vt, .int .i64 x.e.1, .int .i64 x.e.2] 34)) (by kernel_rfl) (by kernel_rfl) (Kept.refl _) ?_
          repeat (go_big_quiet_step (fail))
          refine wpQuiet_nil ?_
          intro G
          go_wp2_with (go_at_call 17; ((with_reducible refine (AR.out _).mono ?_); rintro e w6 ⟨rfl, hg⟩))
          go_roundw
          case rel => exact ⟨t + 1, hlt, by go_num, HR2.out.trans ((((Kept.refl _).alloc _ _).trans G.g).trans hg), HN2.out⟩
          case measure => simp [intOf]; omega
      · have f2 : ((t : Int) == 0) = false := by rw [beq_eq_false_iff_ne]; omega
        have f3 : (t == 0) = false := by rw [beq_eq_false_iff_ne]; omega
        obtain ⟨j, hkj⟩ : ∃ j, t = j + 1 := ⟨t - 1, by omega⟩
        have hsub2 : IntKind.i64.wrap ((t : Int) - 1) = (j : Int) := by rw [IntWalk.i64_in _ (by omega)]; omega
        have hjm : j < n := by omega
        obtain ⟨g', o', y, hA', hy, EY⟩ := (HH.out.kept (HR2.out.alloc #[.int .i64 x.d.1, .int .i64 x.d.2, .string x.p, .int .i64 x.k, .int .i64 x.vk, .int .i64 x.vn, .string x.vt, .int .i64 x.e.1, .int .i64 x.e.2] 34)).get hjm
        obtain ⟨rfl, rfl⟩ : g = g' ∧ o = o' := by simpa using hA.symm.trans hA'
        have y0 := KExt.cell EY.c0; have y1 := KExt.cell EY.c1; have y2 := KExt.cell EY.c2; have y3 := KExt.cell EY.c3; have y4 := KExt.cell EY.c4; have y5 := KExt.cell EY.c5; have y6 := KExt.cell EY.c6; have y7 := KExt.cell EY.c7; have y8 := KExt.cell EY.c8
        have HY := Lib.hid hy
        have HKJ := Lib.hid hkj
        obtain ⟨z, hzz⟩ : ∃ z, cmpD y.d x.d = z := ⟨_, rfl⟩
        have AC := Lib.hid (fun w => ecmp_c y x z hzz w)
        have HZZ := Lib.hid hzz
        subst hA
        clear hy EY hA' hkj hzz h6
        by_cases h7 : z < 0
        · have f4 : decide (z < 0) = true := by simpa using h7
          have HLT := Lib.hid (show LtD y.d x.d from (cmpD_lt _ _).1 (by rw [HZZ.out]; exact h7))
          clear h7
          obtain ⟨qq, hq⟩ : ∃ qq, rightE x = qq := ⟨_, rfl⟩
          have AR := Lib.hid (fun w => eright_c x qq hq w (HSZ.out x (List.mem_of_getElem? HX.out)).1 (HSZ.out x (List.mem_of_getElem? HX.out)).2)
          have HQ := Lib.hid hq
          clear hq
          cases qq with
          | false =>
            have HF := Lib.hid (show false = r by rw [eq_comm, ← Bool.not_eq_true, HR.out]; intro hh; have := hh.ent x (List.mem_of_getElem? HX.out); rw [HQ.out] at this; cases this)
            go_wp2_with fail
            refine region_kept (wr.alloc (.cells #[.int .i64 x.d.1, .int .i64 x.d.2, .string x.p, .int .i64 x.k, .int .i64 x.vk, .int .i64 x.vn, .string x.vt, .int .i64 x.e.1, .int .i64 x.e.2] 34)) (by kernel_rfl) (by kernel_rfl) (Kept.refl _) ?_
            repeat (go_big_quiet_step ((first | (go_at_call 43; (with_reducible exact KExt.callsK (AC.out _))) | fail)))
            refine wpQuiet_nil ?_
            intro G
            go_wp2_with (go_at_call 17; ((with_reducible refine (AR.out _).mono ?_); rintro e w6 ⟨rfl, hg⟩))
            go_ret
            exact ⟨ret_bool HF.out, HK.out.trans (HR2.out.trans ((((Kept.refl _).alloc _ _).trans G.g).trans hg))⟩
          | true =>
            have HN2 := Lib.hid (show ∀ j y, j < t + 1 → L[j]? = some y → EntOk L j y from fun j' y hj hy => by
              rcases Nat.lt_or_ge j' t with h | h
              · exact HA2.out j' y h hy
              · obtain rfl : j' = t := by omega
                obtain rfl := Option.some.inj (hy.symm.trans HX.out)
                exact ⟨fun i y2 hi hy2 => by have h9 := HKJ.out; have h10 : i = j := (by omega); rw [h10] at hy2; obtain rfl := Option.some.inj (hy2.symm.trans HY.out); exact HLT.out, HQ.out⟩)
            go_wp2_with fail
            refine region_kept (wr.alloc (.cells #[.int .i64 x.d.1, .int .i64 x.d.2, .string x.p, .int .i64 x.k, .int .i64 x.vk, .int .i64 x.vn, .string x.vt, .int .i64 x.e.1, .int .i64 x.e.2] 34)) (by kernel_rfl) (by kernel_rfl) (Kept.refl _) ?_
            repeat (go_big_quiet_step ((first | (go_at_call 43; (with_reducible exact KExt.callsK (AC.out _))) | fail)))
            refine wpQuiet_nil ?_
            intro G
            go_wp2_with (go_at_call 17; ((with_reducible refine (AR.out _).mono ?_); rintro e w6 ⟨rfl, hg⟩))
            go_roundw
            case rel => exact ⟨t + 1, hlt, by go_num, HR2.out.trans ((((Kept.refl _).alloc _ _).trans G.g).trans hg), HN2.out⟩
            case measure => simp [intOf]; omega
        · have f4 : decide (z < 0) = false := by simpa using h7
          have HF := Lib.hid (show false = r by
            rw [eq_comm, ← Bool.not_eq_true, HR.out]
            intro hh
            have h8 := riseE_get hh.rise HY.out HX.out (by have := HKJ.out; omega)
            rw [← cmpD_lt, HZZ.out] at h8
            exact h7 h8)
          clear h7
          go_wp2_with fail
          refine region_kept (wr.alloc (.cells #[.int .i64 x.d.1, .int .i64 x.d.2, .string x.p, .int .i64 x.k, .int .i64 x.vk, .int .i64 x.vn, .string x.vt, .int .i64 x.e.1, .int .i64 x.e.2] 34)) (by kernel_rfl) (by kernel_rfl) (Kept.refl _) ?_
          repeat (go_big_quiet_step ((first | (go_at_call 43; (with_reducible exact KExt.callsK (AC.out _))) | fail)))
          refine wpQuiet_nil ?_
          intro G
          go_wp2_with fail
          go_ret
          exact ⟨ret_bool HF.out, HK.out.trans (HR2.out.trans (((Kept.refl _).alloc _ _).trans G.g))⟩
    · have HALL := Lib.hid (show ∀ j x, L[j]? = some x → EntOk L j x from fun j x hx => HA2.out j x (by have := (List.getElem?_eq_some_iff.1 hx).1; have := HNL.out; omega) hx)
      go_wp2_with fail
      have b0 := KExt.cell HB.out.c0
      have b1 := KExt.cell HB.out.c1
      have b2 := KExt.cell HB.out.c2
      refine region_plan U 13 (.read [0, 1] (.one 2 (.read [3, 4, 5, 8, 9] (.one 6 (.one 7 (.one 10 (.read [11, 12] .stop))))))) (by kernel_rfl) (by kernel_rfl) (by kernel_rfl) (by kernel_rfl) (by kernel_rfl) (fun _ d _ _ _ h => by cases d <;> exact h) HR2.out ?_
      intro wd hwd
      have HKD := Lib.hid (HR2.out.trans hwd)
      clear hwd
      rw [wpPlan_read]
      simp only [pickOps_cons, pickOps_nil, consO_some, List.getElem?_cons_zero, List.getElem?_cons_succ]
      repeat (go_big_quiet_step (fail))
      refine wpQuiet_nil ?_
      rw [wpPlan_one]
      simp only [pickOps_cons, pickOps_nil, consO_some, List.getElem?_cons_zero, List.getElem?_cons_succ]
      go_wp2_with (go_at_call 44; refine (gright_any B m k V D p q C _ (HI.out.kept HKD.out) (HD.out.kept HKD.out) true ⟨fun _ => HC.out, fun _ => rfl⟩).mono ?_; rintro e w3 ⟨rfl, hk3⟩)
      have HK3 := Lib.hid (HKD.out.trans hk3)
      clear hk3
      refine soloP HK3.out ?_
      rw [wpPlan_read]
      simp only [pickOps_cons, pickOps_nil, consO_some, List.getElem?_cons_zero, List.getElem?_cons_succ]
      repeat (go_big_quiet_step (fail))
      refine wpQuiet_nil ?_
      rw [wpPlan_one]
      simp only [pickOps_cons, pickOps_nil, consO_some, List.getElem?_cons_zero, List.getElem?_cons_succ]
      go_wp2_with (go_at_call 47; refine (dots_any A n c L _ (HH.out.kept HK3.out) (by omega)).mono ?_; rintro e w4 ⟨G4, rfl, hd4, hk4⟩)
      have HK4 := Lib.hid (HK3.out.trans hk4)
      have HD4 := Lib.hid hd4
      clear hk4 hd4
      refine soloP HK4.out ?_
      rw [wpPlan_one]
      simp only [pickOps_cons, pickOps_nil, consO_some, List.getElem?_cons_zero, List.getElem?_cons_succ]
      go_wp2_with (go_at_call 46; refine (gof_any _ n n (L.map (·.d)) _ HD4.out (by omega)).mono ?_; rintro e w5 ⟨A5, n5, c5, B5, m5, k5, V5, C5, rfl, hi5, hd5, hs5, hm5, hk5, _, _⟩)
      have HK5 := Lib.hid (HK4.out.trans hk5)
      have HI5 := Lib.hid hi5; have HD5 := Lib.hid hd5
      have hm6 : m5 ≤ 100000 := by rw [List.length_map, ← HNL.out] at hm5; omega
      obtain ⟨r2, hr2⟩ : ∃ r2 : Bool, r2 = true ↔ ∀ d, hasC V5 C5 d → hasC V C d := ⟨decide (∀ d, hasC V5 C5 d → hasC V C d), by rw [decide_eq_true_iff]⟩
      have HF := Lib.hid (show r2 = r by rw [Bool.eq_iff_iff, hr2, HR.out, stOk_iff HC.out HALL.out hs5])
      have HR22 := Lib.hid hr2
      clear hi5 hd5 hs5 hm5 hk5 hr2
      refine soloP HK5.out ?_
      rw [wpPlan_one]
      simp only [pickOps_cons, pickOps_nil, consO_some, List.getElem?_cons_zero, List.getElem?_cons_succ]
      go_wp2_with (go_at_call 45; refine (gwithin_any A5 n5 c5 V5 B5 m5 k5 C5 B m k V D p q C _ HI5.out HD5.out (HI.out.kept HK5.out) (HD.out.kept HK5.out) HC.out (by omega) r2 HR22.out).mono ?_; rintro e w7 ⟨rfl, hk7⟩)
      have HK7 := Lib.hid (HK5.out.trans hk7)
      clear hk7
      refine soloP HK7.out ?_
      rw [wpPlan_read]
      simp only [pickOps_cons, pickOps_nil, consO_some, List.getElem?_cons_zero, List.getElem?_cons_succ]
      repeat (go_big_quiet_step (fail))
      refine wpQuiet_nil ?_
      refine wpPlan_stop ?_
      clear b0 b1 b2
      go_wp2_with fail
      go_ret
      exact ⟨ret_bool HF.out, HK.out.trans HK7.out⟩
end Go.Proofs.YtkooihljddibfaaGreat
