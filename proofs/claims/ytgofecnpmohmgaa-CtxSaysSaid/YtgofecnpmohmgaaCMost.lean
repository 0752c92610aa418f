/-
  What is proved: the document's Most and Same of layer 6, called with any sets that lie in memory, return what P6.8 and P6.10 say; the world has new blocks at most.
-/
import Derived.Test.YtgofecnpmohmgaaCAt
namespace Go.Proofs.Ytgofecnpmohmgaa
open Go.RowKit

/-- P6.8. -/
def mostC (V : List Int) (C : List (Int × Int)) (r : Int) : Int := C.foldl (fun n d => if d.1 = r then max n d.2 else n) (atV V r)
theorem mostC_step (V : List Int) (C : List (Int × Int)) (r : Int) (k : Nat) (d : Int × Int) (h : C[k]? = some d) : mostC V (C.take (k + 1)) r = if d.1 = r then max (mostC V (C.take k) r) d.2 else mostC V (C.take k) r := by
  unfold mostC
  rw [List.take_add_one, h, Option.toList_some, List.foldl_append]
  rfl

set_option maxRecDepth 100000 in
set_option maxHeartbeats 1000000 in
theorem rmost_any (A : Option Addr) (n c : Nat) (V : List Int) (B : Option Addr) (m k : Nat) (C : List (Int × Int)) (r : Int) (w : World) (h : Il w A n c V) (hd : Dl w B m k C) :
    Calls Try.prog 21 #[.agg #[.slice A n c, .slice B m k], .int .i64 r] w fun e w' => e = .returned (.int .i64 (mostC V C r)) ∧ Kept w w' := by
  have hK := (Kept.refl w).alloc #[.slice A n c, .slice B m k] 25
  have hcap := hd.cap.1
  have hcap2 := hd.cap.2
  have HM := Lib.hid hd.1
  have AA := Lib.hid (at_any A n c V B m k r _ (h.kept hK))
  have HD := Lib.hid hd
  have HK := Lib.hid hK
  clear h hd hK
  go_enter Try.func21, Try.ntmps21
  go_wp2_with fail
  go_at_call 41
  refine AA.out.mono ?_
  rintro e w1 ⟨rfl, hk1⟩
  have e0 := hk1.box0
  have e1 := hk1.box1
  have HW := Lib.hid (HK.out.trans hk1)
  clear hk1
  go_wp2_with fail
  go_loopw [5, 14] (fun x i wr => ∃ j : Nat, j ≤ m ∧ i = .int .i64 j ∧ x = .int .i64 (mostC V (C.take j) r) ∧ Kept w1 wr) (fun _ i _ => m - (intOf i).toNat)
  case atStart => exact ⟨0, Nat.zero_le _, rfl, rfl, Kept.refl _⟩
  case round =>
    obtain ⟨j, hj, rfl, rfl, hkr⟩ := hrel
    have HR := Lib.hid hkr
    clear hkr
    by_cases hlt : j < m
    · obtain ⟨g, o, ⟨y1, y2⟩, rfl, hy, g1, g2⟩ := (HD.out.kept (HW.out.trans HR.out)).get hlt
      simp only at g1 g2
      have HS := Lib.hid (mostC_step V C r j (y1, y2) hy)
      generalize mostC V (C.take j) r = x at HS
      clear hy e0 e1
      by_cases hr : y1 = r
      · have d1 : (y1 == r) = true := by simpa using hr
        have HE := Lib.hid (show mostC V (C.take (j + 1)) r = max x y2 by rw [HS.out, if_pos hr])
        clear hr
        go_wp2_with fail
        go_roundw
        case rel => exact ⟨j + 1, hlt, by go_num, by rw [HE.out], HR.out.alloc _ _⟩
        case measure => simp [intOf]; omega
      · have d1 : (y1 == r) = false := by simpa using hr
        have HE := Lib.hid (show mostC V (C.take (j + 1)) r = x by rw [HS.out, if_neg hr])
        clear hr
        go_wp2_with fail
        go_roundw
        case rel => exact ⟨j + 1, hlt, by go_num, by rw [HE.out], HR.out.alloc _ _⟩
        case measure => simp [intOf]; omega
    · obtain rfl : j = m := by omega
      clear e0 e1
      go_wp2_with fail
      go_ret
      exact ⟨ret_int (by rw [List.take_of_length_le (by rw [← HM.out]; exact Nat.le_refl _)]), HW.out.trans HR.out⟩

set_option maxRecDepth 100000 in
set_option maxHeartbeats 2000000 in
theorem rsameC_any (A : Option Addr) (n c : Nat) (V : List Int) (B : Option Addr) (m k : Nat) (C : List (Int × Int)) (A' : Option Addr) (n' c' : Nat) (V' : List Int) (B' : Option Addr) (m' k' : Nat) (C' : List (Int × Int)) (w : World)
    (h : Il w A n c V) (hd : Dl w B m k C) (h' : Il w A' n' c' V') (hd' : Dl w B' m' k' C') (r : Bool) (hr : decide (V = V' ∧ C = C') = r) :
    Calls Try.prog 10 #[.agg #[.slice A n c, .slice B m k], .agg #[.slice A' n' c', .slice B' m' k']] w fun e w' => e = .returned (.bool r) ∧ Kept w w' := by
  have hcap := h.cap.1; have hcap2 := h.cap.2; have hdap := hd.cap.1; have hdap2 := hd.cap.2
  have hcap' := h'.cap.1; have hcap2' := h'.cap.2; have hdap' := hd'.cap.1; have hdap2' := hd'.cap.2
  have HN := Lib.hid h.1; have HM := Lib.hid hd.1; have HN' := Lib.hid h'.1; have HM' := Lib.hid hd'.1
  have HI := Lib.hid h; have HD := Lib.hid hd; have HI' := Lib.hid h'; have HD' := Lib.hid hd'
  have HR := Lib.hid hr
  have hK := ((Kept.refl w).alloc #[.slice A n c, .slice B m k] 25).alloc #[.slice A' n' c', .slice B' m' k'] 25
  have HK := Lib.hid hK
  clear h hd h' hd' hr hK
  by_cases hn : n = n'
  · by_cases hm : m = m'
    · subst hn hm
      go_enter Try.func10, Try.ntmps10
      go_wp2_with fail
      go_loopw [26] (fun i wr => ∃ j : Nat, j ≤ n ∧ i = .int .i64 j ∧ Kept ((w.alloc (.cells #[.slice A n c, .slice B m k] 25)).alloc (.cells #[.slice A' n c', .slice B' m k'] 25)) wr ∧ ∀ i, i < j → V[i]? = V'[i]?) (fun i _ => n - (intOf i).toNat)
      case atStart => exact ⟨0, Nat.zero_le _, rfl, Kept.refl _, fun i hi => absurd hi (by omega)⟩
      case round =>
        obtain ⟨j, hj, rfl, hkr, hall⟩ := hrel
        have HR2 := Lib.hid hkr
        have HA := Lib.hid hall
        have e0 := KExt.cell ((((Kept.refl (w.alloc (.cells #[.slice A n c, .slice B m k] 25))).alloc #[.slice A' n c', .slice B' m k'] 25).trans hkr).box0)
        have e1 := KExt.cell ((((Kept.refl (w.alloc (.cells #[.slice A n c, .slice B m k] 25))).alloc #[.slice A' n c', .slice B' m k'] 25).trans hkr).box1)
        have e2 := KExt.cell hkr.box0
        have e3 := KExt.cell hkr.box1
        rw [show (w.alloc (.cells #[.slice A n c, .slice B m k] 25)).heap.size = w.heap.size + 1 by simp] at e2 e3
        clear hkr hall
        by_cases hlt : j < n
        · obtain ⟨g, o, y, rfl, hy, g1⟩ := (HI.out.kept (HK.out.trans HR2.out)).get hlt
          obtain ⟨g', o', y', rfl, hy', g2⟩ := (HI'.out.kept (HK.out.trans HR2.out)).get hlt
          have f1 := KExt.cell g1
          have f2 := KExt.cell g2
          have HY := Lib.hid hy
          have HY' := Lib.hid hy'
          clear hy hy' g1 g2
          by_cases hyy : y = y'
          · have d1 : (y == y') = true := by simpa using hyy
            have HN2 := Lib.hid (show ∀ i, i < j + 1 → V[i]? = V'[i]? from fun i hi => by
              rcases Nat.lt_or_ge i j with h | h
              · exact HA.out i h
              · obtain rfl : i = j := by omega
                rw [HY.out, HY'.out, hyy])
            clear hyy
            go_wp2_with fail
            refine region_kept _ (by kernel_rfl) (by kernel_rfl) (Kept.refl _) ?_
            repeat (go_big_quiet_step (fail))
            refine wpQuiet_nil ?_
            intro G
            clear e0 e1 e2 e3 f1 f2
            go_wp2_with fail
            go_roundw
            case rel => exact ⟨j + 1, hlt, by go_num, HR2.out.trans G.g, HN2.out⟩
            case measure => simp [intOf]; omega
          · have d1 : (y == y') = false := by simpa using hyy
            have HF := Lib.hid (show false = r by
              rw [← HR.out, eq_comm, decide_eq_false_iff_not]
              rintro ⟨rfl, _⟩
              exact hyy (Option.some.inj (HY.out.symm.trans HY'.out)))
            clear hyy
            go_wp2_with fail
            refine region_kept _ (by kernel_rfl) (by kernel_rfl) (Kept.refl _) ?_
            repeat (go_big_quiet_step (fail))
            refine wpQuiet_nil ?_
            intro G
            clear e0 e1 e2 e3 f1 f2
            go_wp2_with fail
            go_ret
            exact ⟨ret_bool HF.out, HK.out.trans (HR2.out.trans G.g)⟩
        · obtain rfl : j = n := by omega
          have HV := Lib.hid (show V = V' from List.ext_getElem? fun i => by
            rcases Nat.lt_or_ge i j with h | h
            · exact HA.out i h
            · rw [List.getElem?_eq_none (by have := HN.out; omega), List.getElem?_eq_none (by have := HN'.out; omega)])
          have i0 := e0 ⟨wr, Kept.refl _⟩
          have i1 := e1 ⟨wr, Kept.refl _⟩
          simp only at i0 i1
          clear e0 e1 e2 e3
          go_wp2_with fail
          go_loopw [44] (fun i wr => ∃ t : Nat, t ≤ m ∧ i = .int .i64 t ∧ Kept ((w.alloc (.cells #[.slice A j c, .slice B m k] 25)).alloc (.cells #[.slice A' j c', .slice B' m k'] 25)) wr ∧ ∀ i, i < t → C[i]? = C'[i]?) (fun i _ => m - (intOf i).toNat)
          case atStart => exact ⟨0, Nat.zero_le _, rfl, HR2.out, fun i hi => absurd hi (by omega)⟩
          case round =>
            obtain ⟨q, hq, rfl, hkr, hall⟩ := hrel
            have HR3 := Lib.hid hkr
            have HA3 := Lib.hid hall
            have e0 := KExt.cell ((((Kept.refl (w.alloc (.cells #[.slice A j c, .slice B m k] 25))).alloc #[.slice A' j c', .slice B' m k'] 25).trans hkr).box0)
            have e1 := KExt.cell ((((Kept.refl (w.alloc (.cells #[.slice A j c, .slice B m k] 25))).alloc #[.slice A' j c', .slice B' m k'] 25).trans hkr).box1)
            have e2 := KExt.cell hkr.box0
            have e3 := KExt.cell hkr.box1
            rw [show (w.alloc (.cells #[.slice A j c, .slice B m k] 25)).heap.size = w.heap.size + 1 by simp] at e2 e3
            clear hkr hall
            by_cases hlt : q < m
            · obtain ⟨g, o, ⟨y1, y2⟩, rfl, hy, g1, g1'⟩ := (HD.out.kept (HK.out.trans HR3.out)).get hlt
              obtain ⟨g', o', ⟨z1, z2⟩, rfl, hy', g2, g2'⟩ := (HD'.out.kept (HK.out.trans HR3.out)).get hlt
              simp only at g1 g1' g2 g2'
              have f1 := KExt.cell g1
              have f1' := KExt.cell g1'
              have f2 := KExt.cell g2
              have f2' := KExt.cell g2'
              have HY := Lib.hid hy
              have HY' := Lib.hid hy'
              clear hy hy' g1 g1' g2 g2'
              by_cases hyy : ((y1, y2) : Int × Int) = (z1, z2)
              · have HN2 := Lib.hid (show ∀ i, i < q + 1 → C[i]? = C'[i]? from fun i hi => by
                  rcases Nat.lt_or_ge i q with h | h
                  · exact HA3.out i h
                  · obtain rfl : i = q := by omega
                    rw [HY.out, HY'.out, hyy])
                simp only [Prod.mk.injEq] at hyy
                have d1 : (y1 == z1) = true := by simpa using hyy.1
                have d2 : (y2 == z2) = true := by simpa using hyy.2
                clear hyy
                go_wp2_with fail
                refine region_kept _ (by kernel_rfl) (by kernel_rfl) (Kept.refl _) ?_
                repeat (go_big_quiet_step (fail))
                refine wpQuiet_nil ?_
                intro G
                clear e0 e1 e2 e3 f1 f2 f1' f2'
                go_wp2_with fail
                go_roundw
                case rel => exact ⟨q + 1, hlt, by go_num, HR3.out.trans G.g, HN2.out⟩
                case measure => simp [intOf]; omega
              · have HF := Lib.hid (show false = r by
                  rw [← HR.out, eq_comm, decide_eq_false_iff_not]
                  rintro ⟨_, rfl⟩
                  exact hyy (Option.some.inj (HY.out.symm.trans HY'.out)))
                have hne : ¬ ((z1, z2) : Int × Int) = (y1, y2) := fun e => hyy e.symm
                rcases dot_ne (fun e => hyy e) with d1 | ⟨d1, d2⟩
                all_goals
                  clear hyy hne
                  go_wp2_with fail
                  refine region_kept _ (by kernel_rfl) (by kernel_rfl) (Kept.refl _) ?_
                  repeat (go_big_quiet_step (fail))
                  refine wpQuiet_nil ?_
                  intro G
                  clear e0 e1 e2 e3 f1 f2 f1' f2'
                  go_wp2_with fail
                  go_ret
                  exact ⟨ret_bool HF.out, HK.out.trans (HR3.out.trans G.g)⟩
            · obtain rfl : q = m := by omega
              have HF := Lib.hid (show true = r by
                rw [← HR.out, eq_comm, decide_eq_true_iff]
                refine ⟨HV.out, List.ext_getElem? fun i => ?_⟩
                rcases Nat.lt_or_ge i q with h | h
                · exact HA3.out i h
                · rw [List.getElem?_eq_none (by have := HM.out; omega), List.getElem?_eq_none (by have := HM'.out; omega)])
              clear e0 e1 e2 e3
              go_wp2_with fail
              go_ret
              exact ⟨ret_bool HF.out, HK.out.trans HR3.out⟩
    · have d1 : ((n : Int) != n') = false := by simp [hn]
      have d2 : ((m : Int) != m') = true := by simp; omega
      have HF := Lib.hid (show false = r by
        rw [← HR.out, eq_comm, decide_eq_false_iff_not]
        rintro ⟨_, rfl⟩
        exact hm (HM.out.trans HM'.out.symm))
      clear hn hm
      go_enter Try.func10, Try.ntmps10
      go_wp2_with fail
      go_ret
      exact ⟨ret_bool HF.out, HK.out⟩
  · have d1 : ((n : Int) != n') = true := by simp; omega
    have HF := Lib.hid (show false = r by
      rw [← HR.out, eq_comm, decide_eq_false_iff_not]
      rintro ⟨rfl, _⟩
      exact hn (HN.out.trans HN'.out.symm))
    clear hn
    go_enter Try.func10, Try.ntmps10
    go_wp2_with fail
    go_ret
    exact ⟨ret_bool HF.out, HK.out⟩
end Go.Proofs.Ytgofecnpmohmgaa
