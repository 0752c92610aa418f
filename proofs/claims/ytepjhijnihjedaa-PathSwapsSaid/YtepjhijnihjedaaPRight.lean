/-
  What is proved: path.Right and path.Pattern and the document's, called with any text of up to 2^40 bytes, return whether it is a path, and whether it is a pattern (P4.4, P4.5); the world has new blocks at most.
-/
import Derived.Test.YtepjhijnihjedaaPRSplit
import Derived.Test.YtepjhijnihjedaaPListMath
namespace Go.Proofs.Ytepjhijnihjedaa
open Go.RowKit

theorem sl_at {w : World} {b c : Nat} {p : ByteArray} (h : Sl w ⟨b, 0, none⟩ (splS p).length c (splS p)) {k : Nat} (hk : k < (splS p).length) : w.cell? ⟨b, k, none⟩ = some (.string (sg p k)) := by
  have := h.get hk
  rwa [Nat.zero_add] at this
/-- A text against the star, in the walk's words. -/
theorem star_yes {s : ByteArray} (h : s.data.toList = [42]) : s = ⟨#[42]⟩ := ba_ext h
theorem star_not {s : ByteArray} (h : ¬ s.data.toList = [42]) : (s.toList == [42]) = false ∧ (s.toList != [42]) = true := by
  rw [Lib.toList_data]; exact ⟨beq_eq_false_iff_ne.2 h, bne_iff_ne.2 h⟩

set_option maxRecDepth 100000 in
set_option maxHeartbeats 2000000 in
theorem right_any (p : ByteArray) (w : World) (hp : p.size ≤ 1099511627776) :
    Calls Try.prog 13 #[.string p] w fun e w' => e = .returned (.bool (rightS p)) ∧ Ke w w' := by
  have hn1 := splS_le p
  go_enter Try.func13, Try.ntmps13
  go_wp2_with (go_at_call 8; ((with_reducible refine (split_any p _ hp).mono ?_); rintro e w1 ⟨b, c, rfl, hs, hbb, hk⟩))
  have hcm := hs.2.1
  have hcx := hs.2.2.1
  simp only [maxLen] at hcx
  have HS := Lib.hid hs
  have HK := Lib.hid hk
  clear hs hk
  go_loopw [10] (fun i wr => ∃ k : Nat, k ≤ (splS p).length ∧ i = .int .i64 k ∧ Ke w1 wr ∧ ∀ j, j < k → segS (sg p j) = true) (fun i _ => (splS p).length - (intOf i).toNat)
  case atStart => exact ⟨0, Nat.zero_le _, rfl, Ke.refl _, fun j hj => absurd hj (by omega)⟩
  case round =>
    obtain ⟨k, hkl, rfl, hkr, hall⟩ := hrel
    have HA := Lib.hid hall
    have HR := Lib.hid hkr
    clear hall hkr
    by_cases hlt : k < (splS p).length
    · have g := sl_at (HS.out.ke HR.out) hlt
      have hsz := sg_size p k
      cases hsg : segS (sg p k) with
      | true =>
        have HG := Lib.hid hsg
        clear hsg
        go_wp2_with (go_at_call 11; ((with_reducible refine (seg_c _ true HG.out (by omega) _).mono ?_); rintro e w2 ⟨rfl, hk2⟩))
        go_roundw
        case rel =>
          refine ⟨k + 1, hlt, by go_num, HR.out.trans hk2, fun j hj => ?_⟩
          rcases Nat.lt_or_ge j k with h3 | h3
          · exact HA.out j h3
          · obtain rfl : j = k := by omega
            exact HG.out
        case measure => simp [intOf]; omega
      | false =>
        have HG := Lib.hid hsg
        clear hsg
        go_wp2_with (go_at_call 11; ((with_reducible refine (seg_c _ false HG.out (by omega) _).mono ?_); rintro e w2 ⟨rfl, hk2⟩))
        go_ret
        exact ⟨ret_bool (right_no p k hlt HG.out).symm, HK.out.trans (HR.out.trans hk2)⟩
    · have HY := Lib.hid (right_yes p (fun i hi => HA.out i (by omega)))
      go_wp2
      go_ret
      exact ⟨ret_bool (by rw [HY.out, decide_eq_decide]; omega), HK.out.trans HR.out⟩

set_option maxRecDepth 100000 in
set_option maxHeartbeats 2000000 in
theorem rright_any (p : ByteArray) (w : World) (hp : p.size ≤ 1099511627776) :
    Calls Try.prog 14 #[.string p] w fun e w' => e = .returned (.bool (rightS p)) ∧ Ke w w' := by
  have hn1 := splS_le p
  go_enter Try.func14, Try.ntmps14
  go_wp2_with (go_at_call 9; ((with_reducible refine (rsplit_any p _ hp).mono ?_); rintro e w1 ⟨b, c, rfl, hs, hbb, hk⟩))
  have hcm := hs.2.1
  have hcx := hs.2.2.1
  simp only [maxLen] at hcx
  have HS := Lib.hid hs
  have HK := Lib.hid hk
  clear hs hk
  go_loopw [10] (fun i wr => ∃ k : Nat, k ≤ (splS p).length ∧ i = .int .i64 k ∧ Ke w1 wr ∧ ∀ j, j < k → segS (sg p j) = true) (fun i _ => (splS p).length - (intOf i).toNat)
  case atStart => exact ⟨0, Nat.zero_le _, rfl, Ke.refl _, fun j hj => absurd hj (by omega)⟩
  case round =>
    obtain ⟨k, hkl, rfl, hkr, hall⟩ := hrel
    have HA := Lib.hid hall
    have HR := Lib.hid hkr
    clear hall hkr
    by_cases hlt : k < (splS p).length
    · have g := sl_at (HS.out.ke HR.out) hlt
      have hsz := sg_size p k
      cases hsg : segS (sg p k) with
      | true =>
        have HG := Lib.hid hsg
        clear hsg
        go_wp2_with (go_at_call 12; ((with_reducible refine (rseg_c _ true HG.out (by omega) _).mono ?_); rintro e w2 ⟨rfl, hk2⟩))
        go_roundw
        case rel =>
          refine ⟨k + 1, hlt, by go_num, HR.out.trans hk2, fun j hj => ?_⟩
          rcases Nat.lt_or_ge j k with h3 | h3
          · exact HA.out j h3
          · obtain rfl : j = k := by omega
            exact HG.out
        case measure => simp [intOf]; omega
      | false =>
        have HG := Lib.hid hsg
        clear hsg
        go_wp2_with (go_at_call 12; ((with_reducible refine (rseg_c _ false HG.out (by omega) _).mono ?_); rintro e w2 ⟨rfl, hk2⟩))
        go_ret
        exact ⟨ret_bool (right_no p k hlt HG.out).symm, HK.out.trans (HR.out.trans hk2)⟩
    · have HY := Lib.hid (right_yes p (fun i hi => HA.out i (by omega)))
      go_wp2
      go_ret
      exact ⟨ret_bool (by rw [HY.out, decide_eq_decide]; omega), HK.out.trans HR.out⟩

set_option maxRecDepth 100000 in
set_option maxHeartbeats 2000000 in
theorem pat_any (p : ByteArray) (w : World) (hp : p.size ≤ 1099511627776) :
    Calls Try.prog 15 #[.string p] w fun e w' => e = .returned (.bool (patS p)) ∧ Ke w w' := by
  have hn1 := splS_le p
  have hn0 := splS_pos p
  go_enter Try.func15, Try.ntmps15
  go_wp2_with (go_at_call 8; ((with_reducible refine (split_any p _ hp).mono ?_); rintro e w1 ⟨b, c, rfl, hs, hbb, hk⟩))
  have hcm := hs.2.1
  have hcx := hs.2.2.1
  simp only [maxLen] at hcx
  have HS := Lib.hid hs
  have HK := Lib.hid hk
  clear hs hk
  go_loopw [10] (fun i wr => ∃ k : Nat, k ≤ (splS p).length ∧ i = .int .i64 k ∧ Ke w1 wr ∧ ∀ j, j < k → patK p j = true) (fun i _ => (splS p).length - (intOf i).toNat)
  case atStart => exact ⟨0, Nat.zero_le _, rfl, Ke.refl _, fun j hj => absurd hj (by omega)⟩
  case round =>
    obtain ⟨k, hkl, rfl, hkr, hall⟩ := hrel
    have HA := Lib.hid hall
    have HR := Lib.hid hkr
    clear hall hkr
    by_cases hlt : k < (splS p).length
    · have g := sl_at (HS.out.ke HR.out) hlt
      have hsz := sg_size p k
      cases hsg : segS (sg p k) with
      | true =>
          have HG := Lib.hid hsg
          have HP := Lib.hid (patK_seg p k hsg)
          clear hsg
          go_wp2_with (go_at_call 11; ((with_reducible refine (seg_c _ true HG.out (by omega) _).mono ?_); rintro e w2 ⟨rfl, hk2⟩))
          go_roundw
          case rel =>
            refine ⟨k + 1, hlt, by go_num, HR.out.trans hk2, fun j hj => ?_⟩
            rcases Nat.lt_or_ge j k with h3 | h3
            · exact HA.out j h3
            · obtain rfl : j = k := by omega
              exact HP.out
          case measure => simp [intOf]; omega
      | false =>
        by_cases hk0 : k = 0
        · have HG := Lib.hid hsg
          have HP := Lib.hid (show patK p k = false by subst hk0; exact patK_zero p hsg)
          have k0 : ((k : Int) == 0) = true := beq_iff_eq.2 (by omega)
          clear hsg hk0
          go_wp2_with (go_at_call 11; ((with_reducible refine (seg_c _ false HG.out (by omega) _).mono ?_); rintro e w2 ⟨rfl, hk2⟩))
          go_ret
          exact ⟨ret_bool (pat_no p k hlt HP.out).symm, HK.out.trans (HR.out.trans hk2)⟩
        · have k0 : ((k : Int) == 0) = false := beq_eq_false_iff_ne.2 (by omega)
          by_cases hst : (sg p k).data.toList = [42]
          · have HG := Lib.hid hsg
            have HP := Lib.hid (patK_star p k hk0 hst)
            rw [star_yes hst] at g
            rw [star_yes hst] at HG
            clear hsg hst hk0
            go_wp2_with (go_at_call 11; ((with_reducible refine (seg_c _ false HG.out (by decide) _).mono ?_); rintro e w2 ⟨rfl, hk2⟩))
            go_roundw
            case rel =>
              refine ⟨k + 1, hlt, by go_num, HR.out.trans hk2, fun j hj => ?_⟩
              rcases Nat.lt_or_ge j k with h3 | h3
              · exact HA.out j h3
              · obtain rfl : j = k := by omega
                exact HP.out
            case measure => simp [intOf]; omega
          · have HG := Lib.hid hsg
            have HP := Lib.hid (patK_not p k hsg hst)
            obtain ⟨s1, s2⟩ := star_not hst
            clear hsg hst hk0
            go_wp2_with (go_at_call 11; ((with_reducible refine (seg_c _ false HG.out (by omega) _).mono ?_); rintro e w2 ⟨rfl, hk2⟩))
            go_ret
            exact ⟨ret_bool (pat_no p k hlt HP.out).symm, HK.out.trans (HR.out.trans hk2)⟩
    · have HY := Lib.hid (pat_yes p (fun i hi => HA.out i (by omega)))
      go_wp2
      go_ret
      exact ⟨ret_bool (by rw [HY.out, decide_eq_decide]; omega), HK.out.trans HR.out⟩

set_option maxRecDepth 100000 in
set_option maxHeartbeats 2000000 in
theorem rpat_any (p : ByteArray) (w : World) (hp : p.size ≤ 1099511627776) :
    Calls Try.prog 16 #[.string p] w fun e w' => e = .returned (.bool (patS p)) ∧ Ke w w' := by
  have hn1 := splS_le p
  have hn0 := splS_pos p
  go_enter Try.func16, Try.ntmps16
  go_wp2_with (go_at_call 9; ((with_reducible refine (rsplit_any p _ hp).mono ?_); rintro e w1 ⟨b, c, rfl, hs, hbb, hk⟩))
  have hcm := hs.2.1
  have hcx := hs.2.2.1
  simp only [maxLen] at hcx
  have HS := Lib.hid hs
  have HK := Lib.hid hk
  clear hs hk
  go_loopw [10] (fun i wr => ∃ k : Nat, k ≤ (splS p).length ∧ i = .int .i64 k ∧ Ke w1 wr ∧ ∀ j, j < k → (segS (sg p j) = true ∨ (sg p j).data.toList = [42])) (fun i _ => (splS p).length - (intOf i).toNat)
  case atStart => exact ⟨0, Nat.zero_le _, rfl, Ke.refl _, fun j hj => absurd hj (by omega)⟩
  case round =>
    obtain ⟨k, hkl, rfl, hkr, hall⟩ := hrel
    have HA := Lib.hid hall
    have HR := Lib.hid hkr
    clear hall hkr
    by_cases hlt : k < (splS p).length
    · have g := sl_at (HS.out.ke HR.out) hlt
      have hsz := sg_size p k
      by_cases hst : (sg p k).data.toList = [42]
      · have HP := Lib.hid (Or.inr (a := segS (sg p k) = true) hst)
        rw [star_yes hst] at g
        clear hst
        go_wp2
        go_roundw
        case rel =>
          refine ⟨k + 1, hlt, by go_num, HR.out, fun j hj => ?_⟩
          rcases Nat.lt_or_ge j k with h3 | h3
          · exact HA.out j h3
          · obtain rfl : j = k := by omega
            exact HP.out
        case measure => simp [intOf]; omega
      · obtain ⟨s1, s2⟩ := star_not hst
        cases hsg : segS (sg p k) with
        | true =>
          have HG := Lib.hid hsg
          have HP := Lib.hid (Or.inl (b := (sg p k).data.toList = [42]) hsg)
          clear hsg hst
          go_wp2_with (go_at_call 12; ((with_reducible refine (rseg_c _ true HG.out (by omega) _).mono ?_); rintro e w2 ⟨rfl, hk2⟩))
          go_roundw
          case rel =>
            refine ⟨k + 1, hlt, by go_num, HR.out.trans hk2, fun j hj => ?_⟩
            rcases Nat.lt_or_ge j k with h3 | h3
            · exact HA.out j h3
            · obtain rfl : j = k := by omega
              exact HP.out
          case measure => simp [intOf]; omega
        | false =>
          have HG := Lib.hid hsg
          have HP := Lib.hid (patK_not p k hsg hst)
          clear hsg hst
          go_wp2_with (go_at_call 12; ((with_reducible refine (rseg_c _ false HG.out (by omega) _).mono ?_); rintro e w2 ⟨rfl, hk2⟩))
          go_ret
          exact ⟨ret_bool (pat_no p k hlt HP.out).symm, HK.out.trans (HR.out.trans hk2)⟩
    · have g := sl_at (HS.out.ke HR.out) hn0
      by_cases h6 : (splS p).length ≤ 6
      · have d6 : decide (((splS p).length : Int) ≤ 6) = true := decide_eq_true (by omega)
        by_cases hst : (sg p 0).data.toList = [42]
        · have HN := Lib.hid (pat_no p 0 hn0 (patK_zero p (seg_star _ hst)))
          rw [star_yes hst] at g
          clear hst
          go_wp2
          go_ret
          exact ⟨ret_bool HN.out.symm, HK.out.trans HR.out⟩
        · obtain ⟨s1, s2⟩ := star_not hst
          have HY := Lib.hid (pat_yes p (fun i hi => by
            rcases HA.out i (by omega) with h | h
            · exact patK_seg p i h
            · exact patK_star p i (fun e => hst (by rw [← e]; exact h)) h))
          clear hst
          go_wp2
          go_ret
          exact ⟨ret_bool (by rw [HY.out]; simp; omega), HK.out.trans HR.out⟩
      · have d6 : decide (((splS p).length : Int) ≤ 6) = false := decide_eq_false (by omega)
        have HN := Lib.hid (show patS p = false by
          unfold patS patL
          rw [spl_length, decide_eq_false h6, Bool.and_false])
        go_wp2
        go_ret
        exact ⟨ret_bool HN.out.symm, HK.out.trans HR.out⟩
end Go.Proofs.Ytepjhijnihjedaa
