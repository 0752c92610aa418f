/-
  What is proved: path.Right and path.Pattern and the document's, called with any text of up to 2^40 bytes, return whether it is a path, and whether it is a pattern (P4.4, P4.5); the world has new blocks at most.
  path.Begins and path.Match and the document's, called with any two texts of up to 2^40 bytes, return what P4.6 and P4.7 say; the world has new blocks at most.
  path.Apart and the document's, called with any two texts of up to 2^40 bytes, return what P4.8 says; the world has new blocks at most.
-/
import Derived.Test.YtjieofiaoepccaaGreatDoorM17
import Derived.Test.YtjieofiaoepccaaGreatDoorM6
import Derived.Deep.QuietTactic
import Derived.BigQuiet
namespace Go.Proofs.YtjieofiaoepccaaGreatDoor.L4
open Go.RowKit

theorem sl_at {w : World} {b c : Nat} {p : ByteArray} (h : Sl w ⟨b, 0, none⟩ (splS p).length c (splS p)) {k : Nat} (hk : k < (splS p).length) : w.cell? ⟨b, k, none⟩ = some (.string (sg p k)) := by
  have := h.get hk
  rwa [Nat.zero_add] at this
/-- A text against the star, in the walk's words. -/
theorem star_yes {s : ByteArray} (h : s.data.toList = [42]) : s = ⟨#[42]⟩ := ba_ext h
theorem star_not {s : ByteArray} (h : ¬ s.data.toList = [42]) : (s.toList == [42]) = false ∧ (s.toList != [42]) = true := by
  rw [Lib.toList_data]; exact ⟨beq_eq_false_iff_ne.2 h, bne_iff_ne.2 h⟩

set_option maxRecDepth 100000 in
set_option maxHeartbeats 2000000 in
theorem pat_any (p : ByteArray) (w : World) (hp : p.size ≤ 1099511627776) :
    Calls Tryz.prog 26 #[.string p] w fun e w' => e = .returned (.bool (patS p)) ∧ Ke w w' := by
  have hn1 := splS_le p
  have hn0 := splS_pos p
  go_enter Tryz.func26, Tryz.ntmps26
  go_wp2_with (go_at_call 38; ((with_reducible refine (split_any p _ hp).mono ?_); rintro e w1 ⟨b, c, rfl, hs, hbb, hk⟩))
  have hcm := hs.2.1
  have hcx := hs.2.2.1
  simp only [maxLen] at hcx
  have HS := Lib.hid hs
  have HK := Lib.hid hk
  clear hs hk
  go_loopw [10] (fun i wr => ∃ k : Nat, k ≤ (splS p).length ∧ i = .int .i64 k ∧ Ke w1 wr ∧ ∀ j, j < k → patK p j = true) (fun i _ => (splS p).length - (intOf i).toNat)
  case atStart => exact ⟨0, Nat.zero_le _, rfl, Ke.refl _, fun j hj => absurd hj (by omega)⟩
  case round =>
    obtain ⟨k, hkl, rfl, hkr, hall⟩ := hrel
    have HA := Lib.hid hall
    have HR := Lib.hid hkr
    clear hall hkr
    by_cases hlt : k < (splS p).length
    · have g := sl_at (HS.out.ke HR.out) hlt
      have hsz := sg_size p k
      cases hsg : segS (sg p k) with
      | true =>
          have HG := Lib.hid hsg
          have HP := Lib.hid (patK_seg p k hsg)
          clear hsg
          go_wp2_with (go_at_call 57; ((with_reducible refine (seg_c _ true HG.out (by omega) _).mono ?_); rintro e w2 ⟨rfl, hk2⟩))
          go_roundw
          case rel =>
            refine ⟨k + 1, hlt, by go_num, HR.out.trans hk2, fun j hj => ?_⟩
            rcases Nat.lt_or_ge j k with h3 | h3
            · exact HA.out j h3
            · obtain rfl : j = k := by omega
              exact HP.out
          case measure => simp [intOf]; omega
      | false =>
        by_cases hk0 : k = 0
        · have HG := Lib.hid hsg
          have HP := Lib.hid (show patK p k = false by subst hk0; exact patK_zero p hsg)
          have k0 : ((k : Int) == 0) = true := beq_iff_eq.2 (by omega)
          clear hsg hk0
          go_wp2_with (go_at_call 57; ((with_reducible refine (seg_c _ false HG.out (by omega) _).mono ?_); rintro e w2 ⟨rfl, hk2⟩))
          go_ret
          exact ⟨ret_bool (pat_no p k hlt HP.out).symm, HK.out.trans (HR.out.trans hk2)⟩
        · have k0 : ((k : Int) == 0) = false := beq_eq_false_iff_ne.2 (by omega)
          by_cases hst : (sg p k).data.toList = [42]
          · have HG := Lib.hid hsg
            have HP := Lib.hid (patK_star p k hk0 hst)
            rw [star_yes hst] at g
            rw [star_yes hst] at HG
            clear hsg hst hk0
            go_wp2_with (go_at_call 57; ((with_reducible refine (seg_c _ false HG.out (by decide) _).mono ?_); rintro e w2 ⟨rfl, hk2⟩))
            go_roundw
            case rel =>
              refine ⟨k + 1, hlt, by go_num, HR.out.trans hk2, fun j hj => ?_⟩
              rcases Nat.lt_or_ge j k with h3 | h3
              · exact HA.out j h3
              · obtain rfl : j = k := by omega
                exact HP.out
            case measure => simp [intOf]; omega
          · have HG := Lib.hid hsg
            have HP := Lib.hid (patK_not p k hsg hst)
            obtain ⟨s1, s2⟩ := star_not hst
            clear hsg hst hk0
            go_wp2_with (go_at_call 57; ((with_reducible refine (seg_c _ false HG.out (by omega) _).mono ?_); rintro e w2 ⟨rfl, hk2⟩))
            go_ret
            exact ⟨ret_bool (pat_no p k hlt HP.out).symm, HK.out.trans (HR.out.trans hk2)⟩
    · have HY := Lib.hid (pat_yes p (fun i hi => HA.out i (by omega)))
      go_wp2
      go_ret
      exact ⟨ret_bool (by rw [HY.out, decide_eq_decide]; omega), HK.out.trans HR.out⟩

set_option maxRecDepth 100000 in
set_option maxHeartbeats 2000000 in
theorem rpat_any (p : ByteArray) (w : World) (hp : p.size ≤ 1099511627776) :
    Calls Tryz.prog 28 #[.string p] w fun e w' => e = .returned (.bool (patS p)) ∧ Ke w w' := by
  have hn1 := splS_le p
  have hn0 := splS_pos p
  go_enter Tryz.func28, Tryz.ntmps28
  go_wp2_with (go_at_call 40; ((with_reducible refine (rsplit_any p _ hp).mono ?_); rintro e w1 ⟨b, c, rfl, hs, hbb, hk⟩))
  have hcm := hs.2.1
  have hcx := hs.2.2.1
  simp only [maxLen] at hcx
  have HS := Lib.hid hs
  have HK := Lib.hid hk
  clear hs hk
  go_loopw [10] (fun i wr => ∃ k : Nat, k ≤ (splS p).length ∧ i = .int .i64 k ∧ Ke w1 wr ∧ ∀ j, j < k → (segS (sg p j) = true ∨ (sg p j).data.toList = [42])) (fun i _ => (splS p).length - (intOf i).toNat)
  case atStart => exact ⟨0, Nat.zero_le _, rfl, Ke.refl _, fun j hj => absurd hj (by omega)⟩
  case round =>
    obtain ⟨k, hkl, rfl, hkr, hall⟩ := hrel
    have HA := Lib.hid hall
    have HR := Lib.hid hkr
    clear hall hkr
    by_cases hlt : k < (splS p).length
    · have g := sl_at (HS.out.ke HR.out) hlt
      have hsz := sg_size p k
      by_cases hst : (sg p k).data.toList = [42]
      · have HP := Lib.hid (Or.inr (a := segS (sg p k) = true) hst)
        rw [star_yes hst] at g
        clear hst
        go_wp2
        go_roundw
        case rel =>
          refine ⟨k + 1, hlt, by go_num, HR.out, fun j hj => ?_⟩
          rcases Nat.lt_or_ge j k with h3 | h3
          · exact HA.out j h3
          · obtain rfl : j = k := by omega
            exact HP.out
        case measure => simp [intOf]; omega
      · obtain ⟨s1, s2⟩ := star_not hst
        cases hsg : segS (sg p k) with
        | true =>
          have HG := Lib.hid hsg
          have HP := Lib.hid (Or.inl (b := (sg p k).data.toList = [42]) hsg)
          clear hsg hst
          go_wp2_with (go_at_call 59; ((with_reducible refine (rseg_c _ true HG.out (by omega) _).mono ?_); rintro e w2 ⟨rfl, hk2⟩))
          go_roundw
          case rel =>
            refine ⟨k + 1, hlt, by go_num, HR.out.trans hk2, fun j hj => ?_⟩
            rcases Nat.lt_or_ge j k with h3 | h3
            · exact HA.out j h3
            · obtain rfl : j = k := by omega
              exact HP.out
          case measure => simp [intOf]; omega
        | false =>
          have HG := Lib.hid hsg
          have HP := Lib.hid (patK_not p k hsg hst)
          clear hsg hst
          go_wp2_with (go_at_call 59; ((with_reducible refine (rseg_c _ false HG.out (by omega) _).mono ?_); rintro e w2 ⟨rfl, hk2⟩))
          go_ret
          exact ⟨ret_bool (pat_no p k hlt HP.out).symm, HK.out.trans (HR.out.trans hk2)⟩
    · have g := sl_at (HS.out.ke HR.out) hn0
      by_cases h6 : (splS p).length ≤ 6
      · have d6 : decide (((splS p).length : Int) ≤ 6) = true := decide_eq_true (by omega)
        by_cases hst : (sg p 0).data.toList = [42]
        · have HN := Lib.hid (pat_no p 0 hn0 (patK_zero p (seg_star _ hst)))
          rw [star_yes hst] at g
          clear hst
          go_wp2
          go_ret
          exact ⟨ret_bool HN.out.symm, HK.out.trans HR.out⟩
        · obtain ⟨s1, s2⟩ := star_not hst
          have HY := Lib.hid (pat_yes p (fun i hi => by
            rcases HA.out i (by omega) with h | h
            · exact patK_seg p i h
            · exact patK_star p i (fun e => hst (by rw [← e]; exact h)) h))
          clear hst
          go_wp2
          go_ret
          exact ⟨ret_bool (by rw [HY.out]; simp; omega), HK.out.trans HR.out⟩
      · have d6 : decide (((splS p).length : Int) ≤ 6) = false := decide_eq_false (by omega)
        have HN := Lib.hid (show patS p = false by
          unfold patS patL
          rw [spl_length, decide_eq_false h6, Bool.and_false])
        go_wp2
        go_ret
        exact ⟨ret_bool HN.out.symm, HK.out.trans HR.out⟩
end Go.Proofs.YtjieofiaoepccaaGreatDoor.L4

namespace Go.Proofs.YtjieofiaoepccaaGreatDoor.L4
open Go.RowKit

/-- Two texts that differ, in the walk's words. -/
theorem str_not {x y : ByteArray} (h : ¬ x.data.toList = y.data.toList) : (x.toList == y.toList) = false ∧ (x.toList != y.toList) = true ∧ (y.toList == x.toList) = false ∧ (y.toList != x.toList) = true := by
  rw [Lib.toList_data, Lib.toList_data]
  exact ⟨beq_eq_false_iff_ne.2 h, bne_iff_ne.2 h, beq_eq_false_iff_ne.2 (fun e => h e.symm), bne_iff_ne.2 (fun e => h e.symm)⟩
theorem star_not2 {s : ByteArray} (h : ¬ s.data.toList = [42]) : ([42] == s.toList) = false ∧ ([42] != s.toList) = true := by
  rw [Lib.toList_data]; exact ⟨beq_eq_false_iff_ne.2 (fun e => h e.symm), bne_iff_ne.2 (fun e => h e.symm)⟩

set_option maxRecDepth 100000 in
set_option maxHeartbeats 4000000 in
theorem beg_any (p q : ByteArray) (w : World) (hp : p.size ≤ 1099511627776) (hq : q.size ≤ 1099511627776) :
    Calls Tryz.prog 67 #[.string p, .string q] w fun e w' => e = .returned (.bool (begS p q)) ∧ Ke w w' := by
  have hn1 := splS_le p
  have hn2 := splS_le q
  go_enter Tryz.func67, Tryz.ntmps67
  go_wp2_with fail
  go_at_call 38
  refine (split_any p _ hp).mono ?_
  rintro e w1 ⟨b1, c1, rfl, hs1, hbb1, hk1⟩
  have hcm1 := hs1.2.1
  have hcx1 := hs1.2.2.1
  simp only [maxLen] at hcx1
  have HS1 := Lib.hid hs1
  have HK1 := Lib.hid hk1
  clear hs1 hk1 hbb1
  go_wp2_with fail
  go_at_call 38
  refine (split_any q _ hq).mono ?_
  rintro e w2 ⟨b2, c2, rfl, hs2, hbb2, hk2⟩
  have hcm2 := hs2.2.1
  have hcx2 := hs2.2.2.1
  simp only [maxLen] at hcx2
  have HS2 := Lib.hid hs2
  have HS3 := Lib.hid (HS1.out.ke hk2)
  have HK := Lib.hid (HK1.out.trans hk2)
  clear hs2 hk2 hbb2 HS1 HK1
  by_cases hsh : (splS p).length < (splS q).length
  · have d1 : decide ((splS p).length < (splS q).length) = true := decide_eq_true hsh
    go_wp2
    go_ret
    exact ⟨ret_bool (beg_short p q hsh).symm, HK.out⟩
  have d1 : decide ((splS p).length < (splS q).length) = false := decide_eq_false hsh
  go_wp2
  go_loop [20] (fun i => ∃ k : Nat, k ≤ (splS q).length ∧ i = .int .i64 k ∧ ∀ j, j < k → (sg q j).data.toList = [42] ∨ (sg q j).data.toList = (sg p j).data.toList) (fun i => (splS q).length - (intOf i).toNat)
  case atStart => exact ⟨0, Nat.zero_le _, rfl, fun j hj => absurd hj (by omega)⟩
  case round =>
    obtain ⟨k, hkl, rfl, hall⟩ := hrel
    have HA := Lib.hid hall
    clear hall
    by_cases hlt : k < (splS q).length
    · have g1 := sl_at HS3.out (k := k) (by omega)
      have g2 := sl_at HS2.out hlt
      have kp : k < (splS p).length := by omega
      have kp2 : (k : Int) < (splS p).length := by omega
      have kq2 : (k : Int) < (splS q).length := by omega
      have k0 : (0 : Int) ≤ k := by omega
      have HN := Lib.hid (fun (h : (sg q k).data.toList = [42] ∨ (sg q k).data.toList = (sg p k).data.toList) (j : Nat) (hj : j < k + 1) => show (sg q j).data.toList = [42] ∨ (sg q j).data.toList = (sg p j).data.toList by
        rcases Nat.lt_or_ge j k with h3 | h3
        · exact HA.out j h3
        · obtain rfl : j = k := by omega
          exact h)
      by_cases hst : (sg q k).data.toList = [42]
      · have HM := Lib.hid (HN.out (.inl hst))
        by_cases hxs : (sg p k).data.toList = [42]
        · rw [star_yes hst] at g2
          rw [star_yes hxs] at g1
          clear hst hxs
          go_wp2
          go_round
          case rel => exact ⟨k + 1, hlt, by go_num, HM.out⟩
          case measure => simp [intOf]; omega
        · rw [star_yes hst] at g2
          obtain ⟨s1, s2⟩ := star_not hxs
          obtain ⟨s3, s4⟩ := star_not2 hxs
          clear hst hxs
          go_wp2
          go_round
          case rel => exact ⟨k + 1, hlt, by go_num, HM.out⟩
          case measure => simp [intOf]; omega
      · obtain ⟨s1, s2⟩ := star_not hst
        by_cases hxy : (sg q k).data.toList = (sg p k).data.toList
        · have HM := Lib.hid (HN.out (.inr hxy))
          rw [← ba_ext hxy] at g1
          clear hst hxy
          go_wp2
          go_round
          case rel => exact ⟨k + 1, hlt, by go_num, HM.out⟩
          case measure => simp [intOf]; omega
        · have HM := Lib.hid (beg_no p q k kp hlt hst hxy)
          obtain ⟨t1, t2, t3, t4⟩ := str_not hxy
          clear hst hxy
          go_wp2
          go_ret
          exact ⟨ret_bool HM.out.symm, HK.out⟩
    · have HY := Lib.hid (beg_yes p q (by omega) (fun j hj => HA.out j (by omega)))
      go_wp2
      go_ret
      exact ⟨ret_bool HY.out.symm, HK.out⟩
theorem beg_any_c (p q : ByteArray) (r : Bool) (hr : begS p q = r) (hp : p.size ≤ 1099511627776) (hq : q.size ≤ 1099511627776) (w : World) :
    Calls Tryz.prog 67 #[.string p, .string q] w fun e w' => e = .returned (.bool r) ∧ Ke w w' := by
  subst hr; exact beg_any p q w hp hq

set_option maxRecDepth 100000 in
set_option maxHeartbeats 4000000 in
theorem rbeg_any (p q : ByteArray) (w : World) (hp : p.size ≤ 1099511627776) (hq : q.size ≤ 1099511627776) :
    Calls Tryz.prog 68 #[.string p, .string q] w fun e w' => e = .returned (.bool (begS p q)) ∧ Ke w w' := by
  have hn1 := splS_le p
  have hn2 := splS_le q
  go_enter Tryz.func68, Tryz.ntmps68
  go_wp2_with fail
  go_at_call 40
  refine (rsplit_any p _ hp).mono ?_
  rintro e w1 ⟨b1, c1, rfl, hs1, hbb1, hk1⟩
  have hcm1 := hs1.2.1
  have hcx1 := hs1.2.2.1
  simp only [maxLen] at hcx1
  have HS1 := Lib.hid hs1
  have HK1 := Lib.hid hk1
  clear hs1 hk1 hbb1
  go_wp2_with fail
  go_at_call 40
  refine (rsplit_any q _ hq).mono ?_
  rintro e w2 ⟨b2, c2, rfl, hs2, hbb2, hk2⟩
  have hcm2 := hs2.2.1
  have hcx2 := hs2.2.2.1
  simp only [maxLen] at hcx2
  have HS2 := Lib.hid hs2
  have HS3 := Lib.hid (HS1.out.ke hk2)
  have HK := Lib.hid (HK1.out.trans hk2)
  clear hs2 hk2 hbb2 HS1 HK1
  by_cases hsh : (splS p).length < (splS q).length
  · have d1 : decide ((splS p).length < (splS q).length) = true := decide_eq_true hsh
    go_wp2
    go_ret
    exact ⟨ret_bool (beg_short p q hsh).symm, HK.out⟩
  have d1 : decide ((splS p).length < (splS q).length) = false := decide_eq_false hsh
  go_wp2
  go_loop [20] (fun i => ∃ k : Nat, k ≤ (splS q).length ∧ i = .int .i64 k ∧ ∀ j, j < k → (sg q j).data.toList = [42] ∨ (sg q j).data.toList = (sg p j).data.toList) (fun i => (splS q).length - (intOf i).toNat)
  case atStart => exact ⟨0, Nat.zero_le _, rfl, fun j hj => absurd hj (by omega)⟩
  case round =>
    obtain ⟨k, hkl, rfl, hall⟩ := hrel
    have HA := Lib.hid hall
    clear hall
    by_cases hlt : k < (splS q).length
    · have g1 := sl_at HS3.out (k := k) (by omega)
      have g2 := sl_at HS2.out hlt
      have kp : k < (splS p).length := by omega
      have kp2 : (k : Int) < (splS p).length := by omega
      have kq2 : (k : Int) < (splS q).length := by omega
      have k0 : (0 : Int) ≤ k := by omega
      have HN := Lib.hid (fun (h : (sg q k).data.toList = [42] ∨ (sg q k).data.toList = (sg p k).data.toList) (j : Nat) (hj : j < k + 1) => show (sg q j).data.toList = [42] ∨ (sg q j).data.toList = (sg p j).data.toList by
        rcases Nat.lt_or_ge j k with h3 | h3
        · exact HA.out j h3
        · obtain rfl : j = k := by omega
          exact h)
      by_cases hst : (sg q k).data.toList = [42]
      · have HM := Lib.hid (HN.out (.inl hst))
        by_cases hxs : (sg p k).data.toList = [42]
        · rw [star_yes hst] at g2
          rw [star_yes hxs] at g1
          clear hst hxs
          go_wp2
          go_round
          case rel => exact ⟨k + 1, hlt, by go_num, HM.out⟩
          case measure => simp [intOf]; omega
        · rw [star_yes hst] at g2
          obtain ⟨s1, s2⟩ := star_not hxs
          obtain ⟨s3, s4⟩ := star_not2 hxs
          clear hst hxs
          go_wp2
          go_round
          case rel => exact ⟨k + 1, hlt, by go_num, HM.out⟩
          case measure => simp [intOf]; omega
      · obtain ⟨s1, s2⟩ := star_not hst
        by_cases hxy : (sg q k).data.toList = (sg p k).data.toList
        · have HM := Lib.hid (HN.out (.inr hxy))
          rw [← ba_ext hxy] at g1
          clear hst hxy
          go_wp2
          go_round
          case rel => exact ⟨k + 1, hlt, by go_num, HM.out⟩
          case measure => simp [intOf]; omega
        · have HM := Lib.hid (beg_no p q k kp hlt hst hxy)
          obtain ⟨t1, t2, t3, t4⟩ := str_not hxy
          clear hst hxy
          go_wp2
          go_ret
          exact ⟨ret_bool HM.out.symm, HK.out⟩
    · have HY := Lib.hid (beg_yes p q (by omega) (fun j hj => HA.out j (by omega)))
      go_wp2
      go_ret
      exact ⟨ret_bool HY.out.symm, HK.out⟩
theorem rbeg_any_c (p q : ByteArray) (r : Bool) (hr : begS p q = r) (hp : p.size ≤ 1099511627776) (hq : q.size ≤ 1099511627776) (w : World) :
    Calls Tryz.prog 68 #[.string p, .string q] w fun e w' => e = .returned (.bool r) ∧ Ke w w' := by
  subst hr; exact rbeg_any p q w hp hq

set_option maxRecDepth 100000 in
set_option maxHeartbeats 2000000 in
theorem mat_any (p q : ByteArray) (w : World) (hp : p.size ≤ 1099511627776) (hq : q.size ≤ 1099511627776) :
    Calls Tryz.prog 34 #[.string p, .string q] w fun e w' => e = .returned (.bool (matS p q)) ∧ Ke w w' := by
  have HM := Lib.hid (mat_def p q)
  generalize hn : p.data.toList.count 47 = n at HM
  generalize hm : q.data.toList.count 47 = m at HM
  have HN := Lib.hid hn
  have HQ := Lib.hid hm
  clear hn hm
  by_cases he : n = m
  · have d1 : ((n : Int) == (m : Int)) = true := beq_iff_eq.2 (by omega)
    have d2 : (n == m) = true := beq_iff_eq.2 he
    have HR := Lib.hid (show matS p q = begS p q by rw [HM.out, d2, Bool.true_and])
    have HE := Lib.hid he
    clear he
    go_enter Tryz.func34, Tryz.ntmps34
    go_wp2_with fail
    go_at_call 66
    refine (strokes_any p _).mono ?_
    rintro e w1 ⟨rfl, rfl⟩
    rw [HN.out]
    go_wp2_with fail
    go_at_call 66
    refine (strokes_any q _).mono ?_
    rintro e w1 ⟨rfl, rfl⟩
    rw [HQ.out]
    go_wp2_with (go_at_call 67; ((with_reducible refine (beg_any p q _ hp hq).mono ?_); rintro e w1 ⟨rfl, hk⟩))
    go_ret
    exact ⟨ret_bool HR.out.symm, by assumption⟩
  · have d1 : ((n : Int) == (m : Int)) = false := beq_eq_false_iff_ne.2 (by omega)
    have d2 : (n == m) = false := beq_eq_false_iff_ne.2 he
    have HR := Lib.hid (show matS p q = false by rw [HM.out, d2, Bool.false_and])
    go_enter Tryz.func34, Tryz.ntmps34
    go_wp2_with fail
    go_at_call 66
    refine (strokes_any p _).mono ?_
    rintro e w1 ⟨rfl, rfl⟩
    rw [HN.out]
    go_wp2_with fail
    go_at_call 66
    refine (strokes_any q _).mono ?_
    rintro e w1 ⟨rfl, rfl⟩
    rw [HQ.out]
    go_wp2_with fail
    go_ret
    exact ⟨ret_bool HR.out.symm, Ke.refl _⟩

set_option maxRecDepth 100000 in
set_option maxHeartbeats 2000000 in
theorem rmat_any (p q : ByteArray) (w : World) (hp : p.size ≤ 1099511627776) (hq : q.size ≤ 1099511627776) :
    Calls Tryz.prog 35 #[.string p, .string q] w fun e w' => e = .returned (.bool (matS p q)) ∧ Ke w w' := by
  have HM := Lib.hid (show matS p q = (((splS p).length == (splS q).length) && begS p q) by rw [← spl_length, ← spl_length]; rfl)
  have hn1 := splS_le p
  have hn2 := splS_le q
  by_cases he : (splS p).length = (splS q).length
  · have d1 : (((splS p).length : Int) == ((splS q).length : Int)) = true := beq_iff_eq.2 (by omega)
    have d2 : ((splS p).length == (splS q).length) = true := beq_iff_eq.2 he
    have HR := Lib.hid (show matS p q = begS p q by rw [HM.out, d2, Bool.true_and])
    clear he
    go_enter Tryz.func35, Tryz.ntmps35
    go_wp2_with fail
    go_at_call 40
    refine (rsplit_any p _ hp).mono ?_
    rintro e w1 ⟨b1, c1, rfl, hs1, hbb1, hk1⟩
    have HK1 := Lib.hid hk1
    clear hs1 hbb1 hk1
    go_wp2_with fail
    go_at_call 40
    refine (rsplit_any q _ hq).mono ?_
    rintro e w2 ⟨b2, c2, rfl, hs2, hbb2, hk2⟩
    have HK2 := Lib.hid (HK1.out.trans hk2)
    clear hs2 hbb2 hk2
    go_wp2_with (go_at_call 68; ((with_reducible refine (rbeg_any p q _ hp hq).mono ?_); rintro e w3 ⟨rfl, hk⟩))
    go_ret
    exact ⟨ret_bool HR.out.symm, HK2.out.trans (by assumption)⟩
  · have d1 : (((splS p).length : Int) == ((splS q).length : Int)) = false := beq_eq_false_iff_ne.2 (by omega)
    have d2 : ((splS p).length == (splS q).length) = false := beq_eq_false_iff_ne.2 he
    have HR := Lib.hid (show matS p q = false by rw [HM.out, d2, Bool.false_and])
    go_enter Tryz.func35, Tryz.ntmps35
    go_wp2_with fail
    go_at_call 40
    refine (rsplit_any p _ hp).mono ?_
    rintro e w1 ⟨b1, c1, rfl, hs1, hbb1, hk1⟩
    have HK1 := Lib.hid hk1
    clear hs1 hbb1 hk1
    go_wp2_with fail
    go_at_call 40
    refine (rsplit_any q _ hq).mono ?_
    rintro e w2 ⟨b2, c2, rfl, hs2, hbb2, hk2⟩
    have HK2 := Lib.hid (HK1.out.trans hk2)
    clear hs2 hbb2 hk2
    go_wp2_with fail
    go_ret
    exact ⟨ret_bool HR.out.symm, HK2.out⟩
end Go.Proofs.YtjieofiaoepccaaGreatDoor.L4

namespace Go.Proofs.YtjieofiaoepccaaGreatDoor.L4
open Go.RowKit

set_option maxRecDepth 100000 in
set_option maxHeartbeats 4000000 in
theorem ap_any (p q : ByteArray) (w : World) (hp : p.size ≤ 1099511627776) (hq : q.size ≤ 1099511627776) :
    Calls Tryz.prog 69 #[.string p, .string q] w fun e w' => e = .returned (.bool (apS p q)) ∧ Ke w w' := by
  have hn1 := splS_le p
  have hn2 := splS_le q
  obtain ⟨mn, hmn⟩ : ∃ mn : Nat, mn = min (splS p).length (splS q).length := ⟨_, rfl⟩
  have hm1 : mn ≤ (splS p).length := by omega
  have hm2 : mn ≤ (splS q).length := by omega
  have hm3 : mn = (splS p).length ∨ mn = (splS q).length := by omega
  have HMN := Lib.hid hmn
  have HM3 := Lib.hid hm3
  clear hmn hm3
  go_enter Tryz.func69, Tryz.ntmps69
  go_wp2_with fail
  go_at_call 38
  refine (split_any p _ hp).mono ?_
  rintro e w1 ⟨b1, c1, rfl, hs1, hbb1, hk1⟩
  have hcm1 := hs1.2.1
  have hcx1 := hs1.2.2.1
  simp only [maxLen] at hcx1
  have HS1 := Lib.hid hs1
  have HK1 := Lib.hid hk1
  clear hs1 hk1 hbb1
  go_wp2_with fail
  go_at_call 38
  refine (split_any q _ hq).mono ?_
  rintro e w2 ⟨b2, c2, rfl, hs2, hbb2, hk2⟩
  have hcm2 := hs2.2.1
  have hcx2 := hs2.2.2.1
  simp only [maxLen] at hcx2
  have HS2 := Lib.hid hs2
  have HS3 := Lib.hid (HS1.out.ke hk2)
  have HK := Lib.hid (HK1.out.trans hk2)
  clear hs2 hk2 hbb2 HS1 HK1
  go_wp2
  go_loopw [17] (fun i wr => ∃ k j : Nat, k ≤ mn ∧ i = .int .i64 k ∧ wr = w2.drewN j ∧ ∀ i, i < k → (sg p i).data.toList = (sg q i).data.toList) (fun i _ => mn - (intOf i).toNat)
  case atStart => exact ⟨0, 0, Nat.zero_le _, rfl, rfl, fun j hj => absurd hj (by omega)⟩
  case round =>
    obtain ⟨k, j, hkl, rfl, rfl, hall⟩ := hrel
    have HA := Lib.hid hall
    clear hall
    by_cases hlt : k < mn
    · have kp : k < (splS p).length := by omega
      have kq : k < (splS q).length := by omega
      have g1 := sl_at HS3.out kp
      have g2 := sl_at HS2.out kq
      have kp2 : (k : Int) < (splS p).length := by omega
      have kq2 : (k : Int) < (splS q).length := by omega
      have k0 : (0 : Int) ≤ k := by omega
      by_cases hxy : (sg p k).data.toList = (sg q k).data.toList
      · have HX := Lib.hid hxy
        rw [← ba_ext hxy] at g2
        clear hxy
        go_wp2
        go_quiet (fail)
        go_wp2
        go_roundw
        case rel =>
          refine ⟨k + 1, _, hlt, by go_num, rfl, fun i hi => ?_⟩
          rcases Nat.lt_or_ge i k with h3 | h3
          · exact HA.out i h3
          · obtain rfl : i = k := by omega
            exact HX.out
        case measure => simp [intOf]; omega
      · have HR := Lib.hid (ap_at p q k kp kq HA.out hxy)
        obtain ⟨t1, t2, t3, t4⟩ := str_not hxy
        by_cases hx : (sg p k).data.toList = [42]
        · have hy : ¬ (sg q k).data.toList = [42] := fun e => hxy (hx.trans e.symm)
          have HF := Lib.hid (show apS p q = false by rw [HR.out, hx]; rfl)
          rw [star_yes hx] at g1
          obtain ⟨s1, s2⟩ := star_not hy
          obtain ⟨s3, s4⟩ := star_not2 hy
          clear hx hy hxy t1 t2 t3 t4
          go_wp2
          go_quiet (fail)
          go_wp2
          go_ret
          exact ⟨ret_bool HF.out.symm, HK.out.drewN _⟩
        · obtain ⟨s1, s2⟩ := star_not hx
          obtain ⟨s3, s4⟩ := star_not2 hx
          by_cases hy : (sg q k).data.toList = [42]
          · have HF := Lib.hid (show apS p q = false by rw [HR.out, hy, Bool.and_comm]; rfl)
            rw [star_yes hy] at g2
            clear hx hy hxy t1 t2 t3 t4
            go_wp2
            go_quiet (fail)
            go_wp2
            go_ret
            exact ⟨ret_bool HF.out.symm, HK.out.drewN _⟩
          · have HF := Lib.hid (show apS p q = true by rw [HR.out, bne_iff_ne.2 hx, bne_iff_ne.2 hy]; rfl)
            obtain ⟨s5, s6⟩ := star_not hy
            clear hx hy hxy
            go_wp2
            go_quiet (fail)
            go_wp2
            go_ret
            exact ⟨ret_bool HF.out.symm, HK.out.drewN _⟩
    · have HE := Lib.hid (ap_end p q (fun i h1 h2 => HA.out i (by have := HM3.out; omega)))
      have hm5 : min ((splS p).length : Int) ((splS q).length : Int) ≤ (k : Int) := by have := HM3.out; omega
      go_wp2
      go_ret
      exact ⟨ret_bool HE.out.symm, HK.out.drewN _⟩
theorem ap_any_c (p q : ByteArray) (r : Bool) (hr : apS p q = r) (hp : p.size ≤ 1099511627776) (hq : q.size ≤ 1099511627776) (w : World) :
    Calls Tryz.prog 69 #[.string p, .string q] w fun e w' => e = .returned (.bool r) ∧ Ke w w' := by
  subst hr; exact ap_any p q w hp hq

set_option maxRecDepth 100000 in
set_option maxHeartbeats 4000000 in
theorem rap_any (p q : ByteArray) (w : World) (hp : p.size ≤ 1099511627776) (hq : q.size ≤ 1099511627776) :
    Calls Tryz.prog 37 #[.string p, .string q] w fun e w' => e = .returned (.bool (apS p q)) ∧ Ke w w' := by
  have hn1 := splS_le p
  have hn2 := splS_le q
  obtain ⟨mn, hmn⟩ : ∃ mn : Nat, mn = min (splS p).length (splS q).length := ⟨_, rfl⟩
  have hm1 : mn ≤ (splS p).length := by omega
  have hm2 : mn ≤ (splS q).length := by omega
  have hm3 : mn = (splS p).length ∨ mn = (splS q).length := by omega
  have HMN := Lib.hid hmn
  have HM3 := Lib.hid hm3
  clear hmn hm3
  go_enter Tryz.func37, Tryz.ntmps37
  go_wp2_with fail
  go_at_call 40
  refine (rsplit_any p _ hp).mono ?_
  rintro e w1 ⟨b1, c1, rfl, hs1, hbb1, hk1⟩
  have hcm1 := hs1.2.1
  have hcx1 := hs1.2.2.1
  simp only [maxLen] at hcx1
  have HS1 := Lib.hid hs1
  have HK1 := Lib.hid hk1
  clear hs1 hk1 hbb1
  go_wp2_with fail
  go_at_call 40
  refine (rsplit_any q _ hq).mono ?_
  rintro e w2 ⟨b2, c2, rfl, hs2, hbb2, hk2⟩
  have hcm2 := hs2.2.1
  have hcx2 := hs2.2.2.1
  simp only [maxLen] at hcx2
  have HS2 := Lib.hid hs2
  have HS3 := Lib.hid (HS1.out.ke hk2)
  have HK := Lib.hid (HK1.out.trans hk2)
  clear hs2 hk2 hbb2 HS1 HK1
  go_wp2
  go_loopw [7] (fun i wr => ∃ k j : Nat, k ≤ mn ∧ i = .int .i64 k ∧ wr = w2.drewN j ∧ ∀ i, i < k → (sg p i).data.toList = (sg q i).data.toList) (fun i _ => mn - (intOf i).toNat)
  case atStart => exact ⟨0, 0, Nat.zero_le _, rfl, rfl, fun j hj => absurd hj (by omega)⟩
  case round =>
    obtain ⟨k, j, hkl, rfl, rfl, hall⟩ := hrel
    have HA := Lib.hid hall
    clear hall
    by_cases hlt : k < mn
    · have kp : k < (splS p).length := by omega
      have kq : k < (splS q).length := by omega
      have g1 := sl_at HS3.out kp
      have g2 := sl_at HS2.out kq
      have kp2 : (k : Int) < (splS p).length := by omega
      have kq2 : (k : Int) < (splS q).length := by omega
      have k0 : (0 : Int) ≤ k := by omega
      by_cases hxy : (sg p k).data.toList = (sg q k).data.toList
      · have HX := Lib.hid hxy
        rw [← ba_ext hxy] at g2
        clear hxy
        go_wp2
        go_quiet (fail)
        go_wp2
        go_roundw
        case rel =>
          refine ⟨k + 1, _, hlt, by go_num, rfl, fun i hi => ?_⟩
          rcases Nat.lt_or_ge i k with h3 | h3
          · exact HA.out i h3
          · obtain rfl : i = k := by omega
            exact HX.out
        case measure => simp [intOf]; omega
      · have HR := Lib.hid (ap_at p q k kp kq HA.out hxy)
        obtain ⟨t1, t2, t3, t4⟩ := str_not hxy
        by_cases hx : (sg p k).data.toList = [42]
        · have hy : ¬ (sg q k).data.toList = [42] := fun e => hxy (hx.trans e.symm)
          have HF := Lib.hid (show apS p q = false by rw [HR.out, hx]; rfl)
          rw [star_yes hx] at g1
          obtain ⟨s1, s2⟩ := star_not hy
          obtain ⟨s3, s4⟩ := star_not2 hy
          clear hx hy hxy t1 t2 t3 t4
          go_wp2
          go_quiet (fail)
          go_wp2
          go_ret
          exact ⟨ret_bool HF.out.symm, HK.out.drewN _⟩
        · obtain ⟨s1, s2⟩ := star_not hx
          obtain ⟨s3, s4⟩ := star_not2 hx
          by_cases hy : (sg q k).data.toList = [42]
          · have HF := Lib.hid (show apS p q = false by rw [HR.out, hy, Bool.and_comm]; rfl)
            rw [star_yes hy] at g2
            clear hx hy hxy t1 t2 t3 t4
            go_wp2
            go_quiet (fail)
            go_wp2
            go_ret
            exact ⟨ret_bool HF.out.symm, HK.out.drewN _⟩
          · have HF := Lib.hid (show apS p q = true by rw [HR.out, bne_iff_ne.2 hx, bne_iff_ne.2 hy]; rfl)
            obtain ⟨s5, s6⟩ := star_not hy
            clear hx hy hxy
            go_wp2
            go_quiet (fail)
            go_wp2
            go_ret
            exact ⟨ret_bool HF.out.symm, HK.out.drewN _⟩
    · have HE := Lib.hid (ap_end p q (fun i h1 h2 => HA.out i (by have := HM3.out; omega)))
      by_cases hpp : k < (splS p).length
      · have d1 : decide ((k : Int) < (splS p).length) = true := decide_eq_true (by omega)
        have d2 : decide ((k : Int) < (splS q).length) = false := decide_eq_false (by have := HM3.out; omega)
        have d3 : decide (k < (splS p).length) = true := decide_eq_true (by omega)
        have d4 : decide (k < (splS q).length) = false := decide_eq_false (by have := HM3.out; omega)
        go_wp2
        go_ret
        exact ⟨ret_bool HE.out.symm, HK.out.drewN _⟩
      · have d1 : decide ((k : Int) < (splS p).length) = false := decide_eq_false (by omega)
        have d3 : decide (k < (splS p).length) = false := decide_eq_false (by omega)
        go_wp2
        go_ret
        exact ⟨ret_bool HE.out.symm, HK.out.drewN _⟩
theorem rap_any_c (p q : ByteArray) (r : Bool) (hr : apS p q = r) (hp : p.size ≤ 1099511627776) (hq : q.size ≤ 1099511627776) (w : World) :
    Calls Tryz.prog 37 #[.string p, .string q] w fun e w' => e = .returned (.bool r) ∧ Ke w w' := by
  subst hr; exact rap_any p q w hp hq
end Go.Proofs.YtjieofiaoepccaaGreatDoor.L4

