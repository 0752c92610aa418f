/-
  What is proved: path.Begins and path.Match and the document's, called with any two texts of up to 2^40 bytes, return what P4.6 and P4.7 say; the world has new blocks at most.
-/
import Derived.Test.YtepjhijnihjedaaPRight
import Derived.Deep.QuietTactic
import Derived.BigQuiet
namespace Go.Proofs.Ytepjhijnihjedaa
open Go.RowKit

/-- Two texts that differ, in the walk's words. -/
theorem str_not {x y : ByteArray} (h : ¬ x.data.toList = y.data.toList) : (x.toList == y.toList) = false ∧ (x.toList != y.toList) = true ∧ (y.toList == x.toList) = false ∧ (y.toList != x.toList) = true := by
  rw [Lib.toList_data, Lib.toList_data]
  exact ⟨beq_eq_false_iff_ne.2 h, bne_iff_ne.2 h, beq_eq_false_iff_ne.2 (fun e => h e.symm), bne_iff_ne.2 (fun e => h e.symm)⟩
theorem star_not2 {s : ByteArray} (h : ¬ s.data.toList = [42]) : ([42] == s.toList) = false ∧ ([42] != s.toList) = true := by
  rw [Lib.toList_data]; exact ⟨beq_eq_false_iff_ne.2 (fun e => h e.symm), bne_iff_ne.2 (fun e => h e.symm)⟩

set_option maxRecDepth 100000 in
set_option maxHeartbeats 4000000 in
theorem beg_any (p q : ByteArray) (w : World) (hp : p.size ≤ 1099511627776) (hq : q.size ≤ 1099511627776) :
    Calls Try.prog 17 #[.string p, .string q] w fun e w' => e = .returned (.bool (begS p q)) ∧ Ke w w' := by
  have hn1 := splS_le p
  have hn2 := splS_le q
  go_enter Try.func17, Try.ntmps17
  go_wp2_with fail
  go_at_call 8
  refine (split_any p _ hp).mono ?_
  rintro e w1 ⟨b1, c1, rfl, hs1, hbb1, hk1⟩
  have hcm1 := hs1.2.1
  have hcx1 := hs1.2.2.1
  simp only [maxLen] at hcx1
  have HS1 := Lib.hid hs1
  have HK1 := Lib.hid hk1
  clear hs1 hk1 hbb1
  go_wp2_with fail
  go_at_call 8
  refine (split_any q _ hq).mono ?_
  rintro e w2 ⟨b2, c2, rfl, hs2, hbb2, hk2⟩
  have hcm2 := hs2.2.1
  have hcx2 := hs2.2.2.1
  simp only [maxLen] at hcx2
  have HS2 := Lib.hid hs2
  have HS3 := Lib.hid (HS1.out.ke hk2)
  have HK := Lib.hid (HK1.out.trans hk2)
  clear hs2 hk2 hbb2 HS1 HK1
  by_cases hsh : (splS p).length < (splS q).length
  · have d1 : decide ((splS p).length < (splS q).length) = true := decide_eq_true hsh
    go_wp2
    go_ret
    exact ⟨ret_bool (beg_short p q hsh).symm, HK.out⟩
  have d1 : decide ((splS p).length < (splS q).length) = false := decide_eq_false hsh
  go_wp2
  go_loop [20] (fun i => ∃ k : Nat, k ≤ (splS q).length ∧ i = .int .i64 k ∧ ∀ j, j < k → (sg q j).data.toList = [42] ∨ (sg q j).data.toList = (sg p j).data.toList) (fun i => (splS q).length - (intOf i).toNat)
  case atStart => exact ⟨0, Nat.zero_le _, rfl, fun j hj => absurd hj (by omega)⟩
  case round =>
    obtain ⟨k, hkl, rfl, hall⟩ := hrel
    have HA := Lib.hid hall
    clear hall
    by_cases hlt : k < (splS q).length
    · have g1 := sl_at HS3.out (k := k) (by omega)
      have g2 := sl_at HS2.out hlt
      have kp : k < (splS p).length := by omega
      have kp2 : (k : Int) < (splS p).length := by omega
      have kq2 : (k : Int) < (splS q).length := by omega
      have k0 : (0 : Int) ≤ k := by omega
      have HN := Lib.hid (fun (h : (sg q k).data.toList = [42] ∨ (sg q k).data.toList = (sg p k).data.toList) (j : Nat) (hj : j < k + 1) => show (sg q j).data.toList = [42] ∨ (sg q j).data.toList = (sg p j).data.toList by
        rcases Nat.lt_or_ge j k with h3 | h3
        · exact HA.out j h3
        · obtain rfl : j = k := by omega
          exact h)
      by_cases hst : (sg q k).data.toList = [42]
      · have HM := Lib.hid (HN.out (.inl hst))
        by_cases hxs : (sg p k).data.toList = [42]
        · rw [star_yes hst] at g2
          rw [star_yes hxs] at g1
          clear hst hxs
          go_wp2
          go_round
          case rel => exact ⟨k + 1, hlt, by go_num, HM.out⟩
          case measure => simp [intOf]; omega
        · rw [star_yes hst] at g2
          obtain ⟨s1, s2⟩ := star_not hxs
          obtain ⟨s3, s4⟩ := star_not2 hxs
          clear hst hxs
          go_wp2
          go_round
          case rel => exact ⟨k + 1, hlt, by go_num, HM.out⟩
          case measure => simp [intOf]; omega
      · obtain ⟨s1, s2⟩ := star_not hst
        by_cases hxy : (sg q k).data.toList = (sg p k).data.toList
        · have HM := Lib.hid (HN.out (.inr hxy))
          rw [← ba_ext hxy] at g1
          clear hst hxy
          go_wp2
          go_round
          case rel => exact ⟨k + 1, hlt, by go_num, HM.out⟩
          case measure => simp [intOf]; omega
        · have HM := Lib.hid (beg_no p q k kp hlt hst hxy)
          obtain ⟨t1, t2, t3, t4⟩ := str_not hxy
          clear hst hxy
          go_wp2
          go_ret
          exact ⟨ret_bool HM.out.symm, HK.out⟩
    · have HY := Lib.hid (beg_yes p q (by omega) (fun j hj => HA.out j (by omega)))
      go_wp2
      go_ret
      exact ⟨ret_bool HY.out.symm, HK.out⟩
theorem beg_any_c (p q : ByteArray) (r : Bool) (hr : begS p q = r) (hp : p.size ≤ 1099511627776) (hq : q.size ≤ 1099511627776) (w : World) :
    Calls Try.prog 17 #[.string p, .string q] w fun e w' => e = .returned (.bool r) ∧ Ke w w' := by
  subst hr; exact beg_any p q w hp hq

set_option maxRecDepth 100000 in
set_option maxHeartbeats 4000000 in
theorem rbeg_any (p q : ByteArray) (w : World) (hp : p.size ≤ 1099511627776) (hq : q.size ≤ 1099511627776) :
    Calls Try.prog 18 #[.string p, .string q] w fun e w' => e = .returned (.bool (begS p q)) ∧ Ke w w' := by
  have hn1 := splS_le p
  have hn2 := splS_le q
  go_enter Try.func18, Try.ntmps18
  go_wp2_with fail
  go_at_call 9
  refine (rsplit_any p _ hp).mono ?_
  rintro e w1 ⟨b1, c1, rfl, hs1, hbb1, hk1⟩
  have hcm1 := hs1.2.1
  have hcx1 := hs1.2.2.1
  simp only [maxLen] at hcx1
  have HS1 := Lib.hid hs1
  have HK1 := Lib.hid hk1
  clear hs1 hk1 hbb1
  go_wp2_with fail
  go_at_call 9
  refine (rsplit_any q _ hq).mono ?_
  rintro e w2 ⟨b2, c2, rfl, hs2, hbb2, hk2⟩
  have hcm2 := hs2.2.1
  have hcx2 := hs2.2.2.1
  simp only [maxLen] at hcx2
  have HS2 := Lib.hid hs2
  have HS3 := Lib.hid (HS1.out.ke hk2)
  have HK := Lib.hid (HK1.out.trans hk2)
  clear hs2 hk2 hbb2 HS1 HK1
  by_cases hsh : (splS p).length < (splS q).length
  · have d1 : decide ((splS p).length < (splS q).length) = true := decide_eq_true hsh
    go_wp2
    go_ret
    exact ⟨ret_bool (beg_short p q hsh).symm, HK.out⟩
  have d1 : decide ((splS p).length < (splS q).length) = false := decide_eq_false hsh
  go_wp2
  go_loop [20] (fun i => ∃ k : Nat, k ≤ (splS q).length ∧ i = .int .i64 k ∧ ∀ j, j < k → (sg q j).data.toList = [42] ∨ (sg q j).data.toList = (sg p j).data.toList) (fun i => (splS q).length - (intOf i).toNat)
  case atStart => exact ⟨0, Nat.zero_le _, rfl, fun j hj => absurd hj (by omega)⟩
  case round =>
    obtain ⟨k, hkl, rfl, hall⟩ := hrel
    have HA := Lib.hid hall
    clear hall
    by_cases hlt : k < (splS q).length
    · have g1 := sl_at HS3.out (k := k) (by omega)
      have g2 := sl_at HS2.out hlt
      have kp : k < (splS p).length := by omega
      have kp2 : (k : Int) < (splS p).length := by omega
      have kq2 : (k : Int) < (splS q).length := by omega
      have k0 : (0 : Int) ≤ k := by omega
      have HN := Lib.hid (fun (h : (sg q k).data.toList = [42] ∨ (sg q k).data.toList = (sg p k).data.toList) (j : Nat) (hj : j < k + 1) => show (sg q j).data.toList = [42] ∨ (sg q j).data.toList = (sg p j).data.toList by
        rcases Nat.lt_or_ge j k with h3 | h3
        · exact HA.out j h3
        · obtain rfl : j = k := by omega
          exact h)
      by_cases hst : (sg q k).data.toList = [42]
      · have HM := Lib.hid (HN.out (.inl hst))
        by_cases hxs : (sg p k).data.toList = [42]
        · rw [star_yes hst] at g2
          rw [star_yes hxs] at g1
          clear hst hxs
          go_wp2
          go_round
          case rel => exact ⟨k + 1, hlt, by go_num, HM.out⟩
          case measure => simp [intOf]; omega
        · rw [star_yes hst] at g2
          obtain ⟨s1, s2⟩ := star_not hxs
          obtain ⟨s3, s4⟩ := star_not2 hxs
          clear hst hxs
          go_wp2
          go_round
          case rel => exact ⟨k + 1, hlt, by go_num, HM.out⟩
          case measure => simp [intOf]; omega
      · obtain ⟨s1, s2⟩ := star_not hst
        by_cases hxy : (sg q k).data.toList = (sg p k).data.toList
        · have HM := Lib.hid (HN.out (.inr hxy))
          rw [← ba_ext hxy] at g1
          clear hst hxy
          go_wp2
          go_round
          case rel => exact ⟨k + 1, hlt, by go_num, HM.out⟩
          case measure => simp [intOf]; omega
        · have HM := Lib.hid (beg_no p q k kp hlt hst hxy)
          obtain ⟨t1, t2, t3, t4⟩ := str_not hxy
          clear hst hxy
          go_wp2
          go_ret
          exact ⟨ret_bool HM.out.symm, HK.out⟩
    · have HY := Lib.hid (beg_yes p q (by omega) (fun j hj => HA.out j (by omega)))
      go_wp2
      go_ret
      exact ⟨ret_bool HY.out.symm, HK.out⟩
theorem rbeg_any_c (p q : ByteArray) (r : Bool) (hr : begS p q = r) (hp : p.size ≤ 1099511627776) (hq : q.size ≤ 1099511627776) (w : World) :
    Calls Try.prog 18 #[.string p, .string q] w fun e w' => e = .returned (.bool r) ∧ Ke w w' := by
  subst hr; exact rbeg_any p q w hp hq

set_option maxRecDepth 100000 in
set_option maxHeartbeats 2000000 in
theorem mat_any (p q : ByteArray) (w : World) (hp : p.size ≤ 1099511627776) (hq : q.size ≤ 1099511627776) :
    Calls Try.prog 19 #[.string p, .string q] w fun e w' => e = .returned (.bool (matS p q)) ∧ Ke w w' := by
  have HM := Lib.hid (mat_def p q)
  generalize hn : p.data.toList.count 47 = n at HM
  generalize hm : q.data.toList.count 47 = m at HM
  have HN := Lib.hid hn
  have HQ := Lib.hid hm
  clear hn hm
  by_cases he : n = m
  · have d1 : ((n : Int) == (m : Int)) = true := beq_iff_eq.2 (by omega)
    have d2 : (n == m) = true := beq_iff_eq.2 he
    have HR := Lib.hid (show matS p q = begS p q by rw [HM.out, d2, Bool.true_and])
    have HE := Lib.hid he
    clear he
    go_enter Try.func19, Try.ntmps19
    go_wp2_with fail
    go_at_call 25
    refine (strokes_any p _).mono ?_
    rintro e w1 ⟨rfl, rfl⟩
    rw [HN.out]
    go_wp2_with fail
    go_at_call 25
    refine (strokes_any q _).mono ?_
    rintro e w1 ⟨rfl, rfl⟩
    rw [HQ.out]
    go_wp2_with (go_at_call 17; ((with_reducible refine (beg_any p q _ hp hq).mono ?_); rintro e w1 ⟨rfl, hk⟩))
    go_ret
    exact ⟨ret_bool HR.out.symm, by assumption⟩
  · have d1 : ((n : Int) == (m : Int)) = false := beq_eq_false_iff_ne.2 (by omega)
    have d2 : (n == m) = false := beq_eq_false_iff_ne.2 he
    have HR := Lib.hid (show matS p q = false by rw [HM.out, d2, Bool.false_and])
    go_enter Try.func19, Try.ntmps19
    go_wp2_with fail
    go_at_call 25
    refine (strokes_any p _).mono ?_
    rintro e w1 ⟨rfl, rfl⟩
    rw [HN.out]
    go_wp2_with fail
    go_at_call 25
    refine (strokes_any q _).mono ?_
    rintro e w1 ⟨rfl, rfl⟩
    rw [HQ.out]
    go_wp2_with fail
    go_ret
    exact ⟨ret_bool HR.out.symm, Ke.refl _⟩

set_option maxRecDepth 100000 in
set_option maxHeartbeats 2000000 in
theorem rmat_any (p q : ByteArray) (w : World) (hp : p.size ≤ 1099511627776) (hq : q.size ≤ 1099511627776) :
    Calls Try.prog 20 #[.string p, .string q] w fun e w' => e = .returned (.bool (matS p q)) ∧ Ke w w' := by
  have HM := Lib.hid (show matS p q = (((splS p).length == (splS q).length) && begS p q) by rw [← spl_length, ← spl_length]; rfl)
  have hn1 := splS_le p
  have hn2 := splS_le q
  by_cases he : (splS p).length = (splS q).length
  · have d1 : (((splS p).length : Int) == ((splS q).length : Int)) = true := beq_iff_eq.2 (by omega)
    have d2 : ((splS p).length == (splS q).length) = true := beq_iff_eq.2 he
    have HR := Lib.hid (show matS p q = begS p q by rw [HM.out, d2, Bool.true_and])
    clear he
    go_enter Try.func20, Try.ntmps20
    go_wp2_with fail
    go_at_call 9
    refine (rsplit_any p _ hp).mono ?_
    rintro e w1 ⟨b1, c1, rfl, hs1, hbb1, hk1⟩
    have HK1 := Lib.hid hk1
    clear hs1 hbb1 hk1
    go_wp2_with fail
    go_at_call 9
    refine (rsplit_any q _ hq).mono ?_
    rintro e w2 ⟨b2, c2, rfl, hs2, hbb2, hk2⟩
    have HK2 := Lib.hid (HK1.out.trans hk2)
    clear hs2 hbb2 hk2
    go_wp2_with (go_at_call 18; ((with_reducible refine (rbeg_any p q _ hp hq).mono ?_); rintro e w3 ⟨rfl, hk⟩))
    go_ret
    exact ⟨ret_bool HR.out.symm, HK2.out.trans (by assumption)⟩
  · have d1 : (((splS p).length : Int) == ((splS q).length : Int)) = false := beq_eq_false_iff_ne.2 (by omega)
    have d2 : ((splS p).length == (splS q).length) = false := beq_eq_false_iff_ne.2 he
    have HR := Lib.hid (show matS p q = false by rw [HM.out, d2, Bool.false_and])
    go_enter Try.func20, Try.ntmps20
    go_wp2_with fail
    go_at_call 9
    refine (rsplit_any p _ hp).mono ?_
    rintro e w1 ⟨b1, c1, rfl, hs1, hbb1, hk1⟩
    have HK1 := Lib.hid hk1
    clear hs1 hbb1 hk1
    go_wp2_with fail
    go_at_call 9
    refine (rsplit_any q _ hq).mono ?_
    rintro e w2 ⟨b2, c2, rfl, hs2, hbb2, hk2⟩
    have HK2 := Lib.hid (HK1.out.trans hk2)
    clear hs2 hbb2 hk2
    go_wp2_with fail
    go_ret
    exact ⟨ret_bool HR.out.symm, HK2.out⟩
end Go.Proofs.Ytepjhijnihjedaa
