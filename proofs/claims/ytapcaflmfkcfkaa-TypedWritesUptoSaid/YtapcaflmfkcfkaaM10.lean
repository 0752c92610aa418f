/-
  What is proved: path.Begins and path.Match and the document's, called with any two texts of up to 2^40 bytes, return what P4.6 and P4.7 say; the world has new blocks at most.
  path.Apart and the document's, called with any two texts of up to 2^40 bytes, return what P4.8 says; the world has new blocks at most.
  the document's FieldRight of layer 11 (P11.1), called with any field of bounded texts, returns what that says; paths' questions with Kept; the world has new blocks at most.
-/
import Derived.Test.YtapcaflmfkcfkaaM9
import Derived.Deep.QuietTactic
import Derived.BigQuiet
import Derived.Test.YtapcaflmfkcfkaaM8
import Derived.Test.YtapcaflmfkcfkaaM3
namespace Go.Proofs.Ytapcaflmfkcfkaa.L4
open Go.RowKit

/-- Two texts that differ, in the walk's words. -/
theorem str_not {x y : ByteArray} (h : ¬ x.data.toList = y.data.toList) : (x.toList == y.toList) = false ∧ (x.toList != y.toList) = true ∧ (y.toList == x.toList) = false ∧ (y.toList != x.toList) = true := by
  rw [Lib.toList_data, Lib.toList_data]
  exact ⟨beq_eq_false_iff_ne.2 h, bne_iff_ne.2 h, beq_eq_false_iff_ne.2 (fun e => h e.symm), bne_iff_ne.2 (fun e => h e.symm)⟩
theorem star_not2 {s : ByteArray} (h : ¬ s.data.toList = [42]) : ([42] == s.toList) = false ∧ ([42] != s.toList) = true := by
  rw [Lib.toList_data]; exact ⟨beq_eq_false_iff_ne.2 (fun e => h e.symm), bne_iff_ne.2 (fun e => h e.symm)⟩

set_option maxRecDepth 100000 in
set_option maxHeartbeats 4000000 in
theorem beg_any (p q : ByteArray) (w : World) (hp : p.size ≤ 1099511627776) (hq : q.size ≤ 1099511627776) :
    Calls Try.prog 50 #[.string p, .string q] w fun e w' => e = .returned (.bool (begS p q)) ∧ Ke w w' := by
  have hn1 := splS_le p
  have hn2 := splS_le q
  go_enter Try.func50, Try.ntmps50
  go_wp2_with fail
  go_at_call 44
  refine (split_any p _ hp).mono ?_
  rintro e w1 ⟨b1, c1, rfl, hs1, hbb1, hk1⟩
  have hcm1 := hs1.2.1
  have hcx1 := hs1.2.2.1
  simp only [maxLen] at hcx1
  have HS1 := Lib.hid hs1
  have HK1 := Lib.hid hk1
  clear hs1 hk1 hbb1
  go_wp2_with fail
  go_at_call 44
  refine (split_any q _ hq).mono ?_
  rintro e w2 ⟨b2, c2, rfl, hs2, hbb2, hk2⟩
  have hcm2 := hs2.2.1
  have hcx2 := hs2.2.2.1
  simp only [maxLen] at hcx2
  have HS2 := Lib.hid hs2
  have HS3 := Lib.hid (HS1.out.ke hk2)
  have HK := Lib.hid (HK1.out.trans hk2)
  clear hs2 hk2 hbb2 HS1 HK1
  by_cases hsh : (splS p).length < (splS q).length
  · have d1 : decide ((splS p).length < (splS q).length) = true := decide_eq_true hsh
    go_wp2
    go_ret
    exact ⟨ret_bool (beg_short p q hsh).symm, HK.out⟩
  have d1 : decide ((splS p).length < (splS q).length) = false := decide_eq_false hsh
  go_wp2
  go_loop [20] (fun i => ∃ k : Nat, k ≤ (splS q).length ∧ i = .int .i64 k ∧ ∀ j, j < k → (sg q j).data.toList = [42] ∨ (sg q j).data.toList = (sg p j).data.toList) (fun i => (splS q).length - (intOf i).toNat)
  case atStart => exact ⟨0, Nat.zero_le _, rfl, fun j hj => absurd hj (by omega)⟩
  case round =>
    obtain ⟨k, hkl, rfl, hall⟩ := hrel
    have HA := Lib.hid hall
    clear hall
    by_cases hlt : k < (splS q).length
    · have g1 := sl_at HS3.out (k := k) (by omega)
      have g2 := sl_at HS2.out hlt
      have kp : k < (splS p).length := by omega
      have kp2 : (k : Int) < (splS p).length := by omega
      have kq2 : (k : Int) < (splS q).length := by omega
      have k0 : (0 : Int) ≤ k := by omega
      have HN := Lib.hid (fun (h : (sg q k).data.toList = [42] ∨ (sg q k).data.toList = (sg p k).data.toList) (j : Nat) (hj : j < k + 1) => show (sg q j).data.toList = [42] ∨ (sg q j).data.toList = (sg p j).data.toList by
        rcases Nat.lt_or_ge j k with h3 | h3
        · exact HA.out j h3
        · obtain rfl : j = k := by omega
          exact h)
      by_cases hst : (sg q k).data.toList = [42]
      · have HM := Lib.hid (HN.out (.inl hst))
        by_cases hxs : (sg p k).data.toList = [42]
        · rw [star_yes hst] at g2
          rw [star_yes hxs] at g1
          clear hst hxs
          go_wp2
          go_round
          case rel => exact ⟨k + 1, hlt, by go_num, HM.out⟩
          case measure => simp [intOf]; omega
        · rw [star_yes hst] at g2
          obtain ⟨s1, s2⟩ := star_not hxs
          obtain ⟨s3, s4⟩ := star_not2 hxs
          clear hst hxs
          go_wp2
          go_round
          case rel => exact ⟨k + 1, hlt, by go_num, HM.out⟩
          case measure => simp [intOf]; omega
      · obtain ⟨s1, s2⟩ := star_not hst
        by_cases hxy : (sg q k).data.toList = (sg p k).data.toList
        · have HM := Lib.hid (HN.out (.inr hxy))
          rw [← ba_ext hxy] at g1
          clear hst hxy
          go_wp2
          go_round
          case rel => exact ⟨k + 1, hlt, by go_num, HM.out⟩
          case measure => simp [intOf]; omega
        · have HM := Lib.hid (beg_no p q k kp hlt hst hxy)
          obtain ⟨t1, t2, t3, t4⟩ := str_not hxy
          clear hst hxy
          go_wp2
          go_ret
          exact ⟨ret_bool HM.out.symm, HK.out⟩
    · have HY := Lib.hid (beg_yes p q (by omega) (fun j hj => HA.out j (by omega)))
      go_wp2
      go_ret
      exact ⟨ret_bool HY.out.symm, HK.out⟩
theorem beg_any_c (p q : ByteArray) (r : Bool) (hr : begS p q = r) (hp : p.size ≤ 1099511627776) (hq : q.size ≤ 1099511627776) (w : World) :
    Calls Try.prog 50 #[.string p, .string q] w fun e w' => e = .returned (.bool r) ∧ Ke w w' := by
  subst hr; exact beg_any p q w hp hq

set_option maxRecDepth 100000 in
set_option maxHeartbeats 4000000 in
theorem rbeg_any (p q : ByteArray) (w : World) (hp : p.size ≤ 1099511627776) (hq : q.size ≤ 1099511627776) :
    Calls Try.prog 51 #[.string p, .string q] w fun e w' => e = .returned (.bool (begS p q)) ∧ Ke w w' := by
  have hn1 := splS_le p
  have hn2 := splS_le q
  go_enter Try.func51, Try.ntmps51
  go_wp2_with fail
  go_at_call 46
  refine (rsplit_any p _ hp).mono ?_
  rintro e w1 ⟨b1, c1, rfl, hs1, hbb1, hk1⟩
  have hcm1 := hs1.2.1
  have hcx1 := hs1.2.2.1
  simp only [maxLen] at hcx1
  have HS1 := Lib.hid hs1
  have HK1 := Lib.hid hk1
  clear hs1 hk1 hbb1
  go_wp2_with fail
  go_at_call 46
  refine (rsplit_any q _ hq).mono ?_
  rintro e w2 ⟨b2, c2, rfl, hs2, hbb2, hk2⟩
  have hcm2 := hs2.2.1
  have hcx2 := hs2.2.2.1
  simp only [maxLen] at hcx2
  have HS2 := Lib.hid hs2
  have HS3 := Lib.hid (HS1.out.ke hk2)
  have HK := Lib.hid (HK1.out.trans hk2)
  clear hs2 hk2 hbb2 HS1 HK1
  by_cases hsh : (splS p).length < (splS q).length
  · have d1 : decide ((splS p).length < (splS q).length) = true := decide_eq_true hsh
    go_wp2
    go_ret
    exact ⟨ret_bool (beg_short p q hsh).symm, HK.out⟩
  have d1 : decide ((splS p).length < (splS q).length) = false := decide_eq_false hsh
  go_wp2
  go_loop [20] (fun i => ∃ k : Nat, k ≤ (splS q).length ∧ i = .int .i64 k ∧ ∀ j, j < k → (sg q j).data.toList = [42] ∨ (sg q j).data.toList = (sg p j).data.toList) (fun i => (splS q).length - (intOf i).toNat)
  case atStart => exact ⟨0, Nat.zero_le _, rfl, fun j hj => absurd hj (by omega)⟩
  case round =>
    obtain ⟨k, hkl, rfl, hall⟩ := hrel
    have HA := Lib.hid hall
    clear hall
    by_cases hlt : k < (splS q).length
    · have g1 := sl_at HS3.out (k := k) (by omega)
      have g2 := sl_at HS2.out hlt
      have kp : k < (splS p).length := by omega
      have kp2 : (k : Int) < (splS p).length := by omega
      have kq2 : (k : Int) < (splS q).length := by omega
      have k0 : (0 : Int) ≤ k := by omega
      have HN := Lib.hid (fun (h : (sg q k).data.toList = [42] ∨ (sg q k).data.toList = (sg p k).data.toList) (j : Nat) (hj : j < k + 1) => show (sg q j).data.toList = [42] ∨ (sg q j).data.toList = (sg p j).data.toList by
        rcases Nat.lt_or_ge j k with h3 | h3
        · exact HA.out j h3
        · obtain rfl : j = k := by omega
          exact h)
      by_cases hst : (sg q k).data.toList = [42]
      · have HM := Lib.hid (HN.out (.inl hst))
        by_cases hxs : (sg p k).data.toList = [42]
        · rw [star_yes hst] at g2
          rw [star_yes hxs] at g1
          clear hst hxs
          go_wp2
          go_round
          case rel => exact ⟨k + 1, hlt, by go_num, HM.out⟩
          case measure => simp [intOf]; omega
        · rw [star_yes hst] at g2
          obtain ⟨s1, s2⟩ := star_not hxs
          obtain ⟨s3, s4⟩ := star_not2 hxs
          clear hst hxs
          go_wp2
          go_round
          case rel => exact ⟨k + 1, hlt, by go_num, HM.out⟩
          case measure => simp [intOf]; omega
      · obtain ⟨s1, s2⟩ := star_not hst
        by_cases hxy : (sg q k).data.toList = (sg p k).data.toList
        · have HM := Lib.hid (HN.out (.inr hxy))
          rw [← ba_ext hxy] at g1
          clear hst hxy
          go_wp2
          go_round
          case rel => exact ⟨k + 1, hlt, by go_num, HM.out⟩
          case measure => simp [intOf]; omega
        · have HM := Lib.hid (beg_no p q k kp hlt hst hxy)
          obtain ⟨t1, t2, t3, t4⟩ := str_not hxy
          clear hst hxy
          go_wp2
          go_ret
          exact ⟨ret_bool HM.out.symm, HK.out⟩
    · have HY := Lib.hid (beg_yes p q (by omega) (fun j hj => HA.out j (by omega)))
      go_wp2
      go_ret
      exact ⟨ret_bool HY.out.symm, HK.out⟩
theorem rbeg_any_c (p q : ByteArray) (r : Bool) (hr : begS p q = r) (hp : p.size ≤ 1099511627776) (hq : q.size ≤ 1099511627776) (w : World) :
    Calls Try.prog 51 #[.string p, .string q] w fun e w' => e = .returned (.bool r) ∧ Ke w w' := by
  subst hr; exact rbeg_any p q w hp hq

set_option maxRecDepth 100000 in
set_option maxHeartbeats 2000000 in
theorem mat_any (p q : ByteArray) (w : World) (hp : p.size ≤ 1099511627776) (hq : q.size ≤ 1099511627776) :
    Calls Try.prog 34 #[.string p, .string q] w fun e w' => e = .returned (.bool (matS p q)) ∧ Ke w w' := by
  have HM := Lib.hid (mat_def p q)
  generalize hn : p.data.toList.count 47 = n at HM
  generalize hm : q.data.toList.count 47 = m at HM
  have HN := Lib.hid hn
  have HQ := Lib.hid hm
  clear hn hm
  by_cases he : n = m
  · have d1 : ((n : Int) == (m : Int)) = true := beq_iff_eq.2 (by omega)
    have d2 : (n == m) = true := beq_iff_eq.2 he
    have HR := Lib.hid (show matS p q = begS p q by rw [HM.out, d2, Bool.true_and])
    have HE := Lib.hid he
    clear he
    go_enter Try.func34, Try.ntmps34
    go_wp2_with fail
    go_at_call 49
    refine (strokes_any p _).mono ?_
    rintro e w1 ⟨rfl, rfl⟩
    rw [HN.out]
    go_wp2_with fail
    go_at_call 49
    refine (strokes_any q _).mono ?_
    rintro e w1 ⟨rfl, rfl⟩
    rw [HQ.out]
    go_wp2_with (go_at_call 50; ((with_reducible refine (beg_any p q _ hp hq).mono ?_); rintro e w1 ⟨rfl, hk⟩))
    go_ret
    exact ⟨ret_bool HR.out.symm, by assumption⟩
  · have d1 : ((n : Int) == (m : Int)) = false := beq_eq_false_iff_ne.2 (by omega)
    have d2 : (n == m) = false := beq_eq_false_iff_ne.2 he
    have HR := Lib.hid (show matS p q = false by rw [HM.out, d2, Bool.false_and])
    go_enter Try.func34, Try.ntmps34
    go_wp2_with fail
    go_at_call 49
    refine (strokes_any p _).mono ?_
    rintro e w1 ⟨rfl, rfl⟩
    rw [HN.out]
    go_wp2_with fail
    go_at_call 49
    refine (strokes_any q _).mono ?_
    rintro e w1 ⟨rfl, rfl⟩
    rw [HQ.out]
    go_wp2_with fail
    go_ret
    exact ⟨ret_bool HR.out.symm, Ke.refl _⟩

set_option maxRecDepth 100000 in
set_option maxHeartbeats 2000000 in
theorem rmat_any (p q : ByteArray) (w : World) (hp : p.size ≤ 1099511627776) (hq : q.size ≤ 1099511627776) :
    Calls Try.prog 38 #[.string p, .string q] w fun e w' => e = .returned (.bool (matS p q)) ∧ Ke w w' := by
  have HM := Lib.hid (show matS p q = (((splS p).length == (splS q).length) && begS p q) by rw [← spl_length, ← spl_length]; rfl)
  have hn1 := splS_le p
  have hn2 := splS_le q
  by_cases he : (splS p).length = (splS q).length
  · have d1 : (((splS p).length : Int) == ((splS q).length : Int)) = true := beq_iff_eq.2 (by omega)
    have d2 : ((splS p).length == (splS q).length) = true := beq_iff_eq.2 he
    have HR := Lib.hid (show matS p q = begS p q by rw [HM.out, d2, Bool.true_and])
    clear he
    go_enter Try.func38, Try.ntmps38
    go_wp2_with fail
    go_at_call 46
    refine (rsplit_any p _ hp).mono ?_
    rintro e w1 ⟨b1, c1, rfl, hs1, hbb1, hk1⟩
    have HK1 := Lib.hid hk1
    clear hs1 hbb1 hk1
    go_wp2_with fail
    go_at_call 46
    refine (rsplit_any q _ hq).mono ?_
    rintro e w2 ⟨b2, c2, rfl, hs2, hbb2, hk2⟩
    have HK2 := Lib.hid (HK1.out.trans hk2)
    clear hs2 hbb2 hk2
    go_wp2_with (go_at_call 51; ((with_reducible refine (rbeg_any p q _ hp hq).mono ?_); rintro e w3 ⟨rfl, hk⟩))
    go_ret
    exact ⟨ret_bool HR.out.symm, HK2.out.trans (by assumption)⟩
  · have d1 : (((splS p).length : Int) == ((splS q).length : Int)) = false := beq_eq_false_iff_ne.2 (by omega)
    have d2 : ((splS p).length == (splS q).length) = false := beq_eq_false_iff_ne.2 he
    have HR := Lib.hid (show matS p q = false by rw [HM.out, d2, Bool.false_and])
    go_enter Try.func38, Try.ntmps38
    go_wp2_with fail
    go_at_call 46
    refine (rsplit_any p _ hp).mono ?_
    rintro e w1 ⟨b1, c1, rfl, hs1, hbb1, hk1⟩
    have HK1 := Lib.hid hk1
    clear hs1 hbb1 hk1
    go_wp2_with fail
    go_at_call 46
    refine (rsplit_any q _ hq).mono ?_
    rintro e w2 ⟨b2, c2, rfl, hs2, hbb2, hk2⟩
    have HK2 := Lib.hid (HK1.out.trans hk2)
    clear hs2 hbb2 hk2
    go_wp2_with fail
    go_ret
    exact ⟨ret_bool HR.out.symm, HK2.out⟩
end Go.Proofs.Ytapcaflmfkcfkaa.L4

namespace Go.Proofs.Ytapcaflmfkcfkaa.L4
open Go.RowKit

set_option maxRecDepth 100000 in
set_option maxHeartbeats 4000000 in
theorem rap_any (p q : ByteArray) (w : World) (hp : p.size ≤ 1099511627776) (hq : q.size ≤ 1099511627776) :
    Calls Try.prog 29 #[.string p, .string q] w fun e w' => e = .returned (.bool (apS p q)) ∧ Ke w w' := by
  have hn1 := splS_le p
  have hn2 := splS_le q
  obtain ⟨mn, hmn⟩ : ∃ mn : Nat, mn = min (splS p).length (splS q).length := ⟨_, rfl⟩
  have hm1 : mn ≤ (splS p).length := by omega
  have hm2 : mn ≤ (splS q).length := by omega
  have hm3 : mn = (splS p).length ∨ mn = (splS q).length := by omega
  have HMN := Lib.hid hmn
  have HM3 := Lib.hid hm3
  clear hmn hm3
  go_enter Try.func29, Try.ntmps29
  go_wp2_with fail
  go_at_call 46
  refine (rsplit_any p _ hp).mono ?_
  rintro e w1 ⟨b1, c1, rfl, hs1, hbb1, hk1⟩
  have hcm1 := hs1.2.1
  have hcx1 := hs1.2.2.1
  simp only [maxLen] at hcx1
  have HS1 := Lib.hid hs1
  have HK1 := Lib.hid hk1
  clear hs1 hk1 hbb1
  go_wp2_with fail
  go_at_call 46
  refine (rsplit_any q _ hq).mono ?_
  rintro e w2 ⟨b2, c2, rfl, hs2, hbb2, hk2⟩
  have hcm2 := hs2.2.1
  have hcx2 := hs2.2.2.1
  simp only [maxLen] at hcx2
  have HS2 := Lib.hid hs2
  have HS3 := Lib.hid (HS1.out.ke hk2)
  have HK := Lib.hid (HK1.out.trans hk2)
  clear hs2 hk2 hbb2 HS1 HK1
  go_wp2
  go_loopw [7] (fun i wr => ∃ k j : Nat, k ≤ mn ∧ i = .int .i64 k ∧ wr = w2.drewN j ∧ ∀ i, i < k → (sg p i).data.toList = (sg q i).data.toList) (fun i _ => mn - (intOf i).toNat)
  case atStart => exact ⟨0, 0, Nat.zero_le _, rfl, rfl, fun j hj => absurd hj (by omega)⟩
  case round =>
    obtain ⟨k, j, hkl, rfl, rfl, hall⟩ := hrel
    have HA := Lib.hid hall
    clear hall
    by_cases hlt : k < mn
    · have kp : k < (splS p).length := by omega
      have kq : k < (splS q).length := by omega
      have g1 := sl_at HS3.out kp
      have g2 := sl_at HS2.out kq
      have kp2 : (k : Int) < (splS p).length := by omega
      have kq2 : (k : Int) < (splS q).length := by omega
      have k0 : (0 : Int) ≤ k := by omega
      by_cases hxy : (sg p k).data.toList = (sg q k).data.toList
      · have HX := Lib.hid hxy
        rw [← ba_ext hxy] at g2
        clear hxy
        go_wp2
        go_quiet (fail)
        go_wp2
        go_roundw
        case rel =>
          refine ⟨k + 1, _, hlt, by go_num, rfl, fun i hi => ?_⟩
          rcases Nat.lt_or_ge i k with h3 | h3
          · exact HA.out i h3
          · obtain rfl : i = k := by omega
            exact HX.out
        case measure => simp [intOf]; omega
      · have HR := Lib.hid (ap_at p q k kp kq HA.out hxy)
        obtain ⟨t1, t2, t3, t4⟩ := str_not hxy
        by_cases hx : (sg p k).data.toList = [42]
        · have hy : ¬ (sg q k).data.toList = [42] := fun e => hxy (hx.trans e.symm)
          have HF := Lib.hid (show apS p q = false by rw [HR.out, hx]; rfl)
          rw [star_yes hx] at g1
          obtain ⟨s1, s2⟩ := star_not hy
          obtain ⟨s3, s4⟩ := star_not2 hy
          clear hx hy hxy t1 t2 t3 t4
          go_wp2
          go_quiet (fail)
          go_wp2
          go_ret
          exact ⟨ret_bool HF.out.symm, HK.out.drewN _⟩
        · obtain ⟨s1, s2⟩ := star_not hx
          obtain ⟨s3, s4⟩ := star_not2 hx
          by_cases hy : (sg q k).data.toList = [42]
          · have HF := Lib.hid (show apS p q = false by rw [HR.out, hy, Bool.and_comm]; rfl)
            rw [star_yes hy] at g2
            clear hx hy hxy t1 t2 t3 t4
            go_wp2
            go_quiet (fail)
            go_wp2
            go_ret
            exact ⟨ret_bool HF.out.symm, HK.out.drewN _⟩
          · have HF := Lib.hid (show apS p q = true by rw [HR.out, bne_iff_ne.2 hx, bne_iff_ne.2 hy]; rfl)
            obtain ⟨s5, s6⟩ := star_not hy
            clear hx hy hxy
            go_wp2
            go_quiet (fail)
            go_wp2
            go_ret
            exact ⟨ret_bool HF.out.symm, HK.out.drewN _⟩
    · have HE := Lib.hid (ap_end p q (fun i h1 h2 => HA.out i (by have := HM3.out; omega)))
      by_cases hpp : k < (splS p).length
      · have d1 : decide ((k : Int) < (splS p).length) = true := decide_eq_true (by omega)
        have d2 : decide ((k : Int) < (splS q).length) = false := decide_eq_false (by have := HM3.out; omega)
        have d3 : decide (k < (splS p).length) = true := decide_eq_true (by omega)
        have d4 : decide (k < (splS q).length) = false := decide_eq_false (by have := HM3.out; omega)
        go_wp2
        go_ret
        exact ⟨ret_bool HE.out.symm, HK.out.drewN _⟩
      · have d1 : decide ((k : Int) < (splS p).length) = false := decide_eq_false (by omega)
        have d3 : decide (k < (splS p).length) = false := decide_eq_false (by omega)
        go_wp2
        go_ret
        exact ⟨ret_bool HE.out.symm, HK.out.drewN _⟩
theorem rap_any_c (p q : ByteArray) (r : Bool) (hr : apS p q = r) (hp : p.size ≤ 1099511627776) (hq : q.size ≤ 1099511627776) (w : World) :
    Calls Try.prog 29 #[.string p, .string q] w fun e w' => e = .returned (.bool r) ∧ Ke w w' := by
  subst hr; exact rap_any p q w hp hq
end Go.Proofs.Ytapcaflmfkcfkaa.L4

namespace Go.Proofs.Ytapcaflmfkcfkaa
open Go.RowKit
set_option linter.unusedVariables false

theorem rpatK (p : ByteArray) (b : Bool) (h : L4.patS p = b) (hp : p.size ≤ 1099511627776) (w : World) :
    Calls Try.prog 48 #[.string p] w fun e w' => e = .returned (.bool b) ∧ Kept w w' := by
  subst h
  exact (L4.rpat_any p w hp).mono fun _ _ ⟨he, hk⟩ => ⟨he, kept_of_below hk⟩
theorem rmatK (p q : ByteArray) (b : Bool) (h : L4.matS p q = b) (hp : p.size ≤ 1099511627776) (hq : q.size ≤ 1099511627776) (w : World) :
    Calls Try.prog 38 #[.string p, .string q] w fun e w' => e = .returned (.bool b) ∧ Kept w w' := by
  subst h
  exact (L4.rmat_any p q w hp hq).mono fun _ _ ⟨he, hk⟩ => ⟨he, kept_of_below hk⟩
theorem rapK (p q : ByteArray) (b : Bool) (h : L4.apS p q = b) (hp : p.size ≤ 1099511627776) (hq : q.size ≤ 1099511627776) (w : World) :
    Calls Try.prog 29 #[.string p, .string q] w fun e w' => e = .returned (.bool b) ∧ Kept w w' := by
  subst h
  exact (L4.rap_any p q w hp hq).mono fun _ _ ⟨he, hk⟩ => ⟨he, kept_of_below hk⟩
theorem zero_val (x : Fd) : (x.vk = 0 ∧ x.vn = 0 ∧ x.vt = ⟨#[]⟩ ∧ zeroF x = true) ∨ (zeroF x = false ∧ ((x.vk == 0) = false ∨ ((x.vk == 0) = true ∧ (x.vn == 0) = false) ∨ ((x.vk == 0) = true ∧ (x.vn == 0) = true ∧ x.vt.toList ≠ [] ∧ x.vt.toList.isEmpty = false ∧ (x.vt.toList == []) = false))) := by
  by_cases h1 : x.vk = 0
  · by_cases h2 : x.vn = 0
    · by_cases h3 : x.vt.size = 0
      · exact .inl ⟨h1, h2, empty_of h3, by unfold zeroF; exact decide_eq_true ⟨h1, h2, h3⟩⟩
      · exact .inr ⟨by unfold zeroF; exact decide_eq_false fun h => h3 h.2.2, .inr (.inr ⟨beq_iff_eq.2 h1, beq_iff_eq.2 h2, full_of h3⟩)⟩
    · exact .inr ⟨by unfold zeroF; exact decide_eq_false fun h => h2 h.2.1, .inr (.inl ⟨beq_iff_eq.2 h1, by simpa using h2⟩)⟩
  · exact .inr ⟨by unfold zeroF; exact decide_eq_false fun h => h1 h.1, .inl (by simpa using h1)⟩
set_option maxRecDepth 100000 in
set_option maxHeartbeats 8000000 in
theorem rfr_any (x : Fd) (w : World) (hp : x.p.size ≤ 1099511627776) (ht : x.vt.size ≤ 1099511627776) :
    Calls Try.prog 28 #[.agg #[.string x.p, .int .i64 x.k, .int .i64 x.t, .int .i64 x.vk, .int .i64 x.vn, .string x.vt]] w fun e w' => e = .returned (.bool (rightF x)) ∧ Kept w w' := by
  have HB := Lib.hid (FdB.new w x 44)
  have HK := Lib.hid ((Kept.refl w).alloc #[.string x.p, .int .i64 x.k, .int .i64 x.t, .int .i64 x.vk, .int .i64 x.vn, .string x.vt] 44)
  have b0 := HB.out.c0
  cases hpat : L4.patS x.p with
  | false =>
    have A1 := Lib.hid (fun w => rpatK x.p false hpat hp w)
    have HR := Lib.hid (show false = rightF x by unfold rightF; rw [hpat]; rfl)
    clear hpat hp ht
    go_enter Try.func28, Try.ntmps28
    go_wp2_with fail
    go_at_call 48
    refine (A1.out _).mono ?_
    rintro e w1 ⟨rfl, hk⟩
    replace HK := Lib.hid (HK.out.trans hk)
    clear hk b0
    go_wp2_with fail
    go_ret
    exact ⟨ret_bool HR.out, HK.out⟩
  | true =>
    have A1 := Lib.hid (fun w => rpatK x.p true hpat hp w)
    have HRR := Lib.hid (show rightF x = kindF x by unfold rightF; rw [hpat]; rfl)
    rcases (show x.k = 1 ∨ x.k = 2 ∨ x.k = 3 ∨ ((x.k == 1) = false ∧ (x.k == 2) = false ∧ (x.k == 3) = false ∧ x.k ≠ 1 ∧ x.k ≠ 2 ∧ x.k ≠ 3) by
      by_cases h1 : x.k = 1
      · exact .inl h1
      · by_cases h2 : x.k = 2
        · exact .inr (.inl h2)
        · by_cases h3 : x.k = 3
          · exact .inr (.inr (.inl h3))
          · exact .inr (.inr (.inr ⟨by simpa using h1, by simpa using h2, by simpa using h3, h1, h2, h3⟩))) with hk1 | hk1 | hk1 | ⟨e1, e2, e3, n1, n2, n3⟩
    · obtain ⟨vr, hvr⟩ : ∃ r, rightB x.vk x.vn x.vt = r := ⟨_, rfl⟩
      have A2 := Lib.hid (fun w => rright_c x.vk x.vn x.vt vr hvr w (by omega))
      have HK1 := Lib.hid hk1
      cases vr with
      | false =>
        have HR := Lib.hid (show false = rightF x by rw [HRR.out]; unfold kindF; rw [hvr, decide_eq_true hk1, decide_eq_false (by omega : ¬ (x.k = 2 ∧ 1 ≤ x.t ∧ x.t ≤ 3)), decide_eq_false (by omega : ¬ (x.k = 3 ∧ x.t = 1))]; simp)
        clear hpat hp ht hk1 hvr
        go_enter Try.func28, Try.ntmps28
        go_wp2_with fail
        go_at_call 48
        refine (A1.out _).mono ?_
        rintro e w1 ⟨rfl, hk⟩
        have hb := HB.out.kept hk
        replace HK := Lib.hid (HK.out.trans hk)
        have b1 := hb.c1; have b2 := hb.c2; have b3 := hb.c3; have b4 := hb.c4; have b5 := hb.c5
        rw [HK1.out] at b1
        replace HB := Lib.hid hb
        clear hb hk b0
        go_wp2_with fail
        go_at_call 40
        refine (A2.out _).mono ?_
        rintro e w2 ⟨rfl, hg⟩
        have hk := kept_of hg
        have hb := HB.out.kept hk
        replace HK := Lib.hid (HK.out.trans hk)
        clear b1 b2 b3 b4 b5 hg hk
        have b1 := hb.c1; have b2 := hb.c2; have b3 := hb.c3; have b4 := hb.c4; have b5 := hb.c5
        clear hb
        go_wp2_with fail
        go_ret
        exact ⟨ret_bool HR.out, HK.out⟩
      | true =>
        by_cases ht1 : x.vk = x.t
        · have et : (x.vk == x.t) = true := beq_iff_eq.2 ht1
          have HR := Lib.hid (show true = rightF x by rw [HRR.out]; unfold kindF; rw [hvr, decide_eq_true hk1, decide_eq_false (by omega : ¬ (x.k = 2 ∧ 1 ≤ x.t ∧ x.t ≤ 3)), decide_eq_false (by omega : ¬ (x.k = 3 ∧ x.t = 1)), decide_eq_true ht1]; simp)
          clear hpat hp ht hk1 ht1 hvr
          go_enter Try.func28, Try.ntmps28
          go_wp2_with fail
          go_at_call 48
          refine (A1.out _).mono ?_
          rintro e w1 ⟨rfl, hk⟩
          have hb := HB.out.kept hk
          replace HK := Lib.hid (HK.out.trans hk)
          have b1 := hb.c1; have b2 := hb.c2; have b3 := hb.c3; have b4 := hb.c4; have b5 := hb.c5
          rw [HK1.out] at b1
          replace HB := Lib.hid hb
          clear hb hk b0
          go_wp2_with fail
          go_at_call 40
          refine (A2.out _).mono ?_
          rintro e w2 ⟨rfl, hg⟩
          have hk := kept_of hg
          have hb := HB.out.kept hk
          replace HK := Lib.hid (HK.out.trans hk)
          clear b1 b2 b3 b4 b5 hg hk
          have b1 := hb.c1; have b2 := hb.c2; have b3 := hb.c3; have b4 := hb.c4; have b5 := hb.c5
          clear hb
          go_wp2_with fail
          go_ret
          exact ⟨ret_bool HR.out, HK.out⟩
        · have et : (x.vk == x.t) = false := by simpa using ht1
          have HR := Lib.hid (show false = rightF x by rw [HRR.out]; unfold kindF; rw [hvr, decide_eq_true hk1, decide_eq_false (by omega : ¬ (x.k = 2 ∧ 1 ≤ x.t ∧ x.t ≤ 3)), decide_eq_false (by omega : ¬ (x.k = 3 ∧ x.t = 1)), decide_eq_false ht1]; simp)
          clear hpat hp ht hk1 ht1 hvr
          go_enter Try.func28, Try.ntmps28
          go_wp2_with fail
          go_at_call 48
          refine (A1.out _).mono ?_
          rintro e w1 ⟨rfl, hk⟩
          have hb := HB.out.kept hk
          replace HK := Lib.hid (HK.out.trans hk)
          have b1 := hb.c1; have b2 := hb.c2; have b3 := hb.c3; have b4 := hb.c4; have b5 := hb.c5
          rw [HK1.out] at b1
          replace HB := Lib.hid hb
          clear hb hk b0
          go_wp2_with fail
          go_at_call 40
          refine (A2.out _).mono ?_
          rintro e w2 ⟨rfl, hg⟩
          have hk := kept_of hg
          have hb := HB.out.kept hk
          replace HK := Lib.hid (HK.out.trans hk)
          clear b1 b2 b3 b4 b5 hg hk
          have b1 := hb.c1; have b2 := hb.c2; have b3 := hb.c3; have b4 := hb.c4; have b5 := hb.c5
          clear hb
          go_wp2_with fail
          go_ret
          exact ⟨ret_bool HR.out, HK.out⟩
    · have HK1 := Lib.hid hk1
      by_cases g1 : 1 ≤ x.t
      · by_cases g2 : x.t ≤ 3
        · have t1 : decide (1 ≤ x.t) = true := decide_eq_true g1
          have t2 : decide (x.t ≤ 3) = true := decide_eq_true g2
          rcases zero_val x with ⟨h1, h2, h3, hzf⟩ | ⟨hzf, q1 | ⟨q1, q2⟩ | ⟨q1, q2, q3, q4, q5⟩⟩
          · have HV1 := Lib.hid h1; have HV2 := Lib.hid h2; have HV3 := Lib.hid h3
            have HR := Lib.hid (show true = rightF x by rw [HRR.out]; unfold kindF; rw [decide_eq_false (by omega : ¬ x.k = 1), hzf, decide_eq_true (⟨hk1, g1, g2⟩ : x.k = 2 ∧ 1 ≤ x.t ∧ x.t ≤ 3)]; simp)
            clear hpat hp ht hk1 h1 h2 h3 hzf g1 g2
            go_enter Try.func28, Try.ntmps28
            go_wp2_with fail
            go_at_call 48
            refine (A1.out _).mono ?_
            rintro e w1 ⟨rfl, hk⟩
            have hb := HB.out.kept hk
            replace HK := Lib.hid (HK.out.trans hk)
            have b1 := hb.c1; have b2 := hb.c2; have b3 := hb.c3; have b4 := hb.c4; have b5 := hb.c5
            rw [HK1.out] at b1
            rw [HV1.out] at b3
            rw [HV2.out] at b4
            rw [HV3.out] at b5
            replace HB := Lib.hid hb
            clear hb hk b0
            go_wp2_with fail
            go_ret
            exact ⟨ret_bool HR.out, HK.out⟩
          · have HR := Lib.hid (show false = rightF x by rw [HRR.out]; unfold kindF; rw [decide_eq_false (by omega : ¬ x.k = 1), hzf, decide_eq_true (⟨hk1, g1, g2⟩ : x.k = 2 ∧ 1 ≤ x.t ∧ x.t ≤ 3)]; simp)
            clear hpat hp ht hk1 hzf g1 g2
            go_enter Try.func28, Try.ntmps28
            go_wp2_with fail
            go_at_call 48
            refine (A1.out _).mono ?_
            rintro e w1 ⟨rfl, hk⟩
            have hb := HB.out.kept hk
            replace HK := Lib.hid (HK.out.trans hk)
            have b1 := hb.c1; have b2 := hb.c2; have b3 := hb.c3; have b4 := hb.c4; have b5 := hb.c5
            rw [HK1.out] at b1
            replace HB := Lib.hid hb
            clear hb hk b0
            go_wp2_with fail
            go_ret
            exact ⟨ret_bool HR.out, HK.out⟩
          · have HR := Lib.hid (show false = rightF x by rw [HRR.out]; unfold kindF; rw [decide_eq_false (by omega : ¬ x.k = 1), hzf, decide_eq_true (⟨hk1, g1, g2⟩ : x.k = 2 ∧ 1 ≤ x.t ∧ x.t ≤ 3)]; simp)
            clear hpat hp ht hk1 hzf g1 g2
            go_enter Try.func28, Try.ntmps28
            go_wp2_with fail
            go_at_call 48
            refine (A1.out _).mono ?_
            rintro e w1 ⟨rfl, hk⟩
            have hb := HB.out.kept hk
            replace HK := Lib.hid (HK.out.trans hk)
            have b1 := hb.c1; have b2 := hb.c2; have b3 := hb.c3; have b4 := hb.c4; have b5 := hb.c5
            rw [HK1.out] at b1
            replace HB := Lib.hid hb
            clear hb hk b0
            go_wp2_with fail
            go_ret
            exact ⟨ret_bool HR.out, HK.out⟩
          · have HR := Lib.hid (show false = rightF x by rw [HRR.out]; unfold kindF; rw [decide_eq_false (by omega : ¬ x.k = 1), hzf, decide_eq_true (⟨hk1, g1, g2⟩ : x.k = 2 ∧ 1 ≤ x.t ∧ x.t ≤ 3)]; simp)
            clear hpat hp ht hk1 hzf g1 g2
            go_enter Try.func28, Try.ntmps28
            go_wp2_with fail
            go_at_call 48
            refine (A1.out _).mono ?_
            rintro e w1 ⟨rfl, hk⟩
            have hb := HB.out.kept hk
            replace HK := Lib.hid (HK.out.trans hk)
            have b1 := hb.c1; have b2 := hb.c2; have b3 := hb.c3; have b4 := hb.c4; have b5 := hb.c5
            rw [HK1.out] at b1
            replace HB := Lib.hid hb
            clear hb hk b0
            go_wp2_with fail
            go_ret
            exact ⟨ret_bool HR.out, HK.out⟩
        · have t1 : decide (1 ≤ x.t) = true := decide_eq_true g1
          have t2 : decide (x.t ≤ 3) = false := decide_eq_false g2
          have HR := Lib.hid (show false = rightF x by rw [HRR.out]; unfold kindF; rw [decide_eq_false (by omega : ¬ x.k = 1), decide_eq_false (by omega : ¬ (x.k = 2 ∧ 1 ≤ x.t ∧ x.t ≤ 3)), decide_eq_false (by omega : ¬ (x.k = 3 ∧ x.t = 1))]; simp)
          clear hpat hp ht hk1 g1 g2
          go_enter Try.func28, Try.ntmps28
          go_wp2_with fail
          go_at_call 48
          refine (A1.out _).mono ?_
          rintro e w1 ⟨rfl, hk⟩
          have hb := HB.out.kept hk
          replace HK := Lib.hid (HK.out.trans hk)
          have b1 := hb.c1; have b2 := hb.c2; have b3 := hb.c3; have b4 := hb.c4; have b5 := hb.c5
          rw [HK1.out] at b1
          replace HB := Lib.hid hb
          clear hb hk b0
          go_wp2_with fail
          go_ret
          exact ⟨ret_bool HR.out, HK.out⟩
      · have t1 : decide (1 ≤ x.t) = false := decide_eq_false g1
        have HR := Lib.hid (show false = rightF x by rw [HRR.out]; unfold kindF; rw [decide_eq_false (by omega : ¬ x.k = 1), decide_eq_false (by omega : ¬ (x.k = 2 ∧ 1 ≤ x.t ∧ x.t ≤ 3)), decide_eq_false (by omega : ¬ (x.k = 3 ∧ x.t = 1))]; simp)
        clear hpat hp ht hk1 g1
        go_enter Try.func28, Try.ntmps28
        go_wp2_with fail
        go_at_call 48
        refine (A1.out _).mono ?_
        rintro e w1 ⟨rfl, hk⟩
        have hb := HB.out.kept hk
        replace HK := Lib.hid (HK.out.trans hk)
        have b1 := hb.c1; have b2 := hb.c2; have b3 := hb.c3; have b4 := hb.c4; have b5 := hb.c5
        rw [HK1.out] at b1
        replace HB := Lib.hid hb
        clear hb hk b0
        go_wp2_with fail
        go_ret
        exact ⟨ret_bool HR.out, HK.out⟩
    · have HK1 := Lib.hid hk1
      by_cases g1 : x.t = 1
      · have t1 : (x.t == 1) = true := beq_iff_eq.2 g1
        rcases zero_val x with ⟨h1, h2, h3, hzf⟩ | ⟨hzf, q1 | ⟨q1, q2⟩ | ⟨q1, q2, q3, q4, q5⟩⟩
        · have HV1 := Lib.hid h1; have HV2 := Lib.hid h2; have HV3 := Lib.hid h3
          have HR := Lib.hid (show true = rightF x by rw [HRR.out]; unfold kindF; rw [decide_eq_false (by omega : ¬ x.k = 1), hzf, decide_eq_false (by omega : ¬ (x.k = 2 ∧ 1 ≤ x.t ∧ x.t ≤ 3)), decide_eq_true (⟨hk1, g1⟩ : x.k = 3 ∧ x.t = 1)]; simp)
          clear hpat hp ht hk1 h1 h2 h3 hzf g1
          go_enter Try.func28, Try.ntmps28
          go_wp2_with fail
          go_at_call 48
          refine (A1.out _).mono ?_
          rintro e w1 ⟨rfl, hk⟩
          have hb := HB.out.kept hk
          replace HK := Lib.hid (HK.out.trans hk)
          have b1 := hb.c1; have b2 := hb.c2; have b3 := hb.c3; have b4 := hb.c4; have b5 := hb.c5
          rw [HK1.out] at b1
          rw [HV1.out] at b3
          rw [HV2.out] at b4
          rw [HV3.out] at b5
          replace HB := Lib.hid hb
          clear hb hk b0
          go_wp2_with fail
          go_ret
          exact ⟨ret_bool HR.out, HK.out⟩
        · have HR := Lib.hid (show false = rightF x by rw [HRR.out]; unfold kindF; rw [decide_eq_false (by omega : ¬ x.k = 1), hzf, decide_eq_false (by omega : ¬ (x.k = 2 ∧ 1 ≤ x.t ∧ x.t ≤ 3)), decide_eq_true (⟨hk1, g1⟩ : x.k = 3 ∧ x.t = 1)]; simp)
          clear hpat hp ht hk1 hzf g1
          go_enter Try.func28, Try.ntmps28
          go_wp2_with fail
          go_at_call 48
          refine (A1.out _).mono ?_
          rintro e w1 ⟨rfl, hk⟩
          have hb := HB.out.kept hk
          replace HK := Lib.hid (HK.out.trans hk)
          have b1 := hb.c1; have b2 := hb.c2; have b3 := hb.c3; have b4 := hb.c4; have b5 := hb.c5
          rw [HK1.out] at b1
          replace HB := Lib.hid hb
          clear hb hk b0
          go_wp2_with fail
          go_ret
          exact ⟨ret_bool HR.out, HK.out⟩
        · have HR := Lib.hid (show false = rightF x by rw [HRR.out]; unfold kindF; rw [decide_eq_false (by omega : ¬ x.k = 1), hzf, decide_eq_false (by omega : ¬ (x.k = 2 ∧ 1 ≤ x.t ∧ x.t ≤ 3)), decide_eq_true (⟨hk1, g1⟩ : x.k = 3 ∧ x.t = 1)]; simp)
          clear hpat hp ht hk1 hzf g1
          go_enter Try.func28, Try.ntmps28
          go_wp2_with fail
          go_at_call 48
          refine (A1.out _).mono ?_
          rintro e w1 ⟨rfl, hk⟩
          have hb := HB.out.kept hk
          replace HK := Lib.hid (HK.out.trans hk)
          have b1 := hb.c1; have b2 := hb.c2; have b3 := hb.c3; have b4 := hb.c4; have b5 := hb.c5
          rw [HK1.out] at b1
          replace HB := Lib.hid hb
          clear hb hk b0
          go_wp2_with fail
          go_ret
          exact ⟨ret_bool HR.out, HK.out⟩
        · have HR := Lib.hid (show false = rightF x by rw [HRR.out]; unfold kindF; rw [decide_eq_false (by omega : ¬ x.k = 1), hzf, decide_eq_false (by omega : ¬ (x.k = 2 ∧ 1 ≤ x.t ∧ x.t ≤ 3)), decide_eq_true (⟨hk1, g1⟩ : x.k = 3 ∧ x.t = 1)]; simp)
          clear hpat hp ht hk1 hzf g1
          go_enter Try.func28, Try.ntmps28
          go_wp2_with fail
          go_at_call 48
          refine (A1.out _).mono ?_
          rintro e w1 ⟨rfl, hk⟩
          have hb := HB.out.kept hk
          replace HK := Lib.hid (HK.out.trans hk)
          have b1 := hb.c1; have b2 := hb.c2; have b3 := hb.c3; have b4 := hb.c4; have b5 := hb.c5
          rw [HK1.out] at b1
          replace HB := Lib.hid hb
          clear hb hk b0
          go_wp2_with fail
          go_ret
          exact ⟨ret_bool HR.out, HK.out⟩
      · have t1 : (x.t == 1) = false := by simpa using g1
        have HR := Lib.hid (show false = rightF x by rw [HRR.out]; unfold kindF; rw [decide_eq_false (by omega : ¬ x.k = 1), decide_eq_false (by omega : ¬ (x.k = 2 ∧ 1 ≤ x.t ∧ x.t ≤ 3)), decide_eq_false (by omega : ¬ (x.k = 3 ∧ x.t = 1))]; simp)
        clear hpat hp ht hk1 g1
        go_enter Try.func28, Try.ntmps28
        go_wp2_with fail
        go_at_call 48
        refine (A1.out _).mono ?_
        rintro e w1 ⟨rfl, hk⟩
        have hb := HB.out.kept hk
        replace HK := Lib.hid (HK.out.trans hk)
        have b1 := hb.c1; have b2 := hb.c2; have b3 := hb.c3; have b4 := hb.c4; have b5 := hb.c5
        rw [HK1.out] at b1
        replace HB := Lib.hid hb
        clear hb hk b0
        go_wp2_with fail
        go_ret
        exact ⟨ret_bool HR.out, HK.out⟩
    · have HR := Lib.hid (show false = rightF x by rw [HRR.out]; unfold kindF; rw [decide_eq_false n1, decide_eq_false (fun h => n2 h.1 : ¬ (x.k = 2 ∧ 1 ≤ x.t ∧ x.t ≤ 3)), decide_eq_false (fun h => n3 h.1 : ¬ (x.k = 3 ∧ x.t = 1))]; simp)
      clear hpat hp ht n1 n2 n3
      go_enter Try.func28, Try.ntmps28
      go_wp2_with fail
      go_at_call 48
      refine (A1.out _).mono ?_
      rintro e w1 ⟨rfl, hk⟩
      have hb := HB.out.kept hk
      replace HK := Lib.hid (HK.out.trans hk)
      have b1 := hb.c1; have b2 := hb.c2; have b3 := hb.c3; have b4 := hb.c4; have b5 := hb.c5
      replace HB := Lib.hid hb
      clear hb hk b0
      go_wp2_with fail
      go_ret
      exact ⟨ret_bool HR.out, HK.out⟩
theorem rfr_c (x : Fd) (b : Bool) (h : rightF x = b) (w : World) (hp : x.p.size ≤ 1099511627776) (ht : x.vt.size ≤ 1099511627776) :
    Calls Try.prog 28 #[.agg #[.string x.p, .int .i64 x.k, .int .i64 x.t, .int .i64 x.vk, .int .i64 x.vn, .string x.vt]] w fun e w' => e = .returned (.bool b) ∧ Kept w w' := by
  subst h; exact rfr_any x w hp ht
end Go.Proofs.Ytapcaflmfkcfkaa

