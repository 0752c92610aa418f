/-
  What is proved: path.Apart and the document's, called with any two texts of up to 2^40 bytes, return what P4.8 says; the world has new blocks at most.
-/
import Derived.Test.YtepjhijnihjedaaPBeg
import Derived.Deep.QuietTactic
import Derived.BigQuiet
namespace Go.Proofs.Ytepjhijnihjedaa
open Go.RowKit

set_option maxRecDepth 100000 in
set_option maxHeartbeats 4000000 in
theorem ap_any (p q : ByteArray) (w : World) (hp : p.size ≤ 1099511627776) (hq : q.size ≤ 1099511627776) :
    Calls Try.prog 21 #[.string p, .string q] w fun e w' => e = .returned (.bool (apS p q)) ∧ Ke w w' := by
  have hn1 := splS_le p
  have hn2 := splS_le q
  obtain ⟨mn, hmn⟩ : ∃ mn : Nat, mn = min (splS p).length (splS q).length := ⟨_, rfl⟩
  have hm1 : mn ≤ (splS p).length := by omega
  have hm2 : mn ≤ (splS q).length := by omega
  have hm3 : mn = (splS p).length ∨ mn = (splS q).length := by omega
  have HMN := Lib.hid hmn
  have HM3 := Lib.hid hm3
  clear hmn hm3
  go_enter Try.func21, Try.ntmps21
  go_wp2_with fail
  go_at_call 8
  refine (split_any p _ hp).mono ?_
  rintro e w1 ⟨b1, c1, rfl, hs1, hbb1, hk1⟩
  have hcm1 := hs1.2.1
  have hcx1 := hs1.2.2.1
  simp only [maxLen] at hcx1
  have HS1 := Lib.hid hs1
  have HK1 := Lib.hid hk1
  clear hs1 hk1 hbb1
  go_wp2_with fail
  go_at_call 8
  refine (split_any q _ hq).mono ?_
  rintro e w2 ⟨b2, c2, rfl, hs2, hbb2, hk2⟩
  have hcm2 := hs2.2.1
  have hcx2 := hs2.2.2.1
  simp only [maxLen] at hcx2
  have HS2 := Lib.hid hs2
  have HS3 := Lib.hid (HS1.out.ke hk2)
  have HK := Lib.hid (HK1.out.trans hk2)
  clear hs2 hk2 hbb2 HS1 HK1
  go_wp2
  go_loopw [17] (fun i wr => ∃ k j : Nat, k ≤ mn ∧ i = .int .i64 k ∧ wr = w2.drewN j ∧ ∀ i, i < k → (sg p i).data.toList = (sg q i).data.toList) (fun i _ => mn - (intOf i).toNat)
  case atStart => exact ⟨0, 0, Nat.zero_le _, rfl, rfl, fun j hj => absurd hj (by omega)⟩
  case round =>
    obtain ⟨k, j, hkl, rfl, rfl, hall⟩ := hrel
    have HA := Lib.hid hall
    clear hall
    by_cases hlt : k < mn
    · have kp : k < (splS p).length := by omega
      have kq : k < (splS q).length := by omega
      have g1 := sl_at HS3.out kp
      have g2 := sl_at HS2.out kq
      have kp2 : (k : Int) < (splS p).length := by omega
      have kq2 : (k : Int) < (splS q).length := by omega
      have k0 : (0 : Int) ≤ k := by omega
      by_cases hxy : (sg p k).data.toList = (sg q k).data.toList
      · have HX := Lib.hid hxy
        rw [← ba_ext hxy] at g2
        clear hxy
        go_wp2
        go_quiet (fail)
        go_wp2
        go_roundw
        case rel =>
          refine ⟨k + 1, _, hlt, by go_num, rfl, fun i hi => ?_⟩
          rcases Nat.lt_or_ge i k with h3 | h3
          · exact HA.out i h3
          · obtain rfl : i = k := by omega
            exact HX.out
        case measure => simp [intOf]; omega
      · have HR := Lib.hid (ap_at p q k kp kq HA.out hxy)
        obtain ⟨t1, t2, t3, t4⟩ := str_not hxy
        by_cases hx : (sg p k).data.toList = [42]
        · have hy : ¬ (sg q k).data.toList = [42] := fun e => hxy (hx.trans e.symm)
          have HF := Lib.hid (show apS p q = false by rw [HR.out, hx]; rfl)
          rw [star_yes hx] at g1
          obtain ⟨s1, s2⟩ := star_not hy
          obtain ⟨s3, s4⟩ := star_not2 hy
          clear hx hy hxy t1 t2 t3 t4
          go_wp2
          go_quiet (fail)
          go_wp2
          go_ret
          exact ⟨ret_bool HF.out.symm, HK.out.drewN _⟩
        · obtain ⟨s1, s2⟩ := star_not hx
          obtain ⟨s3, s4⟩ := star_not2 hx
          by_cases hy : (sg q k).data.toList = [42]
          · have HF := Lib.hid (show apS p q = false by rw [HR.out, hy, Bool.and_comm]; rfl)
            rw [star_yes hy] at g2
            clear hx hy hxy t1 t2 t3 t4
            go_wp2
            go_quiet (fail)
            go_wp2
            go_ret
            exact ⟨ret_bool HF.out.symm, HK.out.drewN _⟩
          · have HF := Lib.hid (show apS p q = true by rw [HR.out, bne_iff_ne.2 hx, bne_iff_ne.2 hy]; rfl)
            obtain ⟨s5, s6⟩ := star_not hy
            clear hx hy hxy
            go_wp2
            go_quiet (fail)
            go_wp2
            go_ret
            exact ⟨ret_bool HF.out.symm, HK.out.drewN _⟩
    · have HE := Lib.hid (ap_end p q (fun i h1 h2 => HA.out i (by have := HM3.out; omega)))
      have hm5 : min ((splS p).length : Int) ((splS q).length : Int) ≤ (k : Int) := by have := HM3.out; omega
      go_wp2
      go_ret
      exact ⟨ret_bool HE.out.symm, HK.out.drewN _⟩
theorem ap_any_c (p q : ByteArray) (r : Bool) (hr : apS p q = r) (hp : p.size ≤ 1099511627776) (hq : q.size ≤ 1099511627776) (w : World) :
    Calls Try.prog 21 #[.string p, .string q] w fun e w' => e = .returned (.bool r) ∧ Ke w w' := by
  subst hr; exact ap_any p q w hp hq

set_option maxRecDepth 100000 in
set_option maxHeartbeats 4000000 in
theorem rap_any (p q : ByteArray) (w : World) (hp : p.size ≤ 1099511627776) (hq : q.size ≤ 1099511627776) :
    Calls Try.prog 22 #[.string p, .string q] w fun e w' => e = .returned (.bool (apS p q)) ∧ Ke w w' := by
  have hn1 := splS_le p
  have hn2 := splS_le q
  obtain ⟨mn, hmn⟩ : ∃ mn : Nat, mn = min (splS p).length (splS q).length := ⟨_, rfl⟩
  have hm1 : mn ≤ (splS p).length := by omega
  have hm2 : mn ≤ (splS q).length := by omega
  have hm3 : mn = (splS p).length ∨ mn = (splS q).length := by omega
  have HMN := Lib.hid hmn
  have HM3 := Lib.hid hm3
  clear hmn hm3
  go_enter Try.func22, Try.ntmps22
  go_wp2_with fail
  go_at_call 9
  refine (rsplit_any p _ hp).mono ?_
  rintro e w1 ⟨b1, c1, rfl, hs1, hbb1, hk1⟩
  have hcm1 := hs1.2.1
  have hcx1 := hs1.2.2.1
  simp only [maxLen] at hcx1
  have HS1 := Lib.hid hs1
  have HK1 := Lib.hid hk1
  clear hs1 hk1 hbb1
  go_wp2_with fail
  go_at_call 9
  refine (rsplit_any q _ hq).mono ?_
  rintro e w2 ⟨b2, c2, rfl, hs2, hbb2, hk2⟩
  have hcm2 := hs2.2.1
  have hcx2 := hs2.2.2.1
  simp only [maxLen] at hcx2
  have HS2 := Lib.hid hs2
  have HS3 := Lib.hid (HS1.out.ke hk2)
  have HK := Lib.hid (HK1.out.trans hk2)
  clear hs2 hk2 hbb2 HS1 HK1
  go_wp2
  go_loopw [7] (fun i wr => ∃ k j : Nat, k ≤ mn ∧ i = .int .i64 k ∧ wr = w2.drewN j ∧ ∀ i, i < k → (sg p i).data.toList = (sg q i).data.toList) (fun i _ => mn - (intOf i).toNat)
  case atStart => exact ⟨0, 0, Nat.zero_le _, rfl, rfl, fun j hj => absurd hj (by omega)⟩
  case round =>
    obtain ⟨k, j, hkl, rfl, rfl, hall⟩ := hrel
    have HA := Lib.hid hall
    clear hall
    by_cases hlt : k < mn
    · have kp : k < (splS p).length := by omega
      have kq : k < (splS q).length := by omega
      have g1 := sl_at HS3.out kp
      have g2 := sl_at HS2.out kq
      have kp2 : (k : Int) < (splS p).length := by omega
      have kq2 : (k : Int) < (splS q).length := by omega
      have k0 : (0 : Int) ≤ k := by omega
      by_cases hxy : (sg p k).data.toList = (sg q k).data.toList
      · have HX := Lib.hid hxy
        rw [← ba_ext hxy] at g2
        clear hxy
        go_wp2
        go_quiet (fail)
        go_wp2
        go_roundw
        case rel =>
          refine ⟨k + 1, _, hlt, by go_num, rfl, fun i hi => ?_⟩
          rcases Nat.lt_or_ge i k with h3 | h3
          · exact HA.out i h3
          · obtain rfl : i = k := by omega
            exact HX.out
        case measure => simp [intOf]; omega
      · have HR := Lib.hid (ap_at p q k kp kq HA.out hxy)
        obtain ⟨t1, t2, t3, t4⟩ := str_not hxy
        by_cases hx : (sg p k).data.toList = [42]
        · have hy : ¬ (sg q k).data.toList = [42] := fun e => hxy (hx.trans e.symm)
          have HF := Lib.hid (show apS p q = false by rw [HR.out, hx]; rfl)
          rw [star_yes hx] at g1
          obtain ⟨s1, s2⟩ := star_not hy
          obtain ⟨s3, s4⟩ := star_not2 hy
          clear hx hy hxy t1 t2 t3 t4
          go_wp2
          go_quiet (fail)
          go_wp2
          go_ret
          exact ⟨ret_bool HF.out.symm, HK.out.drewN _⟩
        · obtain ⟨s1, s2⟩ := star_not hx
          obtain ⟨s3, s4⟩ := star_not2 hx
          by_cases hy : (sg q k).data.toList = [42]
          · have HF := Lib.hid (show apS p q = false by rw [HR.out, hy, Bool.and_comm]; rfl)
            rw [star_yes hy] at g2
            clear hx hy hxy t1 t2 t3 t4
            go_wp2
            go_quiet (fail)
            go_wp2
            go_ret
            exact ⟨ret_bool HF.out.symm, HK.out.drewN _⟩
          · have HF := Lib.hid (show apS p q = true by rw [HR.out, bne_iff_ne.2 hx, bne_iff_ne.2 hy]; rfl)
            obtain ⟨s5, s6⟩ := star_not hy
            clear hx hy hxy
            go_wp2
            go_quiet (fail)
            go_wp2
            go_ret
            exact ⟨ret_bool HF.out.symm, HK.out.drewN _⟩
    · have HE := Lib.hid (ap_end p q (fun i h1 h2 => HA.out i (by have := HM3.out; omega)))
      by_cases hpp : k < (splS p).length
      · have d1 : decide ((k : Int) < (splS p).length) = true := decide_eq_true (by omega)
        have d2 : decide ((k : Int) < (splS q).length) = false := decide_eq_false (by have := HM3.out; omega)
        have d3 : decide (k < (splS p).length) = true := decide_eq_true (by omega)
        have d4 : decide (k < (splS q).length) = false := decide_eq_false (by have := HM3.out; omega)
        go_wp2
        go_ret
        exact ⟨ret_bool HE.out.symm, HK.out.drewN _⟩
      · have d1 : decide ((k : Int) < (splS p).length) = false := decide_eq_false (by omega)
        have d3 : decide (k < (splS p).length) = false := decide_eq_false (by omega)
        go_wp2
        go_ret
        exact ⟨ret_bool HE.out.symm, HK.out.drewN _⟩
theorem rap_any_c (p q : ByteArray) (r : Bool) (hr : apS p q = r) (hp : p.size ≤ 1099511627776) (hq : q.size ≤ 1099511627776) (w : World) :
    Calls Try.prog 22 #[.string p, .string q] w fun e w' => e = .returned (.bool r) ∧ Ke w w' := by
  subst hr; exact rap_any p q w hp hq
end Go.Proofs.Ytepjhijnihjedaa
