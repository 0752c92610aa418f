/-
  What is proved: the document's own Take, TakeInt and TakeText of layer 1 (package lorgnetteref01) return the same as the program's; the world has new blocks at most.
-/
import Derived.Test.YtoanccojpppfoaaDoorRefA
namespace Go.Proofs.YtoanccojpppfoaaDoor
open Go.RowKit

/-- The number of the first j bytes. -/
def accOf (s : ByteArray) : Nat → Nat
  | 0 => 0
  | j + 1 => accOf s j + (s.data.toList.getD j 0).toNat % 128 * 128 ^ j
/-- What holds at the first loop's head: k bytes are gone through, all of them 128 or above. -/
def RInv (s : ByteArray) (k : Nat) : Prop := TkInv s k (accOf s k) ∧ ∀ i, i < k → 128 ≤ (s.data.toList.getD i 0).toNat

theorem getD_at (s : ByteArray) (k : Nat) (h : k < s.size) : s.data.toList.getD k 0 = s[k] := by
  have hl : k < s.data.toList.length := h
  unfold List.getD
  rw [List.getElem?_eq_getElem hl]
  rfl
theorem rInv_next {s : ByteArray} {k : Nat} (h : RInv s k) (hlt : k < s.size) (h9 : k < 9) (hc : 128 ≤ s[k].toNat) : RInv s (k + 1) := by
  refine ⟨?_, ?_⟩
  · have := tkInv_next h.1 hlt (by omega) (by omega)
    unfold accOf
    rw [getD_at s k hlt]
    exact this
  · intro i hi
    by_cases e : i = k
    · subst e; rw [getD_at s i hlt]; exact hc
    · exact h.2 i (by omega)

/-- The index of a text, in the walk's own words. -/
theorem idx (s : ByteArray) (k : Nat) (hlt : k < s.size) : ∃ c : Nat, RowKit.Hid (c = s[k].toNat) ∧ c < 256 ∧ ∀ wx, (Instr.index 9 (.string s) (.int .i64 k)).run Tryd.prog wx = .ok (.int .u8 c) wx :=
  ⟨_, rfl, UInt8.toNat_lt _, fun wx => by rw [run_index_string _ _ _ _ _ Tryd.underlying9]; simp [hlt]⟩

/-- What holds at the second loop's head: m is the number from place j on. -/
def LInv (s : ByteArray) (T j m : Nat) : Prop := m * 128 ^ j + accOf s j = T ∧ T < 18446744073709551616
theorem lInv_step {s : ByteArray} {T p m c : Nat} (h : LInv s T (p + 1) m) (hlt : p < s.size) (hc : c = s[p].toNat) (h128 : 128 ≤ c) :
    LInv s T p (128 * m + (c - 128)) ∧ 128 * m + (c - 128) < 18446744073709551616 := by
  have hb : c < 256 := by rw [hc]; exact UInt8.toNat_lt _
  obtain ⟨h1, h2⟩ := h
  have hp : 0 < 128 ^ p := Nat.pow_pos (by omega)
  have e : (128 * m + (c - 128)) * 128 ^ p + accOf s p = T := by
    rw [← h1, show accOf s (p + 1) = accOf s p + (s.data.toList.getD p 0).toNat % 128 * 128 ^ p from rfl]
    rw [getD_at s p hlt, ← hc, Nat.add_mul, Nat.pow_succ, show c % 128 = c - 128 by omega]
    have : 128 * m * 128 ^ p = m * (128 ^ p * 128) := by
      rw [Nat.mul_comm 128 m, Nat.mul_assoc, Nat.mul_comm 128 (128 ^ p)]
    omega
  refine ⟨⟨e, h2⟩, ?_⟩
  have : (128 * m + (c - 128)) * 1 ≤ (128 * m + (c - 128)) * 128 ^ p := Nat.mul_le_mul_left _ hp
  omega
theorem lInv_last {s : ByteArray} {T m : Nat} (h : LInv s T 0 m) : m = T := by
  obtain ⟨h1, _⟩ := h
  simpa [accOf] using h1

set_option maxRecDepth 100000 in
set_option maxHeartbeats 2000000 in
theorem rtake_any (s : ByteArray) (w : World) (hs : s.size ≤ 100000) :
    Calls Tryd.prog 27 #[.string s] w fun e w' => e = .returned (.tuple #[.int .u64 (tkN s), .string (tkR s), .int .i64 (tkE s)]) ∧ Grown w w' := by
  go_enter Tryd.func27, Tryd.ntmps27
  go_wp2
  go_loop [5] (fun i => ∃ k : Nat, RInv s k ∧ i = .int .i64 k) (fun i => s.size - (intOf i).toNat)
  case atStart => exact ⟨0, ⟨⟨by omega, by omega, by simp [accOf], by simp [takeL, accOf]⟩, fun i hi => by omega⟩, rfl⟩
  case round =>
    obtain ⟨k, hinv, rfl⟩ := hrel
    obtain ⟨hk9, hks, _⟩ := tkInv_bd hinv.1
    by_cases hlt : k < s.size
    · obtain ⟨c, HC, hc256, hix⟩ := idx s k hlt
      have hl1 : decide (k < s.size) = true := by simpa using hlt
      have hl2 : (k == s.size) = false := by simp; omega
      have hl3 : ((k : Int) == (s.size : Int)) = false := by simp; omega
      by_cases h9 : k < 9
      · have h91 : decide ((k : Int) < 9) = true := by simp; omega
        have h92 : ((k : Int) == 9) = false := by simp; omega
        by_cases h128 : 128 ≤ c
        · have h1281 : decide (128 ≤ (c : Int)) = true := by simp; omega
          have HN := Lib.hid (rInv_next hinv hlt h9 (by rw [← HC.out]; exact h128))
          go_wp2
          exact ⟨⟨k + 1, HN.out, by go_num⟩, by simp [intOf]; omega⟩
        · have h1281 : decide (128 ≤ (c : Int)) = false := by simp; omega
          by_cases hf : 0 < k ∧ c = 0
          · have ec1 : ((c : Int) == 0) = true := by simp [hf.2]
            have hk0 : 0 < k := hf.1
            have HR := Lib.hid (res_err (tkInv_form hinv.1 hlt hf.1 (by rw [← HC.out]; exact hf.2)))
            clear hf
            go_wp2
            go_ret3
            exact ⟨ret3 (by rw [HR.out.1]; rfl) HR.out.2.1.symm (by rw [HR.out.2.2]; rfl), Grown.refl _⟩
          · have HR := Lib.hid (res_ok (tkInv_ok hinv.1 hlt (by omega) (by rw [← HC.out]; omega) (by rw [← HC.out]; omega)))
            by_cases hk0 : 0 < k
            · have ec1 : ((c : Int) == 0) = false := by simp; omega
              clear hf
              have HT : RowKit.Hid (LInv s (tkN s) k c) := ⟨by rw [HR.out.1, ← HC.out]; omega, tkN_bd s⟩
              have HV := Lib.hid hinv.2
              have H9 := Lib.hid hk9
              go_wp2
              go_loop [6, 7] (fun n i => ∃ (m : Nat) (z : Int), -1 ≤ z ∧ z < k ∧ LInv s (tkN s) (z + 1).toNat m ∧ n = .int .u64 m ∧ i = .int .i64 z) (fun _ i => (intOf i + 1).toNat)
              case atStart => exact ⟨c, (k : Int) - 1, by omega, by omega, by rw [show ((k : Int) - 1 + 1).toNat = k by omega]; exact HT.out, rfl, rfl⟩
              case round =>
                obtain ⟨m, z, hz1, hz2, hli, rfl, rfl⟩ := hrel
                by_cases hz0 : 0 ≤ z
                · obtain ⟨p, rfl⟩ : ∃ p : Nat, z = (p : Int) := ⟨z.toNat, by omega⟩
                  obtain ⟨d, HD, hd256, hixp⟩ := idx s p (by omega)
                  have hd128 : 128 ≤ d := by have := HV.out p (by omega); rw [getD_at s p (by omega), ← HD.out] at this; exact this
                  have hst := lInv_step (m := m) (by rw [show ((p : Int) + 1).toNat = p + 1 by omega] at hli; exact hli) (by omega) HD.out hd128
                  have HL := Lib.hid hst.1
                  have hm1 : (128 * (m : Int) + ((d : Int) - 128)) < 18446744073709551616 := by have := hst.2; omega
                  clear hst hli
                  go_wp2
                  exact ⟨⟨128 * m + (d - 128), (p : Int) - 1, by omega, by omega, by rw [show ((p : Int) - 1 + 1).toNat = p by omega]; exact HL.out, by go_num, rfl⟩, by simp [intOf]⟩
                · have hm : m = tkN s := by
                    obtain rfl : z = -1 := by omega
                    exact lInv_last hli
                  have HM := Lib.hid hm
                  clear hm hli
                  go_wp2
                  go_quiet (fail)
                  go_wp2
                  go_ret3
                  exact ⟨ret3 (by rw [HM.out]) HR.out.2.1.symm (by rw [HR.out.2.2]; rfl), grown_drewN _ _⟩
            · have hk0' : decide (0 < k) = false := by simpa using hk0
              clear hf
              have HT : RowKit.Hid (LInv s (tkN s) k c) := ⟨by rw [HR.out.1, ← HC.out]; omega, tkN_bd s⟩
              have HV := Lib.hid hinv.2
              have H9 := Lib.hid hk9
              go_wp2
              go_loop [6, 7] (fun n i => ∃ (m : Nat) (z : Int), -1 ≤ z ∧ z < k ∧ LInv s (tkN s) (z + 1).toNat m ∧ n = .int .u64 m ∧ i = .int .i64 z) (fun _ i => (intOf i + 1).toNat)
              case atStart => exact ⟨c, (k : Int) - 1, by omega, by omega, by rw [show ((k : Int) - 1 + 1).toNat = k by omega]; exact HT.out, rfl, rfl⟩
              case round =>
                obtain ⟨m, z, hz1, hz2, hli, rfl, rfl⟩ := hrel
                by_cases hz0 : 0 ≤ z
                · obtain ⟨p, rfl⟩ : ∃ p : Nat, z = (p : Int) := ⟨z.toNat, by omega⟩
                  obtain ⟨d, HD, hd256, hixp⟩ := idx s p (by omega)
                  have hd128 : 128 ≤ d := by have := HV.out p (by omega); rw [getD_at s p (by omega), ← HD.out] at this; exact this
                  have hst := lInv_step (m := m) (by rw [show ((p : Int) + 1).toNat = p + 1 by omega] at hli; exact hli) (by omega) HD.out hd128
                  have HL := Lib.hid hst.1
                  have hm1 : (128 * (m : Int) + ((d : Int) - 128)) < 18446744073709551616 := by have := hst.2; omega
                  clear hst hli
                  go_wp2
                  exact ⟨⟨128 * m + (d - 128), (p : Int) - 1, by omega, by omega, by rw [show ((p : Int) - 1 + 1).toNat = p by omega]; exact HL.out, by go_num, rfl⟩, by simp [intOf]⟩
                · have hm : m = tkN s := by
                    obtain rfl : z = -1 := by omega
                    exact lInv_last hli
                  have HM := Lib.hid hm
                  clear hm hli
                  go_wp2
                  go_quiet (fail)
                  go_wp2
                  go_ret3
                  exact ⟨ret3 (by rw [HM.out]) HR.out.2.1.symm (by rw [HR.out.2.2]; rfl), grown_drewN _ _⟩
      · have h91 : decide ((k : Int) < 9) = false := by simp; omega
        have h92 : ((k : Int) == 9) = true := by simp; omega
        have hix9 : ∀ wx, (Instr.index 9 (.string s) (.int .i64 9)).run Tryd.prog wx = .ok (.int .u8 c) wx := by
          have : (k : Int) = 9 := by omega
          rw [← this]; exact hix
        by_cases hl : 1 < c
        · have el1 : decide ((1 : Int) < (c : Int)) = true := by simp; omega
          have HR := Lib.hid (res_err (tkInv_long hinv.1 hlt (by omega) (by rw [← HC.out]; exact hl)))
          go_wp2
          go_ret3
          exact ⟨ret3 (by rw [HR.out.1]; rfl) HR.out.2.1.symm (by rw [HR.out.2.2]; rfl), Grown.refl _⟩
        have el1 : decide ((1 : Int) < (c : Int)) = false := by simp; omega
        have hk0 : 0 < k := by omega
        by_cases hz : c = 0
        · have ec1 : ((c : Int) == 0) = true := by simp [hz]
          have HR := Lib.hid (res_err (tkInv_form hinv.1 hlt hk0 (by rw [← HC.out]; exact hz)))
          clear hz
          go_wp2
          go_ret3
          exact ⟨ret3 (by rw [HR.out.1]; rfl) HR.out.2.1.symm (by rw [HR.out.2.2]; rfl), Grown.refl _⟩
        · have ec1 : ((c : Int) == 0) = false := by simp; omega
          have HR := Lib.hid (res_ok (tkInv_ok hinv.1 hlt (by rw [← HC.out]; omega) (by rw [← HC.out]; omega) (by rw [← HC.out]; omega)))
          have HT : RowKit.Hid (LInv s (tkN s) k c) := ⟨by rw [HR.out.1, ← HC.out]; omega, tkN_bd s⟩
          have HV := Lib.hid hinv.2
          have H9 := Lib.hid hk9
          go_wp2
          go_loop [6, 7] (fun n i => ∃ (m : Nat) (z : Int), -1 ≤ z ∧ z < k ∧ LInv s (tkN s) (z + 1).toNat m ∧ n = .int .u64 m ∧ i = .int .i64 z) (fun _ i => (intOf i + 1).toNat)
          case atStart => exact ⟨c, (k : Int) - 1, by omega, by omega, by rw [show ((k : Int) - 1 + 1).toNat = k by omega]; exact HT.out, rfl, rfl⟩
          case round =>
            obtain ⟨m, z, hz1, hz2, hli, rfl, rfl⟩ := hrel
            by_cases hz0 : 0 ≤ z
            · obtain ⟨p, rfl⟩ : ∃ p : Nat, z = (p : Int) := ⟨z.toNat, by omega⟩
              obtain ⟨d, HD, hd256, hixp⟩ := idx s p (by omega)
              have hd128 : 128 ≤ d := by have := HV.out p (by omega); rw [getD_at s p (by omega), ← HD.out] at this; exact this
              have hst := lInv_step (m := m) (by rw [show ((p : Int) + 1).toNat = p + 1 by omega] at hli; exact hli) (by omega) HD.out hd128
              have HL := Lib.hid hst.1
              have hm1 : (128 * (m : Int) + ((d : Int) - 128)) < 18446744073709551616 := by have := hst.2; omega
              clear hst hli
              go_wp2
              exact ⟨⟨128 * m + (d - 128), (p : Int) - 1, by omega, by omega, by rw [show ((p : Int) - 1 + 1).toNat = p by omega]; exact HL.out, by go_num, rfl⟩, by simp [intOf]⟩
            · have hm : m = tkN s := by
                obtain rfl : z = -1 := by omega
                exact lInv_last hli
              have HM := Lib.hid hm
              clear hm hli
              go_wp2
              go_quiet (fail)
              go_wp2
              go_ret3
              exact ⟨ret3 (by rw [HM.out]) HR.out.2.1.symm (by rw [HR.out.2.2]; rfl), grown_drewN _ _⟩
    · have hl1 : decide (k < s.size) = false := by simpa using hlt
      have hl2 : (k == s.size) = true := by simp; omega
      have hl3 : ((k : Int) == (s.size : Int)) = true := by simp; omega
      have HR := Lib.hid (res_err (tkInv_end hinv.1 hlt))
      go_wp2
      go_ret3
      exact ⟨ret3 (by rw [HR.out.1]; rfl) HR.out.2.1.symm (by rw [HR.out.2.2]; rfl), Grown.refl _⟩

theorem rtakeInt_any (s : ByteArray) (w : World) (hs : s.size ≤ 100000) :
    Calls Tryd.prog 53 #[.string s] w fun e w' => e = .returned (.tuple #[.int .i64 (tiN s), .string (tkR s), .int .i64 (tkE s)]) ∧ Grown w w' := by
  have hn := tkN_bd s
  by_cases h : tkE s = 0
  · have he : ((tkE s : Int) != 0) = false := by simp [h]
    have H := Lib.hid h
    clear h
    go_enter Tryd.func53, Tryd.ntmps53
    go_wp2_with (first | (go_at_call 27; refine (rtake_any _ _ hs).mono ?_; rintro e w1 ⟨rfl, hg⟩) | (go_at_call 66; refine (rzag_any _ _ (by omega) (by omega)).mono ?_; rintro e w2 ⟨rfl, rfl⟩))
    go_ret3
    exact ⟨ret3i (by unfold tiN; rw [if_pos H.out]) rfl (by rw [H.out]; rfl), by assumption⟩
  · have he : ((tkE s : Int) != 0) = true := by simp [h]
    have H := Lib.hid h
    clear h
    go_enter Tryd.func53, Tryd.ntmps53
    go_wp2_with (first | (go_at_call 27; refine (rtake_any _ _ hs).mono ?_; rintro e w1 ⟨rfl, hg⟩) | (go_at_call 66; refine (rzag_any _ _ (by omega) (by omega)).mono ?_; rintro e w2 ⟨rfl, rfl⟩))
    go_ret3
    exact ⟨ret3i (by unfold tiN; rw [if_neg H.out]) (tk_bad s H.out).2.symm rfl, by assumption⟩

set_option maxRecDepth 100000 in
theorem rtakeText_any (s : ByteArray) (most : Int) (w : World) (hs : s.size ≤ 100000) (h1 : -9223372036854775808 ≤ most) (h2 : most ≤ 9223372036854775807) :
    Calls Tryd.prog 26 #[.string s, .int .i64 most] w fun e w' => e = .returned (.tuple #[.string (ttT s most), .string (ttR s most), .int .i64 (ttE s most)]) ∧ Grown w w' := by
  have hn := tkN_bd s
  have hr := tkR_size s
  by_cases h : tkE s = 0
  · have he : ((tkE s : Int) != 0) = false := by simp [h]
    by_cases hm : most < 0
    · have HR := Lib.hid (tt_of (s := s) (most := most) (by unfold ttL; rw [if_neg (by omega), if_pos (by omega)]))
      have hmb : decide (most < 0) = true := by simpa using hm
      have H := Lib.hid h
      clear h
      go_enter Tryd.func26, Tryd.ntmps26
      go_wp2_with (go_at_call 27; refine (rtake_any _ _ hs).mono ?_; rintro e w1 ⟨rfl, hg⟩)
      go_ret3
      exact ⟨ret3s HR.out.1 HR.out.2.1 (by rw [← HR.out.2.2]; rfl), by assumption⟩
    by_cases hl : most < (tkN s : Int)
    · have HR := Lib.hid (tt_of (s := s) (most := most) (by unfold ttL; rw [if_neg (by omega), if_pos (by omega)]))
      have hmb : decide (most < 0) = false := by simpa using hm
      have hlb : decide (most < (tkN s : Int)) = true := by simpa using hl
      have H := Lib.hid h
      clear h
      go_enter Tryd.func26, Tryd.ntmps26
      go_wp2_with (go_at_call 27; refine (rtake_any _ _ hs).mono ?_; rintro e w1 ⟨rfl, hg⟩)
      go_ret3
      exact ⟨ret3s HR.out.1 HR.out.2.1 (by rw [← HR.out.2.2]; rfl), by assumption⟩
    by_cases hz : (tkR s).size < tkN s
    · have HR := Lib.hid (tt_of (s := s) (most := most) (by unfold ttL; rw [if_neg (by omega), if_neg (by omega), if_pos hz]))
      have hmb : decide (most < 0) = false := by simpa using hm
      have hlb : decide (most < (tkN s : Int)) = false := by simpa using hl
      have hzb : decide ((tkR s).size < tkN s) = true := by simpa using hz
      have H := Lib.hid h
      clear h
      go_enter Tryd.func26, Tryd.ntmps26
      go_wp2_with (go_at_call 27; refine (rtake_any _ _ hs).mono ?_; rintro e w1 ⟨rfl, hg⟩)
      go_ret3
      exact ⟨ret3s HR.out.1 HR.out.2.1 (by rw [← HR.out.2.2]; rfl), by assumption⟩
    · have HR := Lib.hid (tt_of (s := s) (most := most) (by unfold ttL; rw [if_neg (by omega), if_neg (by omega), if_neg hz]))
      have hmb : decide (most < 0) = false := by simpa using hm
      have hlb : decide (most < (tkN s : Int)) = false := by simpa using hl
      have hzb : decide ((tkR s).size < tkN s) = false := by simpa using hz
      have H := Lib.hid h
      clear h
      go_enter Tryd.func26, Tryd.ntmps26
      go_wp2_with (go_at_call 27; refine (rtake_any _ _ hs).mono ?_; rintro e w1 ⟨rfl, hg⟩)
      go_quiet (fail)
      go_wp2
      go_ret3
      exact ⟨ret3s HR.out.1 HR.out.2.1 (by rw [← HR.out.2.2]; rfl), grown_trans hg (grown_drewN _ _)⟩
  · have he : ((tkE s : Int) != 0) = true := by simp [h]
    have HR := Lib.hid (tt_of (s := s) (most := most) (by unfold ttL; rw [if_pos h]))
    clear h
    go_enter Tryd.func26, Tryd.ntmps26
    go_wp2_with (go_at_call 27; refine (rtake_any _ _ hs).mono ?_; rintro e w1 ⟨rfl, hg⟩)
    go_ret3
    exact ⟨ret3s HR.out.1 HR.out.2.1 (by rw [← HR.out.2.2]), by assumption⟩
end Go.Proofs.YtoanccojpppfoaaDoor
