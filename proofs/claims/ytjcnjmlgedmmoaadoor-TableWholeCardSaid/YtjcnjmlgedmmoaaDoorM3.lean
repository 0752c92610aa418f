/-
  What is proved: the document's own Take, TakeInt and TakeText of layer 1 (package lorgnetteref01) return the same as the program's; the world has new blocks at most.
  Right, Zero and Put of package val and of the document's layer 3, called with any values, return what P3.1, P3.3 and P3.6 say; the world has new blocks at most.
  Zero and Put of package val and of the document's layer 3, called with any values, return what P3.3 and P3.6 say; the world has new blocks at most.
-/
import Derived.Test.YtjcnjmlgedmmoaaDoorM2
import Derived.Laws.Bits128
namespace Go.Proofs.YtjcnjmlgedmmoaaDoor
open Go.RowKit

/-- The number of the first j bytes. -/
def accOf (s : ByteArray) : Nat → Nat
  | 0 => 0
  | j + 1 => accOf s j + (s.data.toList.getD j 0).toNat % 128 * 128 ^ j
/-- What holds at the first loop's head: k bytes are gone through, all of them 128 or above. -/
def RInv (s : ByteArray) (k : Nat) : Prop := TkInv s k (accOf s k) ∧ ∀ i, i < k → 128 ≤ (s.data.toList.getD i 0).toNat

theorem getD_at (s : ByteArray) (k : Nat) (h : k < s.size) : s.data.toList.getD k 0 = s[k] := by
  have hl : k < s.data.toList.length := h
  unfold List.getD
  rw [List.getElem?_eq_getElem hl]
  rfl
theorem rInv_next {s : ByteArray} {k : Nat} (h : RInv s k) (hlt : k < s.size) (h9 : k < 9) (hc : 128 ≤ s[k].toNat) : RInv s (k + 1) := by
  refine ⟨?_, ?_⟩
  · have := tkInv_next h.1 hlt (by omega) (by omega)
    unfold accOf
    rw [getD_at s k hlt]
    exact this
  · intro i hi
    by_cases e : i = k
    · subst e; rw [getD_at s i hlt]; exact hc
    · exact h.2 i (by omega)

/-- The index of a text, in the walk's own words. -/
theorem idx (s : ByteArray) (k : Nat) (hlt : k < s.size) : ∃ c : Nat, RowKit.Hid (c = s[k].toNat) ∧ c < 256 ∧ ∀ wx, (Instr.index 9 (.string s) (.int .i64 k)).run Tryd.prog wx = .ok (.int .u8 c) wx :=
  ⟨_, rfl, UInt8.toNat_lt _, fun wx => by rw [run_index_string _ _ _ _ _ Tryd.underlying9]; simp [hlt]⟩

/-- What holds at the second loop's head: m is the number from place j on. -/
def LInv (s : ByteArray) (T j m : Nat) : Prop := m * 128 ^ j + accOf s j = T ∧ T < 18446744073709551616
theorem lInv_step {s : ByteArray} {T p m c : Nat} (h : LInv s T (p + 1) m) (hlt : p < s.size) (hc : c = s[p].toNat) (h128 : 128 ≤ c) :
    LInv s T p (128 * m + (c - 128)) ∧ 128 * m + (c - 128) < 18446744073709551616 := by
  have hb : c < 256 := by rw [hc]; exact UInt8.toNat_lt _
  obtain ⟨h1, h2⟩ := h
  have hp : 0 < 128 ^ p := Nat.pow_pos (by omega)
  have e : (128 * m + (c - 128)) * 128 ^ p + accOf s p = T := by
    rw [← h1, show accOf s (p + 1) = accOf s p + (s.data.toList.getD p 0).toNat % 128 * 128 ^ p from rfl]
    rw [getD_at s p hlt, ← hc, Nat.add_mul, Nat.pow_succ, show c % 128 = c - 128 by omega]
    have : 128 * m * 128 ^ p = m * (128 ^ p * 128) := by
      rw [Nat.mul_comm 128 m, Nat.mul_assoc, Nat.mul_comm 128 (128 ^ p)]
    omega
  refine ⟨⟨e, h2⟩, ?_⟩
  have : (128 * m + (c - 128)) * 1 ≤ (128 * m + (c - 128)) * 128 ^ p := Nat.mul_le_mul_left _ hp
  omega
theorem lInv_last {s : ByteArray} {T m : Nat} (h : LInv s T 0 m) : m = T := by
  obtain ⟨h1, _⟩ := h
  simpa [accOf] using h1

set_option maxRecDepth 100000 in
set_option maxHeartbeats 2000000 in
theorem rtake_any (s : ByteArray) (w : World) (hs : s.size ≤ 100000) :
    Calls Tryd.prog 29 #[.string s] w fun e w' => e = .returned (.tuple #[.int .u64 (tkN s), .string (tkR s), .int .i64 (tkE s)]) ∧ Grown w w' := by
  go_enter Tryd.func29, Tryd.ntmps29
  go_wp2
  go_loop [5] (fun i => ∃ k : Nat, RInv s k ∧ i = .int .i64 k) (fun i => s.size - (intOf i).toNat)
  case atStart => exact ⟨0, ⟨⟨by omega, by omega, by simp [accOf], by simp [takeL, accOf]⟩, fun i hi => by omega⟩, rfl⟩
  case round =>
    obtain ⟨k, hinv, rfl⟩ := hrel
    obtain ⟨hk9, hks, _⟩ := tkInv_bd hinv.1
    by_cases hlt : k < s.size
    · obtain ⟨c, HC, hc256, hix⟩ := idx s k hlt
      have hl1 : decide (k < s.size) = true := by simpa using hlt
      have hl2 : (k == s.size) = false := by simp; omega
      have hl3 : ((k : Int) == (s.size : Int)) = false := by simp; omega
      by_cases h9 : k < 9
      · have h91 : decide ((k : Int) < 9) = true := by simp; omega
        have h92 : ((k : Int) == 9) = false := by simp; omega
        by_cases h128 : 128 ≤ c
        · have h1281 : decide (128 ≤ (c : Int)) = true := by simp; omega
          have HN := Lib.hid (rInv_next hinv hlt h9 (by rw [← HC.out]; exact h128))
          go_wp2
          exact ⟨⟨k + 1, HN.out, by go_num⟩, by simp [intOf]; omega⟩
        · have h1281 : decide (128 ≤ (c : Int)) = false := by simp; omega
          by_cases hf : 0 < k ∧ c = 0
          · have ec1 : ((c : Int) == 0) = true := by simp [hf.2]
            have hk0 : 0 < k := hf.1
            have HR := Lib.hid (res_err (tkInv_form hinv.1 hlt hf.1 (by rw [← HC.out]; exact hf.2)))
            clear hf
            go_wp2
            go_ret3
            exact ⟨ret3 (by rw [HR.out.1]; rfl) HR.out.2.1.symm (by rw [HR.out.2.2]; rfl), Grown.refl _⟩
          · have HR := Lib.hid (res_ok (tkInv_ok hinv.1 hlt (by omega) (by rw [← HC.out]; omega) (by rw [← HC.out]; omega)))
            by_cases hk0 : 0 < k
            · have ec1 : ((c : Int) == 0) = false := by simp; omega
              clear hf
              have HT : RowKit.Hid (LInv s (tkN s) k c) := ⟨by rw [HR.out.1, ← HC.out]; omega, tkN_bd s⟩
              have HV := Lib.hid hinv.2
              have H9 := Lib.hid hk9
              go_wp2
              go_loop [6, 7] (fun n i => ∃ (m : Nat) (z : Int), -1 ≤ z ∧ z < k ∧ LInv s (tkN s) (z + 1).toNat m ∧ n = .int .u64 m ∧ i = .int .i64 z) (fun _ i => (intOf i + 1).toNat)
              case atStart => exact ⟨c, (k : Int) - 1, by omega, by omega, by rw [show ((k : Int) - 1 + 1).toNat = k by omega]; exact HT.out, rfl, rfl⟩
              case round =>
                obtain ⟨m, z, hz1, hz2, hli, rfl, rfl⟩ := hrel
                by_cases hz0 : 0 ≤ z
                · obtain ⟨p, rfl⟩ : ∃ p : Nat, z = (p : Int) := ⟨z.toNat, by omega⟩
                  obtain ⟨d, HD, hd256, hixp⟩ := idx s p (by omega)
                  have hd128 : 128 ≤ d := by have := HV.out p (by omega); rw [getD_at s p (by omega), ← HD.out] at this; exact this
                  have hst := lInv_step (m := m) (by rw [show ((p : Int) + 1).toNat = p + 1 by omega] at hli; exact hli) (by omega) HD.out hd128
                  have HL := Lib.hid hst.1
                  have hm1 : (128 * (m : Int) + ((d : Int) - 128)) < 18446744073709551616 := by have := hst.2; omega
                  clear hst hli
                  go_wp2
                  exact ⟨⟨128 * m + (d - 128), (p : Int) - 1, by omega, by omega, by rw [show ((p : Int) - 1 + 1).toNat = p by omega]; exact HL.out, by go_num, rfl⟩, by simp [intOf]⟩
                · have hm : m = tkN s := by
                    obtain rfl : z = -1 := by omega
                    exact lInv_last hli
                  have HM := Lib.hid hm
                  clear hm hli
                  go_wp2
                  go_quiet (fail)
                  go_wp2
                  go_ret3
                  exact ⟨ret3 (by rw [HM.out]) HR.out.2.1.symm (by rw [HR.out.2.2]; rfl), grown_drewN _ _⟩
            · have hk0' : decide (0 < k) = false := by simpa using hk0
              clear hf
              have HT : RowKit.Hid (LInv s (tkN s) k c) := ⟨by rw [HR.out.1, ← HC.out]; omega, tkN_bd s⟩
              have HV := Lib.hid hinv.2
              have H9 := Lib.hid hk9
              go_wp2
              go_loop [6, 7] (fun n i => ∃ (m : Nat) (z : Int), -1 ≤ z ∧ z < k ∧ LInv s (tkN s) (z + 1).toNat m ∧ n = .int .u64 m ∧ i = .int .i64 z) (fun _ i => (intOf i + 1).toNat)
              case atStart => exact ⟨c, (k : Int) - 1, by omega, by omega, by rw [show ((k : Int) - 1 + 1).toNat = k by omega]; exact HT.out, rfl, rfl⟩
              case round =>
                obtain ⟨m, z, hz1, hz2, hli, rfl, rfl⟩ := hrel
                by_cases hz0 : 0 ≤ z
                · obtain ⟨p, rfl⟩ : ∃ p : Nat, z = (p : Int) := ⟨z.toNat, by omega⟩
                  obtain ⟨d, HD, hd256, hixp⟩ := idx s p (by omega)
                  have hd128 : 128 ≤ d := by have := HV.out p (by omega); rw [getD_at s p (by omega), ← HD.out] at this; exact this
                  have hst := lInv_step (m := m) (by rw [show ((p : Int) + 1).toNat = p + 1 by omega] at hli; exact hli) (by omega) HD.out hd128
                  have HL := Lib.hid hst.1
                  have hm1 : (128 * (m : Int) + ((d : Int) - 128)) < 18446744073709551616 := by have := hst.2; omega
                  clear hst hli
                  go_wp2
                  exact ⟨⟨128 * m + (d - 128), (p : Int) - 1, by omega, by omega, by rw [show ((p : Int) - 1 + 1).toNat = p by omega]; exact HL.out, by go_num, rfl⟩, by simp [intOf]⟩
                · have hm : m = tkN s := by
                    obtain rfl : z = -1 := by omega
                    exact lInv_last hli
                  have HM := Lib.hid hm
                  clear hm hli
                  go_wp2
                  go_quiet (fail)
                  go_wp2
                  go_ret3
                  exact ⟨ret3 (by rw [HM.out]) HR.out.2.1.symm (by rw [HR.out.2.2]; rfl), grown_drewN _ _⟩
      · have h91 : decide ((k : Int) < 9) = false := by simp; omega
        have h92 : ((k : Int) == 9) = true := by simp; omega
        have hix9 : ∀ wx, (Instr.index 9 (.string s) (.int .i64 9)).run Tryd.prog wx = .ok (.int .u8 c) wx := by
          have : (k : Int) = 9 := by omega
          rw [← this]; exact hix
        by_cases hl : 1 < c
        · have el1 : decide ((1 : Int) < (c : Int)) = true := by simp; omega
          have HR := Lib.hid (res_err (tkInv_long hinv.1 hlt (by omega) (by rw [← HC.out]; exact hl)))
          go_wp2
          go_ret3
          exact ⟨ret3 (by rw [HR.out.1]; rfl) HR.out.2.1.symm (by rw [HR.out.2.2]; rfl), Grown.refl _⟩
        have el1 : decide ((1 : Int) < (c : Int)) = false := by simp; omega
        have hk0 : 0 < k := by omega
        by_cases hz : c = 0
        · have ec1 : ((c : Int) == 0) = true := by simp [hz]
          have HR := Lib.hid (res_err (tkInv_form hinv.1 hlt hk0 (by rw [← HC.out]; exact hz)))
          clear hz
          go_wp2
          go_ret3
          exact ⟨ret3 (by rw [HR.out.1]; rfl) HR.out.2.1.symm (by rw [HR.out.2.2]; rfl), Grown.refl _⟩
        · have ec1 : ((c : Int) == 0) = false := by simp; omega
          have HR := Lib.hid (res_ok (tkInv_ok hinv.1 hlt (by rw [← HC.out]; omega) (by rw [← HC.out]; omega) (by rw [← HC.out]; omega)))
          have HT : RowKit.Hid (LInv s (tkN s) k c) := ⟨by rw [HR.out.1, ← HC.out]; omega, tkN_bd s⟩
          have HV := Lib.hid hinv.2
          have H9 := Lib.hid hk9
          go_wp2
          go_loop [6, 7] (fun n i => ∃ (m : Nat) (z : Int), -1 ≤ z ∧ z < k ∧ LInv s (tkN s) (z + 1).toNat m ∧ n = .int .u64 m ∧ i = .int .i64 z) (fun _ i => (intOf i + 1).toNat)
          case atStart => exact ⟨c, (k : Int) - 1, by omega, by omega, by rw [show ((k : Int) - 1 + 1).toNat = k by omega]; exact HT.out, rfl, rfl⟩
          case round =>
            obtain ⟨m, z, hz1, hz2, hli, rfl, rfl⟩ := hrel
            by_cases hz0 : 0 ≤ z
            · obtain ⟨p, rfl⟩ : ∃ p : Nat, z = (p : Int) := ⟨z.toNat, by omega⟩
              obtain ⟨d, HD, hd256, hixp⟩ := idx s p (by omega)
              have hd128 : 128 ≤ d := by have := HV.out p (by omega); rw [getD_at s p (by omega), ← HD.out] at this; exact this
              have hst := lInv_step (m := m) (by rw [show ((p : Int) + 1).toNat = p + 1 by omega] at hli; exact hli) (by omega) HD.out hd128
              have HL := Lib.hid hst.1
              have hm1 : (128 * (m : Int) + ((d : Int) - 128)) < 18446744073709551616 := by have := hst.2; omega
              clear hst hli
              go_wp2
              exact ⟨⟨128 * m + (d - 128), (p : Int) - 1, by omega, by omega, by rw [show ((p : Int) - 1 + 1).toNat = p by omega]; exact HL.out, by go_num, rfl⟩, by simp [intOf]⟩
            · have hm : m = tkN s := by
                obtain rfl : z = -1 := by omega
                exact lInv_last hli
              have HM := Lib.hid hm
              clear hm hli
              go_wp2
              go_quiet (fail)
              go_wp2
              go_ret3
              exact ⟨ret3 (by rw [HM.out]) HR.out.2.1.symm (by rw [HR.out.2.2]; rfl), grown_drewN _ _⟩
    · have hl1 : decide (k < s.size) = false := by simpa using hlt
      have hl2 : (k == s.size) = true := by simp; omega
      have hl3 : ((k : Int) == (s.size : Int)) = true := by simp; omega
      have HR := Lib.hid (res_err (tkInv_end hinv.1 hlt))
      go_wp2
      go_ret3
      exact ⟨ret3 (by rw [HR.out.1]; rfl) HR.out.2.1.symm (by rw [HR.out.2.2]; rfl), Grown.refl _⟩

theorem rtakeInt_any (s : ByteArray) (w : World) (hs : s.size ≤ 100000) :
    Calls Tryd.prog 69 #[.string s] w fun e w' => e = .returned (.tuple #[.int .i64 (tiN s), .string (tkR s), .int .i64 (tkE s)]) ∧ Grown w w' := by
  have hn := tkN_bd s
  by_cases h : tkE s = 0
  · have he : ((tkE s : Int) != 0) = false := by simp [h]
    have H := Lib.hid h
    clear h
    go_enter Tryd.func69, Tryd.ntmps69
    go_wp2_with (first | (go_at_call 29; refine (rtake_any _ _ hs).mono ?_; rintro e w1 ⟨rfl, hg⟩) | (go_at_call 77; refine (rzag_any _ _ (by omega) (by omega)).mono ?_; rintro e w2 ⟨rfl, rfl⟩))
    go_ret3
    exact ⟨ret3i (by unfold tiN; rw [if_pos H.out]) rfl (by rw [H.out]; rfl), by assumption⟩
  · have he : ((tkE s : Int) != 0) = true := by simp [h]
    have H := Lib.hid h
    clear h
    go_enter Tryd.func69, Tryd.ntmps69
    go_wp2_with (first | (go_at_call 29; refine (rtake_any _ _ hs).mono ?_; rintro e w1 ⟨rfl, hg⟩) | (go_at_call 77; refine (rzag_any _ _ (by omega) (by omega)).mono ?_; rintro e w2 ⟨rfl, rfl⟩))
    go_ret3
    exact ⟨ret3i (by unfold tiN; rw [if_neg H.out]) (tk_bad s H.out).2.symm rfl, by assumption⟩

set_option maxRecDepth 100000 in
theorem rtakeText_any (s : ByteArray) (most : Int) (w : World) (hs : s.size ≤ 100000) (h1 : -9223372036854775808 ≤ most) (h2 : most ≤ 9223372036854775807) :
    Calls Tryd.prog 68 #[.string s, .int .i64 most] w fun e w' => e = .returned (.tuple #[.string (ttT s most), .string (ttR s most), .int .i64 (ttE s most)]) ∧ Grown w w' := by
  have hn := tkN_bd s
  have hr := tkR_size s
  by_cases h : tkE s = 0
  · have he : ((tkE s : Int) != 0) = false := by simp [h]
    by_cases hm : most < 0
    · have HR := Lib.hid (tt_of (s := s) (most := most) (by unfold ttL; rw [if_neg (by omega), if_pos (by omega)]))
      have hmb : decide (most < 0) = true := by simpa using hm
      have H := Lib.hid h
      clear h
      go_enter Tryd.func68, Tryd.ntmps68
      go_wp2_with (go_at_call 29; refine (rtake_any _ _ hs).mono ?_; rintro e w1 ⟨rfl, hg⟩)
      go_ret3
      exact ⟨ret3s HR.out.1 HR.out.2.1 (by rw [← HR.out.2.2]; rfl), by assumption⟩
    by_cases hl : most < (tkN s : Int)
    · have HR := Lib.hid (tt_of (s := s) (most := most) (by unfold ttL; rw [if_neg (by omega), if_pos (by omega)]))
      have hmb : decide (most < 0) = false := by simpa using hm
      have hlb : decide (most < (tkN s : Int)) = true := by simpa using hl
      have H := Lib.hid h
      clear h
      go_enter Tryd.func68, Tryd.ntmps68
      go_wp2_with (go_at_call 29; refine (rtake_any _ _ hs).mono ?_; rintro e w1 ⟨rfl, hg⟩)
      go_ret3
      exact ⟨ret3s HR.out.1 HR.out.2.1 (by rw [← HR.out.2.2]; rfl), by assumption⟩
    by_cases hz : (tkR s).size < tkN s
    · have HR := Lib.hid (tt_of (s := s) (most := most) (by unfold ttL; rw [if_neg (by omega), if_neg (by omega), if_pos hz]))
      have hmb : decide (most < 0) = false := by simpa using hm
      have hlb : decide (most < (tkN s : Int)) = false := by simpa using hl
      have hzb : decide ((tkR s).size < tkN s) = true := by simpa using hz
      have H := Lib.hid h
      clear h
      go_enter Tryd.func68, Tryd.ntmps68
      go_wp2_with (go_at_call 29; refine (rtake_any _ _ hs).mono ?_; rintro e w1 ⟨rfl, hg⟩)
      go_ret3
      exact ⟨ret3s HR.out.1 HR.out.2.1 (by rw [← HR.out.2.2]; rfl), by assumption⟩
    · have HR := Lib.hid (tt_of (s := s) (most := most) (by unfold ttL; rw [if_neg (by omega), if_neg (by omega), if_neg hz]))
      have hmb : decide (most < 0) = false := by simpa using hm
      have hlb : decide (most < (tkN s : Int)) = false := by simpa using hl
      have hzb : decide ((tkR s).size < tkN s) = false := by simpa using hz
      have H := Lib.hid h
      clear h
      go_enter Tryd.func68, Tryd.ntmps68
      go_wp2_with (go_at_call 29; refine (rtake_any _ _ hs).mono ?_; rintro e w1 ⟨rfl, hg⟩)
      go_quiet (fail)
      go_wp2
      go_ret3
      exact ⟨ret3s HR.out.1 HR.out.2.1 (by rw [← HR.out.2.2]; rfl), grown_trans hg (grown_drewN _ _)⟩
  · have he : ((tkE s : Int) != 0) = true := by simp [h]
    have HR := Lib.hid (tt_of (s := s) (most := most) (by unfold ttL; rw [if_pos h]))
    clear h
    go_enter Tryd.func68, Tryd.ntmps68
    go_wp2_with (go_at_call 29; refine (rtake_any _ _ hs).mono ?_; rintro e w1 ⟨rfl, hg⟩)
    go_ret3
    exact ⟨ret3s HR.out.1 HR.out.2.1 (by rw [← HR.out.2.2]), by assumption⟩
end Go.Proofs.YtjcnjmlgedmmoaaDoor

namespace Go.Proofs.YtjcnjmlgedmmoaaDoor
open Go.RowKit
/-- P3.1. -/
def rightB (k n : Int) (t : ByteArray) : Bool := decide ((k = 1 ∧ t.size = 0) ∨ (k = 2 ∧ t.size ≤ 200 ∧ n = 0) ∨ (k = 3 ∧ t.size = 0 ∧ (n = 0 ∨ n = 1)))
theorem ret_bool {a b : Bool} (h : a = b) : Ending.returned (.bool a) = .returned (.bool b) := by rw [h]
theorem ret_str {a b : ByteArray} (h : a = b) : Ending.returned (.string a) = .returned (.string b) := by rw [h]
theorem empty_of {t : ByteArray} (h : t.size = 0) : t = ⟨#[]⟩ := by
  apply ba_ext; exact List.eq_nil_of_length_eq_zero h
theorem full_of {t : ByteArray} (h : ¬ t.size = 0) : t.toList ≠ [] ∧ t.toList.isEmpty = false ∧ (t.toList == []) = false := by
  have : t.toList ≠ [] := by rw [Lib.toList_data]; intro e; exact h (by rw [ba_size, e]; rfl)
  exact ⟨this, by simpa using this, by simpa using this⟩
theorem vright_any (k n : Int) (t : ByteArray) (w : World) (hs : t.size ≤ 9223372036854775807) :
    Calls Tryd.prog 25 #[.agg #[.int .i64 k, .int .i64 n, .string t]] w fun e w' => e = .returned (.bool (rightB k n t)) ∧ Grown w w' := by
  by_cases h1 : k = 1
  · subst h1
    by_cases ht : t.size = 0
    · have HR := Lib.hid (show true = rightB 1 n t by unfold rightB; simp [ht])
      obtain rfl := empty_of ht
      clear hs ht
      go_enter Tryd.func25, Tryd.ntmps25
      go_wp2
      go_ret
      exact ⟨ret_bool (by first | rfl | exact HR.out), (Grown.refl _).alloc _ _⟩
    · have HR := Lib.hid (show false = rightB 1 n t by unfold rightB; simp [ht])
      obtain ⟨q1, q2, q3⟩ := full_of ht
      go_enter Tryd.func25, Tryd.ntmps25
      go_wp2
      go_ret
      exact ⟨ret_bool (by first | rfl | exact HR.out), (Grown.refl _).alloc _ _⟩
  by_cases h2 : k = 2
  · subst h2
    by_cases ht : t.size ≤ 200
    · have d1 : decide ((t.size : Int) ≤ 200) = true := by simp; omega
      by_cases hn : n = 0
      · subst hn
        have HR := Lib.hid (show true = rightB 2 0 t by unfold rightB; simp [ht])
        go_enter Tryd.func25, Tryd.ntmps25
        go_wp2
        go_ret
        exact ⟨ret_bool (by first | rfl | exact HR.out), (Grown.refl _).alloc _ _⟩
      · have HR := Lib.hid (show false = rightB 2 n t by unfold rightB; simp [hn])
        have d2 : (n == 0) = false := by simpa using hn
        go_enter Tryd.func25, Tryd.ntmps25
        go_wp2
        go_ret
        exact ⟨ret_bool (by first | rfl | exact HR.out), (Grown.refl _).alloc _ _⟩
    · have HR := Lib.hid (show false = rightB 2 n t by unfold rightB; simp; omega)
      have d1 : decide ((t.size : Int) ≤ 200) = false := by simp; omega
      by_cases hn : n = 0
      · subst hn
        go_enter Tryd.func25, Tryd.ntmps25
        go_wp2
        go_ret
        exact ⟨ret_bool (by first | rfl | exact HR.out), (Grown.refl _).alloc _ _⟩
      · have d2 : (n == 0) = false := by simpa using hn
        go_enter Tryd.func25, Tryd.ntmps25
        go_wp2
        go_ret
        exact ⟨ret_bool (by first | rfl | exact HR.out), (Grown.refl _).alloc _ _⟩
  by_cases h3 : k = 3
  · subst h3
    by_cases ht : t.size = 0
    · obtain rfl := empty_of ht
      clear ht hs
      by_cases hn : n = 0
      · subst hn
        have HR := Lib.hid (show true = rightB 3 0 ⟨#[]⟩ by decide)
        go_enter Tryd.func25, Tryd.ntmps25
        go_wp2
        go_ret
        exact ⟨ret_bool (by first | rfl | exact HR.out), (Grown.refl _).alloc _ _⟩
      · have d2 : (n == 0) = false := by simpa using hn
        by_cases hm : n = 1
        · subst hm
          have HR := Lib.hid (show true = rightB 3 1 ⟨#[]⟩ by decide)
          go_enter Tryd.func25, Tryd.ntmps25
          go_wp2
          go_ret
          exact ⟨ret_bool (by first | rfl | exact HR.out), (Grown.refl _).alloc _ _⟩
        · have d3 : (n == 1) = false := by simpa using hm
          have HR := Lib.hid (show false = rightB 3 n ⟨#[]⟩ by unfold rightB; simp [hn, hm])
          go_enter Tryd.func25, Tryd.ntmps25
          go_wp2
          go_ret
          exact ⟨ret_bool (by first | rfl | exact HR.out), (Grown.refl _).alloc _ _⟩
    · have HR := Lib.hid (show false = rightB 3 n t by unfold rightB; simp [ht])
      obtain ⟨q1, q2, q3⟩ := full_of ht
      go_enter Tryd.func25, Tryd.ntmps25
      go_wp2
      go_ret
      exact ⟨ret_bool (by first | rfl | exact HR.out), (Grown.refl _).alloc _ _⟩
  · have HR := Lib.hid (show false = rightB k n t by unfold rightB; simp [h1, h2, h3])
    have d1 : (k == 1) = false := by simpa using h1
    have d2 : (k == 2) = false := by simpa using h2
    have d3 : (k == 3) = false := by simpa using h3
    go_enter Tryd.func25, Tryd.ntmps25
    go_wp2
    go_ret
    exact ⟨ret_bool (by first | rfl | exact HR.out), (Grown.refl _).alloc _ _⟩
theorem rright_any (k n : Int) (t : ByteArray) (w : World) (hs : t.size ≤ 9223372036854775807) :
    Calls Tryd.prog 41 #[.agg #[.int .i64 k, .int .i64 n, .string t]] w fun e w' => e = .returned (.bool (rightB k n t)) ∧ Grown w w' := by
  by_cases h1 : k = 1
  · subst h1
    by_cases ht : t.size = 0
    · have HR := Lib.hid (show true = rightB 1 n t by unfold rightB; simp [ht])
      obtain rfl := empty_of ht
      clear hs ht
      go_enter Tryd.func41, Tryd.ntmps41
      go_wp2
      go_ret
      exact ⟨ret_bool (by first | rfl | exact HR.out), (Grown.refl _).alloc _ _⟩
    · have HR := Lib.hid (show false = rightB 1 n t by unfold rightB; simp [ht])
      obtain ⟨q1, q2, q3⟩ := full_of ht
      go_enter Tryd.func41, Tryd.ntmps41
      go_wp2
      go_ret
      exact ⟨ret_bool (by first | rfl | exact HR.out), (Grown.refl _).alloc _ _⟩
  by_cases h2 : k = 2
  · subst h2
    by_cases ht : t.size ≤ 200
    · have d1 : decide ((t.size : Int) ≤ 200) = true := by simp; omega
      by_cases hn : n = 0
      · subst hn
        have HR := Lib.hid (show true = rightB 2 0 t by unfold rightB; simp [ht])
        go_enter Tryd.func41, Tryd.ntmps41
        go_wp2
        go_ret
        exact ⟨ret_bool (by first | rfl | exact HR.out), (Grown.refl _).alloc _ _⟩
      · have HR := Lib.hid (show false = rightB 2 n t by unfold rightB; simp [hn])
        have d2 : (n == 0) = false := by simpa using hn
        go_enter Tryd.func41, Tryd.ntmps41
        go_wp2
        go_ret
        exact ⟨ret_bool (by first | rfl | exact HR.out), (Grown.refl _).alloc _ _⟩
    · have HR := Lib.hid (show false = rightB 2 n t by unfold rightB; simp; omega)
      have d1 : decide ((t.size : Int) ≤ 200) = false := by simp; omega
      by_cases hn : n = 0
      · subst hn
        go_enter Tryd.func41, Tryd.ntmps41
        go_wp2
        go_ret
        exact ⟨ret_bool (by first | rfl | exact HR.out), (Grown.refl _).alloc _ _⟩
      · have d2 : (n == 0) = false := by simpa using hn
        go_enter Tryd.func41, Tryd.ntmps41
        go_wp2
        go_ret
        exact ⟨ret_bool (by first | rfl | exact HR.out), (Grown.refl _).alloc _ _⟩
  by_cases h3 : k = 3
  · subst h3
    by_cases ht : t.size = 0
    · obtain rfl := empty_of ht
      clear ht hs
      by_cases hn : n = 0
      · subst hn
        have HR := Lib.hid (show true = rightB 3 0 ⟨#[]⟩ by decide)
        go_enter Tryd.func41, Tryd.ntmps41
        go_wp2
        go_ret
        exact ⟨ret_bool (by first | rfl | exact HR.out), (Grown.refl _).alloc _ _⟩
      · have d2 : (n == 0) = false := by simpa using hn
        by_cases hm : n = 1
        · subst hm
          have HR := Lib.hid (show true = rightB 3 1 ⟨#[]⟩ by decide)
          go_enter Tryd.func41, Tryd.ntmps41
          go_wp2
          go_ret
          exact ⟨ret_bool (by first | rfl | exact HR.out), (Grown.refl _).alloc _ _⟩
        · have d3 : (n == 1) = false := by simpa using hm
          have HR := Lib.hid (show false = rightB 3 n ⟨#[]⟩ by unfold rightB; simp [hn, hm])
          go_enter Tryd.func41, Tryd.ntmps41
          go_wp2
          go_ret
          exact ⟨ret_bool (by first | rfl | exact HR.out), (Grown.refl _).alloc _ _⟩
    · have HR := Lib.hid (show false = rightB 3 n t by unfold rightB; simp [ht])
      obtain ⟨q1, q2, q3⟩ := full_of ht
      go_enter Tryd.func41, Tryd.ntmps41
      go_wp2
      go_ret
      exact ⟨ret_bool (by first | rfl | exact HR.out), (Grown.refl _).alloc _ _⟩
  · have HR := Lib.hid (show false = rightB k n t by unfold rightB; simp [h1, h2, h3])
    have d1 : (k == 1) = false := by simpa using h1
    have d2 : (k == 2) = false := by simpa using h2
    have d3 : (k == 3) = false := by simpa using h3
    go_enter Tryd.func41, Tryd.ntmps41
    go_wp2
    go_ret
    exact ⟨ret_bool (by first | rfl | exact HR.out), (Grown.refl _).alloc _ _⟩
end Go.Proofs.YtjcnjmlgedmmoaaDoor

namespace Go.Proofs.YtjcnjmlgedmmoaaDoor
open Go.RowKit

/-- P3.6. -/
def zeroK (k : Int) : Int := if 1 ≤ k ∧ k ≤ 3 then k else 0

/-- P3.3. -/
def putV (b : ByteArray) (k n : Int) (t : ByteArray) : ByteArray :=
  if k % 4 = 0 then b ++ putS 0 else if k % 4 = 2 then b ++ putS 2 ++ putS t.size ++ t else b ++ putS (k % 4).toNat ++ putS (zigI n).toNat

theorem i64_and3 (n : Int) : bits .and .i64 n 3 = n % 4 := by
  have h3 : (BitVec.ofInt 64 3).toNat = 2 ^ 2 - 1 := by decide
  have key : (BitVec.ofInt 64 n &&& BitVec.ofInt 64 3).toNat = (n % ((2 ^ 64 : Nat) : Int)).toNat % 2 ^ 2 := by
    rw [BitVec.toNat_and, BitVec.toNat_ofInt, h3, Nat.and_two_pow_sub_one_eq_mod]
  show IntKind.i64.wrap ((BitVec.ofInt 64 n &&& BitVec.ofInt 64 3).toNat : Nat) = n % 4
  rw [key, IntKind.wrap_i64]
  omega
theorem i64_and1 (n : Int) : bits .and .i64 n 1 = n % 2 := by
  have h3 : (BitVec.ofInt 64 1).toNat = 2 ^ 1 - 1 := by decide
  have key : (BitVec.ofInt 64 n &&& BitVec.ofInt 64 1).toNat = (n % ((2 ^ 64 : Nat) : Int)).toNat % 2 ^ 1 := by
    rw [BitVec.toNat_and, BitVec.toNat_ofInt, h3, Nat.and_two_pow_sub_one_eq_mod]
  show IntKind.i64.wrap ((BitVec.ofInt 64 n &&& BitVec.ofInt 64 1).toNat : Nat) = n % 2
  rw [key, IntKind.wrap_i64]
  omega
theorem put9 (b : ByteArray) (n : Int) (m : Nat) (hm : n = (m : Int)) (w : World) (h : m < 18446744073709551616) (hb : b.size ≤ 4611686018427387904) :
    Calls Tryd.prog 46 #[.string b, .int .u64 n] w fun e w' => e = .returned (.string (b ++ putS m)) ∧ Grown w w' := by
  subst hm; exact put_any b m w h hb
theorem rput9m (b : ByteArray) (n : Int) (m : Nat) (hm : n = (m : Int)) (w : World) (h : m < 18446744073709551616) (hb : b.size ≤ 100000) :
    Calls Tryd.prog 50 #[.string b, .int .u64 n] w fun e w' => e = .returned (.string (b ++ putS m)) ∧ Grown w w' := by
  have := rput9 b n w (by omega) (by omega) hb
  subst hm
  rw [Int.toNat_natCast] at this
  exact this

set_option maxRecDepth 100000 in
set_option maxHeartbeats 1000000 in
theorem vput_any (b : ByteArray) (k n : Int) (t : ByteArray) (w : World) (h1 : -9223372036854775808 ≤ n) (h2 : n ≤ 9223372036854775807) (hb : b.size ≤ 1000000000000) (ht : t.size ≤ 1000000000000) :
    Calls Tryd.prog 48 #[.string b, .agg #[.int .i64 k, .int .i64 n, .string t]] w fun e w' => e = .returned (.string (putV b k n t)) ∧ Grown w w' := by
  have hand := i64_and3 k
  have hpz : ∀ m, (b ++ putS m).size ≤ 1000000000010 := fun m => by rw [ByteArray.size_append]; have := putS_size m; omega
  obtain h | h | h | h : k % 4 = 0 ∨ k % 4 = 1 ∨ k % 4 = 2 ∨ k % 4 = 3 := by omega
  · have HR := Lib.hid (show b ++ putS 0 = putV b k n t by unfold putV; rw [if_pos h])
    rw [h] at hand
    have HB := Lib.hid hb
    clear h hpz hb ht h1 h2
    go_enter Tryd.func48, Tryd.ntmps48
    go_wp2_with (go_at_call 46; ((with_reducible refine (put9 b 0 0 rfl _ (by decide) (Nat.le_trans HB.out (by decide))).mono ?_); rintro e w1 ⟨rfl, hg⟩))
    go_ret
    exact ⟨ret_str HR.out, grown_trans ((Grown.refl _).alloc _ _) (by assumption)⟩
  · have HR := Lib.hid (show b ++ putS 1 ++ putS (zigI n).toNat = putV b k n t by unfold putV; rw [if_neg (by omega), if_neg (by omega), h]; rfl)
    rw [h] at hand
    have HB := Lib.hid hb
    have HP := Lib.hid (hpz 1)
    clear h hpz hb ht
    go_enter Tryd.func48, Tryd.ntmps48
    go_wp2_with (first
      | (go_at_call 46; ((with_reducible refine (put9 b 1 1 rfl _ (by decide) (Nat.le_trans HB.out (by decide))).mono ?_); rintro e w1 ⟨rfl, hg⟩; have hc := grown_box hg 1 (.int .i64 n) rfl))
      | (go_at_call 63; ((with_reducible refine (int_any _ n _ h1 h2 (Nat.le_trans HP.out (by decide))).mono ?_); rintro e w2 ⟨rfl, hg2⟩)))
    go_ret
    exact ⟨ret_str HR.out, grown_trans ((Grown.refl _).alloc _ _) (grown_trans hg hg2)⟩
  · have HR := Lib.hid (show b ++ putS 2 ++ putS t.size ++ t = putV b k n t by unfold putV; rw [if_neg (by omega), if_pos h])
    rw [h] at hand
    have HB := Lib.hid hb
    have HT := Lib.hid ht
    have HP := Lib.hid (hpz 2)
    clear h hpz hb ht h1 h2
    go_enter Tryd.func48, Tryd.ntmps48
    go_wp2_with (first
      | (go_at_call 46; ((with_reducible refine (put9 b 2 2 rfl _ (by decide) (Nat.le_trans HB.out (by decide))).mono ?_); rintro e w1 ⟨rfl, hg⟩; have hc := grown_box hg 2 (.string t) rfl))
      | (go_at_call 62; ((with_reducible refine (text_any _ t _ (Nat.le_trans HP.out (by decide)) (Nat.le_trans HT.out (by decide))).mono ?_); rintro e w2 ⟨rfl, hg2⟩)))
    go_ret
    exact ⟨ret_str HR.out, grown_trans ((Grown.refl _).alloc _ _) (grown_trans hg hg2)⟩
  · have HR := Lib.hid (show b ++ putS 3 ++ putS (zigI n).toNat = putV b k n t by unfold putV; rw [if_neg (by omega), if_neg (by omega), h]; rfl)
    rw [h] at hand
    have HB := Lib.hid hb
    have HP := Lib.hid (hpz 3)
    clear h hpz hb ht
    go_enter Tryd.func48, Tryd.ntmps48
    go_wp2_with (first
      | (go_at_call 46; ((with_reducible refine (put9 b 3 3 rfl _ (by decide) (Nat.le_trans HB.out (by decide))).mono ?_); rintro e w1 ⟨rfl, hg⟩; have hc := grown_box hg 1 (.int .i64 n) rfl))
      | (go_at_call 63; ((with_reducible refine (int_any _ n _ h1 h2 (Nat.le_trans HP.out (by decide))).mono ?_); rintro e w2 ⟨rfl, hg2⟩)))
    go_ret
    exact ⟨ret_str HR.out, grown_trans ((Grown.refl _).alloc _ _) (grown_trans hg hg2)⟩
set_option maxRecDepth 100000 in
set_option maxHeartbeats 1000000 in
theorem rput_anyV (b : ByteArray) (k n : Int) (t : ByteArray) (w : World) (h1 : -9223372036854775808 ≤ n) (h2 : n ≤ 9223372036854775807) (hb : b.size ≤ 80000) (ht : t.size ≤ 80000) :
    Calls Tryd.prog 51 #[.string b, .agg #[.int .i64 k, .int .i64 n, .string t]] w fun e w' => e = .returned (.string (putV b k n t)) ∧ Grown w w' := by
  have hand := i64_and3 k
  have hpz : ∀ m, (b ++ putS m).size ≤ 80010 := fun m => by rw [ByteArray.size_append]; have := putS_size m; omega
  obtain h | h | h | h : k % 4 = 0 ∨ k % 4 = 1 ∨ k % 4 = 2 ∨ k % 4 = 3 := by omega
  · have HR := Lib.hid (show b ++ putS 0 = putV b k n t by unfold putV; rw [if_pos h])
    rw [h] at hand
    have HB := Lib.hid hb
    clear h hpz hb ht h1 h2
    go_enter Tryd.func51, Tryd.ntmps51
    go_wp2_with (go_at_call 50; ((with_reducible refine (rput9m b 0 0 rfl _ (by decide) (Nat.le_trans HB.out (by decide))).mono ?_); rintro e w1 ⟨rfl, hg⟩; have hc0 := grown_box hg 0 (.int .i64 k) rfl))
    go_ret
    exact ⟨ret_str HR.out, grown_trans ((Grown.refl _).alloc _ _) (by assumption)⟩
  · have HR := Lib.hid (show b ++ putS 1 ++ putS (zigI n).toNat = putV b k n t by unfold putV; rw [if_neg (by omega), if_neg (by omega), h]; rfl)
    rw [h] at hand
    have HB := Lib.hid hb
    have HP := Lib.hid (hpz 1)
    clear h hpz hb ht
    go_enter Tryd.func51, Tryd.ntmps51
    go_wp2_with (first
      | (go_at_call 50; ((with_reducible refine (rput9m b 1 1 rfl _ (by decide) (Nat.le_trans HB.out (by decide))).mono ?_); rintro e w1 ⟨rfl, hg⟩; have hc0 := grown_box hg 0 (.int .i64 k) rfl; have hc := grown_box hg 1 (.int .i64 n) rfl))
      | (go_at_call 65; ((with_reducible refine (rint_any _ n _ h1 h2 (Nat.le_trans HP.out (by decide))).mono ?_); rintro e w2 ⟨rfl, hg2⟩)))
    go_ret
    exact ⟨ret_str HR.out, grown_trans ((Grown.refl _).alloc _ _) (grown_trans hg hg2)⟩
  · have HR := Lib.hid (show b ++ putS 2 ++ putS t.size ++ t = putV b k n t by unfold putV; rw [if_neg (by omega), if_pos h])
    rw [h] at hand
    have HB := Lib.hid hb
    have HT := Lib.hid ht
    have HP := Lib.hid (hpz 2)
    clear h hpz hb ht h1 h2
    go_enter Tryd.func51, Tryd.ntmps51
    go_wp2_with (first
      | (go_at_call 50; ((with_reducible refine (rput9m b 2 2 rfl _ (by decide) (Nat.le_trans HB.out (by decide))).mono ?_); rintro e w1 ⟨rfl, hg⟩; have hc0 := grown_box hg 0 (.int .i64 k) rfl; have hc := grown_box hg 2 (.string t) rfl))
      | (go_at_call 64; ((with_reducible refine (rtext_any _ t _ (Nat.le_trans HP.out (by decide)) (Nat.le_trans HT.out (by decide))).mono ?_); rintro e w2 ⟨rfl, hg2⟩)))
    go_ret
    exact ⟨ret_str HR.out, grown_trans ((Grown.refl _).alloc _ _) (grown_trans hg hg2)⟩
  · have HR := Lib.hid (show b ++ putS 3 ++ putS (zigI n).toNat = putV b k n t by unfold putV; rw [if_neg (by omega), if_neg (by omega), h]; rfl)
    rw [h] at hand
    have HB := Lib.hid hb
    have HP := Lib.hid (hpz 3)
    clear h hpz hb ht
    go_enter Tryd.func51, Tryd.ntmps51
    go_wp2_with (first
      | (go_at_call 50; ((with_reducible refine (rput9m b 3 3 rfl _ (by decide) (Nat.le_trans HB.out (by decide))).mono ?_); rintro e w1 ⟨rfl, hg⟩; have hc0 := grown_box hg 0 (.int .i64 k) rfl; have hc := grown_box hg 1 (.int .i64 n) rfl))
      | (go_at_call 65; ((with_reducible refine (rint_any _ n _ h1 h2 (Nat.le_trans HP.out (by decide))).mono ?_); rintro e w2 ⟨rfl, hg2⟩)))
    go_ret
    exact ⟨ret_str HR.out, grown_trans ((Grown.refl _).alloc _ _) (grown_trans hg hg2)⟩
end Go.Proofs.YtjcnjmlgedmmoaaDoor

