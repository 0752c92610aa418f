/-
  What is proved: varint.Take, called with any text, returns what P1.2 says; the world has new blocks at most.
-/
import Derived.Test.YtnfchfldpdnjoaaDoorProg
import Derived.Test.YtnfchfldpdnjoaaDoorMath
import Derived.Test.YtnfchfldpdnjoaaDoorZig
import Derived.WalkKit
import Derived.WalkSpells
import Derived.WalkLawsBesides
import Derived.LoopTactic
import Derived.RowKit3
import Derived.Outline
import Derived.Deep.QuietTactic
import Derived.BigQuiet
import Derived.Deep.LoopGhost
import Derived.Lib.Hide
import Derived.Laws.ShiftsVarLaws
import Derived.Laws.Shifts
namespace Go.Proofs.YtnfchfldpdnjoaaDoor
open Go.RowKit

/-- What Take says of a text: the number, what follows, the error. -/
def tkN (s : ByteArray) : Nat := (takeL s.data.toList).1
def tkR (s : ByteArray) : ByteArray := ⟨(takeL s.data.toList).2.1.toArray⟩
def tkE (s : ByteArray) : Nat := (takeL s.data.toList).2.2

/-- What holds at each round's head: k bytes are gone through, all of them 128 or above; acc is their number. -/
def TkInv (s : ByteArray) (k acc : Nat) : Prop :=
  k ≤ 9 ∧ k ≤ s.size ∧ acc < 128 ^ k ∧ takeL s.data.toList = tk k acc (s.data.toList.drop k)

theorem tkInv_bd {s : ByteArray} {k acc : Nat} (h : TkInv s k acc) : k ≤ 9 ∧ k ≤ s.size ∧ (acc : Int) < 9223372036854775808 := by
  obtain ⟨h1, h2, h3, _⟩ := h
  refine ⟨h1, h2, ?_⟩
  have : 128 ^ k ≤ 128 ^ 9 := Nat.pow_le_pow_right (by omega) h1
  have e : 128 ^ 9 = 9223372036854775808 := by decide
  omega

/-- One round's reckoning, in the walk's own words. -/
theorem round_bits (c k acc : Nat) (hc : c < 256) (hk : k ≤ 8 ∨ k = 9 ∧ c ≤ 1) (hacc : acc < 128 ^ k) :
    ∃ d m acc2 : Nat, bits BinOp.and IntKind.u8 (c : Int) 127 = (d : Int) ∧ d < 128 ∧ IntKind.u64.wrap ((d : Int) * 2 ^ (7 * k)) = (m : Int) ∧
      bits BinOp.or IntKind.u64 (acc : Int) (m : Int) = (acc2 : Int) ∧ RowKit.Hid (acc2 = acc + c % 128 * 128 ^ k ∧ acc2 < 18446744073709551616) := by
  have hb : c % 128 * 128 ^ k + 128 ^ k ≤ 18446744073709551616 := by
    rcases hk with h | ⟨rfl, h⟩
    · have h8 : 128 ^ k ≤ 128 ^ 8 := Nat.pow_le_pow_right (by omega) h
      have e8 : 128 ^ 8 = 72057594037927936 := by decide
      have : (c % 128 + 1) * 128 ^ k ≤ 128 * 128 ^ k := Nat.mul_le_mul_right _ (by omega)
      rw [Nat.add_mul, Nat.one_mul] at this
      omega
    · have e9 : 128 ^ 9 = 9223372036854775808 := by decide
      rw [e9]
      rcases (by omega : c = 0 ∨ c = 1) with rfl | rfl <;> omega
  have hp : 0 < 128 ^ k := Nat.pow_pos (by omega)
  have hk9 : k ≤ 9 := by omega
  have e7 : (2 : Nat) ^ (7 * k) = 128 ^ k := by rw [Nat.pow_mul]
  refine ⟨c % 128, c % 128 * 128 ^ k, acc + c % 128 * 128 ^ k, ?_, by omega, ?_, ?_, rfl, by omega⟩
  · rw [show (127 : Int) = ((127 : Nat) : Int) from rfl, u8_and_nat c 127 hc (by omega), nat_mask7]
  · rw [IntKind.wrap_u64]
    have e2 : (((c % 128 : Nat) : Int) * 2 ^ (7 * k)) = ((c % 128 * 128 ^ k : Nat) : Int) := by
      rw [← e7]; simp
    rw [e2]
    have e3 : ((c % 128 * 128 ^ k : Nat) : Int) % 18446744073709551616 = ((c % 128 * 128 ^ k : Nat) : Int) := Int.emod_eq_of_lt (by omega) (by omega)
    rw [e3]
  · rw [u64_or_nat acc _ (by omega) (by omega)]
    congr 1
    rw [Nat.or_comm, nat_join (7 * k) (c % 128 * 128 ^ k) acc (by rw [e7]; exact Nat.mul_mod_left _ _) (by rw [e7]; exact hacc), Nat.add_comm]

theorem ret3 {a a' : Int} {r r' : ByteArray} {e e' : Int} (h1 : a = a') (h2 : r = r') (h3 : e = e') :
    Ending.returned (.tuple #[.int .u64 a, .string r, .int .i64 e]) = .returned (.tuple #[.int .u64 a', .string r', .int .i64 e']) := by rw [h1, h2, h3]

theorem tk_cons (k acc : Nat) (c : UInt8) (r : List UInt8) : tk k acc (c :: r) =
    if k = 9 ∧ 1 < c.toNat then (0, [], 4) else if 0 < k ∧ c.toNat = 0 then (0, [], 3) else if c.toNat < 128 then (acc + c.toNat * 128 ^ k, r, 0) else tk (k + 1) (acc + (c.toNat - 128) * 128 ^ k) r := by rw [tk]
theorem tkInv_end {s : ByteArray} {k acc : Nat} (h : TkInv s k acc) (hge : ¬ k < s.size) : takeL s.data.toList = (0, [], 2) := by
  have e : s.data.toList.drop k = [] := List.drop_eq_nil_of_le (by have : s.data.toList.length = s.size := rfl; omega)
  rw [h.2.2.2, e]; rfl
theorem tkInv_at {s : ByteArray} {k acc : Nat} (h : TkInv s k acc) (hlt : k < s.size) : takeL s.data.toList = tk k acc (s[k] :: s.data.toList.drop (k + 1)) := by
  rw [h.2.2.2]
  congr 1
  have hl : k < s.data.toList.length := hlt
  rw [List.drop_eq_getElem_cons hl]
  rfl
theorem tkInv_long {s : ByteArray} {k acc : Nat} (h : TkInv s k acc) (hlt : k < s.size) (h9 : k = 9) (hc : 1 < s[k].toNat) : takeL s.data.toList = (0, [], 4) := by
  rw [tkInv_at h hlt, tk_cons, if_pos ⟨h9, hc⟩]
theorem tkInv_form {s : ByteArray} {k acc : Nat} (h : TkInv s k acc) (hlt : k < s.size) (h0 : 0 < k) (hc : s[k].toNat = 0) : takeL s.data.toList = (0, [], 3) := by
  rw [tkInv_at h hlt, tk_cons, if_neg (by omega), if_pos ⟨h0, hc⟩]
theorem tkInv_ok {s : ByteArray} {k acc : Nat} (h : TkInv s k acc) (hlt : k < s.size) (h9 : k = 9 → s[k].toNat ≤ 1) (h0 : 0 < k → s[k].toNat ≠ 0) (hc : s[k].toNat < 128) :
    takeL s.data.toList = (acc + s[k].toNat * 128 ^ k, s.data.toList.drop (k + 1), 0) := by
  rw [tkInv_at h hlt, tk_cons, if_neg (by omega), if_neg (by omega), if_pos hc]
theorem tkInv_next {s : ByteArray} {k acc : Nat} (h : TkInv s k acc) (hlt : k < s.size) (h9 : k ≠ 9) (hc : ¬ s[k].toNat < 128) :
    TkInv s (k + 1) (acc + s[k].toNat % 128 * 128 ^ k) := by
  obtain ⟨h1, h2, h3, h4⟩ := id h
  have hb := UInt8.toNat_lt s[k]
  refine ⟨by omega, by omega, ?_, ?_⟩
  · rw [Nat.pow_succ]
    have : (s[k].toNat % 128 + 1) * 128 ^ k ≤ 128 * 128 ^ k := Nat.mul_le_mul_right _ (by omega)
    rw [Nat.add_mul, Nat.one_mul] at this
    omega
  · rw [tkInv_at h hlt, tk_cons, if_neg (by omega), if_neg (by omega), if_neg hc, show s[k].toNat % 128 = s[k].toNat - 128 by omega]
theorem rest_extract (s : ByteArray) (k : Nat) : (⟨(s.data.toList.drop k).toArray⟩ : ByteArray) = s.extract k s.size := by
  apply ByteArray.ext
  apply Array.ext'
  rw [ByteArray.data_extract, Array.toList_extract]
  show s.data.toList.drop k = (s.data.toList.drop k).take (s.size - k)
  rw [List.take_of_length_le]
  rw [List.length_drop]
  exact Nat.le_refl _

theorem grown_drewN (w : World) (n : Nat) : Grown w (w.drewN n) := Grown.refl w

theorem res_err {s : ByteArray} {e : Nat} (h : takeL s.data.toList = (0, [], e)) : tkN s = 0 ∧ tkR s = ⟨#[]⟩ ∧ tkE s = e := by
  unfold tkN tkR tkE; rw [h]; exact ⟨rfl, rfl, rfl⟩
theorem res_ok {s : ByteArray} {x k : Nat} (h : takeL s.data.toList = (x, s.data.toList.drop k, 0)) : tkN s = x ∧ tkR s = s.extract k s.size ∧ tkE s = 0 := by
  unfold tkN tkR tkE; rw [h]; exact ⟨rfl, rest_extract s k, rfl⟩

set_option maxRecDepth 100000 in
set_option maxHeartbeats 1000000 in
theorem take_any (s : ByteArray) (w : World) (hs : s.size ≤ 9223372036854775807) :
    Calls Tryd.prog 37 #[.string s] w fun e w' => e = .returned (.tuple #[.int .u64 (tkN s), .string (tkR s), .int .i64 (tkE s)]) ∧ Grown w w' := by
  go_enter Tryd.func37, Tryd.ntmps37
  go_wp2
  go_step3
  go_wp2
  go_step3
  go_wp2
  go_loop [5, 6, 7, 8] (fun n m e i => ∃ (k acc : Nat), TkInv s k acc ∧ n = .int .u64 acc ∧ m = .int .i64 0 ∧ e = .int .i64 2 ∧ i = .int .i64 k) (fun _ _ _ i => s.size - (intOf i).toNat)
  case atStart => exact ⟨0, 0, ⟨by omega, by omega, by simp, by simp [takeL]⟩, rfl, rfl, rfl, rfl⟩
  case round =>
    obtain ⟨k, acc, hinv, rfl, rfl, rfl, rfl⟩ := hrel
    obtain ⟨hk9, hks, hacc⟩ := tkInv_bd hinv
    by_cases hlt : k < s.size
    · obtain ⟨c, hc, hc256, hix⟩ : ∃ c : Nat, c = s[k].toNat ∧ c < 256 ∧ ∀ wx, (Instr.index 9 (.string s) (.int .i64 k)).run Tryd.prog wx = .ok (.int .u8 c) wx :=
        ⟨_, rfl, UInt8.toNat_lt _, fun wx => by rw [run_index_string _ _ _ _ _ Tryd.underlying9]; simp [hlt]⟩
      have HC := Lib.hid hc
      clear hc
      by_cases hl : k = 9 ∧ 1 < c
      · have e9' : ((k : Int) == 9) = true := by simp; omega
        have el1 : decide ((1 : Int) < (c : Int)) = true := by simp; omega
        have HR := Lib.hid (res_err (tkInv_long hinv hlt hl.1 (by rw [← HC.out]; exact hl.2)))
        clear hl
        go_wp2
        go_ret3
        exact ⟨ret3 (by rw [HR.out.1]; rfl) HR.out.2.1.symm (by rw [HR.out.2.2]; rfl), Grown.refl _⟩
      by_cases hf : 0 < k ∧ c = 0
      · have ec1 : ((c : Int) == 0) = true := by simp [hf.2]
        have el1 : decide ((1 : Int) < (c : Int)) = false := by simp; omega
        have HR := Lib.hid (res_err (tkInv_form hinv hlt hf.1 (by rw [← HC.out]; exact hf.2)))
        have hk0 : 0 < k := hf.1
        clear hf hl
        by_cases e9 : k = 9
        · have e9' : ((k : Int) == 9) = true := by simp; omega
          clear e9
          go_wp2
          go_ret3
          exact ⟨ret3 (by rw [HR.out.1]; rfl) HR.out.2.1.symm (by rw [HR.out.2.2]; rfl), Grown.refl _⟩
        · have e9' : ((k : Int) == 9) = false := by simp; omega
          go_wp2
          go_ret3
          exact ⟨ret3 (by rw [HR.out.1]; rfl) HR.out.2.1.symm (by rw [HR.out.2.2]; rfl), Grown.refl _⟩
      obtain ⟨d, m, acc2, hand, hd128, hshl, hor, HA⟩ := round_bits c k acc hc256 (by omega) hinv.2.2.1
      by_cases eh : c < 128
      · have eh1 : decide ((c : Int) < 128) = true := by simp; omega
        have HR := Lib.hid (res_ok (tkInv_ok hinv hlt (by rw [← HC.out]; omega) (by rw [← HC.out]; omega) (by rw [← HC.out]; omega)))
        by_cases e9 : k = 9
        · have e9' : ((k : Int) == 9) = true := by simp; omega
          have el1 : decide ((1 : Int) < (c : Int)) = false := by simp; omega
          have ec1 : ((c : Int) == 0) = false := by simp; omega
          have hk0 : 0 < k := by omega
          clear e9 hf hl
          go_wp2
          go_quiet (fail)
          go_wp2
          rw [Exit.noGoto_ret]
          go_ret3
          exact ⟨ret3 (by rw [HR.out.1, ← HC.out, HA.out.1, Nat.mod_eq_of_lt eh]) HR.out.2.1.symm (by rw [HR.out.2.2]; rfl), grown_drewN _ _⟩
        · have e9' : ((k : Int) == 9) = false := by simp; omega
          by_cases hk0 : 0 < k
          · have ec1 : ((c : Int) == 0) = false := by simp; omega
            clear hf hl
            go_wp2
            go_quiet (fail)
            go_wp2
            rw [Exit.noGoto_ret]
            go_ret3
            exact ⟨ret3 (by rw [HR.out.1, ← HC.out, HA.out.1, Nat.mod_eq_of_lt eh]) HR.out.2.1.symm (by rw [HR.out.2.2]; rfl), grown_drewN _ _⟩
          · have hk0' : decide (0 < k) = false := by simpa using hk0
            clear hf hl
            go_wp2
            go_quiet (fail)
            go_wp2
            rw [Exit.noGoto_ret]
            go_ret3
            exact ⟨ret3 (by rw [HR.out.1, ← HC.out, HA.out.1, Nat.mod_eq_of_lt eh]) HR.out.2.1.symm (by rw [HR.out.2.2]; rfl), grown_drewN _ _⟩
      · have eh1 : decide ((c : Int) < 128) = false := by simp; omega
        have HN := Lib.hid (tkInv_next hinv hlt (by omega) (by rw [← HC.out]; omega))
        have e9' : ((k : Int) == 9) = false := by simp; omega
        have ec1 : ((c : Int) == 0) = false := by simp; omega
        clear hf hl
        by_cases hk0 : 0 < k
        · go_wp2
          exact ⟨⟨k + 1, acc2, by rw [HA.out.1, HC.out]; exact HN.out, rfl, rfl, rfl, by go_num⟩, by simp [intOf]; omega⟩
        · have hk0' : decide (0 < k) = false := by simpa using hk0
          go_wp2
          exact ⟨⟨k + 1, acc2, by rw [HA.out.1, HC.out]; exact HN.out, rfl, rfl, rfl, by go_num⟩, by simp [intOf]; omega⟩
    · have HR := Lib.hid (res_err (tkInv_end hinv hlt))
      go_wp2
      go_ret3
      exact ⟨ret3 (by rw [HR.out.1]; rfl) HR.out.2.1.symm (by rw [HR.out.2.2]; rfl), Grown.refl _⟩
end Go.Proofs.YtnfchfldpdnjoaaDoor
