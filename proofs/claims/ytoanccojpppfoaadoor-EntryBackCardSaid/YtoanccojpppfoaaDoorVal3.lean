/-
  What is proved: Zero and Put of package val and of the document's layer 3, called with any values, return what P3.3 and P3.6 say; the world has new blocks at most.
-/
import Derived.Test.YtoanccojpppfoaaDoorVal2
namespace Go.Proofs.YtoanccojpppfoaaDoor
open Go.RowKit

/-- P3.6. -/
def zeroK (k : Int) : Int := if 1 ≤ k ∧ k ≤ 3 then k else 0

/-- P3.3. -/
def putV (b : ByteArray) (k n : Int) (t : ByteArray) : ByteArray :=
  if k % 4 = 0 then b ++ putS 0 else if k % 4 = 2 then b ++ putS 2 ++ putS t.size ++ t else b ++ putS (k % 4).toNat ++ putS (zigI n).toNat

theorem i64_and3 (n : Int) : bits .and .i64 n 3 = n % 4 := by
  have h3 : (BitVec.ofInt 64 3).toNat = 2 ^ 2 - 1 := by decide
  have key : (BitVec.ofInt 64 n &&& BitVec.ofInt 64 3).toNat = (n % ((2 ^ 64 : Nat) : Int)).toNat % 2 ^ 2 := by
    rw [BitVec.toNat_and, BitVec.toNat_ofInt, h3, Nat.and_two_pow_sub_one_eq_mod]
  show IntKind.i64.wrap ((BitVec.ofInt 64 n &&& BitVec.ofInt 64 3).toNat : Nat) = n % 4
  rw [key, IntKind.wrap_i64]
  omega
theorem i64_and1 (n : Int) : bits .and .i64 n 1 = n % 2 := by
  have h3 : (BitVec.ofInt 64 1).toNat = 2 ^ 1 - 1 := by decide
  have key : (BitVec.ofInt 64 n &&& BitVec.ofInt 64 1).toNat = (n % ((2 ^ 64 : Nat) : Int)).toNat % 2 ^ 1 := by
    rw [BitVec.toNat_and, BitVec.toNat_ofInt, h3, Nat.and_two_pow_sub_one_eq_mod]
  show IntKind.i64.wrap ((BitVec.ofInt 64 n &&& BitVec.ofInt 64 1).toNat : Nat) = n % 2
  rw [key, IntKind.wrap_i64]
  omega
theorem put9 (b : ByteArray) (n : Int) (m : Nat) (hm : n = (m : Int)) (w : World) (h : m < 18446744073709551616) (hb : b.size ≤ 4611686018427387904) :
    Calls Tryd.prog 41 #[.string b, .int .u64 n] w fun e w' => e = .returned (.string (b ++ putS m)) ∧ Grown w w' := by
  subst hm; exact put_any b m w h hb
theorem rput9m (b : ByteArray) (n : Int) (m : Nat) (hm : n = (m : Int)) (w : World) (h : m < 18446744073709551616) (hb : b.size ≤ 100000) :
    Calls Tryd.prog 46 #[.string b, .int .u64 n] w fun e w' => e = .returned (.string (b ++ putS m)) ∧ Grown w w' := by
  have := rput9 b n w (by omega) (by omega) hb
  subst hm
  rw [Int.toNat_natCast] at this
  exact this

set_option maxRecDepth 100000 in
set_option maxHeartbeats 1000000 in
theorem vput_any (b : ByteArray) (k n : Int) (t : ByteArray) (w : World) (h1 : -9223372036854775808 ≤ n) (h2 : n ≤ 9223372036854775807) (hb : b.size ≤ 1000000000000) (ht : t.size ≤ 1000000000000) :
    Calls Tryd.prog 42 #[.string b, .agg #[.int .i64 k, .int .i64 n, .string t]] w fun e w' => e = .returned (.string (putV b k n t)) ∧ Grown w w' := by
  have hand := i64_and3 k
  have hpz : ∀ m, (b ++ putS m).size ≤ 1000000000010 := fun m => by rw [ByteArray.size_append]; have := putS_size m; omega
  obtain h | h | h | h : k % 4 = 0 ∨ k % 4 = 1 ∨ k % 4 = 2 ∨ k % 4 = 3 := by omega
  · have HR := Lib.hid (show b ++ putS 0 = putV b k n t by unfold putV; rw [if_pos h])
    rw [h] at hand
    have HB := Lib.hid hb
    clear h hpz hb ht h1 h2
    go_enter Tryd.func42, Tryd.ntmps42
    go_wp2_with (go_at_call 41; ((with_reducible refine (put9 b 0 0 rfl _ (by decide) (Nat.le_trans HB.out (by decide))).mono ?_); rintro e w1 ⟨rfl, hg⟩))
    go_ret
    exact ⟨ret_str HR.out, grown_trans ((Grown.refl _).alloc _ _) (by assumption)⟩
  · have HR := Lib.hid (show b ++ putS 1 ++ putS (zigI n).toNat = putV b k n t by unfold putV; rw [if_neg (by omega), if_neg (by omega), h]; rfl)
    rw [h] at hand
    have HB := Lib.hid hb
    have HP := Lib.hid (hpz 1)
    clear h hpz hb ht
    go_enter Tryd.func42, Tryd.ntmps42
    go_wp2_with (first
      | (go_at_call 41; ((with_reducible refine (put9 b 1 1 rfl _ (by decide) (Nat.le_trans HB.out (by decide))).mono ?_); rintro e w1 ⟨rfl, hg⟩; have hc := grown_box hg 1 (.int .i64 n) rfl))
      | (go_at_call 60; ((with_reducible refine (int_any _ n _ h1 h2 (Nat.le_trans HP.out (by decide))).mono ?_); rintro e w2 ⟨rfl, hg2⟩)))
    go_ret
    exact ⟨ret_str HR.out, grown_trans ((Grown.refl _).alloc _ _) (grown_trans hg hg2)⟩
  · have HR := Lib.hid (show b ++ putS 2 ++ putS t.size ++ t = putV b k n t by unfold putV; rw [if_neg (by omega), if_pos h])
    rw [h] at hand
    have HB := Lib.hid hb
    have HT := Lib.hid ht
    have HP := Lib.hid (hpz 2)
    clear h hpz hb ht h1 h2
    go_enter Tryd.func42, Tryd.ntmps42
    go_wp2_with (first
      | (go_at_call 41; ((with_reducible refine (put9 b 2 2 rfl _ (by decide) (Nat.le_trans HB.out (by decide))).mono ?_); rintro e w1 ⟨rfl, hg⟩; have hc := grown_box hg 2 (.string t) rfl))
      | (go_at_call 39; ((with_reducible refine (text_any _ t _ (Nat.le_trans HP.out (by decide)) (Nat.le_trans HT.out (by decide))).mono ?_); rintro e w2 ⟨rfl, hg2⟩)))
    go_ret
    exact ⟨ret_str HR.out, grown_trans ((Grown.refl _).alloc _ _) (grown_trans hg hg2)⟩
  · have HR := Lib.hid (show b ++ putS 3 ++ putS (zigI n).toNat = putV b k n t by unfold putV; rw [if_neg (by omega), if_neg (by omega), h]; rfl)
    rw [h] at hand
    have HB := Lib.hid hb
    have HP := Lib.hid (hpz 3)
    clear h hpz hb ht
    go_enter Tryd.func42, Tryd.ntmps42
    go_wp2_with (first
      | (go_at_call 41; ((with_reducible refine (put9 b 3 3 rfl _ (by decide) (Nat.le_trans HB.out (by decide))).mono ?_); rintro e w1 ⟨rfl, hg⟩; have hc := grown_box hg 1 (.int .i64 n) rfl))
      | (go_at_call 60; ((with_reducible refine (int_any _ n _ h1 h2 (Nat.le_trans HP.out (by decide))).mono ?_); rintro e w2 ⟨rfl, hg2⟩)))
    go_ret
    exact ⟨ret_str HR.out, grown_trans ((Grown.refl _).alloc _ _) (grown_trans hg hg2)⟩
set_option maxRecDepth 100000 in
set_option maxHeartbeats 1000000 in
theorem rput_anyV (b : ByteArray) (k n : Int) (t : ByteArray) (w : World) (h1 : -9223372036854775808 ≤ n) (h2 : n ≤ 9223372036854775807) (hb : b.size ≤ 80000) (ht : t.size ≤ 80000) :
    Calls Tryd.prog 45 #[.string b, .agg #[.int .i64 k, .int .i64 n, .string t]] w fun e w' => e = .returned (.string (putV b k n t)) ∧ Grown w w' := by
  have hand := i64_and3 k
  have hpz : ∀ m, (b ++ putS m).size ≤ 80010 := fun m => by rw [ByteArray.size_append]; have := putS_size m; omega
  obtain h | h | h | h : k % 4 = 0 ∨ k % 4 = 1 ∨ k % 4 = 2 ∨ k % 4 = 3 := by omega
  · have HR := Lib.hid (show b ++ putS 0 = putV b k n t by unfold putV; rw [if_pos h])
    rw [h] at hand
    have HB := Lib.hid hb
    clear h hpz hb ht h1 h2
    go_enter Tryd.func45, Tryd.ntmps45
    go_wp2_with (go_at_call 46; ((with_reducible refine (rput9m b 0 0 rfl _ (by decide) (Nat.le_trans HB.out (by decide))).mono ?_); rintro e w1 ⟨rfl, hg⟩; have hc0 := grown_box hg 0 (.int .i64 k) rfl))
    go_ret
    exact ⟨ret_str HR.out, grown_trans ((Grown.refl _).alloc _ _) (by assumption)⟩
  · have HR := Lib.hid (show b ++ putS 1 ++ putS (zigI n).toNat = putV b k n t by unfold putV; rw [if_neg (by omega), if_neg (by omega), h]; rfl)
    rw [h] at hand
    have HB := Lib.hid hb
    have HP := Lib.hid (hpz 1)
    clear h hpz hb ht
    go_enter Tryd.func45, Tryd.ntmps45
    go_wp2_with (first
      | (go_at_call 46; ((with_reducible refine (rput9m b 1 1 rfl _ (by decide) (Nat.le_trans HB.out (by decide))).mono ?_); rintro e w1 ⟨rfl, hg⟩; have hc0 := grown_box hg 0 (.int .i64 k) rfl; have hc := grown_box hg 1 (.int .i64 n) rfl))
      | (go_at_call 61; ((with_reducible refine (rint_any _ n _ h1 h2 (Nat.le_trans HP.out (by decide))).mono ?_); rintro e w2 ⟨rfl, hg2⟩)))
    go_ret
    exact ⟨ret_str HR.out, grown_trans ((Grown.refl _).alloc _ _) (grown_trans hg hg2)⟩
  · have HR := Lib.hid (show b ++ putS 2 ++ putS t.size ++ t = putV b k n t by unfold putV; rw [if_neg (by omega), if_pos h])
    rw [h] at hand
    have HB := Lib.hid hb
    have HT := Lib.hid ht
    have HP := Lib.hid (hpz 2)
    clear h hpz hb ht h1 h2
    go_enter Tryd.func45, Tryd.ntmps45
    go_wp2_with (first
      | (go_at_call 46; ((with_reducible refine (rput9m b 2 2 rfl _ (by decide) (Nat.le_trans HB.out (by decide))).mono ?_); rintro e w1 ⟨rfl, hg⟩; have hc0 := grown_box hg 0 (.int .i64 k) rfl; have hc := grown_box hg 2 (.string t) rfl))
      | (go_at_call 43; ((with_reducible refine (rtext_any _ t _ (Nat.le_trans HP.out (by decide)) (Nat.le_trans HT.out (by decide))).mono ?_); rintro e w2 ⟨rfl, hg2⟩)))
    go_ret
    exact ⟨ret_str HR.out, grown_trans ((Grown.refl _).alloc _ _) (grown_trans hg hg2)⟩
  · have HR := Lib.hid (show b ++ putS 3 ++ putS (zigI n).toNat = putV b k n t by unfold putV; rw [if_neg (by omega), if_neg (by omega), h]; rfl)
    rw [h] at hand
    have HB := Lib.hid hb
    have HP := Lib.hid (hpz 3)
    clear h hpz hb ht
    go_enter Tryd.func45, Tryd.ntmps45
    go_wp2_with (first
      | (go_at_call 46; ((with_reducible refine (rput9m b 3 3 rfl _ (by decide) (Nat.le_trans HB.out (by decide))).mono ?_); rintro e w1 ⟨rfl, hg⟩; have hc0 := grown_box hg 0 (.int .i64 k) rfl; have hc := grown_box hg 1 (.int .i64 n) rfl))
      | (go_at_call 61; ((with_reducible refine (rint_any _ n _ h1 h2 (Nat.le_trans HP.out (by decide))).mono ?_); rintro e w2 ⟨rfl, hg2⟩)))
    go_ret
    exact ⟨ret_str HR.out, grown_trans ((Grown.refl _).alloc _ _) (grown_trans hg hg2)⟩
end Go.Proofs.YtoanccojpppfoaaDoor
