/-
  What is proved: Right, Zero and Put of package val and of the document's layer 3, called with any values, return what P3.1, P3.3 and P3.6 say; the world has new blocks at most.
  Zero and Put of package val and of the document's layer 3, called with any values, return what P3.3 and P3.6 say; the world has new blocks at most.
-/
import Derived.Test.YtjieofiaoepccaaGreatDoorM3
import Derived.Laws.Bits128
namespace Go.Proofs.YtjieofiaoepccaaGreatDoor
open Go.RowKit
/-- P3.1. -/
def rightB (k n : Int) (t : ByteArray) : Bool := decide ((k = 1 ∧ t.size = 0) ∨ (k = 2 ∧ t.size ≤ 200 ∧ n = 0) ∨ (k = 3 ∧ t.size = 0 ∧ (n = 0 ∨ n = 1)))
theorem ret_bool {a b : Bool} (h : a = b) : Ending.returned (.bool a) = .returned (.bool b) := by rw [h]
theorem ret_str {a b : ByteArray} (h : a = b) : Ending.returned (.string a) = .returned (.string b) := by rw [h]
theorem empty_of {t : ByteArray} (h : t.size = 0) : t = ⟨#[]⟩ := by
  apply ba_ext; exact List.eq_nil_of_length_eq_zero h
theorem full_of {t : ByteArray} (h : ¬ t.size = 0) : t.toList ≠ [] ∧ t.toList.isEmpty = false ∧ (t.toList == []) = false := by
  have : t.toList ≠ [] := by rw [Lib.toList_data]; intro e; exact h (by rw [ba_size, e]; rfl)
  exact ⟨this, by simpa using this, by simpa using this⟩
theorem vright_any (k n : Int) (t : ByteArray) (w : World) (hs : t.size ≤ 9223372036854775807) :
    Calls Tryz.prog 58 #[.agg #[.int .i64 k, .int .i64 n, .string t]] w fun e w' => e = .returned (.bool (rightB k n t)) ∧ Grown w w' := by
  by_cases h1 : k = 1
  · subst h1
    by_cases ht : t.size = 0
    · have HR := Lib.hid (show true = rightB 1 n t by unfold rightB; simp [ht])
      obtain rfl := empty_of ht
      clear hs ht
      go_enter Tryz.func58, Tryz.ntmps58
      go_wp2
      go_ret
      exact ⟨ret_bool (by first | rfl | exact HR.out), (Grown.refl _).alloc _ _⟩
    · have HR := Lib.hid (show false = rightB 1 n t by unfold rightB; simp [ht])
      obtain ⟨q1, q2, q3⟩ := full_of ht
      go_enter Tryz.func58, Tryz.ntmps58
      go_wp2
      go_ret
      exact ⟨ret_bool (by first | rfl | exact HR.out), (Grown.refl _).alloc _ _⟩
  by_cases h2 : k = 2
  · subst h2
    by_cases ht : t.size ≤ 200
    · have d1 : decide ((t.size : Int) ≤ 200) = true := by simp; omega
      by_cases hn : n = 0
      · subst hn
        have HR := Lib.hid (show true = rightB 2 0 t by unfold rightB; simp [ht])
        go_enter Tryz.func58, Tryz.ntmps58
        go_wp2
        go_ret
        exact ⟨ret_bool (by first | rfl | exact HR.out), (Grown.refl _).alloc _ _⟩
      · have HR := Lib.hid (show false = rightB 2 n t by unfold rightB; simp [hn])
        have d2 : (n == 0) = false := by simpa using hn
        go_enter Tryz.func58, Tryz.ntmps58
        go_wp2
        go_ret
        exact ⟨ret_bool (by first | rfl | exact HR.out), (Grown.refl _).alloc _ _⟩
    · have HR := Lib.hid (show false = rightB 2 n t by unfold rightB; simp; omega)
      have d1 : decide ((t.size : Int) ≤ 200) = false := by simp; omega
      by_cases hn : n = 0
      · subst hn
        go_enter Tryz.func58, Tryz.ntmps58
        go_wp2
        go_ret
        exact ⟨ret_bool (by first | rfl | exact HR.out), (Grown.refl _).alloc _ _⟩
      · have d2 : (n == 0) = false := by simpa using hn
        go_enter Tryz.func58, Tryz.ntmps58
        go_wp2
        go_ret
        exact ⟨ret_bool (by first | rfl | exact HR.out), (Grown.refl _).alloc _ _⟩
  by_cases h3 : k = 3
  · subst h3
    by_cases ht : t.size = 0
    · obtain rfl := empty_of ht
      clear ht hs
      by_cases hn : n = 0
      · subst hn
        have HR := Lib.hid (show true = rightB 3 0 ⟨#[]⟩ by decide)
        go_enter Tryz.func58, Tryz.ntmps58
        go_wp2
        go_ret
        exact ⟨ret_bool (by first | rfl | exact HR.out), (Grown.refl _).alloc _ _⟩
      · have d2 : (n == 0) = false := by simpa using hn
        by_cases hm : n = 1
        · subst hm
          have HR := Lib.hid (show true = rightB 3 1 ⟨#[]⟩ by decide)
          go_enter Tryz.func58, Tryz.ntmps58
          go_wp2
          go_ret
          exact ⟨ret_bool (by first | rfl | exact HR.out), (Grown.refl _).alloc _ _⟩
        · have d3 : (n == 1) = false := by simpa using hm
          have HR := Lib.hid (show false = rightB 3 n ⟨#[]⟩ by unfold rightB; simp [hn, hm])
          go_enter Tryz.func58, Tryz.ntmps58
          go_wp2
          go_ret
          exact ⟨ret_bool (by first | rfl | exact HR.out), (Grown.refl _).alloc _ _⟩
    · have HR := Lib.hid (show false = rightB 3 n t by unfold rightB; simp [ht])
      obtain ⟨q1, q2, q3⟩ := full_of ht
      go_enter Tryz.func58, Tryz.ntmps58
      go_wp2
      go_ret
      exact ⟨ret_bool (by first | rfl | exact HR.out), (Grown.refl _).alloc _ _⟩
  · have HR := Lib.hid (show false = rightB k n t by unfold rightB; simp [h1, h2, h3])
    have d1 : (k == 1) = false := by simpa using h1
    have d2 : (k == 2) = false := by simpa using h2
    have d3 : (k == 3) = false := by simpa using h3
    go_enter Tryz.func58, Tryz.ntmps58
    go_wp2
    go_ret
    exact ⟨ret_bool (by first | rfl | exact HR.out), (Grown.refl _).alloc _ _⟩
theorem rright_any (k n : Int) (t : ByteArray) (w : World) (hs : t.size ≤ 9223372036854775807) :
    Calls Tryz.prog 29 #[.agg #[.int .i64 k, .int .i64 n, .string t]] w fun e w' => e = .returned (.bool (rightB k n t)) ∧ Grown w w' := by
  by_cases h1 : k = 1
  · subst h1
    by_cases ht : t.size = 0
    · have HR := Lib.hid (show true = rightB 1 n t by unfold rightB; simp [ht])
      obtain rfl := empty_of ht
      clear hs ht
      go_enter Tryz.func29, Tryz.ntmps29
      go_wp2
      go_ret
      exact ⟨ret_bool (by first | rfl | exact HR.out), (Grown.refl _).alloc _ _⟩
    · have HR := Lib.hid (show false = rightB 1 n t by unfold rightB; simp [ht])
      obtain ⟨q1, q2, q3⟩ := full_of ht
      go_enter Tryz.func29, Tryz.ntmps29
      go_wp2
      go_ret
      exact ⟨ret_bool (by first | rfl | exact HR.out), (Grown.refl _).alloc _ _⟩
  by_cases h2 : k = 2
  · subst h2
    by_cases ht : t.size ≤ 200
    · have d1 : decide ((t.size : Int) ≤ 200) = true := by simp; omega
      by_cases hn : n = 0
      · subst hn
        have HR := Lib.hid (show true = rightB 2 0 t by unfold rightB; simp [ht])
        go_enter Tryz.func29, Tryz.ntmps29
        go_wp2
        go_ret
        exact ⟨ret_bool (by first | rfl | exact HR.out), (Grown.refl _).alloc _ _⟩
      · have HR := Lib.hid (show false = rightB 2 n t by unfold rightB; simp [hn])
        have d2 : (n == 0) = false := by simpa using hn
        go_enter Tryz.func29, Tryz.ntmps29
        go_wp2
        go_ret
        exact ⟨ret_bool (by first | rfl | exact HR.out), (Grown.refl _).alloc _ _⟩
    · have HR := Lib.hid (show false = rightB 2 n t by unfold rightB; simp; omega)
      have d1 : decide ((t.size : Int) ≤ 200) = false := by simp; omega
      by_cases hn : n = 0
      · subst hn
        go_enter Tryz.func29, Tryz.ntmps29
        go_wp2
        go_ret
        exact ⟨ret_bool (by first | rfl | exact HR.out), (Grown.refl _).alloc _ _⟩
      · have d2 : (n == 0) = false := by simpa using hn
        go_enter Tryz.func29, Tryz.ntmps29
        go_wp2
        go_ret
        exact ⟨ret_bool (by first | rfl | exact HR.out), (Grown.refl _).alloc _ _⟩
  by_cases h3 : k = 3
  · subst h3
    by_cases ht : t.size = 0
    · obtain rfl := empty_of ht
      clear ht hs
      by_cases hn : n = 0
      · subst hn
        have HR := Lib.hid (show true = rightB 3 0 ⟨#[]⟩ by decide)
        go_enter Tryz.func29, Tryz.ntmps29
        go_wp2
        go_ret
        exact ⟨ret_bool (by first | rfl | exact HR.out), (Grown.refl _).alloc _ _⟩
      · have d2 : (n == 0) = false := by simpa using hn
        by_cases hm : n = 1
        · subst hm
          have HR := Lib.hid (show true = rightB 3 1 ⟨#[]⟩ by decide)
          go_enter Tryz.func29, Tryz.ntmps29
          go_wp2
          go_ret
          exact ⟨ret_bool (by first | rfl | exact HR.out), (Grown.refl _).alloc _ _⟩
        · have d3 : (n == 1) = false := by simpa using hm
          have HR := Lib.hid (show false = rightB 3 n ⟨#[]⟩ by unfold rightB; simp [hn, hm])
          go_enter Tryz.func29, Tryz.ntmps29
          go_wp2
          go_ret
          exact ⟨ret_bool (by first | rfl | exact HR.out), (Grown.refl _).alloc _ _⟩
    · have HR := Lib.hid (show false = rightB 3 n t by unfold rightB; simp [ht])
      obtain ⟨q1, q2, q3⟩ := full_of ht
      go_enter Tryz.func29, Tryz.ntmps29
      go_wp2
      go_ret
      exact ⟨ret_bool (by first | rfl | exact HR.out), (Grown.refl _).alloc _ _⟩
  · have HR := Lib.hid (show false = rightB k n t by unfold rightB; simp [h1, h2, h3])
    have d1 : (k == 1) = false := by simpa using h1
    have d2 : (k == 2) = false := by simpa using h2
    have d3 : (k == 3) = false := by simpa using h3
    go_enter Tryz.func29, Tryz.ntmps29
    go_wp2
    go_ret
    exact ⟨ret_bool (by first | rfl | exact HR.out), (Grown.refl _).alloc _ _⟩
end Go.Proofs.YtjieofiaoepccaaGreatDoor

namespace Go.Proofs.YtjieofiaoepccaaGreatDoor
open Go.RowKit

/-- P3.6. -/
def zeroK (k : Int) : Int := if 1 ≤ k ∧ k ≤ 3 then k else 0

/-- P3.3. -/
def putV (b : ByteArray) (k n : Int) (t : ByteArray) : ByteArray :=
  if k % 4 = 0 then b ++ putS 0 else if k % 4 = 2 then b ++ putS 2 ++ putS t.size ++ t else b ++ putS (k % 4).toNat ++ putS (zigI n).toNat

theorem i64_and3 (n : Int) : bits .and .i64 n 3 = n % 4 := by
  have h3 : (BitVec.ofInt 64 3).toNat = 2 ^ 2 - 1 := by decide
  have key : (BitVec.ofInt 64 n &&& BitVec.ofInt 64 3).toNat = (n % ((2 ^ 64 : Nat) : Int)).toNat % 2 ^ 2 := by
    rw [BitVec.toNat_and, BitVec.toNat_ofInt, h3, Nat.and_two_pow_sub_one_eq_mod]
  show IntKind.i64.wrap ((BitVec.ofInt 64 n &&& BitVec.ofInt 64 3).toNat : Nat) = n % 4
  rw [key, IntKind.wrap_i64]
  omega
theorem i64_and1 (n : Int) : bits .and .i64 n 1 = n % 2 := by
  have h3 : (BitVec.ofInt 64 1).toNat = 2 ^ 1 - 1 := by decide
  have key : (BitVec.ofInt 64 n &&& BitVec.ofInt 64 1).toNat = (n % ((2 ^ 64 : Nat) : Int)).toNat % 2 ^ 1 := by
    rw [BitVec.toNat_and, BitVec.toNat_ofInt, h3, Nat.and_two_pow_sub_one_eq_mod]
  show IntKind.i64.wrap ((BitVec.ofInt 64 n &&& BitVec.ofInt 64 1).toNat : Nat) = n % 2
  rw [key, IntKind.wrap_i64]
  omega
theorem put9 (b : ByteArray) (n : Int) (m : Nat) (hm : n = (m : Int)) (w : World) (h : m < 18446744073709551616) (hb : b.size ≤ 4611686018427387904) :
    Calls Tryz.prog 43 #[.string b, .int .u64 n] w fun e w' => e = .returned (.string (b ++ putS m)) ∧ Grown w w' := by
  subst hm; exact put_any b m w h hb
theorem rput9m (b : ByteArray) (n : Int) (m : Nat) (hm : n = (m : Int)) (w : World) (h : m < 18446744073709551616) (hb : b.size ≤ 100000) :
    Calls Tryz.prog 46 #[.string b, .int .u64 n] w fun e w' => e = .returned (.string (b ++ putS m)) ∧ Grown w w' := by
  have := rput9 b n w (by omega) (by omega) hb
  subst hm
  rw [Int.toNat_natCast] at this
  exact this

set_option maxRecDepth 100000 in
set_option maxHeartbeats 1000000 in
theorem vput_any (b : ByteArray) (k n : Int) (t : ByteArray) (w : World) (h1 : -9223372036854775808 ≤ n) (h2 : n ≤ 9223372036854775807) (hb : b.size ≤ 1000000000000) (ht : t.size ≤ 1000000000000) :
    Calls Tryz.prog 72 #[.string b, .agg #[.int .i64 k, .int .i64 n, .string t]] w fun e w' => e = .returned (.string (putV b k n t)) ∧ Grown w w' := by
  have hand := i64_and3 k
  have hpz : ∀ m, (b ++ putS m).size ≤ 1000000000010 := fun m => by rw [ByteArray.size_append]; have := putS_size m; omega
  obtain h | h | h | h : k % 4 = 0 ∨ k % 4 = 1 ∨ k % 4 = 2 ∨ k % 4 = 3 := by omega
  · have HR := Lib.hid (show b ++ putS 0 = putV b k n t by unfold putV; rw [if_pos h])
    rw [h] at hand
    have HB := Lib.hid hb
    clear h hpz hb ht h1 h2
    go_enter Tryz.func72, Tryz.ntmps72
    go_wp2_with (go_at_call 43; ((with_reducible refine (put9 b 0 0 rfl _ (by decide) (Nat.le_trans HB.out (by decide))).mono ?_); rintro e w1 ⟨rfl, hg⟩))
    go_ret
    exact ⟨ret_str HR.out, grown_trans ((Grown.refl _).alloc _ _) (by assumption)⟩
  · have HR := Lib.hid (show b ++ putS 1 ++ putS (zigI n).toNat = putV b k n t by unfold putV; rw [if_neg (by omega), if_neg (by omega), h]; rfl)
    rw [h] at hand
    have HB := Lib.hid hb
    have HP := Lib.hid (hpz 1)
    clear h hpz hb ht
    go_enter Tryz.func72, Tryz.ntmps72
    go_wp2_with (first
      | (go_at_call 43; ((with_reducible refine (put9 b 1 1 rfl _ (by decide) (Nat.le_trans HB.out (by decide))).mono ?_); rintro e w1 ⟨rfl, hg⟩; have hc := grown_box hg 1 (.int .i64 n) rfl))
      | (go_at_call 86; ((with_reducible refine (int_any _ n _ h1 h2 (Nat.le_trans HP.out (by decide))).mono ?_); rintro e w2 ⟨rfl, hg2⟩)))
    go_ret
    exact ⟨ret_str HR.out, grown_trans ((Grown.refl _).alloc _ _) (grown_trans hg hg2)⟩
  · have HR := Lib.hid (show b ++ putS 2 ++ putS t.size ++ t = putV b k n t by unfold putV; rw [if_neg (by omega), if_pos h])
    rw [h] at hand
    have HB := Lib.hid hb
    have HT := Lib.hid ht
    have HP := Lib.hid (hpz 2)
    clear h hpz hb ht h1 h2
    go_enter Tryz.func72, Tryz.ntmps72
    go_wp2_with (first
      | (go_at_call 43; ((with_reducible refine (put9 b 2 2 rfl _ (by decide) (Nat.le_trans HB.out (by decide))).mono ?_); rintro e w1 ⟨rfl, hg⟩; have hc := grown_box hg 2 (.string t) rfl))
      | (go_at_call 71; ((with_reducible refine (text_any _ t _ (Nat.le_trans HP.out (by decide)) (Nat.le_trans HT.out (by decide))).mono ?_); rintro e w2 ⟨rfl, hg2⟩)))
    go_ret
    exact ⟨ret_str HR.out, grown_trans ((Grown.refl _).alloc _ _) (grown_trans hg hg2)⟩
  · have HR := Lib.hid (show b ++ putS 3 ++ putS (zigI n).toNat = putV b k n t by unfold putV; rw [if_neg (by omega), if_neg (by omega), h]; rfl)
    rw [h] at hand
    have HB := Lib.hid hb
    have HP := Lib.hid (hpz 3)
    clear h hpz hb ht
    go_enter Tryz.func72, Tryz.ntmps72
    go_wp2_with (first
      | (go_at_call 43; ((with_reducible refine (put9 b 3 3 rfl _ (by decide) (Nat.le_trans HB.out (by decide))).mono ?_); rintro e w1 ⟨rfl, hg⟩; have hc := grown_box hg 1 (.int .i64 n) rfl))
      | (go_at_call 86; ((with_reducible refine (int_any _ n _ h1 h2 (Nat.le_trans HP.out (by decide))).mono ?_); rintro e w2 ⟨rfl, hg2⟩)))
    go_ret
    exact ⟨ret_str HR.out, grown_trans ((Grown.refl _).alloc _ _) (grown_trans hg hg2)⟩
set_option maxRecDepth 100000 in
set_option maxHeartbeats 1000000 in
theorem rput_anyV (b : ByteArray) (k n : Int) (t : ByteArray) (w : World) (h1 : -9223372036854775808 ≤ n) (h2 : n ≤ 9223372036854775807) (hb : b.size ≤ 80000) (ht : t.size ≤ 80000) :
    Calls Tryz.prog 48 #[.string b, .agg #[.int .i64 k, .int .i64 n, .string t]] w fun e w' => e = .returned (.string (putV b k n t)) ∧ Grown w w' := by
  have hand := i64_and3 k
  have hpz : ∀ m, (b ++ putS m).size ≤ 80010 := fun m => by rw [ByteArray.size_append]; have := putS_size m; omega
  obtain h | h | h | h : k % 4 = 0 ∨ k % 4 = 1 ∨ k % 4 = 2 ∨ k % 4 = 3 := by omega
  · have HR := Lib.hid (show b ++ putS 0 = putV b k n t by unfold putV; rw [if_pos h])
    rw [h] at hand
    have HB := Lib.hid hb
    clear h hpz hb ht h1 h2
    go_enter Tryz.func48, Tryz.ntmps48
    go_wp2_with (go_at_call 46; ((with_reducible refine (rput9m b 0 0 rfl _ (by decide) (Nat.le_trans HB.out (by decide))).mono ?_); rintro e w1 ⟨rfl, hg⟩; have hc0 := grown_box hg 0 (.int .i64 k) rfl))
    go_ret
    exact ⟨ret_str HR.out, grown_trans ((Grown.refl _).alloc _ _) (by assumption)⟩
  · have HR := Lib.hid (show b ++ putS 1 ++ putS (zigI n).toNat = putV b k n t by unfold putV; rw [if_neg (by omega), if_neg (by omega), h]; rfl)
    rw [h] at hand
    have HB := Lib.hid hb
    have HP := Lib.hid (hpz 1)
    clear h hpz hb ht
    go_enter Tryz.func48, Tryz.ntmps48
    go_wp2_with (first
      | (go_at_call 46; ((with_reducible refine (rput9m b 1 1 rfl _ (by decide) (Nat.le_trans HB.out (by decide))).mono ?_); rintro e w1 ⟨rfl, hg⟩; have hc0 := grown_box hg 0 (.int .i64 k) rfl; have hc := grown_box hg 1 (.int .i64 n) rfl))
      | (go_at_call 73; ((with_reducible refine (rint_any _ n _ h1 h2 (Nat.le_trans HP.out (by decide))).mono ?_); rintro e w2 ⟨rfl, hg2⟩)))
    go_ret
    exact ⟨ret_str HR.out, grown_trans ((Grown.refl _).alloc _ _) (grown_trans hg hg2)⟩
  · have HR := Lib.hid (show b ++ putS 2 ++ putS t.size ++ t = putV b k n t by unfold putV; rw [if_neg (by omega), if_pos h])
    rw [h] at hand
    have HB := Lib.hid hb
    have HT := Lib.hid ht
    have HP := Lib.hid (hpz 2)
    clear h hpz hb ht h1 h2
    go_enter Tryz.func48, Tryz.ntmps48
    go_wp2_with (first
      | (go_at_call 46; ((with_reducible refine (rput9m b 2 2 rfl _ (by decide) (Nat.le_trans HB.out (by decide))).mono ?_); rintro e w1 ⟨rfl, hg⟩; have hc0 := grown_box hg 0 (.int .i64 k) rfl; have hc := grown_box hg 2 (.string t) rfl))
      | (go_at_call 47; ((with_reducible refine (rtext_any _ t _ (Nat.le_trans HP.out (by decide)) (Nat.le_trans HT.out (by decide))).mono ?_); rintro e w2 ⟨rfl, hg2⟩)))
    go_ret
    exact ⟨ret_str HR.out, grown_trans ((Grown.refl _).alloc _ _) (grown_trans hg hg2)⟩
  · have HR := Lib.hid (show b ++ putS 3 ++ putS (zigI n).toNat = putV b k n t by unfold putV; rw [if_neg (by omega), if_neg (by omega), h]; rfl)
    rw [h] at hand
    have HB := Lib.hid hb
    have HP := Lib.hid (hpz 3)
    clear h hpz hb ht
    go_enter Tryz.func48, Tryz.ntmps48
    go_wp2_with (first
      | (go_at_call 46; ((with_reducible refine (rput9m b 3 3 rfl _ (by decide) (Nat.le_trans HB.out (by decide))).mono ?_); rintro e w1 ⟨rfl, hg⟩; have hc0 := grown_box hg 0 (.int .i64 k) rfl; have hc := grown_box hg 1 (.int .i64 n) rfl))
      | (go_at_call 73; ((with_reducible refine (rint_any _ n _ h1 h2 (Nat.le_trans HP.out (by decide))).mono ?_); rintro e w2 ⟨rfl, hg2⟩)))
    go_ret
    exact ⟨ret_str HR.out, grown_trans ((Grown.refl _).alloc _ _) (grown_trans hg hg2)⟩
end Go.Proofs.YtjieofiaoepccaaGreatDoor

