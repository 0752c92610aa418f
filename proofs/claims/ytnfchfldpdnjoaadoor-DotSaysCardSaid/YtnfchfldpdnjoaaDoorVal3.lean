/-
  What is proved: Zero and Put of package val and of the document's layer 3, called with any values, return what P3.3 and P3.6 say; the world has new blocks at most.
-/
import Derived.Test.YtnfchfldpdnjoaaDoorVal2
namespace Go.Proofs.YtnfchfldpdnjoaaDoor
open Go.RowKit

/-- P3.6. -/
def zeroK (k : Int) : Int := if 1 ≤ k ∧ k ≤ 3 then k else 0

/-- P3.3. -/
def putV (b : ByteArray) (k n : Int) (t : ByteArray) : ByteArray :=
  if k % 4 = 0 then b ++ putS 0 else if k % 4 = 2 then b ++ putS 2 ++ putS t.size ++ t else b ++ putS (k % 4).toNat ++ putS (zigI n).toNat

theorem i64_and3 (n : Int) : bits .and .i64 n 3 = n % 4 := by
  have h3 : (BitVec.ofInt 64 3).toNat = 2 ^ 2 - 1 := by decide
  have key : (BitVec.ofInt 64 n &&& BitVec.ofInt 64 3).toNat = (n % ((2 ^ 64 : Nat) : Int)).toNat % 2 ^ 2 := by
    rw [BitVec.toNat_and, BitVec.toNat_ofInt, h3, Nat.and_two_pow_sub_one_eq_mod]
  show IntKind.i64.wrap ((BitVec.ofInt 64 n &&& BitVec.ofInt 64 3).toNat : Nat) = n % 4
  rw [key, IntKind.wrap_i64]
  omega
theorem i64_and1 (n : Int) : bits .and .i64 n 1 = n % 2 := by
  have h3 : (BitVec.ofInt 64 1).toNat = 2 ^ 1 - 1 := by decide
  have key : (BitVec.ofInt 64 n &&& BitVec.ofInt 64 1).toNat = (n % ((2 ^ 64 : Nat) : Int)).toNat % 2 ^ 1 := by
    rw [BitVec.toNat_and, BitVec.toNat_ofInt, h3, Nat.and_two_pow_sub_one_eq_mod]
  show IntKind.i64.wrap ((BitVec.ofInt 64 n &&& BitVec.ofInt 64 1).toNat : Nat) = n % 2
  rw [key, IntKind.wrap_i64]
  omega
theorem put9 (b : ByteArray) (n : Int) (m : Nat) (hm : n = (m : Int)) (w : World) (h : m < 18446744073709551616) (hb : b.size ≤ 4611686018427387904) :
    Calls Tryd.prog 42 #[.string b, .int .u64 n] w fun e w' => e = .returned (.string (b ++ putS m)) ∧ Grown w w' := by
  subst hm; exact put_any b m w h hb
theorem rput9m (b : ByteArray) (n : Int) (m : Nat) (hm : n = (m : Int)) (w : World) (h : m < 18446744073709551616) (hb : b.size ≤ 1000) :
    Calls Tryd.prog 44 #[.string b, .int .u64 n] w fun e w' => e = .returned (.string (b ++ putS m)) ∧ Grown w w' := by
  have := rput9 b n w (by omega) (by omega) hb
  subst hm
  rw [Int.toNat_natCast] at this
  exact this

end Go.Proofs.YtnfchfldpdnjoaaDoor
