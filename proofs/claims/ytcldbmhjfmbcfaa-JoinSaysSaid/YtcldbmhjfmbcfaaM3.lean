/-
  What is proved: cmp.Compare at ints and at texts, called with any two, return the order of the two; cmp.Or of three ints the first that is not 0; the world is left alone.
  val.Cmp, called with any two values, returns their order (P3.2); the world has new blocks at most.
  the document's own Zig, Zag, Put, Int and Text of layer 1 (package lorgnetteref01) return the same as the program's; the world has new blocks at most.
  the document's own Take, TakeInt and TakeText of layer 1 (package lorgnetteref01) return the same as the program's; the world has new blocks at most.
  Right, Zero and Put of package val and of the document's layer 3, called with any values, return what P3.1, P3.3 and P3.6 say; the world has new blocks at most.
  Zero and Put of package val and of the document's layer 3, called with any values, return what P3.3 and P3.6 say; the world has new blocks at most.
  val.Take, called with any text, returns what P3.4 says; the world has new blocks at most.
  over texts: what is right is put and taken, whatever follows (P3.7); when a struct differs from another one.
  Text of package val and of the document's layer 3, called with any value where the laid tables read as their initialisers lay them, return what P3.5 says; the world has new blocks at most.
  the document's own number and Text of layer 3, called with any value, return what P3.5 says; the world has new blocks at most.
-/
import Derived.Test.YtcldbmhjfmbcfaaM1
import Derived.Test.YtcldbmhjfmbcfaaM2
import Derived.Laws.Cover1
import Derived.Laws.StructEq
import Derived.Sort.Walk0
import Derived.StillTailTactics
import Derived.Laws.Bits128
import Derived.Test.YtcldbmhjfmbcfaaProg
import Derived.Lib.ItoaLen
namespace Go.Proofs.Ytcldbmhjfmbcfaa
open Go.RowKit

theorem cmpInt_any (a b : Int) (w : World) :
    Calls Try.prog 70 #[.int .i64 a, .int .i64 b] w fun e w' => e = .returned (.int .i64 (cmpI a b)) ∧ w = w' := by
  by_cases h1 : a < b
  · have H := Lib.hid (show (-1 : Int) = cmpI a b by unfold cmpI; rw [if_pos h1])
    have d1 : decide (a < b) = true := by simpa using h1
    go_enter Try.func70, Try.ntmps70
    go_wp2
    go_ret
    exact ⟨ret_int H.out, rfl⟩
  · have d1 : decide (a < b) = false := by simpa using h1
    by_cases h2 : b < a
    · have H := Lib.hid (show (1 : Int) = cmpI a b by unfold cmpI; rw [if_neg h1, if_pos h2])
      have d2 : decide (b < a) = true := by simpa using h2
      go_enter Try.func70, Try.ntmps70
      go_wp2
      go_ret
      exact ⟨ret_int H.out, rfl⟩
    · have H := Lib.hid (show (0 : Int) = cmpI a b by unfold cmpI; rw [if_neg h1, if_neg h2])
      have d2 : decide (b < a) = false := by simpa using h2
      go_enter Try.func70, Try.ntmps70
      go_wp2
      go_ret
      exact ⟨ret_int H.out, rfl⟩

theorem less_of (a b : ByteArray) : Op.bytesLess a.toList b.toList = decide (a.data.toList < b.data.toList) := by
  rw [bytesLess_eq, Lib.toList_data, Lib.toList_data]
theorem beq_of (a b : ByteArray) : (a.toList == b.toList) = decide (a.data.toList = b.data.toList) := by
  rw [Lib.toList_data, Lib.toList_data]; exact Bool.eq_iff_iff.2 (by simp)

def orI (x y z : Int) : Int := if x ≠ 0 then x else if y ≠ 0 then y else z
theorem cmpV_or (k1 n1 : Int) (t1 : List UInt8) (k2 n2 : Int) (t2 : List UInt8) : orI (cmpI k1 k2) (cmpI n1 n2) (cmpL t1 t2) = cmpV k1 n1 t1 k2 n2 t2 := rfl

set_option maxHeartbeats 400000 in
theorem or_any (b : Nat) (x y z : Int) (w : World) (h0 : w.cell? ⟨b, 0, none⟩ = some (.int .i64 x)) (h1 : w.cell? ⟨b, 1, none⟩ = some (.int .i64 y)) (h2 : w.cell? ⟨b, 2, none⟩ = some (.int .i64 z)) :
    Calls Try.prog 69 #[.slice (some ⟨b, 0, none⟩) 3 3] w fun e w' => e = .returned (.int .i64 (orI x y z)) ∧ w = w' := by
  go_enter Try.func69, Try.ntmps69
  go_wp2
  go_loop [8] (fun i => ∃ k : Nat, k ≤ 3 ∧ (0 < k → x = 0) ∧ (1 < k → y = 0) ∧ (2 < k → z = 0) ∧ i = .int .i64 k) (fun i => 3 - (intOf i).toNat)
  case atStart => exact ⟨0, by omega, by omega, by omega, by omega, rfl⟩
  case round =>
    obtain ⟨k, hk, a0, a1, a2, rfl⟩ := hrel
    obtain rfl | rfl | rfl | rfl : k = 0 ∨ k = 1 ∨ k = 2 ∨ k = 3 := by omega
    · by_cases hx : x = 0
      · have d : (x != 0) = false := by simp [hx]
        have HX := Lib.hid hx
        clear hx
        go_wp2
        exact ⟨⟨1, by omega, fun _ => HX.out, by omega, by omega, rfl⟩, by simp [intOf]⟩
      · have d : (x != 0) = true := by simp [hx]
        have HO := Lib.hid (show x = orI x y z by unfold orI; rw [if_pos hx])
        go_wp2
        go_ret
        exact ⟨ret_int HO.out, rfl⟩
    · have hx := a0 (by omega)
      by_cases hy : y = 0
      · have d : (y != 0) = false := by simp [hy]
        have HX := Lib.hid hx
        have HY := Lib.hid hy
        clear hx hy a0
        go_wp2
        exact ⟨⟨2, by omega, fun _ => HX.out, fun _ => HY.out, by omega, rfl⟩, by simp [intOf]⟩
      · have d : (y != 0) = true := by simp [hy]
        have HO := Lib.hid (show y = orI x y z by unfold orI; rw [if_neg (by simp [hx]), if_pos hy])
        clear hx a0
        go_wp2
        go_ret
        exact ⟨ret_int HO.out, rfl⟩
    · have hx := a0 (by omega)
      have hy := a1 (by omega)
      have HO := Lib.hid (show z = orI x y z by unfold orI; rw [if_neg (by simp [hx]), if_neg (by simp [hy])])
      by_cases hz : z = 0
      · have d : (z != 0) = false := by simp [hz]
        have HX := Lib.hid hx
        have HY := Lib.hid hy
        have HZ := Lib.hid hz
        clear hx hy hz a0 a1
        go_wp2
        exact ⟨⟨3, by omega, fun _ => HX.out, fun _ => HY.out, fun _ => HZ.out, rfl⟩, by simp [intOf]⟩
      · have d : (z != 0) = true := by simp [hz]
        clear hx hy a0 a1
        go_wp2
        go_ret
        exact ⟨ret_int HO.out, rfl⟩
    · have HO := Lib.hid (show 0 = orI x y z by unfold orI; rw [if_neg (by simp [a0 (by omega)]), if_neg (by simp [a1 (by omega)]), a2 (by omega)])
      clear a0 a1 a2
      go_wp2
      go_ret
      exact ⟨ret_int HO.out, rfl⟩
end Go.Proofs.Ytcldbmhjfmbcfaa

namespace Go.Proofs.Ytcldbmhjfmbcfaa
open Go.RowKit

theorem cmpInt_st (a b : Int) (w : World) : Calls Try.prog 70 #[.int .i64 a, .int .i64 b] w fun e w' => e = .returned (.int .i64 (cmpI a b)) ∧ w' = w :=
  (cmpInt_any a b w).mono fun _ _ ⟨he, hw⟩ => ⟨he, hw.symm⟩
/-- A region whose first n operations only read, in whatever order, and whose others have one order: the world behind the draw under a name of its own. -/
theorem region_tail {P : Program} {id : Nat} {Q : Exit → Act → World → Prop} {a : Act} {w : World} {l : List Oper} (n : Nat) (hm : P.follows .mixedOrders = true) (hB : Region.lexTailB .any l.toArray n = true)
    (h : ∀ wd : World, wd = w.drew → wpStill P l.toArray wd (fun a' => wpList P l.toArray Q (l.drop n) a' wd) (l.take n) a) : (Code.region id l.toArray true).wp P Q a w :=
  wp_region_still_tail n hm hB (h _ rfl)

end Go.Proofs.Ytcldbmhjfmbcfaa

namespace Go.Proofs.Ytcldbmhjfmbcfaa
open Go.RowKit

/-- At most f bytes ahead of the last one, as a text. -/
def putFS (f n : Nat) : ByteArray := ⟨(putF f n).toArray⟩

def byteS (z : Int) : ByteArray := ⟨#[UInt8.ofNat z.toNat]⟩
theorem byteS_size (z : Int) : (byteS z).size = 1 := rfl
theorem put_end (f : Nat) (b : ByteArray) (n : Int) (h : n < 128) : b ++ byteS n = b ++ putFS f n.toNat := by
  have : putF f n.toNat = [UInt8.ofNat n.toNat] := by
    cases f with
    | zero => rfl
    | succ f => simp only [putF]; rw [if_pos (by omega)]
  unfold putFS byteS
  rw [this]
theorem put_more (f : Nat) (b : ByteArray) (n : Int) (_h0 : 0 ≤ n) (h : ¬ n < 128) : b ++ byteS (128 + n % 128) ++ putFS f (n / 128).toNat = b ++ putFS (f + 1) n.toNat := by
  apply ba_ext
  rw [ba_app, ba_app, ba_app, List.append_assoc]
  congr 1
  show [UInt8.ofNat (128 + n % 128).toNat] ++ putF f (n / 128).toNat = putF (f + 1) n.toNat
  simp only [putF]
  rw [if_neg (by omega), show (128 + n % 128).toNat = 128 + n.toNat % 128 by omega, show (n / 128).toNat = n.toNat / 128 by omega]
  rfl

end Go.Proofs.Ytcldbmhjfmbcfaa

namespace Go.Proofs.Ytcldbmhjfmbcfaa
open Go.RowKit

/-- The number of the first j bytes. -/
def accOf (s : ByteArray) : Nat → Nat
  | 0 => 0
  | j + 1 => accOf s j + (s.data.toList.getD j 0).toNat % 128 * 128 ^ j
/-- What holds at the first loop's head: k bytes are gone through, all of them 128 or above. -/
def RInv (s : ByteArray) (k : Nat) : Prop := TkInv s k (accOf s k) ∧ ∀ i, i < k → 128 ≤ (s.data.toList.getD i 0).toNat

theorem getD_at (s : ByteArray) (k : Nat) (h : k < s.size) : s.data.toList.getD k 0 = s[k] := by
  have hl : k < s.data.toList.length := h
  unfold List.getD
  rw [List.getElem?_eq_getElem hl]
  rfl
theorem rInv_next {s : ByteArray} {k : Nat} (h : RInv s k) (hlt : k < s.size) (h9 : k < 9) (hc : 128 ≤ s[k].toNat) : RInv s (k + 1) := by
  refine ⟨?_, ?_⟩
  · have := tkInv_next h.1 hlt (by omega) (by omega)
    unfold accOf
    rw [getD_at s k hlt]
    exact this
  · intro i hi
    by_cases e : i = k
    · subst e; rw [getD_at s i hlt]; exact hc
    · exact h.2 i (by omega)

/-- The index of a text, in the walk's own words. -/
theorem idx (s : ByteArray) (k : Nat) (hlt : k < s.size) : ∃ c : Nat, RowKit.Hid (c = s[k].toNat) ∧ c < 256 ∧ ∀ wx, (Instr.index 9 (.string s) (.int .i64 k)).run Try.prog wx = .ok (.int .u8 c) wx :=
  ⟨_, rfl, UInt8.toNat_lt _, fun wx => by rw [run_index_string _ _ _ _ _ Try.underlying9]; simp [hlt]⟩

/-- What holds at the second loop's head: m is the number from place j on. -/
def LInv (s : ByteArray) (T j m : Nat) : Prop := m * 128 ^ j + accOf s j = T ∧ T < 18446744073709551616
theorem lInv_step {s : ByteArray} {T p m c : Nat} (h : LInv s T (p + 1) m) (hlt : p < s.size) (hc : c = s[p].toNat) (h128 : 128 ≤ c) :
    LInv s T p (128 * m + (c - 128)) ∧ 128 * m + (c - 128) < 18446744073709551616 := by
  have hb : c < 256 := by rw [hc]; exact UInt8.toNat_lt _
  obtain ⟨h1, h2⟩ := h
  have hp : 0 < 128 ^ p := Nat.pow_pos (by omega)
  have e : (128 * m + (c - 128)) * 128 ^ p + accOf s p = T := by
    rw [← h1, show accOf s (p + 1) = accOf s p + (s.data.toList.getD p 0).toNat % 128 * 128 ^ p from rfl]
    rw [getD_at s p hlt, ← hc, Nat.add_mul, Nat.pow_succ, show c % 128 = c - 128 by omega]
    have : 128 * m * 128 ^ p = m * (128 ^ p * 128) := by
      rw [Nat.mul_comm 128 m, Nat.mul_assoc, Nat.mul_comm 128 (128 ^ p)]
    omega
  refine ⟨⟨e, h2⟩, ?_⟩
  have : (128 * m + (c - 128)) * 1 ≤ (128 * m + (c - 128)) * 128 ^ p := Nat.mul_le_mul_left _ hp
  omega
theorem lInv_last {s : ByteArray} {T m : Nat} (h : LInv s T 0 m) : m = T := by
  obtain ⟨h1, _⟩ := h
  simpa [accOf] using h1

end Go.Proofs.Ytcldbmhjfmbcfaa

namespace Go.Proofs.Ytcldbmhjfmbcfaa
open Go.RowKit
/-- P3.1. -/
def rightB (k n : Int) (t : ByteArray) : Bool := decide ((k = 1 ∧ t.size = 0) ∨ (k = 2 ∧ t.size ≤ 200 ∧ n = 0) ∨ (k = 3 ∧ t.size = 0 ∧ (n = 0 ∨ n = 1)))
theorem ret_bool {a b : Bool} (h : a = b) : Ending.returned (.bool a) = .returned (.bool b) := by rw [h]
theorem ret_str {a b : ByteArray} (h : a = b) : Ending.returned (.string a) = .returned (.string b) := by rw [h]
theorem empty_of {t : ByteArray} (h : t.size = 0) : t = ⟨#[]⟩ := by
  apply ba_ext; exact List.eq_nil_of_length_eq_zero h
theorem full_of {t : ByteArray} (h : ¬ t.size = 0) : t.toList ≠ [] ∧ t.toList.isEmpty = false ∧ (t.toList == []) = false := by
  have : t.toList ≠ [] := by rw [Lib.toList_data]; intro e; exact h (by rw [ba_size, e]; rfl)
  exact ⟨this, by simpa using this, by simpa using this⟩
theorem rright_any (k n : Int) (t : ByteArray) (w : World) (hs : t.size ≤ 9223372036854775807) :
    Calls Try.prog 63 #[.agg #[.int .i64 k, .int .i64 n, .string t]] w fun e w' => e = .returned (.bool (rightB k n t)) ∧ Grown w w' := by
  by_cases h1 : k = 1
  · subst h1
    by_cases ht : t.size = 0
    · have HR := Lib.hid (show true = rightB 1 n t by unfold rightB; simp [ht])
      obtain rfl := empty_of ht
      clear hs ht
      go_enter Try.func63, Try.ntmps63
      go_wp2
      go_ret
      exact ⟨ret_bool (by first | rfl | exact HR.out), (Grown.refl _).alloc _ _⟩
    · have HR := Lib.hid (show false = rightB 1 n t by unfold rightB; simp [ht])
      obtain ⟨q1, q2, q3⟩ := full_of ht
      go_enter Try.func63, Try.ntmps63
      go_wp2
      go_ret
      exact ⟨ret_bool (by first | rfl | exact HR.out), (Grown.refl _).alloc _ _⟩
  by_cases h2 : k = 2
  · subst h2
    by_cases ht : t.size ≤ 200
    · have d1 : decide ((t.size : Int) ≤ 200) = true := by simp; omega
      by_cases hn : n = 0
      · subst hn
        have HR := Lib.hid (show true = rightB 2 0 t by unfold rightB; simp [ht])
        go_enter Try.func63, Try.ntmps63
        go_wp2
        go_ret
        exact ⟨ret_bool (by first | rfl | exact HR.out), (Grown.refl _).alloc _ _⟩
      · have HR := Lib.hid (show false = rightB 2 n t by unfold rightB; simp [hn])
        have d2 : (n == 0) = false := by simpa using hn
        go_enter Try.func63, Try.ntmps63
        go_wp2
        go_ret
        exact ⟨ret_bool (by first | rfl | exact HR.out), (Grown.refl _).alloc _ _⟩
    · have HR := Lib.hid (show false = rightB 2 n t by unfold rightB; simp; omega)
      have d1 : decide ((t.size : Int) ≤ 200) = false := by simp; omega
      by_cases hn : n = 0
      · subst hn
        go_enter Try.func63, Try.ntmps63
        go_wp2
        go_ret
        exact ⟨ret_bool (by first | rfl | exact HR.out), (Grown.refl _).alloc _ _⟩
      · have d2 : (n == 0) = false := by simpa using hn
        go_enter Try.func63, Try.ntmps63
        go_wp2
        go_ret
        exact ⟨ret_bool (by first | rfl | exact HR.out), (Grown.refl _).alloc _ _⟩
  by_cases h3 : k = 3
  · subst h3
    by_cases ht : t.size = 0
    · obtain rfl := empty_of ht
      clear ht hs
      by_cases hn : n = 0
      · subst hn
        have HR := Lib.hid (show true = rightB 3 0 ⟨#[]⟩ by decide)
        go_enter Try.func63, Try.ntmps63
        go_wp2
        go_ret
        exact ⟨ret_bool (by first | rfl | exact HR.out), (Grown.refl _).alloc _ _⟩
      · have d2 : (n == 0) = false := by simpa using hn
        by_cases hm : n = 1
        · subst hm
          have HR := Lib.hid (show true = rightB 3 1 ⟨#[]⟩ by decide)
          go_enter Try.func63, Try.ntmps63
          go_wp2
          go_ret
          exact ⟨ret_bool (by first | rfl | exact HR.out), (Grown.refl _).alloc _ _⟩
        · have d3 : (n == 1) = false := by simpa using hm
          have HR := Lib.hid (show false = rightB 3 n ⟨#[]⟩ by unfold rightB; simp [hn, hm])
          go_enter Try.func63, Try.ntmps63
          go_wp2
          go_ret
          exact ⟨ret_bool (by first | rfl | exact HR.out), (Grown.refl _).alloc _ _⟩
    · have HR := Lib.hid (show false = rightB 3 n t by unfold rightB; simp [ht])
      obtain ⟨q1, q2, q3⟩ := full_of ht
      go_enter Try.func63, Try.ntmps63
      go_wp2
      go_ret
      exact ⟨ret_bool (by first | rfl | exact HR.out), (Grown.refl _).alloc _ _⟩
  · have HR := Lib.hid (show false = rightB k n t by unfold rightB; simp [h1, h2, h3])
    have d1 : (k == 1) = false := by simpa using h1
    have d2 : (k == 2) = false := by simpa using h2
    have d3 : (k == 3) = false := by simpa using h3
    go_enter Try.func63, Try.ntmps63
    go_wp2
    go_ret
    exact ⟨ret_bool (by first | rfl | exact HR.out), (Grown.refl _).alloc _ _⟩
end Go.Proofs.Ytcldbmhjfmbcfaa

namespace Go.Proofs.Ytcldbmhjfmbcfaa
open Go.RowKit

/-- P3.6. -/
def zeroK (k : Int) : Int := if 1 ≤ k ∧ k ≤ 3 then k else 0

/-- P3.3. -/
def putV (b : ByteArray) (k n : Int) (t : ByteArray) : ByteArray :=
  if k % 4 = 0 then b ++ putS 0 else if k % 4 = 2 then b ++ putS 2 ++ putS t.size ++ t else b ++ putS (k % 4).toNat ++ putS (zigI n).toNat

theorem i64_and3 (n : Int) : bits .and .i64 n 3 = n % 4 := by
  have h3 : (BitVec.ofInt 64 3).toNat = 2 ^ 2 - 1 := by decide
  have key : (BitVec.ofInt 64 n &&& BitVec.ofInt 64 3).toNat = (n % ((2 ^ 64 : Nat) : Int)).toNat % 2 ^ 2 := by
    rw [BitVec.toNat_and, BitVec.toNat_ofInt, h3, Nat.and_two_pow_sub_one_eq_mod]
  show IntKind.i64.wrap ((BitVec.ofInt 64 n &&& BitVec.ofInt 64 3).toNat : Nat) = n % 4
  rw [key, IntKind.wrap_i64]
  omega
theorem i64_and1 (n : Int) : bits .and .i64 n 1 = n % 2 := by
  have h3 : (BitVec.ofInt 64 1).toNat = 2 ^ 1 - 1 := by decide
  have key : (BitVec.ofInt 64 n &&& BitVec.ofInt 64 1).toNat = (n % ((2 ^ 64 : Nat) : Int)).toNat % 2 ^ 1 := by
    rw [BitVec.toNat_and, BitVec.toNat_ofInt, h3, Nat.and_two_pow_sub_one_eq_mod]
  show IntKind.i64.wrap ((BitVec.ofInt 64 n &&& BitVec.ofInt 64 1).toNat : Nat) = n % 2
  rw [key, IntKind.wrap_i64]
  omega
end Go.Proofs.Ytcldbmhjfmbcfaa

namespace Go.Proofs.Ytcldbmhjfmbcfaa
open Go.RowKit

/-- P3.4. -/
def tvL (s : ByteArray) : Int × Int × ByteArray × ByteArray × Nat :=
  if tkE s ≠ 0 then (0, 0, ⟨#[]⟩, ⟨#[]⟩, tkE s)
  else if 3 < tkN s then (0, 0, ⟨#[]⟩, ⟨#[]⟩, 3)
  else if tkN s = 0 then (0, 0, ⟨#[]⟩, tkR s, 0)
  else if tkN s = 2 then (if ttE (tkR s) 200 ≠ 0 then (0, 0, ⟨#[]⟩, ⟨#[]⟩, ttE (tkR s) 200) else (2, 0, ttT (tkR s) 200, ttR (tkR s) 200, 0))
  else if tkE (tkR s) ≠ 0 then (0, 0, ⟨#[]⟩, ⟨#[]⟩, tkE (tkR s))
  else if rightB (tkN s) (tiN (tkR s)) ⟨#[]⟩ = true then (tkN s, tiN (tkR s), ⟨#[]⟩, tkR (tkR s), 0)
  else (0, 0, ⟨#[]⟩, ⟨#[]⟩, 3)
def tvK (s : ByteArray) : Int := (tvL s).1
def tvI (s : ByteArray) : Int := (tvL s).2.1
def tvT (s : ByteArray) : ByteArray := (tvL s).2.2.1
def tvR (s : ByteArray) : ByteArray := (tvL s).2.2.2.1
def tvE (s : ByteArray) : Nat := (tvL s).2.2.2.2
theorem tv_of {s : ByteArray} {k n : Int} {t r : ByteArray} {e : Nat} {z : Int} (h : tvL s = (k, n, t, r, e)) (hz : (e : Int) = z) :
    Ending.returned (.tuple #[.agg #[.int .i64 k, .int .i64 n, .string t], .string r, .int .i64 z]) = .returned (.tuple #[.agg #[.int .i64 (tvK s), .int .i64 (tvI s), .string (tvT s)], .string (tvR s), .int .i64 (tvE s)]) := by
  unfold tvK tvI tvT tvR tvE; rw [h, hz]

/-- A block of three cells that may be written. -/
structure Box (w : World) (b : Nat) (x0 x1 x2 : Value) : Prop where
  c0 : w.cell? ⟨b, 0, none⟩ = some x0
  c1 : w.cell? ⟨b, 1, none⟩ = some x1
  c2 : w.cell? ⟨b, 2, none⟩ = some x2
  f : ∀ i, w.frozen? ⟨b, i, none⟩ = false
theorem Box.grown {w w' : World} {b : Nat} {x0 x1 x2 : Value} (h : Box w b x0 x1 x2) (hg : Grown w w') : Box w' b x0 x1 x2 :=
  ⟨grown_cell hg h.c0, grown_cell hg h.c1, grown_cell hg h.c2, fun i => (hg.2.1 _).trans (h.f i)⟩
theorem Box.new (w : World) (x0 x1 x2 : Value) (t : TypeId) : Box (w.alloc (.cells #[x0, x1, x2] t)) w.heap.size x0 x1 x2 :=
  ⟨grown_box (Grown.refl _) 0 x0 rfl, grown_box (Grown.refl _) 1 x1 rfl, grown_box (Grown.refl _) 2 x2 rfl, fun i => by rw [frozen?_alloc_cells]; simp [World.frozen?]⟩
theorem Box.set1 {w : World} {b : Nat} {x0 x1 x2 : Value} (h : Box w b x0 x1 x2) (v : Value) : Box (w.setCell ⟨b, 1, none⟩ v) b x0 v x2 :=
  ⟨by rw [World.cell?_setCell_other _ _ _ _ (by simp)]; exact h.c0, World.cell?_setCell_same _ _ _ h.c1, by rw [World.cell?_setCell_other _ _ _ _ (by simp)]; exact h.c2, fun i => by rw [World.frozen?_setCell]; exact h.f i⟩
theorem Box.set2 {w : World} {b : Nat} {x0 x1 x2 : Value} (h : Box w b x0 x1 x2) (v : Value) : Box (w.setCell ⟨b, 2, none⟩ v) b x0 x1 v :=
  ⟨by rw [World.cell?_setCell_other _ _ _ _ (by simp)]; exact h.c0, by rw [World.cell?_setCell_other _ _ _ _ (by simp)]; exact h.c1, World.cell?_setCell_same _ _ _ h.c2, fun i => by rw [World.frozen?_setCell]; exact h.f i⟩
theorem Box.far {w : World} {b c o : Nat} {x0 x1 x2 : Value} (h : Box w b x0 x1 x2) (hne : b ≠ c) (v : Value) : Box (w.setCell ⟨c, o, none⟩ v) b x0 x1 x2 := by
  have e : ∀ i, (w.setCell ⟨c, o, none⟩ v).cell? ⟨b, i, none⟩ = w.cell? ⟨b, i, none⟩ := fun i => World.cell?_setCell_other _ _ _ _ (by intro e; injection e; omega)
  exact ⟨by rw [e]; exact h.c0, by rw [e]; exact h.c1, by rw [e]; exact h.c2, fun i => by rw [World.frozen?_setCell]; exact h.f i⟩
theorem grown_set3 {W w : World} (h : Grown W w) (x0 x1 x2 : Value) {b : Nat} (hb : W.heap.size ≤ b) : Grown W (((w.setCell ⟨b, 0, none⟩ x0).setCell ⟨b, 1, none⟩ x1).setCell ⟨b, 2, none⟩ x2) :=
  ((h.setCell hb x0).setCell hb x1).setCell hb x2
theorem lt_of_grown {w w1 : World} {c : Array Value} {t : TypeId} (hg : Grown (w.alloc (.cells c t)) w1) : w.heap.size < w1.heap.size := by
  have := hg.2.2; simp at this; omega

theorem rright_c (k n : Int) (t : ByteArray) (b : Bool) (h : rightB k n t = b) (w : World) (hs : t.size ≤ 9223372036854775807) :
    Calls Try.prog 63 #[.agg #[.int .i64 k, .int .i64 n, .string t]] w fun e w' => e = .returned (.bool b) ∧ Grown w w' := by
  subst h; exact rright_any k n t w hs

theorem tt_size (s : ByteArray) : (ttT s 200).size ≤ 200 := by
  unfold ttT ttL
  by_cases h1 : tkE s ≠ 0
  · rw [if_pos h1]; exact Nat.zero_le _
  rw [if_neg h1]
  by_cases h2 : (200 : Int) < 0 ∨ (200 : Int) < (tkN s : Int)
  · rw [if_pos h2]; exact Nat.zero_le _
  rw [if_neg h2]
  by_cases h3 : (tkR s).size < tkN s
  · rw [if_pos h3]; exact Nat.zero_le _
  rw [if_neg h3]
  rw [ByteArray.size_extract]
  omega

end Go.Proofs.Ytcldbmhjfmbcfaa

namespace Go.Proofs.Ytcldbmhjfmbcfaa
open Go.RowKit

theorem tt_put (t x : ByteArray) (ht : t.size ≤ 200) : ttL (⟨#[]⟩ ++ putS t.size ++ (t ++ x)) 200 = (t, x, 0) := by
  obtain ⟨h1, h2, h3⟩ := tk_put t.size (t ++ x) (by omega)
  unfold ttL
  rw [h1, h2, h3, if_neg (by omega), if_neg (by omega), if_neg (by rw [ByteArray.size_append]; omega)]
  have x1 : (t ++ x).extract 0 t.size = t := by
    apply ba_ext
    rw [Lib.extract_data, ba_app, List.drop_zero, Nat.sub_zero, ba_size, List.take_left]
  have x2 : (t ++ x).extract t.size (t ++ x).size = x := by
    apply ba_ext
    rw [Lib.extract_data, ba_app, ByteArray.size_append, ba_size, List.drop_left, List.take_of_length_le (by rw [ba_size x]; omega)]
  rw [x1, x2]

theorem tv_put (k n : Int) (t x : ByteArray) (h1 : -9223372036854775808 ≤ n) (h2 : n ≤ 9223372036854775807) (hr : rightB k n t = true) : tvL (putV ⟨#[]⟩ k n t ++ x) = (k, n, t, x, 0) := by
  have hr' := hr
  unfold rightB at hr'
  simp only [decide_eq_true_eq] at hr'
  have hz := zig_bd n h1 h2
  have hzt : (((zigI n).toNat : Nat) : Int) = zigI n := by omega
  rcases hr' with ⟨rfl, ht⟩ | ⟨rfl, ht, rfl⟩ | ⟨rfl, ht, hn⟩
  · obtain rfl := empty_of ht
    have e : putV ⟨#[]⟩ 1 n ⟨#[]⟩ ++ x = ⟨#[]⟩ ++ putS 1 ++ (⟨#[]⟩ ++ putS (zigI n).toNat ++ x) := by
      show ⟨#[]⟩ ++ putS 1 ++ putS (zigI n).toNat ++ x = _
      rw [ba_nil (putS (zigI n).toNat)]; simp only [ba_assoc]
    obtain ⟨a1, a2, a3⟩ := tk_put 1 (⟨#[]⟩ ++ putS (zigI n).toNat ++ x) (by omega)
    obtain ⟨b1, b2, b3⟩ := tk_put (zigI n).toNat x (by omega)
    have b4 : tiN (⟨#[]⟩ ++ putS (zigI n).toNat ++ x) = n := by unfold tiN; rw [if_pos b3, b1, hzt, zag_zig]
    unfold tvL
    rw [e, a1, a2, a3, b2, b3, b4, if_neg (by omega), if_neg (by omega), if_neg (by omega), if_neg (by omega), if_neg (by omega)]
    exact if_pos hr
  · have e : putV ⟨#[]⟩ 2 0 t ++ x = ⟨#[]⟩ ++ putS 2 ++ (⟨#[]⟩ ++ putS t.size ++ (t ++ x)) := by
      show ⟨#[]⟩ ++ putS 2 ++ putS t.size ++ t ++ x = _
      rw [ba_nil (putS t.size)]; simp only [ba_assoc]
    obtain ⟨a1, a2, a3⟩ := tk_put 2 (⟨#[]⟩ ++ putS t.size ++ (t ++ x)) (by omega)
    have b := tt_put t x ht
    unfold tvL ttE ttT ttR
    rw [e, a1, a2, a3, b, if_neg (by omega), if_neg (by omega), if_neg (by omega), if_pos rfl]; rfl
  · obtain rfl := empty_of ht
    have e : putV ⟨#[]⟩ 3 n ⟨#[]⟩ ++ x = ⟨#[]⟩ ++ putS 3 ++ (⟨#[]⟩ ++ putS (zigI n).toNat ++ x) := by
      show ⟨#[]⟩ ++ putS 3 ++ putS (zigI n).toNat ++ x = _
      rw [ba_nil (putS (zigI n).toNat)]; simp only [ba_assoc]
    obtain ⟨a1, a2, a3⟩ := tk_put 3 (⟨#[]⟩ ++ putS (zigI n).toNat ++ x) (by omega)
    obtain ⟨b1, b2, b3⟩ := tk_put (zigI n).toNat x (by omega)
    have b4 : tiN (⟨#[]⟩ ++ putS (zigI n).toNat ++ x) = n := by unfold tiN; rw [if_pos b3, b1, hzt, zag_zig]
    unfold tvL
    rw [e, a1, a2, a3, b2, b3, b4, if_neg (by omega), if_neg (by omega), if_neg (by omega), if_neg (by omega), if_neg (by omega)]
    exact if_pos hr

theorem putV_size (b : ByteArray) (k n : Int) (t : ByteArray) : (putV b k n t).size ≤ b.size + 20 + t.size := by
  unfold putV
  have := putS_size 0
  have := putS_size 2
  have := putS_size t.size
  have := putS_size (k % 4).toNat
  have := putS_size (zigI n).toNat
  split
  · rw [ByteArray.size_append]; omega
  split
  · simp only [ByteArray.size_append]; omega
  · simp only [ByteArray.size_append]; omega

/-- How two values differ. -/
theorem differ (k1 n1 : Int) (t1 : ByteArray) (k2 n2 : Int) (t2 : ByteArray) :
    (k1 = k2 ∧ n1 = n2 ∧ t1 = t2) ∨ (k1 == k2) = false ∨ (k1 = k2 ∧ (n1 == n2) = false) ∨ (k1 = k2 ∧ n1 = n2 ∧ (t1.toList == t2.toList) = false) := by
  by_cases h1 : k1 = k2
  · by_cases h2 : n1 = n2
    · by_cases h3 : t1 = t2
      · exact .inl ⟨h1, h2, h3⟩
      · refine .inr (.inr (.inr ⟨h1, h2, ?_⟩))
        rw [beq_of]
        have : t1.data.toList ≠ t2.data.toList := fun e => h3 (ba_ext e)
        simpa using this
    · exact .inr (.inr (.inl ⟨h1, by simpa using h2⟩))
  · exact .inr (.inl (by simpa using h1))
end Go.Proofs.Ytcldbmhjfmbcfaa

namespace Go.Proofs.Ytcldbmhjfmbcfaa
end Go.Proofs.Ytcldbmhjfmbcfaa

namespace Go.Proofs.Ytcldbmhjfmbcfaa
open Go.RowKit

def noS : ByteArray := ⟨#[110, 111]⟩
def yesS : ByteArray := ⟨#[121, 101, 115]⟩
/-- P3.5. -/
def itoaS (n : Int) : ByteArray := ⟨(Lib.itoa n).toArray⟩
def textV (k n : Int) (t : ByteArray) : ByteArray :=
  if k = 1 then itoaS n else if k = 2 then ⟨#[39]⟩ ++ t else if k = 3 then (if n % 2 = 0 then noS else yesS) else ⟨#[45]⟩

end Go.Proofs.Ytcldbmhjfmbcfaa

namespace Go.Proofs.Ytcldbmhjfmbcfaa
open Go.RowKit

def digS (u : Nat) : ByteArray := ⟨(Lib.decDigits u).toArray⟩
/-- What holds at each round's head: u is left, o are the digits behind it. -/
def NumInv (N u : Nat) (o : ByteArray) : Prop := digS u ++ o = digS N ∧ u ≤ N ∧ o.size + (Lib.decDigits u).length = (Lib.decDigits N).length
theorem numInv_step {N u : Nat} {o : ByteArray} (h : NumInv N u o) (hu : 10 ≤ u) : NumInv N (u / 10) (byteS (48 + (u : Int) % 10) ++ o) := by
  obtain ⟨h1, h2, h3⟩ := h
  have e : Lib.decDigits u = Lib.decDigits (u / 10) ++ [UInt8.ofNat (48 + u % 10)] := by rw [Lib.decDigits, dif_neg (by omega)]
  refine ⟨?_, by omega, ?_⟩
  · rw [← h1]
    apply ba_ext
    rw [ba_app, ba_app, ba_app]
    show Lib.decDigits (u / 10) ++ ([UInt8.ofNat (48 + (u : Int) % 10).toNat] ++ o.data.toList) = Lib.decDigits u ++ o.data.toList
    rw [e, show (48 + (u : Int) % 10).toNat = 48 + u % 10 by omega]
    simp
  · rw [ByteArray.size_append, byteS_size]
    rw [e] at h3
    simp at h3
    omega
theorem numInv_end {N u : Nat} {o : ByteArray} (h : NumInv N u o) (hu : u < 10) : byteS (48 + (u : Int)) ++ o = digS N := by
  rw [← h.1]
  congr 1
  unfold byteS digS
  rw [Lib.decDigits_one hu, show (48 + (u : Int)).toNat = 48 + u by omega]

theorem itoa_pos (n : Int) (h : 0 ≤ n) : digS n.natAbs = itoaS n := by
  unfold digS itoaS Lib.itoa
  rw [if_neg (by omega), show n.natAbs = n.toNat by omega]
theorem itoa_min (n : Int) (h : n < 0) : (⟨#[45]⟩ : ByteArray) ++ digS n.natAbs = itoaS n := by
  unfold digS itoaS Lib.itoa
  rw [if_pos h]
  apply ba_ext
  rw [ba_app]
  rfl

theorem digs_len (u : Nat) (h : u ≤ 9223372036854775808) : (Lib.decDigits u).length ≤ 21 := by
  by_cases e : u = 9223372036854775808
  · subst e
    have := Lib.itoa_length_le (-9223372036854775808) (by decide) (by decide)
    unfold Lib.itoa at this
    rw [if_pos (by decide)] at this
    simp only [List.length_cons] at this
    have e2 : (-9223372036854775808 : Int).natAbs = 9223372036854775808 := by decide
    rw [e2] at this
    omega
  · have := Lib.itoa_length_le (u : Int) (by omega) (by omega)
    unfold Lib.itoa at this
    rw [if_neg (by omega)] at this
    simpa using this

end Go.Proofs.Ytcldbmhjfmbcfaa

