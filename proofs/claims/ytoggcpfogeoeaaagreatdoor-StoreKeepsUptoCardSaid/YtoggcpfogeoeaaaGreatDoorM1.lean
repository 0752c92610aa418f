/-
  What is proved: plain facts on the document's numbers as bytes (P1.1 to P1.8), on lists and natural numbers alone; no program is spoken of here.
  varint.Zig and varint.Zag, called with any int and any uint64, return what P1.3 says, and leave the world alone.
  varint.Put, called with any text and any uint64, returns the text and the number's bytes behind it (P1.1); the world has new blocks at most.
-/
import Derived.Test.YtoggcpfogeoeaaaGreatDoorProg
import Derived.WalkKit
import Derived.WalkSpells
import Derived.WalkLawsBesides
import Derived.Laws.DeepNot64
import Derived.LoopTactic
import Derived.RowKit3
import Derived.Outline
import Derived.Laws.BytesArg
namespace Go.Proofs.YtoggcpfogeoeaaaGreatDoor

/-- P1.3 over integers. -/
def zigI (n : Int) : Int := if n < 0 then -2 * n - 1 else 2 * n
def zagI (u : Int) : Int := if u % 2 = 1 then -(u / 2) - 1 else u / 2
theorem zag_zig (n : Int) : zagI (zigI n) = n := by unfold zagI zigI; split <;> split <;> omega
theorem zig_zag (u : Int) (h : 0 ≤ u) : zigI (zagI u) = u := by unfold zagI zigI; split <;> split <;> omega
theorem zig_bd (n : Int) (h1 : -9223372036854775808 ≤ n) (h2 : n ≤ 9223372036854775807) : 0 ≤ zigI n ∧ zigI n < 18446744073709551616 := by
  unfold zigI; split <;> omega
theorem zag_bd (u : Int) (h1 : 0 ≤ u) (h2 : u < 18446744073709551616) : -9223372036854775808 ≤ zagI u ∧ zagI u ≤ 9223372036854775807 := by
  unfold zagI; split <;> omega

/-- P1.1: at most f bytes ahead of the last one. -/
def putF : Nat → Nat → List UInt8
  | 0, n => [UInt8.ofNat n]
  | f + 1, n => if n < 128 then [UInt8.ofNat n] else UInt8.ofNat (128 + n % 128) :: putF f (n / 128)
def putL (n : Nat) : List UInt8 := putF 9 n

/-- P1.2, from place k on. -/
def tk : Nat → Nat → List UInt8 → Nat × List UInt8 × Nat
  | _, _, [] => (0, [], 2)
  | k, acc, c :: r =>
    if k = 9 ∧ 1 < c.toNat then (0, [], 4)
    else if 0 < k ∧ c.toNat = 0 then (0, [], 3)
    else if c.toNat < 128 then (acc + c.toNat * 128 ^ k, r, 0)
    else tk (k + 1) (acc + (c.toNat - 128) * 128 ^ k) r
def takeL (l : List UInt8) : Nat × List UInt8 × Nat := tk 0 0 l

theorem toNat_small (n : Nat) (h : n < 256) : (UInt8.ofNat n).toNat = n := by
  rw [UInt8.toNat_ofNat']; exact Nat.mod_eq_of_lt h

theorem pow_step (k : Nat) (h : k ≤ 8) : 2 ^ (64 - 7 * k) = 128 * 2 ^ (64 - 7 * (k + 1)) := by
  have e : 64 - 7 * k = 7 + (64 - 7 * (k + 1)) := by omega
  rw [e, Nat.pow_add]

theorem div_step (n k : Nat) (h : k ≤ 8) (hn : n < 2 ^ (64 - 7 * k)) : n / 128 < 2 ^ (64 - 7 * (k + 1)) := by
  rw [pow_step k h] at hn
  exact Nat.div_lt_of_lt_mul hn

theorem split_mul (n acc k : Nat) : acc + n % 128 * 128 ^ k + n / 128 * 128 ^ (k + 1) = acc + n * 128 ^ k := by
  have e : n / 128 * 128 ^ (k + 1) = 128 * (n / 128) * 128 ^ k := by
    rw [Nat.pow_succ, Nat.mul_comm (128 ^ k) 128, ← Nat.mul_assoc, Nat.mul_comm (n / 128) 128]
  rw [e, Nat.add_assoc, ← Nat.add_mul, Nat.mod_add_div]

theorem take_put (f : Nat) : ∀ (n k acc : Nat) (s : List UInt8), f + k = 9 → n < 2 ^ (64 - 7 * k) → (0 < k → 0 < n) →
    tk k acc (putF f n ++ s) = (acc + n * 128 ^ k, s, 0) := by
  induction f with
  | zero =>
    intro n k acc s hf hn hp
    obtain rfl : k = 9 := by omega
    have hn2 : n < 2 := by simpa using hn
    have h := toNat_small n (by omega)
    have := hp (by omega)
    simp only [putF, List.cons_append, List.nil_append, tk, h]
    rw [if_neg (by omega), if_neg (by omega), if_pos (by omega)]
  | succ f ih =>
    intro n k acc s hf hn hp
    by_cases h : n < 128
    · have e := toNat_small n (by omega)
      simp only [putF, if_pos h, List.cons_append, List.nil_append, tk, e]
      rw [if_neg (by omega), if_neg (by omega)]
    · have e := toNat_small (128 + n % 128) (by omega)
      simp only [putF, if_neg h, List.cons_append, tk, e]
      rw [if_neg (by omega), if_neg (by omega), if_neg (by omega), ih (n / 128) (k + 1) _ s (by omega) (div_step n k (by omega) hn) (by omega)]
      rw [show 128 + n % 128 - 128 = n % 128 by omega, split_mul]

theorem take_putL (n : Nat) (s : List UInt8) (h : n < 18446744073709551616) : takeL (putL n ++ s) = (n, s, 0) := by
  have := take_put 9 n 0 0 s rfl (by simpa using h) (by omega)
  simpa [takeL, putL] using this

theorem ofNat_toNat (c : UInt8) : UInt8.ofNat c.toNat = c := by simp

theorem put_take : ∀ (l : List UInt8) (k acc x : Nat) (r : List UInt8), k ≤ 9 → tk k acc l = (x, r, 0) →
    ∃ n, x = acc + n * 128 ^ k ∧ putF (9 - k) n ++ r = l ∧ n < 2 ^ (64 - 7 * k) ∧ (0 < k → 0 < n) := by
  intro l
  induction l with
  | nil => intro k acc x r hk h; simp [tk] at h
  | cons c l ih =>
    intro k acc x r hk h
    have hc : c.toNat < 256 := UInt8.toNat_lt c
    unfold tk at h
    by_cases h1 : k = 9 ∧ 1 < c.toNat
    · rw [if_pos h1] at h; simp at h
    rw [if_neg h1] at h
    by_cases h2 : 0 < k ∧ c.toNat = 0
    · rw [if_pos h2] at h; simp at h
    rw [if_neg h2] at h
    by_cases h3 : c.toNat < 128
    · rw [if_pos h3] at h
      simp only [Prod.mk.injEq, and_true] at h
      obtain ⟨rfl, rfl⟩ := h
      refine ⟨c.toNat, rfl, ?_, ?_, by omega⟩
      · by_cases h9 : k = 9
        · subst h9; simp [putF]
        · have : 9 - k = (8 - k) + 1 := by omega
          rw [this]; simp [putF, h3]
      · by_cases h9 : k = 9
        · subst h9; simp; omega
        · rw [pow_step k (by omega)]
          have : 0 < 2 ^ (64 - 7 * (k + 1)) := Nat.pow_pos (by omega)
          omega
    · rw [if_neg h3] at h
      have h9 : k ≠ 9 := by omega
      obtain ⟨n, e, hp, hn, hpos⟩ := ih (k + 1) _ x r (by omega) h
      have hpos' := hpos (by omega)
      have ek : 9 - k = (9 - (k + 1)) + 1 := by omega
      have q1 : (128 * n + (c.toNat - 128)) / 128 = n := by omega
      have q2 : (128 * n + (c.toNat - 128)) % 128 = c.toNat - 128 := by omega
      refine ⟨128 * n + (c.toNat - 128), ?_, ?_, ?_, by omega⟩
      · have s := split_mul (128 * n + (c.toNat - 128)) acc k
        rw [q1, q2] at s
        rw [e, s]
      · rw [ek]
        simp only [putF]
        rw [if_neg (by omega), q1, q2, show 128 + (c.toNat - 128) = c.toNat by omega, ofNat_toNat, List.cons_append, hp]
      · rw [pow_step k (by omega)]; omega

theorem put_takeL (l r : List UInt8) (x : Nat) (h : takeL l = (x, r, 0)) : putL x ++ r = l ∧ x < 18446744073709551616 := by
  obtain ⟨n, e, hp, hn, _⟩ := put_take l 0 0 x r (by omega) h
  obtain rfl : x = n := by simpa using e
  exact ⟨hp, by simpa using hn⟩

/-- Beside an error nothing. -/
theorem take_err : ∀ (l : List UInt8) (k acc x e : Nat) (r : List UInt8), tk k acc l = (x, r, e) → (e = 0 ∨ e = 2 ∨ e = 3 ∨ e = 4) ∧ (e ≠ 0 → x = 0 ∧ r = []) := by
  intro l
  induction l with
  | nil => intro k acc x e r h; simp [tk] at h; obtain ⟨rfl, rfl, rfl⟩ := h; simp
  | cons c l ih =>
    intro k acc x e r h
    unfold tk at h
    by_cases h1 : k = 9 ∧ 1 < c.toNat
    · rw [if_pos h1] at h; simp at h; obtain ⟨rfl, rfl, rfl⟩ := h; simp
    rw [if_neg h1] at h
    by_cases h2 : 0 < k ∧ c.toNat = 0
    · rw [if_pos h2] at h; simp at h; obtain ⟨rfl, rfl, rfl⟩ := h; simp
    rw [if_neg h2] at h
    by_cases h3 : c.toNat < 128
    · rw [if_pos h3] at h; simp at h; obtain ⟨_, _, rfl⟩ := h; simp
    · rw [if_neg h3] at h; exact ih _ _ _ _ _ h

theorem takeL_err (l : List UInt8) : ((takeL l).2.2 = 0 ∨ (takeL l).2.2 = 2 ∨ (takeL l).2.2 = 3 ∨ (takeL l).2.2 = 4) ∧ ((takeL l).2.2 ≠ 0 → (takeL l).1 = 0 ∧ (takeL l).2.1 = []) :=
  take_err l 0 0 _ _ _ rfl
theorem takeL_bd (l : List UInt8) : (takeL l).1 < 18446744073709551616 := by
  by_cases h : (takeL l).2.2 = 0
  · exact (put_takeL l (takeL l).2.1 (takeL l).1 (by rw [← h])).2
  · rw [((takeL_err l).2 h).1]; omega
theorem tk_len : ∀ (l : List UInt8) (k acc : Nat), (tk k acc l).2.1.length ≤ l.length := by
  intro l
  induction l with
  | nil => intro k acc; simp [tk]
  | cons c l ih =>
    intro k acc
    unfold tk
    split
    · simp
    split
    · simp
    split
    · simp
    · have := ih (k + 1) (acc + (c.toNat - 128) * 128 ^ k); simp; omega

/-- P1.8. -/
theorem put_len (f : Nat) : ∀ (n w : Nat), 1 ≤ w → ((putF f n).length ≤ w ↔ (f + 1 ≤ w ∨ n < 128 ^ w)) := by
  induction f with
  | zero => intro n w hw; simp [putF]; omega
  | succ f ih =>
    intro n w hw
    obtain ⟨v, rfl⟩ : ∃ v, w = v + 1 := ⟨w - 1, by omega⟩
    have hp : 0 < 128 ^ v := Nat.pow_pos (by omega)
    by_cases h : n < 128
    · simp only [putF, if_pos h, List.length_singleton]
      have : 128 ^ (v + 1) = 128 * 128 ^ v := by rw [Nat.pow_succ, Nat.mul_comm]
      omega
    · simp only [putF, if_neg h, List.length_cons]
      have e : 128 ^ (v + 1) = 128 * 128 ^ v := by rw [Nat.pow_succ, Nat.mul_comm]
      by_cases hv : v = 0
      · subst hv
        have : 0 < (putF f (n / 128)).length := by cases f <;> simp [putF]; split <;> simp
        rw [e, Nat.pow_zero]; omega
      · have := ih (n / 128) v (by omega)
        rw [e]
        constructor
        · intro hh
          rcases this.1 (by omega) with h1 | h1
          · left; omega
          · right; omega
        · intro hh
          have : (putF f (n / 128)).length ≤ v := this.2 (by
            rcases hh with h1 | h1
            · left; omega
            · right; omega)
          omega
theorem putF_pos (f n : Nat) : 0 < (putF f n).length := by cases f <;> simp [putF]; split <;> simp
theorem putL_le (n : Nat) : (putL n).length ≤ 10 := (put_len 9 n 10 (by omega)).2 (Or.inl (by omega))
end Go.Proofs.YtoggcpfogeoeaaaGreatDoor

namespace Go.Proofs.YtoggcpfogeoeaaaGreatDoor
open Go.RowKit

theorem ret_int {k : IntKind} {a b : Int} (h : a = b) : Ending.returned (.int k a) = .returned (.int k b) := by rw [h]

theorem not_u64 (x : Int) (h0 : 0 ≤ x) (h1 : x < 18446744073709551616) : bits .xor .u64 IntKind.u64.max x = 18446744073709551615 - x := by
  obtain ⟨a, rfl⟩ : ∃ a : Nat, x = (a : Int) := ⟨x.toNat, by omega⟩
  have hm : IntKind.u64.max = ((18446744073709551615 : Nat) : Int) := by decide
  rw [hm]
  show IntKind.u64.wrap ((BitVec.ofInt 64 ((18446744073709551615 : Nat) : Int) ^^^ BitVec.ofInt 64 (a : Int)).toNat : Int) = _
  have h2 : BitVec.ofInt 64 ((18446744073709551615 : Nat) : Int) = BitVec.allOnes 64 := by decide
  rw [h2, BitVec.allOnes_xor, BitVec.toNat_not, ofInt_u64 a (by omega), IntKind.wrap_u64]
  omega

theorem and1_u64 (x : Int) (h0 : 0 ≤ x) (h1 : x < 18446744073709551616) : bits .and .u64 x 1 = x % 2 := by
  rw [u64_and x 1 h0 h1 (by omega) (by omega), show (1 : Int).toNat = 1 from rfl, nat_mask1]
  omega

theorem zig_any (n : Int) (w : World) (h1 : -9223372036854775808 ≤ n) (h2 : n ≤ 9223372036854775807) :
    Calls Tryz.prog 91 #[.int .i64 n] w fun e w' => e = .returned (.int .u64 (zigI n)) ∧ w = w' := by
  by_cases h : n < 0
  · go_enter Tryz.func91, Tryz.ntmps91
    go_wp2
    go_ret
    refine ⟨ret_int ?_, rfl⟩
    have e1 : IntKind.u64.wrap n = n + 18446744073709551616 := by rw [IntKind.wrap_u64]; omega
    have e2 : IntKind.u64.wrap (IntKind.u64.wrap n * 2) = 2 * n + 18446744073709551616 := by rw [e1, IntKind.wrap_u64]; omega
    rw [e2, not_u64 _ (by omega) (by omega)]
    unfold zigI
    rw [if_pos (by omega)]
    omega
  · go_enter Tryz.func91, Tryz.ntmps91
    go_wp2
    go_ret
    refine ⟨ret_int ?_, rfl⟩
    unfold zigI
    rw [if_neg (by omega)]
    omega

theorem zag_any (n : Int) (w : World) (h1 : 0 ≤ n) (h2 : n < 18446744073709551616) :
    Calls Tryz.prog 105 #[.int .u64 n] w fun e w' => e = .returned (.int .i64 (zagI n)) ∧ w = w' := by
  have hb := and1_u64 n h1 h2
  by_cases h : n % 2 = 1
  · have ht : (bits BinOp.and IntKind.u64 n 1 == 1) = true := by rw [hb, h]; rfl
    clear hb
    go_enter Tryz.func105, Tryz.ntmps105
    go_wp2
    go_ret
    refine ⟨ret_int ?_, rfl⟩
    obtain ⟨a, ha⟩ : ∃ a : Nat, n / 2 = (a : Int) := ⟨(n / 2).toNat, by omega⟩
    rw [ha, i64_not a (by omega)]
    unfold zagI
    rw [if_pos (by omega)]
    omega
  · have ht : (bits BinOp.and IntKind.u64 n 1 == 1) = false := by rw [hb]; simpa using h
    clear hb
    go_enter Tryz.func105, Tryz.ntmps105
    go_wp2
    go_ret
    refine ⟨ret_int ?_, rfl⟩
    unfold zagI
    rw [if_neg (by omega)]
end Go.Proofs.YtoggcpfogeoeaaaGreatDoor

namespace Go.Proofs.YtoggcpfogeoeaaaGreatDoor
open Go.RowKit

/-- The number's bytes, as a text. -/
def putS (n : Nat) : ByteArray := ⟨(putL n).toArray⟩
theorem putS_size (n : Nat) : (putS n).size ≤ 10 := by have := putL_le n; simpa [putS, ByteArray.size] using this
theorem putS_list (n : Nat) : (putS n).data.toList = putL n := rfl

/-- What holds of the loop's numbers and of its room at each round's head: k bytes are done, q is left. -/
def PutInv (n k q : Nat) (arr : Array Value) : Prop :=
  k ≤ 9 ∧ q < 2 ^ (64 - 7 * k) ∧ arr.size = 10 ∧ ∃ L : List UInt8, L.length = k ∧ putL n = L ++ putF (9 - k) q ∧ ∀ i, i < k → arr[i]? = some (.int .u8 (L.getD i 0).toNat)

theorem putInv_bd {n k q : Nat} {arr : Array Value} (h : PutInv n k q arr) : k ≤ 9 ∧ q < 18446744073709551616 ∧ ∃ v, arr[k]? = some v := by
  obtain ⟨h1, h2, h3, _⟩ := h
  refine ⟨h1, Nat.lt_of_lt_of_le h2 ?_, ?_⟩
  · have : 2 ^ (64 - 7 * k) ≤ 2 ^ 64 := Nat.pow_le_pow_right (by omega) (by omega)
    simpa using this
  · have hk : k < arr.size := by omega
    exact ⟨arr[k], Array.getElem?_eq_getElem hk⟩

theorem putInv_step {n k q : Nat} {arr : Array Value} (h : PutInv n k q arr) (hq : 128 ≤ q) :
    k + 1 ≤ 9 ∧ PutInv n (k + 1) (q / 128) (arr.setIfInBounds k (.int .u8 (128 + q % 128 : Nat))) := by
  obtain ⟨h1, h2, h3, L, hL, hp, hc⟩ := h
  have hk : k ≤ 8 := by
    rcases Nat.lt_or_ge k 9 with h | h
    · omega
    · obtain rfl : k = 9 := by omega
      simp at h2; omega
  refine ⟨by omega, by omega, div_step q k hk h2, by simpa using h3, L ++ [UInt8.ofNat (128 + q % 128)], by simp [hL], ?_, ?_⟩
  · rw [hp, show 9 - k = (9 - (k + 1)) + 1 by omega]
    simp only [putF]
    rw [if_neg (by omega)]
    simp
  · intro i hi
    by_cases e : i = k
    · subst e
      rw [Array.getElem?_setIfInBounds_self_of_lt (by omega)]
      simp [List.getD, hL]; omega
    · rw [Array.getElem?_setIfInBounds_ne (by omega), hc i (by omega)]
      simp [List.getD, List.getElem?_append_left (show i < L.length by omega)]

theorem or128 (q : Nat) : bits .or .u8 ((q : Int) % 256) 128 = ((128 + q % 128 : Nat) : Int) := by
  have e : ((q : Int) % 256) = ((q % 256 : Nat) : Int) := by omega
  rw [e, show (128 : Int) = ((128 : Nat) : Int) from rfl, u8_or_nat _ _ (by omega) (by omega)]
  congr 1
  have h : q % 256 = 128 * (q / 128 % 2) + q % 128 := by omega
  rcases (by omega : q / 128 % 2 = 0 ∨ q / 128 % 2 = 1) with h2 | h2
  · rw [h, h2, Nat.mul_zero, Nat.zero_add, Nat.or_comm, nat_join 7 128 (q % 128) (by decide) (by omega)]
  · have e2 : q % 256 = 128 ||| q % 128 := by rw [nat_join 7 128 (q % 128) (by decide) (by omega)]; omega
    rw [e2, Nat.or_comm (128 ||| q % 128) 128, ← Nat.or_assoc, Nat.or_self, nat_join 7 128 (q % 128) (by decide) (by omega)]

/-- The last byte is stored: the room's first k + 1 bytes are the number. -/
theorem putInv_text {n k q : Nat} {arr : Array Value} (h : PutInv n k q arr) (hq : q < 128) (w : World) (t : TypeId) :
    (convert 73 9 (.slice (some ⟨w.heap.size, 0, none⟩) (k + 1) 10)).run Tryz.prog (w.alloc (.cells (arr.setIfInBounds k (.int .u8 q)) t)) =
      .ok (.string (putS n)) (w.alloc (.cells (arr.setIfInBounds k (.int .u8 q)) t)) := by
  obtain ⟨h1, h2, h3, L, hL, hp, hc⟩ := h
  have e : putF (9 - k) q = [UInt8.ofNat q] := by
    cases 9 - k with
    | zero => rfl
    | succ f => simp [putF, hq]
  have hs : strOfNums ((putL n).map fun c => (c.toNat : Int)) = (putS n) := by
    have hm : ((putL n).map fun c : UInt8 => (c.toNat : Int)).map (fun x : Int => UInt8.ofNat x.toNat) = putL n := by
      rw [List.map_map, List.map_congr_left (g := id) (fun c _ => by simp)]; simp
    unfold strOfNums putS
    rw [hm]
  rw [← hs]
  refine run_convert_bytes_arg _ 73 5 Tryz.underlying73 Tryz.underlying5 w.heap.size 0 (k + 1) 10 _ (by rw [hp, e]; simp [hL]) ?_ 9 Tryz.underlying9
  intro i hi
  rw [World.cell?_alloc_new]
  rw [hp, e, Nat.zero_add]
  by_cases ek : i = k
  · subst ek
    rw [Array.getElem?_setIfInBounds_self_of_lt (by omega)]
    simp [List.getD, hL]; omega
  · rw [Array.getElem?_setIfInBounds_ne (by omega), hc i (by omega)]
    have hi' : i < L.length := by omega
    simp [List.getD, List.getElem?_append_left, hi']

theorem slice_room (k : Nat) (a : Addr) (hk : k ≤ 9) (wx : World) :
    (Instr.sliceAt 109 (.pointer (some a)) none (some (.int .i64 ((k : Int) + 1))) none).run Tryz.prog wx = .ok (.slice (some a) (k + 1) 10) wx := by
  have e1 : Tryz.prog.arrayLen 109 = 10 := by kernel_rfl
  have e2 : ((sizeOf (Tryz.prog.elem 109)).run Tryz.prog wx) = .ok 1 wx := by kernel_rfl
  rw [run_sliceAt_array_h wx 109 a (by kernel_rfl) .i64 ((k : Int) + 1) (by omega) (by rw [e1]; omega), e2, e1]
  have e3 : ((k : Int) + 1).toNat = k + 1 := by omega
  have e4 : a.add (0 * 1) = a := by simp [Addr.add]
  simp only [Result.andThen, slicedAt, e3, e4, ite_self, Nat.sub_zero]

set_option maxRecDepth 100000 in
set_option maxHeartbeats 400000 in
theorem put_any (b : ByteArray) (n : Nat) (w : World) (hn : n < 18446744073709551616) (hb : b.size ≤ 4611686018427387904) :
    Calls Tryz.prog 38 #[.string b, .int .u64 n] w fun e w' => e = .returned (.string (b ++ (putS n))) ∧ Grown w w' := by
  go_enter Tryz.func38, Tryz.ntmps38
  go_wp2
  go_loopw [1, 6] (fun m i wr => ∃ (k q : Nat) (arr : Array Value), PutInv n k q arr ∧ m = .int .u64 q ∧ i = .int .i64 k ∧ wr = w.alloc (.cells arr 109)) (fun m _ _ => (intOf m).toNat)
  case atStart => exact ⟨0, n, _, ⟨by omega, by simpa using hn, rfl, [], rfl, rfl, fun i hi => by omega⟩, rfl, rfl, rfl⟩
  case round =>
    obtain ⟨k, q, arr, hinv, rfl, rfl, rfl⟩ := hrel
    obtain ⟨hk9, hq64, v, hv⟩ := putInv_bd hinv
    by_cases hq : 128 ≤ q
    · go_wp2
      obtain ⟨hk8, hi'⟩ := putInv_step hinv hq
      exact ⟨⟨k + 1, q / 128, _, hi', by go_num, by go_num, by rw [or128]⟩, by simp [intOf]; omega⟩
    · have hsl := slice_room k ⟨w.heap.size, 0, none⟩ hk9
      have hps := putS_size n
      have hcv := putInv_text hinv (by omega) w 109
      go_wp2
      go_ret
      exact ⟨rfl, (Grown.refl _).alloc _ _⟩
end Go.Proofs.YtoggcpfogeoeaaaGreatDoor

