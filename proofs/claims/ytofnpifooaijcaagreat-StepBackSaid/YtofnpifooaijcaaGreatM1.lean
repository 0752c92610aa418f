/-
  What is proved: plain facts on the document's numbers as bytes (P1.1 to P1.8), on lists and natural numbers alone; no program is spoken of here.
  varint.Zig and varint.Zag, called with any int and any uint64, return what P1.3 says, and leave the world alone.
  varint.Put, called with any text and any uint64, returns the text and the number's bytes behind it (P1.1); the world has new blocks at most.
  varint.Take, called with any text, returns what P1.2 says; the world has new blocks at most.
  a region that draws its order, whose operations read and whose callees make memory at most and hand back values that hang on no world, is walked once, in the text's order (by the library's wp_region_quiet at the class of all worlds grown out of one world).
  varint.Int, Text, TakeInt and TakeText, called with any arguments (texts of up to 2^62 bytes), return what P1.4 to P1.6 say; the world has new blocks at most.
  plain facts on texts as lists of bytes, P1.7 over texts, and the contracts of varint's takes at named results.
-/
import Derived.Test.YtofnpifooaijcaaGreatProg
import Derived.WalkKit
import Derived.WalkSpells
import Derived.WalkLawsBesides
import Derived.Laws.DeepNot64
import Derived.LoopTactic
import Derived.RowKit3
import Derived.Outline
import Derived.Laws.BytesArg
import Derived.Deep.QuietTactic
import Derived.BigQuiet
import Derived.Deep.LoopGhost
import Derived.Lib.Hide
import Derived.Laws.ShiftsVarLaws
import Derived.Laws.Shifts
import Derived.Lib.Strings
namespace Go.Proofs.YtofnpifooaijcaaGreat
def zigI (n : Int) : Int := if n < 0 then -2 * n - 1 else 2 * n
def zagI (u : Int) : Int := if u % 2 = 1 then -(u / 2) - 1 else u / 2
theorem zig_bd (n : Int) (h1 : -9223372036854775808 ≤ n) (h2 : n ≤ 9223372036854775807) : 0 ≤ zigI n ∧ zigI n < 18446744073709551616 := by
  unfold zigI; split <;> omega
def putF : Nat → Nat → List UInt8
  | 0, n => [UInt8.ofNat n]
  | f + 1, n => if n < 128 then [UInt8.ofNat n] else UInt8.ofNat (128 + n % 128) :: putF f (n / 128)
def putL (n : Nat) : List UInt8 := putF 9 n
def tk : Nat → Nat → List UInt8 → Nat × List UInt8 × Nat
  | _, _, [] => (0, [], 2)
  | k, acc, c :: r =>
    if k = 9 ∧ 1 < c.toNat then (0, [], 4)
    else if 0 < k ∧ c.toNat = 0 then (0, [], 3)
    else if c.toNat < 128 then (acc + c.toNat * 128 ^ k, r, 0)
    else tk (k + 1) (acc + (c.toNat - 128) * 128 ^ k) r
def takeL (l : List UInt8) : Nat × List UInt8 × Nat := tk 0 0 l
theorem pow_step (k : Nat) (h : k ≤ 8) : 2 ^ (64 - 7 * k) = 128 * 2 ^ (64 - 7 * (k + 1)) := by
  have e : 64 - 7 * k = 7 + (64 - 7 * (k + 1)) := by omega
  rw [e, Nat.pow_add]
theorem div_step (n k : Nat) (h : k ≤ 8) (hn : n < 2 ^ (64 - 7 * k)) : n / 128 < 2 ^ (64 - 7 * (k + 1)) := by
  rw [pow_step k h] at hn
  exact Nat.div_lt_of_lt_mul hn
theorem split_mul (n acc k : Nat) : acc + n % 128 * 128 ^ k + n / 128 * 128 ^ (k + 1) = acc + n * 128 ^ k := by
  have e : n / 128 * 128 ^ (k + 1) = 128 * (n / 128) * 128 ^ k := by
    rw [Nat.pow_succ, Nat.mul_comm (128 ^ k) 128, ← Nat.mul_assoc, Nat.mul_comm (n / 128) 128]
  rw [e, Nat.add_assoc, ← Nat.add_mul, Nat.mod_add_div]
theorem ofNat_toNat (c : UInt8) : UInt8.ofNat c.toNat = c := by simp
theorem put_take : ∀ (l : List UInt8) (k acc x : Nat) (r : List UInt8), k ≤ 9 → tk k acc l = (x, r, 0) →
    ∃ n, x = acc + n * 128 ^ k ∧ putF (9 - k) n ++ r = l ∧ n < 2 ^ (64 - 7 * k) ∧ (0 < k → 0 < n) := by
  intro l
  induction l with
  | nil => intro k acc x r hk h; simp [tk] at h
  | cons c l ih =>
    intro k acc x r hk h
    have hc : c.toNat < 256 := UInt8.toNat_lt c
    unfold tk at h
    by_cases h1 : k = 9 ∧ 1 < c.toNat
    · rw [if_pos h1] at h; simp at h
    rw [if_neg h1] at h
    by_cases h2 : 0 < k ∧ c.toNat = 0
    · rw [if_pos h2] at h; simp at h
    rw [if_neg h2] at h
    by_cases h3 : c.toNat < 128
    · rw [if_pos h3] at h
      simp only [Prod.mk.injEq, and_true] at h
      obtain ⟨rfl, rfl⟩ := h
      refine ⟨c.toNat, rfl, ?_, ?_, by omega⟩
      · by_cases h9 : k = 9
        · subst h9; simp [putF]
        · have : 9 - k = (8 - k) + 1 := by omega
          rw [this]; simp [putF, h3]
      · by_cases h9 : k = 9
        · subst h9; simp; omega
        · rw [pow_step k (by omega)]
          have : 0 < 2 ^ (64 - 7 * (k + 1)) := Nat.pow_pos (by omega)
          omega
    · rw [if_neg h3] at h
      have h9 : k ≠ 9 := by omega
      obtain ⟨n, e, hp, hn, hpos⟩ := ih (k + 1) _ x r (by omega) h
      have hpos' := hpos (by omega)
      have ek : 9 - k = (9 - (k + 1)) + 1 := by omega
      have q1 : (128 * n + (c.toNat - 128)) / 128 = n := by omega
      have q2 : (128 * n + (c.toNat - 128)) % 128 = c.toNat - 128 := by omega
      refine ⟨128 * n + (c.toNat - 128), ?_, ?_, ?_, by omega⟩
      · have s := split_mul (128 * n + (c.toNat - 128)) acc k
        rw [q1, q2] at s
        rw [e, s]
      · rw [ek]
        simp only [putF]
        rw [if_neg (by omega), q1, q2, show 128 + (c.toNat - 128) = c.toNat by omega, ofNat_toNat, List.cons_append, hp]
      · rw [pow_step k (by omega)]; omega
theorem put_takeL (l r : List UInt8) (x : Nat) (h : takeL l = (x, r, 0)) : putL x ++ r = l ∧ x < 18446744073709551616 := by
  obtain ⟨n, e, hp, hn, _⟩ := put_take l 0 0 x r (by omega) h
  obtain rfl : x = n := by simpa using e
  exact ⟨hp, by simpa using hn⟩
theorem take_err : ∀ (l : List UInt8) (k acc x e : Nat) (r : List UInt8), tk k acc l = (x, r, e) → (e = 0 ∨ e = 2 ∨ e = 3 ∨ e = 4) ∧ (e ≠ 0 → x = 0 ∧ r = []) := by
  intro l
  induction l with
  | nil => intro k acc x e r h; simp [tk] at h; obtain ⟨rfl, rfl, rfl⟩ := h; simp
  | cons c l ih =>
    intro k acc x e r h
    unfold tk at h
    by_cases h1 : k = 9 ∧ 1 < c.toNat
    · rw [if_pos h1] at h; simp at h; obtain ⟨rfl, rfl, rfl⟩ := h; simp
    rw [if_neg h1] at h
    by_cases h2 : 0 < k ∧ c.toNat = 0
    · rw [if_pos h2] at h; simp at h; obtain ⟨rfl, rfl, rfl⟩ := h; simp
    rw [if_neg h2] at h
    by_cases h3 : c.toNat < 128
    · rw [if_pos h3] at h; simp at h; obtain ⟨_, _, rfl⟩ := h; simp
    · rw [if_neg h3] at h; exact ih _ _ _ _ _ h
theorem takeL_err (l : List UInt8) : ((takeL l).2.2 = 0 ∨ (takeL l).2.2 = 2 ∨ (takeL l).2.2 = 3 ∨ (takeL l).2.2 = 4) ∧ ((takeL l).2.2 ≠ 0 → (takeL l).1 = 0 ∧ (takeL l).2.1 = []) :=
  take_err l 0 0 _ _ _ rfl
theorem takeL_bd (l : List UInt8) : (takeL l).1 < 18446744073709551616 := by
  by_cases h : (takeL l).2.2 = 0
  · exact (put_takeL l (takeL l).2.1 (takeL l).1 (by rw [← h])).2
  · rw [((takeL_err l).2 h).1]; omega
theorem tk_len : ∀ (l : List UInt8) (k acc : Nat), (tk k acc l).2.1.length ≤ l.length := by
  intro l
  induction l with
  | nil => intro k acc; simp [tk]
  | cons c l ih =>
    intro k acc
    unfold tk
    split
    · simp
    split
    · simp
    split
    · simp
    · have := ih (k + 1) (acc + (c.toNat - 128) * 128 ^ k); simp; omega
theorem put_len (f : Nat) : ∀ (n w : Nat), 1 ≤ w → ((putF f n).length ≤ w ↔ (f + 1 ≤ w ∨ n < 128 ^ w)) := by
  induction f with
  | zero => intro n w hw; simp [putF]; omega
  | succ f ih =>
    intro n w hw
    obtain ⟨v, rfl⟩ : ∃ v, w = v + 1 := ⟨w - 1, by omega⟩
    have hp : 0 < 128 ^ v := Nat.pow_pos (by omega)
    by_cases h : n < 128
    · simp only [putF, if_pos h, List.length_singleton]
      have : 128 ^ (v + 1) = 128 * 128 ^ v := by rw [Nat.pow_succ, Nat.mul_comm]
      omega
    · simp only [putF, if_neg h, List.length_cons]
      have e : 128 ^ (v + 1) = 128 * 128 ^ v := by rw [Nat.pow_succ, Nat.mul_comm]
      by_cases hv : v = 0
      · subst hv
        have : 0 < (putF f (n / 128)).length := by cases f <;> simp [putF]; split <;> simp
        rw [e, Nat.pow_zero]; omega
      · have := ih (n / 128) v (by omega)
        rw [e]
        constructor
        · intro hh
          rcases this.1 (by omega) with h1 | h1
          · left; omega
          · right; omega
        · intro hh
          have : (putF f (n / 128)).length ≤ v := this.2 (by
            rcases hh with h1 | h1
            · left; omega
            · right; omega)
          omega
theorem putL_le (n : Nat) : (putL n).length ≤ 10 := (put_len 9 n 10 (by omega)).2 (Or.inl (by omega))
end Go.Proofs.YtofnpifooaijcaaGreat
namespace Go.Proofs.YtofnpifooaijcaaGreat
open Go.RowKit
theorem ret_int {k : IntKind} {a b : Int} (h : a = b) : Ending.returned (.int k a) = .returned (.int k b) := by rw [h]
theorem not_u64 (x : Int) (h0 : 0 ≤ x) (h1 : x < 18446744073709551616) : bits .xor .u64 IntKind.u64.max x = 18446744073709551615 - x := by
  obtain ⟨a, rfl⟩ : ∃ a : Nat, x = (a : Int) := ⟨x.toNat, by omega⟩
  have hm : IntKind.u64.max = ((18446744073709551615 : Nat) : Int) := by decide
  rw [hm]
  show IntKind.u64.wrap ((BitVec.ofInt 64 ((18446744073709551615 : Nat) : Int) ^^^ BitVec.ofInt 64 (a : Int)).toNat : Int) = _
  have h2 : BitVec.ofInt 64 ((18446744073709551615 : Nat) : Int) = BitVec.allOnes 64 := by decide
  rw [h2, BitVec.allOnes_xor, BitVec.toNat_not, ofInt_u64 a (by omega), IntKind.wrap_u64]
  omega
theorem and1_u64 (x : Int) (h0 : 0 ≤ x) (h1 : x < 18446744073709551616) : bits .and .u64 x 1 = x % 2 := by
  rw [u64_and x 1 h0 h1 (by omega) (by omega), show (1 : Int).toNat = 1 from rfl, nat_mask1]
  omega
theorem zig_any (n : Int) (w : World) (h1 : -9223372036854775808 ≤ n) (h2 : n ≤ 9223372036854775807) :
    Calls Tryz.prog 120 #[.int .i64 n] w fun e w' => e = .returned (.int .u64 (zigI n)) ∧ w = w' := by
  by_cases h : n < 0
  · go_enter Tryz.func120, Tryz.ntmps120
    go_wp2
    go_ret
    refine ⟨ret_int ?_, rfl⟩
    have e1 : IntKind.u64.wrap n = n + 18446744073709551616 := by rw [IntKind.wrap_u64]; omega
    have e2 : IntKind.u64.wrap (IntKind.u64.wrap n * 2) = 2 * n + 18446744073709551616 := by rw [e1, IntKind.wrap_u64]; omega
    rw [e2, not_u64 _ (by omega) (by omega)]
    unfold zigI
    rw [if_pos (by omega)]
    omega
  · go_enter Tryz.func120, Tryz.ntmps120
    go_wp2
    go_ret
    refine ⟨ret_int ?_, rfl⟩
    unfold zigI
    rw [if_neg (by omega)]
    omega
theorem zag_any (n : Int) (w : World) (h1 : 0 ≤ n) (h2 : n < 18446744073709551616) :
    Calls Tryz.prog 106 #[.int .u64 n] w fun e w' => e = .returned (.int .i64 (zagI n)) ∧ w = w' := by
  have hb := and1_u64 n h1 h2
  by_cases h : n % 2 = 1
  · have ht : (bits BinOp.and IntKind.u64 n 1 == 1) = true := by rw [hb, h]; rfl
    clear hb
    go_enter Tryz.func106, Tryz.ntmps106
    go_wp2
    go_ret
    refine ⟨ret_int ?_, rfl⟩
    obtain ⟨a, ha⟩ : ∃ a : Nat, n / 2 = (a : Int) := ⟨(n / 2).toNat, by omega⟩
    rw [ha, i64_not a (by omega)]
    unfold zagI
    rw [if_pos (by omega)]
    omega
  · have ht : (bits BinOp.and IntKind.u64 n 1 == 1) = false := by rw [hb]; simpa using h
    clear hb
    go_enter Tryz.func106, Tryz.ntmps106
    go_wp2
    go_ret
    refine ⟨ret_int ?_, rfl⟩
    unfold zagI
    rw [if_neg (by omega)]
def putS (n : Nat) : ByteArray := ⟨(putL n).toArray⟩
theorem putS_size (n : Nat) : (putS n).size ≤ 10 := by have := putL_le n; simpa [putS, ByteArray.size] using this
def PutInv (n k q : Nat) (arr : Array Value) : Prop :=
  k ≤ 9 ∧ q < 2 ^ (64 - 7 * k) ∧ arr.size = 10 ∧ ∃ L : List UInt8, L.length = k ∧ putL n = L ++ putF (9 - k) q ∧ ∀ i, i < k → arr[i]? = some (.int .u8 (L.getD i 0).toNat)
theorem putInv_bd {n k q : Nat} {arr : Array Value} (h : PutInv n k q arr) : k ≤ 9 ∧ q < 18446744073709551616 ∧ ∃ v, arr[k]? = some v := by
  obtain ⟨h1, h2, h3, _⟩ := h
  refine ⟨h1, Nat.lt_of_lt_of_le h2 ?_, ?_⟩
  · have : 2 ^ (64 - 7 * k) ≤ 2 ^ 64 := Nat.pow_le_pow_right (by omega) (by omega)
    simpa using this
  · have hk : k < arr.size := by omega
    exact ⟨arr[k], Array.getElem?_eq_getElem hk⟩
theorem putInv_step {n k q : Nat} {arr : Array Value} (h : PutInv n k q arr) (hq : 128 ≤ q) :
    k + 1 ≤ 9 ∧ PutInv n (k + 1) (q / 128) (arr.setIfInBounds k (.int .u8 (128 + q % 128 : Nat))) := by
  obtain ⟨h1, h2, h3, L, hL, hp, hc⟩ := h
  have hk : k ≤ 8 := by
    rcases Nat.lt_or_ge k 9 with h | h
    · omega
    · obtain rfl : k = 9 := by omega
      simp at h2; omega
  refine ⟨by omega, by omega, div_step q k hk h2, by simpa using h3, L ++ [UInt8.ofNat (128 + q % 128)], by simp [hL], ?_, ?_⟩
  · rw [hp, show 9 - k = (9 - (k + 1)) + 1 by omega]
    simp only [putF]
    rw [if_neg (by omega)]
    simp
  · intro i hi
    by_cases e : i = k
    · subst e
      rw [Array.getElem?_setIfInBounds_self_of_lt (by omega)]
      simp [List.getD, hL]; omega
    · rw [Array.getElem?_setIfInBounds_ne (by omega), hc i (by omega)]
      simp [List.getD, List.getElem?_append_left (show i < L.length by omega)]
theorem or128 (q : Nat) : bits .or .u8 ((q : Int) % 256) 128 = ((128 + q % 128 : Nat) : Int) := by
  have e : ((q : Int) % 256) = ((q % 256 : Nat) : Int) := by omega
  rw [e, show (128 : Int) = ((128 : Nat) : Int) from rfl, u8_or_nat _ _ (by omega) (by omega)]
  congr 1
  have h : q % 256 = 128 * (q / 128 % 2) + q % 128 := by omega
  rcases (by omega : q / 128 % 2 = 0 ∨ q / 128 % 2 = 1) with h2 | h2
  · rw [h, h2, Nat.mul_zero, Nat.zero_add, Nat.or_comm, nat_join 7 128 (q % 128) (by decide) (by omega)]
  · have e2 : q % 256 = 128 ||| q % 128 := by rw [nat_join 7 128 (q % 128) (by decide) (by omega)]; omega
    rw [e2, Nat.or_comm (128 ||| q % 128) 128, ← Nat.or_assoc, Nat.or_self, nat_join 7 128 (q % 128) (by decide) (by omega)]
theorem putInv_text {n k q : Nat} {arr : Array Value} (h : PutInv n k q arr) (hq : q < 128) (w : World) (t : TypeId) :
    (convert 129 9 (.slice (some ⟨w.heap.size, 0, none⟩) (k + 1) 10)).run Tryz.prog (w.alloc (.cells (arr.setIfInBounds k (.int .u8 q)) t)) =
      .ok (.string (putS n)) (w.alloc (.cells (arr.setIfInBounds k (.int .u8 q)) t)) := by
  obtain ⟨h1, h2, h3, L, hL, hp, hc⟩ := h
  have e : putF (9 - k) q = [UInt8.ofNat q] := by
    cases 9 - k with
    | zero => rfl
    | succ f => simp [putF, hq]
  have hs : strOfNums ((putL n).map fun c => (c.toNat : Int)) = (putS n) := by
    have hm : ((putL n).map fun c : UInt8 => (c.toNat : Int)).map (fun x : Int => UInt8.ofNat x.toNat) = putL n := by
      rw [List.map_map, List.map_congr_left (g := id) (fun c _ => by simp)]; simp
    unfold strOfNums putS
    rw [hm]
  rw [← hs]
  refine run_convert_bytes_arg _ 129 5 Tryz.underlying129 Tryz.underlying5 w.heap.size 0 (k + 1) 10 _ (by rw [hp, e]; simp [hL]) ?_ 9 Tryz.underlying9
  intro i hi
  rw [World.cell?_alloc_new]
  rw [hp, e, Nat.zero_add]
  by_cases ek : i = k
  · subst ek
    rw [Array.getElem?_setIfInBounds_self_of_lt (by omega)]
    simp [List.getD, hL]; omega
  · rw [Array.getElem?_setIfInBounds_ne (by omega), hc i (by omega)]
    have hi' : i < L.length := by omega
    simp [List.getD, List.getElem?_append_left, hi']
theorem slice_room (k : Nat) (a : Addr) (hk : k ≤ 9) (wx : World) :
    (Instr.sliceAt 127 (.pointer (some a)) none (some (.int .i64 ((k : Int) + 1))) none).run Tryz.prog wx = .ok (.slice (some a) (k + 1) 10) wx := by
  have e1 : Tryz.prog.arrayLen 127 = 10 := by kernel_rfl
  have e2 : ((sizeOf (Tryz.prog.elem 127)).run Tryz.prog wx) = .ok 1 wx := by kernel_rfl
  rw [run_sliceAt_array_h wx 127 a (by kernel_rfl) .i64 ((k : Int) + 1) (by omega) (by rw [e1]; omega), e2, e1]
  have e3 : ((k : Int) + 1).toNat = k + 1 := by omega
  have e4 : a.add (0 * 1) = a := by simp [Addr.add]
  simp only [Result.andThen, slicedAt, e3, e4, ite_self, Nat.sub_zero]
set_option maxRecDepth 100000 in
set_option maxHeartbeats 400000 in
theorem put_any (b : ByteArray) (n : Nat) (w : World) (hn : n < 18446744073709551616) (hb : b.size ≤ 4611686018427387904) :
    Calls Tryz.prog 64 #[.string b, .int .u64 n] w fun e w' => e = .returned (.string (b ++ (putS n))) ∧ Grown w w' := by
  go_enter Tryz.func64, Tryz.ntmps64
  go_wp2
  go_loopw [1, 6] (fun m i wr => ∃ (k q : Nat) (arr : Array Value), PutInv n k q arr ∧ m = .int .u64 q ∧ i = .int .i64 k ∧ wr = w.alloc (.cells arr 127)) (fun m _ _ => (intOf m).toNat)
  case atStart => exact ⟨0, n, _, ⟨by omega, by simpa using hn, rfl, [], rfl, rfl, fun i hi => by omega⟩, rfl, rfl, rfl⟩
  case round =>
    obtain ⟨k, q, arr, hinv, rfl, rfl, rfl⟩ := hrel
    obtain ⟨hk9, hq64, v, hv⟩ := putInv_bd hinv
    by_cases hq : 128 ≤ q
    · go_wp2
      obtain ⟨hk8, hi'⟩ := putInv_step hinv hq
      exact ⟨⟨k + 1, q / 128, _, hi', by go_num, by go_num, by rw [or128]⟩, by simp [intOf]; omega⟩
    · have hsl := slice_room k ⟨w.heap.size, 0, none⟩ hk9
      have hps := putS_size n
      have hcv := putInv_text hinv (by omega) w 127
      go_wp2
      go_ret
      exact ⟨rfl, (Grown.refl _).alloc _ _⟩
def tkN (s : ByteArray) : Nat := (takeL s.data.toList).1
def tkR (s : ByteArray) : ByteArray := ⟨(takeL s.data.toList).2.1.toArray⟩
def tkE (s : ByteArray) : Nat := (takeL s.data.toList).2.2
def TkInv (s : ByteArray) (k acc : Nat) : Prop :=
  k ≤ 9 ∧ k ≤ s.size ∧ acc < 128 ^ k ∧ takeL s.data.toList = tk k acc (s.data.toList.drop k)
theorem tkInv_bd {s : ByteArray} {k acc : Nat} (h : TkInv s k acc) : k ≤ 9 ∧ k ≤ s.size ∧ (acc : Int) < 9223372036854775808 := by
  obtain ⟨h1, h2, h3, _⟩ := h
  refine ⟨h1, h2, ?_⟩
  have : 128 ^ k ≤ 128 ^ 9 := Nat.pow_le_pow_right (by omega) h1
  have e : 128 ^ 9 = 9223372036854775808 := by decide
  omega
theorem round_bits (c k acc : Nat) (hc : c < 256) (hk : k ≤ 8 ∨ k = 9 ∧ c ≤ 1) (hacc : acc < 128 ^ k) :
    ∃ d m acc2 : Nat, bits BinOp.and IntKind.u8 (c : Int) 127 = (d : Int) ∧ d < 128 ∧ IntKind.u64.wrap ((d : Int) * 2 ^ (7 * k)) = (m : Int) ∧
      bits BinOp.or IntKind.u64 (acc : Int) (m : Int) = (acc2 : Int) ∧ RowKit.Hid (acc2 = acc + c % 128 * 128 ^ k ∧ acc2 < 18446744073709551616) := by
  have hb : c % 128 * 128 ^ k + 128 ^ k ≤ 18446744073709551616 := by
    rcases hk with h | ⟨rfl, h⟩
    · have h8 : 128 ^ k ≤ 128 ^ 8 := Nat.pow_le_pow_right (by omega) h
      have e8 : 128 ^ 8 = 72057594037927936 := by decide
      have : (c % 128 + 1) * 128 ^ k ≤ 128 * 128 ^ k := Nat.mul_le_mul_right _ (by omega)
      rw [Nat.add_mul, Nat.one_mul] at this
      omega
    · have e9 : 128 ^ 9 = 9223372036854775808 := by decide
      rw [e9]
      rcases (by omega : c = 0 ∨ c = 1) with rfl | rfl <;> omega
  have hp : 0 < 128 ^ k := Nat.pow_pos (by omega)
  have hk9 : k ≤ 9 := by omega
  have e7 : (2 : Nat) ^ (7 * k) = 128 ^ k := by rw [Nat.pow_mul]
  refine ⟨c % 128, c % 128 * 128 ^ k, acc + c % 128 * 128 ^ k, ?_, by omega, ?_, ?_, rfl, by omega⟩
  · rw [show (127 : Int) = ((127 : Nat) : Int) from rfl, u8_and_nat c 127 hc (by omega), nat_mask7]
  · rw [IntKind.wrap_u64]
    have e2 : (((c % 128 : Nat) : Int) * 2 ^ (7 * k)) = ((c % 128 * 128 ^ k : Nat) : Int) := by
      rw [← e7]; simp
    rw [e2]
    have e3 : ((c % 128 * 128 ^ k : Nat) : Int) % 18446744073709551616 = ((c % 128 * 128 ^ k : Nat) : Int) := Int.emod_eq_of_lt (by omega) (by omega)
    rw [e3]
  · rw [u64_or_nat acc _ (by omega) (by omega)]
    congr 1
    rw [Nat.or_comm, nat_join (7 * k) (c % 128 * 128 ^ k) acc (by rw [e7]; exact Nat.mul_mod_left _ _) (by rw [e7]; exact hacc), Nat.add_comm]
theorem ret3 {a a' : Int} {r r' : ByteArray} {e e' : Int} (h1 : a = a') (h2 : r = r') (h3 : e = e') :
    Ending.returned (.tuple #[.int .u64 a, .string r, .int .i64 e]) = .returned (.tuple #[.int .u64 a', .string r', .int .i64 e']) := by rw [h1, h2, h3]
theorem tk_cons (k acc : Nat) (c : UInt8) (r : List UInt8) : tk k acc (c :: r) =
    if k = 9 ∧ 1 < c.toNat then (0, [], 4) else if 0 < k ∧ c.toNat = 0 then (0, [], 3) else if c.toNat < 128 then (acc + c.toNat * 128 ^ k, r, 0) else tk (k + 1) (acc + (c.toNat - 128) * 128 ^ k) r := by rw [tk]
theorem tkInv_end {s : ByteArray} {k acc : Nat} (h : TkInv s k acc) (hge : ¬ k < s.size) : takeL s.data.toList = (0, [], 2) := by
  have e : s.data.toList.drop k = [] := List.drop_eq_nil_of_le (by have : s.data.toList.length = s.size := rfl; omega)
  rw [h.2.2.2, e]; rfl
theorem tkInv_at {s : ByteArray} {k acc : Nat} (h : TkInv s k acc) (hlt : k < s.size) : takeL s.data.toList = tk k acc (s[k] :: s.data.toList.drop (k + 1)) := by
  rw [h.2.2.2]
  congr 1
  have hl : k < s.data.toList.length := hlt
  rw [List.drop_eq_getElem_cons hl]
  rfl
theorem tkInv_long {s : ByteArray} {k acc : Nat} (h : TkInv s k acc) (hlt : k < s.size) (h9 : k = 9) (hc : 1 < s[k].toNat) : takeL s.data.toList = (0, [], 4) := by
  rw [tkInv_at h hlt, tk_cons, if_pos ⟨h9, hc⟩]
theorem tkInv_form {s : ByteArray} {k acc : Nat} (h : TkInv s k acc) (hlt : k < s.size) (h0 : 0 < k) (hc : s[k].toNat = 0) : takeL s.data.toList = (0, [], 3) := by
  rw [tkInv_at h hlt, tk_cons, if_neg (by omega), if_pos ⟨h0, hc⟩]
theorem tkInv_ok {s : ByteArray} {k acc : Nat} (h : TkInv s k acc) (hlt : k < s.size) (h9 : k = 9 → s[k].toNat ≤ 1) (h0 : 0 < k → s[k].toNat ≠ 0) (hc : s[k].toNat < 128) :
    takeL s.data.toList = (acc + s[k].toNat * 128 ^ k, s.data.toList.drop (k + 1), 0) := by
  rw [tkInv_at h hlt, tk_cons, if_neg (by omega), if_neg (by omega), if_pos hc]
theorem tkInv_next {s : ByteArray} {k acc : Nat} (h : TkInv s k acc) (hlt : k < s.size) (h9 : k ≠ 9) (hc : ¬ s[k].toNat < 128) :
    TkInv s (k + 1) (acc + s[k].toNat % 128 * 128 ^ k) := by
  obtain ⟨h1, h2, h3, h4⟩ := id h
  have hb := UInt8.toNat_lt s[k]
  refine ⟨by omega, by omega, ?_, ?_⟩
  · rw [Nat.pow_succ]
    have : (s[k].toNat % 128 + 1) * 128 ^ k ≤ 128 * 128 ^ k := Nat.mul_le_mul_right _ (by omega)
    rw [Nat.add_mul, Nat.one_mul] at this
    omega
  · rw [tkInv_at h hlt, tk_cons, if_neg (by omega), if_neg (by omega), if_neg hc, show s[k].toNat % 128 = s[k].toNat - 128 by omega]
theorem rest_extract (s : ByteArray) (k : Nat) : (⟨(s.data.toList.drop k).toArray⟩ : ByteArray) = s.extract k s.size := by
  apply ByteArray.ext
  apply Array.ext'
  rw [ByteArray.data_extract, Array.toList_extract]
  show s.data.toList.drop k = (s.data.toList.drop k).take (s.size - k)
  rw [List.take_of_length_le]
  rw [List.length_drop]
  exact Nat.le_refl _
theorem grown_drewN (w : World) (n : Nat) : Grown w (w.drewN n) := Grown.refl w
theorem res_err {s : ByteArray} {e : Nat} (h : takeL s.data.toList = (0, [], e)) : tkN s = 0 ∧ tkR s = ⟨#[]⟩ ∧ tkE s = e := by
  unfold tkN tkR tkE; rw [h]; exact ⟨rfl, rfl, rfl⟩
theorem res_ok {s : ByteArray} {x k : Nat} (h : takeL s.data.toList = (x, s.data.toList.drop k, 0)) : tkN s = x ∧ tkR s = s.extract k s.size ∧ tkE s = 0 := by
  unfold tkN tkR tkE; rw [h]; exact ⟨rfl, rest_extract s k, rfl⟩
set_option maxRecDepth 100000 in
set_option maxHeartbeats 1000000 in
theorem take_any (s : ByteArray) (w : World) (hs : s.size ≤ 9223372036854775807) :
    Calls Tryz.prog 100 #[.string s] w fun e w' => e = .returned (.tuple #[.int .u64 (tkN s), .string (tkR s), .int .i64 (tkE s)]) ∧ Grown w w' := by
  go_enter Tryz.func100, Tryz.ntmps100
  go_wp2
  go_step3
  go_wp2
  go_step3
  go_wp2
  go_loop [5, 6, 7, 8] (fun n m e i => ∃ (k acc : Nat), TkInv s k acc ∧ n = .int .u64 acc ∧ m = .int .i64 0 ∧ e = .int .i64 2 ∧ i = .int .i64 k) (fun _ _ _ i => s.size - (intOf i).toNat)
  case atStart => exact ⟨0, 0, ⟨by omega, by omega, by simp, by simp [takeL]⟩, rfl, rfl, rfl, rfl⟩
  case round =>
    obtain ⟨k, acc, hinv, rfl, rfl, rfl, rfl⟩ := hrel
    obtain ⟨hk9, hks, hacc⟩ := tkInv_bd hinv
    by_cases hlt : k < s.size
    · obtain ⟨c, hc, hc256, hix⟩ : ∃ c : Nat, c = s[k].toNat ∧ c < 256 ∧ ∀ wx, (Instr.index 9 (.string s) (.int .i64 k)).run Tryz.prog wx = .ok (.int .u8 c) wx :=
        ⟨_, rfl, UInt8.toNat_lt _, fun wx => by rw [run_index_string _ _ _ _ _ Tryz.underlying9]; simp [hlt]⟩
      have HC := Lib.hid hc
      clear hc
      by_cases hl : k = 9 ∧ 1 < c
      · have e9' : ((k : Int) == 9) = true := by simp; omega
        have el1 : decide ((1 : Int) < (c : Int)) = true := by simp; omega
        have HR := Lib.hid (res_err (tkInv_long hinv hlt hl.1 (by rw [← HC.out]; exact hl.2)))
        clear hl
        go_wp2
        go_ret3
        exact ⟨ret3 (by rw [HR.out.1]; rfl) HR.out.2.1.symm (by rw [HR.out.2.2]; rfl), Grown.refl _⟩
      by_cases hf : 0 < k ∧ c = 0
      · have ec1 : ((c : Int) == 0) = true := by simp [hf.2]
        have el1 : decide ((1 : Int) < (c : Int)) = false := by simp; omega
        have HR := Lib.hid (res_err (tkInv_form hinv hlt hf.1 (by rw [← HC.out]; exact hf.2)))
        have hk0 : 0 < k := hf.1
        clear hf hl
        by_cases e9 : k = 9
        · have e9' : ((k : Int) == 9) = true := by simp; omega
          clear e9
          go_wp2
          go_ret3
          exact ⟨ret3 (by rw [HR.out.1]; rfl) HR.out.2.1.symm (by rw [HR.out.2.2]; rfl), Grown.refl _⟩
        · have e9' : ((k : Int) == 9) = false := by simp; omega
          go_wp2
          go_ret3
          exact ⟨ret3 (by rw [HR.out.1]; rfl) HR.out.2.1.symm (by rw [HR.out.2.2]; rfl), Grown.refl _⟩
      obtain ⟨d, m, acc2, hand, hd128, hshl, hor, HA⟩ := round_bits c k acc hc256 (by omega) hinv.2.2.1
      by_cases eh : c < 128
      · have eh1 : decide ((c : Int) < 128) = true := by simp; omega
        have HR := Lib.hid (res_ok (tkInv_ok hinv hlt (by rw [← HC.out]; omega) (by rw [← HC.out]; omega) (by rw [← HC.out]; omega)))
        by_cases e9 : k = 9
        · have e9' : ((k : Int) == 9) = true := by simp; omega
          have el1 : decide ((1 : Int) < (c : Int)) = false := by simp; omega
          have ec1 : ((c : Int) == 0) = false := by simp; omega
          have hk0 : 0 < k := by omega
          clear e9 hf hl
          go_wp2
          go_quiet (fail)
          go_wp2
          rw [Exit.noGoto_ret]
          go_ret3
          exact ⟨ret3 (by rw [HR.out.1, ← HC.out, HA.out.1, Nat.mod_eq_of_lt eh]) HR.out.2.1.symm (by rw [HR.out.2.2]; rfl), grown_drewN _ _⟩
        · have e9' : ((k : Int) == 9) = false := by simp; omega
          by_cases hk0 : 0 < k
          · have ec1 : ((c : Int) == 0) = false := by simp; omega
            clear hf hl
            go_wp2
            go_quiet (fail)
            go_wp2
            rw [Exit.noGoto_ret]
            go_ret3
            exact ⟨ret3 (by rw [HR.out.1, ← HC.out, HA.out.1, Nat.mod_eq_of_lt eh]) HR.out.2.1.symm (by rw [HR.out.2.2]; rfl), grown_drewN _ _⟩
          · have hk0' : decide (0 < k) = false := by simpa using hk0
            clear hf hl
            go_wp2
            go_quiet (fail)
            go_wp2
            rw [Exit.noGoto_ret]
            go_ret3
            exact ⟨ret3 (by rw [HR.out.1, ← HC.out, HA.out.1, Nat.mod_eq_of_lt eh]) HR.out.2.1.symm (by rw [HR.out.2.2]; rfl), grown_drewN _ _⟩
      · have eh1 : decide ((c : Int) < 128) = false := by simp; omega
        have HN := Lib.hid (tkInv_next hinv hlt (by omega) (by rw [← HC.out]; omega))
        have e9' : ((k : Int) == 9) = false := by simp; omega
        have ec1 : ((c : Int) == 0) = false := by simp; omega
        clear hf hl
        by_cases hk0 : 0 < k
        · go_wp2
          exact ⟨⟨k + 1, acc2, by rw [HA.out.1, HC.out]; exact HN.out, rfl, rfl, rfl, by go_num⟩, by simp [intOf]; omega⟩
        · have hk0' : decide (0 < k) = false := by simpa using hk0
          go_wp2
          exact ⟨⟨k + 1, acc2, by rw [HA.out.1, HC.out]; exact HN.out, rfl, rfl, rfl, by go_num⟩, by simp [intOf]; omega⟩
    · have HR := Lib.hid (res_err (tkInv_end hinv hlt))
      go_wp2
      go_ret3
      exact ⟨ret3 (by rw [HR.out.1]; rfl) HR.out.2.1.symm (by rw [HR.out.2.2]; rfl), Grown.refl _⟩
theorem grown_trans {a b c : World} (h1 : Grown a b) (h2 : Grown b c) : Grown a c :=
  ⟨World.keptBut_trans h1.1 h2.1, fun x => (h2.2.1 x).trans (h1.2.1 x), Nat.le_trans h1.2.2 h2.2.2⟩
theorem grown_cell {w w1 : World} (hg : Grown w w1) {b o : Nat} {v : Value} (hc : w.cell? ⟨b, o, none⟩ = some v) : w1.cell? ⟨b, o, none⟩ = some v := by
  rw [hg.1.cell (World.block_lt_of_cell? w _ hc) (by simp)]
  exact hc
theorem grown_box {w w1 : World} {c : Array Value} {t : TypeId} (hg : Grown (w.alloc (.cells c t)) w1) (i : Nat) (v : Value) (hv : c[i]? = some v) : w1.cell? ⟨w.heap.size, i, none⟩ = some v := by
  rw [hg.1.cell (by simp) (by simp), World.cell?_alloc_new]
  exact hv
theorem int_any (b : ByteArray) (n : Int) (w : World) (h1 : -9223372036854775808 ≤ n) (h2 : n ≤ 9223372036854775807) (hb : b.size ≤ 4611686018427387904) :
    Calls Tryz.prog 68 #[.string b, .int .i64 n] w fun e w' => e = .returned (.string (b ++ putS (zigI n).toNat)) ∧ Grown w w' := by
  have hz := zig_bd n h1 h2
  obtain ⟨z, hzz⟩ : ∃ z : Nat, zigI n = (z : Int) := ⟨(zigI n).toNat, by omega⟩
  have hz1 : (zigI n).toNat = z := by omega
  rw [hz1]
  have HZ := Lib.hid hzz
  have hzl : z < 18446744073709551616 := by omega
  clear hz hzz hz1
  go_enter Tryz.func68, Tryz.ntmps68
  go_wp2_with (first | (go_at_call 120; refine (zig_any _ _ h1 h2).mono ?_; rintro e w' ⟨rfl, rfl⟩; rw [HZ.out]) | (go_at_call 64; refine (put_any _ _ _ hzl hb).mono ?_; rintro e w1 ⟨rfl, hg⟩))
  go_ret
  exact ⟨rfl, by assumption⟩
theorem text_any (b s : ByteArray) (w : World) (hb : b.size ≤ 2305843009213693952) (hs : s.size ≤ 2305843009213693952) :
    Calls Tryz.prog 65 #[.string b, .string s] w fun e w' => e = .returned (.string (b ++ putS s.size ++ s)) ∧ Grown w w' := by
  have hp := putS_size s.size
  have hbp : (b ++ putS s.size).size ≤ 2305843009213693962 := by rw [ByteArray.size_append]; omega
  go_enter Tryz.func65, Tryz.ntmps65
  go_wp2_with (go_at_call 64; refine (put_any _ _ _ (by omega) (by omega)).mono ?_; rintro e w1 ⟨rfl, hg⟩)
  go_ret
  exact ⟨rfl, by assumption⟩
theorem tkN_bd (s : ByteArray) : tkN s < 18446744073709551616 := takeL_bd _
theorem tk_bad (s : ByteArray) (h : tkE s ≠ 0) : tkN s = 0 ∧ tkR s = ⟨#[]⟩ := by
  have := (takeL_err s.data.toList).2 h
  exact ⟨this.1, by unfold tkR; rw [this.2]⟩
theorem tkR_size (s : ByteArray) : (tkR s).size ≤ s.size := tk_len s.data.toList 0 0
def tiN (s : ByteArray) : Int := if tkE s = 0 then zagI (tkN s) else 0
theorem ret3i {a a' : Int} {r r' : ByteArray} {e e' : Int} (h1 : a = a') (h2 : r = r') (h3 : e = e') :
    Ending.returned (.tuple #[.int .i64 a, .string r, .int .i64 e]) = .returned (.tuple #[.int .i64 a', .string r', .int .i64 e']) := by rw [h1, h2, h3]
theorem ret3s {a a' : ByteArray} {r r' : ByteArray} {e e' : Int} (h1 : a = a') (h2 : r = r') (h3 : e = e') :
    Ending.returned (.tuple #[.string a, .string r, .int .i64 e]) = .returned (.tuple #[.string a', .string r', .int .i64 e']) := by rw [h1, h2, h3]
theorem takeInt_any (s : ByteArray) (w : World) (hs : s.size ≤ 9223372036854775807) :
    Calls Tryz.prog 43 #[.string s] w fun e w' => e = .returned (.tuple #[.int .i64 (tiN s), .string (tkR s), .int .i64 (tkE s)]) ∧ Grown w w' := by
  have hn := tkN_bd s
  by_cases h : tkE s = 0
  · have he : ((tkE s : Int) != 0) = false := by simp [h]
    have H := Lib.hid h
    clear h
    go_enter Tryz.func43, Tryz.ntmps43
    go_wp2_with (first | (go_at_call 100; refine (take_any _ _ hs).mono ?_; rintro e w1 ⟨rfl, hg⟩) | (go_at_call 106; refine (zag_any _ _ (by omega) (by omega)).mono ?_; rintro e w2 ⟨rfl, rfl⟩))
    go_ret3
    exact ⟨ret3i (by unfold tiN; rw [if_pos H.out]) rfl (by rw [H.out]; rfl), by assumption⟩
  · have he : ((tkE s : Int) != 0) = true := by simp [h]
    have H := Lib.hid h
    clear h
    go_enter Tryz.func43, Tryz.ntmps43
    go_wp2_with (first | (go_at_call 100; refine (take_any _ _ hs).mono ?_; rintro e w1 ⟨rfl, hg⟩) | (go_at_call 106; refine (zag_any _ _ (by omega) (by omega)).mono ?_; rintro e w2 ⟨rfl, rfl⟩))
    go_ret3
    exact ⟨ret3i (by unfold tiN; rw [if_neg H.out]) (tk_bad s H.out).2.symm rfl, by assumption⟩
def ttL (s : ByteArray) (most : Int) : ByteArray × ByteArray × Nat :=
  if tkE s ≠ 0 then (⟨#[]⟩, ⟨#[]⟩, tkE s)
  else if most < 0 ∨ most < (tkN s : Int) then (⟨#[]⟩, ⟨#[]⟩, 4)
  else if (tkR s).size < tkN s then (⟨#[]⟩, ⟨#[]⟩, 2)
  else ((tkR s).extract 0 (tkN s), (tkR s).extract (tkN s) (tkR s).size, 0)
def ttT (s : ByteArray) (most : Int) : ByteArray := (ttL s most).1
def ttR (s : ByteArray) (most : Int) : ByteArray := (ttL s most).2.1
def ttE (s : ByteArray) (most : Int) : Nat := (ttL s most).2.2
theorem tt_of {s : ByteArray} {most : Int} {a b : ByteArray} {e : Nat} (h : ttL s most = (a, b, e)) : a = ttT s most ∧ b = ttR s most ∧ e = ttE s most := by
  unfold ttT ttR ttE; rw [h]; exact ⟨rfl, rfl, rfl⟩
set_option maxRecDepth 100000 in
theorem takeText_any (s : ByteArray) (most : Int) (w : World) (hs : s.size ≤ 9223372036854775807) (h1 : -9223372036854775808 ≤ most) (h2 : most ≤ 9223372036854775807) :
    Calls Tryz.prog 103 #[.string s, .int .i64 most] w fun e w' => e = .returned (.tuple #[.string (ttT s most), .string (ttR s most), .int .i64 (ttE s most)]) ∧ Grown w w' := by
  have hn := tkN_bd s
  have hr := tkR_size s
  by_cases h : tkE s = 0
  · have he : ((tkE s : Int) != 0) = false := by simp [h]
    by_cases hm : most < 0
    · have HR := Lib.hid (tt_of (s := s) (most := most) (by unfold ttL; rw [if_neg (by omega), if_pos (by omega)]))
      have hmb : decide (most < 0) = true := by simpa using hm
      have H := Lib.hid h
      clear h
      go_enter Tryz.func103, Tryz.ntmps103
      go_wp2_with (go_at_call 100; refine (take_any _ _ hs).mono ?_; rintro e w1 ⟨rfl, hg⟩)
      go_ret3
      exact ⟨ret3s HR.out.1 HR.out.2.1 (by rw [← HR.out.2.2]; rfl), by assumption⟩
    by_cases hl : most < (tkN s : Int)
    · have HR := Lib.hid (tt_of (s := s) (most := most) (by unfold ttL; rw [if_neg (by omega), if_pos (by omega)]))
      have hmb : decide (most < 0) = false := by simpa using hm
      have hlb : decide (most < (tkN s : Int)) = true := by simpa using hl
      have H := Lib.hid h
      clear h
      go_enter Tryz.func103, Tryz.ntmps103
      go_wp2_with (go_at_call 100; refine (take_any _ _ hs).mono ?_; rintro e w1 ⟨rfl, hg⟩)
      go_ret3
      exact ⟨ret3s HR.out.1 HR.out.2.1 (by rw [← HR.out.2.2]; rfl), by assumption⟩
    by_cases hz : (tkR s).size < tkN s
    · have HR := Lib.hid (tt_of (s := s) (most := most) (by unfold ttL; rw [if_neg (by omega), if_neg (by omega), if_pos hz]))
      have hmb : decide (most < 0) = false := by simpa using hm
      have hlb : decide (most < (tkN s : Int)) = false := by simpa using hl
      have hzb : decide ((tkR s).size < tkN s) = true := by simpa using hz
      have H := Lib.hid h
      clear h
      go_enter Tryz.func103, Tryz.ntmps103
      go_wp2_with (go_at_call 100; refine (take_any _ _ hs).mono ?_; rintro e w1 ⟨rfl, hg⟩)
      go_ret3
      exact ⟨ret3s HR.out.1 HR.out.2.1 (by rw [← HR.out.2.2]; rfl), by assumption⟩
    · have HR := Lib.hid (tt_of (s := s) (most := most) (by unfold ttL; rw [if_neg (by omega), if_neg (by omega), if_neg hz]))
      have hmb : decide (most < 0) = false := by simpa using hm
      have hlb : decide (most < (tkN s : Int)) = false := by simpa using hl
      have hzb : decide ((tkR s).size < tkN s) = false := by simpa using hz
      have H := Lib.hid h
      clear h
      go_enter Tryz.func103, Tryz.ntmps103
      go_wp2_with (go_at_call 100; refine (take_any _ _ hs).mono ?_; rintro e w1 ⟨rfl, hg⟩)
      go_quiet (fail)
      go_wp2
      go_ret3
      exact ⟨ret3s HR.out.1 HR.out.2.1 (by rw [← HR.out.2.2]; rfl), grown_trans hg (grown_drewN _ _)⟩
  · have he : ((tkE s : Int) != 0) = true := by simp [h]
    have HR := Lib.hid (tt_of (s := s) (most := most) (by unfold ttL; rw [if_pos h]))
    clear h
    go_enter Tryz.func103, Tryz.ntmps103
    go_wp2_with (go_at_call 100; refine (take_any _ _ hs).mono ?_; rintro e w1 ⟨rfl, hg⟩)
    go_ret3
    exact ⟨ret3s HR.out.1 HR.out.2.1 (by rw [← HR.out.2.2]), by assumption⟩
theorem ba_ext {a b : ByteArray} (h : a.data.toList = b.data.toList) : a = b := ByteArray.ext (Array.ext' h)
theorem ba_app (a b : ByteArray) : (a ++ b).data.toList = a.data.toList ++ b.data.toList := by rw [ByteArray.data_append, Array.toList_append]
theorem ba_size (a : ByteArray) : a.size = a.data.toList.length := rfl
theorem put_app (n : Nat) (s : ByteArray) : ((⟨#[]⟩ : ByteArray) ++ putS n ++ s).data.toList = putL n ++ s.data.toList := by
  rw [ba_app, ba_app]; rfl
theorem tk_back (s : ByteArray) (h : tkE s = 0) : (⟨#[]⟩ : ByteArray) ++ putS (tkN s) ++ tkR s = s := by
  apply ba_ext
  rw [put_app]
  exact (put_takeL s.data.toList _ (tkN s) (by rw [← h]; rfl)).1
theorem take_c (s : ByteArray) (n : Int) (r : ByteArray) (k : Int) (hn : (tkN s : Int) = n) (hr : tkR s = r) (hk : (tkE s : Int) = k) (hs : s.size ≤ 9223372036854775807) (w : World) :
    Calls Tryz.prog 100 #[.string s] w fun e w' => e = .returned (.tuple #[.int .u64 n, .string r, .int .i64 k]) ∧ Grown w w' := by
  subst hn hr hk; exact take_any s w hs
theorem takeInt_c (s : ByteArray) (n : Int) (r : ByteArray) (k : Int) (hn : tiN s = n) (hr : tkR s = r) (hk : (tkE s : Int) = k) (hs : s.size ≤ 9223372036854775807) (w : World) :
    Calls Tryz.prog 43 #[.string s] w fun e w' => e = .returned (.tuple #[.int .i64 n, .string r, .int .i64 k]) ∧ Grown w w' := by
  subst hn hr hk; exact takeInt_any s w hs
theorem takeText_c (s : ByteArray) (m : Int) (t : ByteArray) (r : ByteArray) (k : Int) (hn : ttT s m = t) (hr : ttR s m = r) (hk : (ttE s m : Int) = k) (hs : s.size ≤ 9223372036854775807) (h0 : -9223372036854775808 ≤ m) (h1 : m ≤ 9223372036854775807) (w : World) :
    Calls Tryz.prog 103 #[.string s, .int .i64 m] w fun e w' => e = .returned (.tuple #[.string t, .string r, .int .i64 k]) ∧ Grown w w' := by
  subst hn hr hk; exact takeText_any s m w hs h0 h1
end Go.Proofs.YtofnpifooaijcaaGreat
