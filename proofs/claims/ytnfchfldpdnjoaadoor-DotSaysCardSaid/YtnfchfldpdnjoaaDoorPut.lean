/-
  What is proved: varint.Put, called with any text and any uint64, returns the text and the number's bytes behind it (P1.1); the world has new blocks at most.
-/
import Derived.Test.YtnfchfldpdnjoaaDoorProg
import Derived.Test.YtnfchfldpdnjoaaDoorMath
import Derived.Test.YtnfchfldpdnjoaaDoorZig
import Derived.WalkKit
import Derived.WalkSpells
import Derived.WalkLawsBesides
import Derived.LoopTactic
import Derived.RowKit3
import Derived.Outline
import Derived.Laws.BytesArg
namespace Go.Proofs.YtnfchfldpdnjoaaDoor
open Go.RowKit

/-- The number's bytes, as a text. -/
def putS (n : Nat) : ByteArray := ⟨(putL n).toArray⟩
theorem putS_size (n : Nat) : (putS n).size ≤ 10 := by have := putL_le n; simpa [putS, ByteArray.size] using this
theorem putS_list (n : Nat) : (putS n).data.toList = putL n := rfl

/-- What holds of the loop's numbers and of its room at each round's head: k bytes are done, q is left. -/
def PutInv (n k q : Nat) (arr : Array Value) : Prop :=
  k ≤ 9 ∧ q < 2 ^ (64 - 7 * k) ∧ arr.size = 10 ∧ ∃ L : List UInt8, L.length = k ∧ putL n = L ++ putF (9 - k) q ∧ ∀ i, i < k → arr[i]? = some (.int .u8 (L.getD i 0).toNat)

theorem putInv_bd {n k q : Nat} {arr : Array Value} (h : PutInv n k q arr) : k ≤ 9 ∧ q < 18446744073709551616 ∧ ∃ v, arr[k]? = some v := by
  obtain ⟨h1, h2, h3, _⟩ := h
  refine ⟨h1, Nat.lt_of_lt_of_le h2 ?_, ?_⟩
  · have : 2 ^ (64 - 7 * k) ≤ 2 ^ 64 := Nat.pow_le_pow_right (by omega) (by omega)
    simpa using this
  · have hk : k < arr.size := by omega
    exact ⟨arr[k], Array.getElem?_eq_getElem hk⟩

theorem putInv_step {n k q : Nat} {arr : Array Value} (h : PutInv n k q arr) (hq : 128 ≤ q) :
    k + 1 ≤ 9 ∧ PutInv n (k + 1) (q / 128) (arr.setIfInBounds k (.int .u8 (128 + q % 128 : Nat))) := by
  obtain ⟨h1, h2, h3, L, hL, hp, hc⟩ := h
  have hk : k ≤ 8 := by
    rcases Nat.lt_or_ge k 9 with h | h
    · omega
    · obtain rfl : k = 9 := by omega
      simp at h2; omega
  refine ⟨by omega, by omega, div_step q k hk h2, by simpa using h3, L ++ [UInt8.ofNat (128 + q % 128)], by simp [hL], ?_, ?_⟩
  · rw [hp, show 9 - k = (9 - (k + 1)) + 1 by omega]
    simp only [putF]
    rw [if_neg (by omega)]
    simp
  · intro i hi
    by_cases e : i = k
    · subst e
      rw [Array.getElem?_setIfInBounds_self_of_lt (by omega)]
      simp [List.getD, hL]; omega
    · rw [Array.getElem?_setIfInBounds_ne (by omega), hc i (by omega)]
      simp [List.getD, List.getElem?_append_left (show i < L.length by omega)]

theorem or128 (q : Nat) : bits .or .u8 ((q : Int) % 256) 128 = ((128 + q % 128 : Nat) : Int) := by
  have e : ((q : Int) % 256) = ((q % 256 : Nat) : Int) := by omega
  rw [e, show (128 : Int) = ((128 : Nat) : Int) from rfl, u8_or_nat _ _ (by omega) (by omega)]
  congr 1
  have h : q % 256 = 128 * (q / 128 % 2) + q % 128 := by omega
  rcases (by omega : q / 128 % 2 = 0 ∨ q / 128 % 2 = 1) with h2 | h2
  · rw [h, h2, Nat.mul_zero, Nat.zero_add, Nat.or_comm, nat_join 7 128 (q % 128) (by decide) (by omega)]
  · have e2 : q % 256 = 128 ||| q % 128 := by rw [nat_join 7 128 (q % 128) (by decide) (by omega)]; omega
    rw [e2, Nat.or_comm (128 ||| q % 128) 128, ← Nat.or_assoc, Nat.or_self, nat_join 7 128 (q % 128) (by decide) (by omega)]

/-- The last byte is stored: the room's first k + 1 bytes are the number. -/
theorem putInv_text {n k q : Nat} {arr : Array Value} (h : PutInv n k q arr) (hq : q < 128) (w : World) (t : TypeId) :
    (convert 67 9 (.slice (some ⟨w.heap.size, 0, none⟩) (k + 1) 10)).run Tryd.prog (w.alloc (.cells (arr.setIfInBounds k (.int .u8 q)) t)) =
      .ok (.string (putS n)) (w.alloc (.cells (arr.setIfInBounds k (.int .u8 q)) t)) := by
  obtain ⟨h1, h2, h3, L, hL, hp, hc⟩ := h
  have e : putF (9 - k) q = [UInt8.ofNat q] := by
    cases 9 - k with
    | zero => rfl
    | succ f => simp [putF, hq]
  have hs : strOfNums ((putL n).map fun c => (c.toNat : Int)) = (putS n) := by
    have hm : ((putL n).map fun c : UInt8 => (c.toNat : Int)).map (fun x : Int => UInt8.ofNat x.toNat) = putL n := by
      rw [List.map_map, List.map_congr_left (g := id) (fun c _ => by simp)]; simp
    unfold strOfNums putS
    rw [hm]
  rw [← hs]
  refine run_convert_bytes_arg _ 67 5 Tryd.underlying67 Tryd.underlying5 w.heap.size 0 (k + 1) 10 _ (by rw [hp, e]; simp [hL]) ?_ 9 Tryd.underlying9
  intro i hi
  rw [World.cell?_alloc_new]
  rw [hp, e, Nat.zero_add]
  by_cases ek : i = k
  · subst ek
    rw [Array.getElem?_setIfInBounds_self_of_lt (by omega)]
    simp [List.getD, hL]; omega
  · rw [Array.getElem?_setIfInBounds_ne (by omega), hc i (by omega)]
    have hi' : i < L.length := by omega
    simp [List.getD, List.getElem?_append_left, hi']

theorem slice_room (k : Nat) (a : Addr) (hk : k ≤ 9) (wx : World) :
    (Instr.sliceAt 66 (.pointer (some a)) none (some (.int .i64 ((k : Int) + 1))) none).run Tryd.prog wx = .ok (.slice (some a) (k + 1) 10) wx := by
  have e1 : Tryd.prog.arrayLen 66 = 10 := by kernel_rfl
  have e2 : ((sizeOf (Tryd.prog.elem 66)).run Tryd.prog wx) = .ok 1 wx := by kernel_rfl
  rw [run_sliceAt_array_h wx 66 a (by kernel_rfl) .i64 ((k : Int) + 1) (by omega) (by rw [e1]; omega), e2, e1]
  have e3 : ((k : Int) + 1).toNat = k + 1 := by omega
  have e4 : a.add (0 * 1) = a := by simp [Addr.add]
  simp only [Result.andThen, slicedAt, e3, e4, ite_self, Nat.sub_zero]

set_option maxRecDepth 100000 in
set_option maxHeartbeats 400000 in
theorem put_any (b : ByteArray) (n : Nat) (w : World) (hn : n < 18446744073709551616) (hb : b.size ≤ 4611686018427387904) :
    Calls Tryd.prog 42 #[.string b, .int .u64 n] w fun e w' => e = .returned (.string (b ++ (putS n))) ∧ Grown w w' := by
  go_enter Tryd.func42, Tryd.ntmps42
  go_wp2
  go_loopw [1, 6] (fun m i wr => ∃ (k q : Nat) (arr : Array Value), PutInv n k q arr ∧ m = .int .u64 q ∧ i = .int .i64 k ∧ wr = w.alloc (.cells arr 66)) (fun m _ _ => (intOf m).toNat)
  case atStart => exact ⟨0, n, _, ⟨by omega, by simpa using hn, rfl, [], rfl, rfl, fun i hi => by omega⟩, rfl, rfl, rfl⟩
  case round =>
    obtain ⟨k, q, arr, hinv, rfl, rfl, rfl⟩ := hrel
    obtain ⟨hk9, hq64, v, hv⟩ := putInv_bd hinv
    by_cases hq : 128 ≤ q
    · go_wp2
      obtain ⟨hk8, hi'⟩ := putInv_step hinv hq
      exact ⟨⟨k + 1, q / 128, _, hi', by go_num, by go_num, by rw [or128]⟩, by simp [intOf]; omega⟩
    · have hsl := slice_room k ⟨w.heap.size, 0, none⟩ hk9
      have hps := putS_size n
      have hcv := putInv_text hinv (by omega) w 66
      go_wp2
      go_ret
      exact ⟨rfl, (Grown.refl _).alloc _ _⟩
end Go.Proofs.YtnfchfldpdnjoaaDoor
