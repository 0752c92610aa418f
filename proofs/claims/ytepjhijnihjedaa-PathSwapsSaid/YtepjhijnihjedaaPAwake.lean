/-
  What is proved: the helper 'awake' of layer 4's laws returns true; the world has new blocks at most.
-/
import Derived.Test.YtepjhijnihjedaaPApart
import Derived.Test.YtepjhijnihjedaaPRSwap
namespace Go.Proofs.Ytepjhijnihjedaa
open Go.RowKit

theorem split_n (p : ByteArray) (n : Nat) (hn : (splS p).length = n) (hp : p.size ≤ 1099511627776) (w : World) :
    Calls Try.prog 8 #[.string p] w fun e w' => ∃ b c, e = .returned (.slice (some ⟨b, 0, none⟩) n c) ∧ Ke w w' := by
  subst hn; exact (split_any p w hp).mono fun e w' ⟨b, c, he, _, _, hk⟩ => ⟨b, c, he, hk⟩
theorem right_c (p : ByteArray) (r : Bool) (hr : rightS p = r) (hp : p.size ≤ 1099511627776) (w : World) :
    Calls Try.prog 13 #[.string p] w fun e w' => e = .returned (.bool r) ∧ Ke w w' := by
  subst hr; exact right_any p w hp
theorem pat_c (p : ByteArray) (r : Bool) (hr : patS p = r) (hp : p.size ≤ 1099511627776) (w : World) :
    Calls Try.prog 15 #[.string p] w fun e w' => e = .returned (.bool r) ∧ Ke w w' := by
  subst hr; exact pat_any p w hp
theorem mat_c (p q : ByteArray) (r : Bool) (hr : matS p q = r) (hp : p.size ≤ 1099511627776) (hq : q.size ≤ 1099511627776) (w : World) :
    Calls Try.prog 19 #[.string p, .string q] w fun e w' => e = .returned (.bool r) ∧ Ke w w' := by
  subst hr; exact mat_any p q w hp hq
theorem sl_lit1 (w : World) (x : ByteArray) : Sl (w.alloc (.cells #[.string x] 9)) ⟨w.heap.size, 0, none⟩ 1 1 [x] := by
  refine ⟨rfl, Nat.le_refl _, by simp [maxLen], by simp, fun j y hj => ?_⟩
  match j, hj with
  | 0, hj => simp at hj; subst hj; simp [Addr.add]
  | j + 1, hj => simp at hj
theorem sl_lit2 (w : World) (x y : ByteArray) : Sl (w.alloc (.cells #[.string x, .string y] 9)) ⟨w.heap.size, 0, none⟩ 2 2 [x, y] := by
  refine ⟨rfl, Nat.le_refl _, by simp [maxLen], by simp, fun j z hj => ?_⟩
  match j, hj with
  | 0, hj => simp at hj; subst hj; simp [Addr.add]
  | 1, hj => simp at hj; subst hj; simp [Addr.add]
  | j + 2, hj => simp at hj
theorem join2_c (x y r : ByteArray) (hr : joiS [x, y] = r) (hx : x.size ≤ 1000000) (hy : y.size ≤ 1000000) (w : World) :
    Calls Try.prog 10 #[.slice (some ⟨w.heap.size, 0, none⟩) 2 2] (w.alloc (.cells #[.string x, .string y] 9)) fun e w' => e = .returned (.string r) ∧ Ke w w' := by
  subst hr
  exact (join_any _ _ _ _ [x, y] _ (sl_lit2 w x y) ⟨by simp, fun z hz => by
    simp only [List.mem_cons, List.not_mem_nil, or_false] at hz
    rcases hz with rfl | rfl
    · exact hx
    · exact hy⟩).mono fun e w' ⟨he, hk⟩ => ⟨he, ((Ke.refl w).alloc _).trans hk⟩
theorem swap0_c (p : ByteArray) (i : Int) (r : ByteArray) (hr : swapS p i [] = r) (hp : p.size ≤ 2000) (hi1 : -9223372036854775808 ≤ i) (hi2 : i ≤ 9223372036854775807) (w : World) :
    Calls Try.prog 23 #[.string p, .int .i64 i, .slice none 0 0] w fun e w' => e = .returned (.string r) ∧ Ke w w' := by
  subst hr; exact swap_any p i none 0 0 [] w hp hi1 hi2 (.inl ⟨rfl, rfl, rfl, rfl⟩) (by omega) (fun x hx => by simp at hx)
theorem swap1_c (p : ByteArray) (i : Int) (x r : ByteArray) (hr : swapS p i [x] = r) (hp : p.size ≤ 2000) (hi1 : -9223372036854775808 ≤ i) (hi2 : i ≤ 9223372036854775807) (hx : x.size ≤ 2000) (w : World) :
    Calls Try.prog 23 #[.string p, .int .i64 i, .slice (some ⟨w.heap.size, 0, none⟩) 1 1] (w.alloc (.cells #[.string x] 9)) fun e w' => e = .returned (.string r) ∧ Ke w w' := by
  subst hr
  exact (swap_any p i _ 1 1 [x] _ hp hi1 hi2 (.inr ⟨_, rfl, sl_lit1 w x⟩) (by omega) (fun z hz => by
    simp only [List.mem_cons, List.not_mem_nil, or_false] at hz
    subst hz; exact hx)).mono fun e w' ⟨he, hk⟩ => ⟨he, ((Ke.refl w).alloc _).trans hk⟩
theorem swap2_c (p : ByteArray) (i : Int) (x y r : ByteArray) (hr : swapS p i [x, y] = r) (hp : p.size ≤ 2000) (hi1 : -9223372036854775808 ≤ i) (hi2 : i ≤ 9223372036854775807) (hx : x.size ≤ 2000) (hy : y.size ≤ 2000) (w : World) :
    Calls Try.prog 23 #[.string p, .int .i64 i, .slice (some ⟨w.heap.size, 0, none⟩) 2 2] (w.alloc (.cells #[.string x, .string y] 9)) fun e w' => e = .returned (.string r) ∧ Ke w w' := by
  subst hr
  exact (swap_any p i _ 2 2 [x, y] _ hp hi1 hi2 (.inr ⟨_, rfl, sl_lit2 w x y⟩) (by omega) (fun z hz => by
    simp only [List.mem_cons, List.not_mem_nil, or_false] at hz
    rcases hz with rfl | rfl
    · exact hx
    · exact hy)).mono fun e w' ⟨he, hk⟩ => ⟨he, ((Ke.refl w).alloc _).trans hk⟩

set_option maxRecDepth 100000 in
set_option maxHeartbeats 4000000 in
theorem awake_any (w : World) :
    Calls Try.prog 6 #[] w fun e w' => e = .returned (.bool true) ∧ Ke w w' := by
  have A0 := Lib.hid (fun w => seg_c ⟨#[97, 98, 95, 49]⟩ true (by decide +kernel) (by decide +kernel) w)
  have A1 := Lib.hid (fun w => seg_c ⟨#[]⟩ false (by decide +kernel) (by decide +kernel) w)
  have A2 := Lib.hid (fun w => seg_c ⟨#[65]⟩ false (by decide +kernel) (by decide +kernel) w)
  have A3 := Lib.hid (fun w => seg_c ⟨#[97, 98, 99, 100, 101, 102, 103, 104, 105, 106, 107, 108, 109, 110, 111, 112, 113]⟩ false (by decide +kernel) (by decide +kernel) w)
  have A4 := Lib.hid (fun w => split_n ⟨#[97, 47, 47, 98]⟩ 3 (by decide +kernel) (by decide +kernel) w)
  have A5 := Lib.hid (fun w => join2_c ⟨#[97]⟩ ⟨#[98]⟩ ⟨#[97, 47, 98]⟩ (by decide +kernel) (by decide +kernel) (by decide +kernel) w)
  have A6 := Lib.hid (fun w => right_c ⟨#[97, 47, 98]⟩ true (by decide +kernel) (by decide +kernel) w)
  have A7 := Lib.hid (fun w => right_c ⟨#[97, 47, 42]⟩ false (by decide +kernel) (by decide +kernel) w)
  have A8 := Lib.hid (fun w => right_c ⟨#[97, 47, 98, 47, 99, 47, 100, 47, 101, 47, 102, 47, 103]⟩ false (by decide +kernel) (by decide +kernel) w)
  have A9 := Lib.hid (fun w => pat_c ⟨#[97, 47, 42, 47, 99]⟩ true (by decide +kernel) (by decide +kernel) w)
  have A10 := Lib.hid (fun w => pat_c ⟨#[42, 47, 97]⟩ false (by decide +kernel) (by decide +kernel) w)
  have A11 := Lib.hid (fun w => mat_c ⟨#[97, 47, 55, 47, 99]⟩ ⟨#[97, 47, 42, 47, 99]⟩ true (by decide +kernel) (by decide +kernel) (by decide +kernel) w)
  have A12 := Lib.hid (fun w => mat_c ⟨#[97, 47, 55, 47, 99, 47, 100]⟩ ⟨#[97, 47, 42, 47, 99]⟩ false (by decide +kernel) (by decide +kernel) (by decide +kernel) w)
  have A13 := Lib.hid (fun w => beg_any_c ⟨#[97, 47, 55, 47, 99, 47, 100]⟩ ⟨#[97, 47, 42, 47, 99]⟩ true (by decide +kernel) (by decide +kernel) (by decide +kernel) w)
  have A14 := Lib.hid (fun w => ap_any_c ⟨#[97, 47, 98]⟩ ⟨#[97, 47, 99, 47, 100]⟩ true (by decide +kernel) (by decide +kernel) (by decide +kernel) w)
  have A15 := Lib.hid (fun w => ap_any_c ⟨#[97, 47, 42]⟩ ⟨#[97, 47, 98]⟩ false (by decide +kernel) (by decide +kernel) (by decide +kernel) w)
  have A16 := Lib.hid (fun w => ap_any_c ⟨#[97]⟩ ⟨#[97, 47, 98]⟩ false (by decide +kernel) (by decide +kernel) (by decide +kernel) w)
  have A17 := Lib.hid (fun w => swap2_c ⟨#[97, 47, 98, 47, 99]⟩ 1 ⟨#[120]⟩ ⟨#[121]⟩ ⟨#[97, 47, 120, 47, 121, 47, 99]⟩ (by decide +kernel) (by decide +kernel) (by decide +kernel) (by decide +kernel) (by decide +kernel) (by decide +kernel) w)
  have A18 := Lib.hid (fun w => swap0_c ⟨#[97, 47, 98]⟩ 1 ⟨#[97]⟩ (by decide +kernel) (by decide +kernel) (by decide +kernel) (by decide +kernel) w)
  have A19 := Lib.hid (fun w => swap1_c ⟨#[97]⟩ 5 ⟨#[120]⟩ ⟨#[97]⟩ (by decide +kernel) (by decide +kernel) (by decide +kernel) (by decide +kernel) (by decide +kernel) w)
  go_enter Try.func6, Try.ntmps6
  go_wp2_with (first
    | (go_at_call 11; ((with_reducible refine (A0.out _).mono ?_); rintro e w1 ⟨rfl, hg⟩))
    | (go_at_call 11; ((with_reducible refine (A1.out _).mono ?_); rintro e w1 ⟨rfl, hg⟩))
    | (go_at_call 11; ((with_reducible refine (A2.out _).mono ?_); rintro e w1 ⟨rfl, hg⟩))
    | (go_at_call 11; ((with_reducible refine (A3.out _).mono ?_); rintro e w1 ⟨rfl, hg⟩))
    | (go_at_call 8; ((with_reducible refine (A4.out _).mono ?_); rintro e w1 ⟨b, cc, rfl, hg⟩))
    | (go_at_call 10; ((with_reducible refine (A5.out _).mono ?_); rintro e w1 ⟨rfl, hg⟩))
    | (go_at_call 13; ((with_reducible refine (A6.out _).mono ?_); rintro e w1 ⟨rfl, hg⟩))
    | (go_at_call 13; ((with_reducible refine (A7.out _).mono ?_); rintro e w1 ⟨rfl, hg⟩))
    | (go_at_call 13; ((with_reducible refine (A8.out _).mono ?_); rintro e w1 ⟨rfl, hg⟩))
    | (go_at_call 15; ((with_reducible refine (A9.out _).mono ?_); rintro e w1 ⟨rfl, hg⟩))
    | (go_at_call 15; ((with_reducible refine (A10.out _).mono ?_); rintro e w1 ⟨rfl, hg⟩))
    | (go_at_call 19; ((with_reducible refine (A11.out _).mono ?_); rintro e w1 ⟨rfl, hg⟩))
    | (go_at_call 19; ((with_reducible refine (A12.out _).mono ?_); rintro e w1 ⟨rfl, hg⟩))
    | (go_at_call 17; ((with_reducible refine (A13.out _).mono ?_); rintro e w1 ⟨rfl, hg⟩))
    | (go_at_call 21; ((with_reducible refine (A14.out _).mono ?_); rintro e w1 ⟨rfl, hg⟩))
    | (go_at_call 21; ((with_reducible refine (A15.out _).mono ?_); rintro e w1 ⟨rfl, hg⟩))
    | (go_at_call 21; ((with_reducible refine (A16.out _).mono ?_); rintro e w1 ⟨rfl, hg⟩))
    | (go_at_call 23; ((with_reducible refine (A17.out _).mono ?_); rintro e w1 ⟨rfl, hg⟩))
    | (go_at_call 23; ((with_reducible refine (A18.out _).mono ?_); rintro e w1 ⟨rfl, hg⟩))
    | (go_at_call 23; ((with_reducible refine (A19.out _).mono ?_); rintro e w1 ⟨rfl, hg⟩)))
  go_ret
  refine ⟨rfl, ?_⟩
  repeat (first | exact Ke.refl _ | assumption | refine Ke.trans ?_ (by assumption))
end Go.Proofs.Ytepjhijnihjedaa
