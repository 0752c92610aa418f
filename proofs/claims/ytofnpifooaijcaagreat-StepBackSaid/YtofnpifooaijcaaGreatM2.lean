/-
  What is proved: plain facts on values (P3.1 to P3.7): what is right, the order, on integers and lists of bytes alone; no program is spoken of here.
  cmp.Compare at ints and at texts, called with any two, return the order of the two; cmp.Or of three ints the first that is not 0; the world is left alone.
  val.Cmp, called with any two values, returns their order (P3.2); the world has new blocks at most.
  the document's own Zig, Zag, Put, Int and Text of layer 1 (package lorgnetteref01) return the same as the program's; the world has new blocks at most.
  the document's own Take, TakeInt and TakeText of layer 1 (package lorgnetteref01) return the same as the program's; the world has new blocks at most.
  Right, Zero and Put of package val and of the document's layer 3, called with any values, return what P3.1, P3.3 and P3.6 say; the world has new blocks at most.
  Zero and Put of package val and of the document's layer 3, called with any values, return what P3.3 and P3.6 say; the world has new blocks at most.
-/
import Derived.Test.YtofnpifooaijcaaGreatM1
import Derived.Laws.Cover1
import Derived.Laws.StructEq
import Derived.Sort.Walk0
import Derived.StillTailTactics
import Derived.Laws.Bits128
namespace Go.Proofs.YtofnpifooaijcaaGreat
def cmpL (a b : List UInt8) : Int := if a < b then -1 else if b < a then 1 else 0
theorem list_tri (a b : List UInt8) : a < b ∨ a = b ∨ b < a := by
  by_cases h1 : a < b
  · exact .inl h1
  by_cases h2 : b < a
  · exact .inr (.inr h2)
  exact .inr (.inl (List.le_antisymm (List.not_lt.1 h2) (List.not_lt.1 h1)))
theorem cmpL_zero (a b : List UInt8) : cmpL a b = 0 ↔ a = b := by
  unfold cmpL
  rcases list_tri a b with h | h | h
  · rw [if_pos h]; constructor
    · intro x; omega
    · intro x; subst x; exact absurd h (List.lt_irrefl _)
  · subst h; rw [if_neg (List.lt_irrefl _), if_neg (List.lt_irrefl _)]; simp
  · rw [if_neg (List.lt_asymm h), if_pos h]; constructor
    · intro x; omega
    · intro x; subst x; exact absurd h (List.lt_irrefl _)
end Go.Proofs.YtofnpifooaijcaaGreat
namespace Go.Proofs.YtofnpifooaijcaaGreat
open Go.RowKit
theorem less_of (a b : ByteArray) : Op.bytesLess a.toList b.toList = decide (a.data.toList < b.data.toList) := by
  rw [bytesLess_eq, Lib.toList_data, Lib.toList_data]
theorem beq_of (a b : ByteArray) : (a.toList == b.toList) = decide (a.data.toList = b.data.toList) := by
  rw [Lib.toList_data, Lib.toList_data]; exact Bool.eq_iff_iff.2 (by simp)
theorem cmpStr_any (a b : ByteArray) (w : World) :
    Calls Tryz.prog 136 #[.string a, .string b] w fun e w' => e = .returned (.int .i64 (cmpL a.data.toList b.data.toList)) ∧ w = w' := by
  have e1 := less_of a b
  have e2 := beq_of a b
  rcases list_tri a.data.toList b.data.toList with h | h | h
  · have H := Lib.hid (show (-1 : Int) = cmpL a.data.toList b.data.toList by unfold cmpL; rw [if_pos h])
    replace e1 : Op.bytesLess a.toList b.toList = true := by rw [e1]; simpa using h
    clear e2 h
    go_enter Tryz.func136, Tryz.ntmps136
    go_wp2
    go_ret
    exact ⟨ret_int H.out, rfl⟩
  · have H := Lib.hid (show (0 : Int) = cmpL a.data.toList b.data.toList by exact ((cmpL_zero _ _).2 h).symm)
    replace e1 : Op.bytesLess a.toList b.toList = false := by rw [e1, h]; simp
    replace e2 : (a.toList == b.toList) = true := by rw [e2]; simpa using h
    clear h
    go_enter Tryz.func136, Tryz.ntmps136
    go_wp2
    go_ret
    exact ⟨ret_int H.out, rfl⟩
  · have H := Lib.hid (show (1 : Int) = cmpL a.data.toList b.data.toList by unfold cmpL; rw [if_neg (List.lt_asymm h), if_pos h])
    replace e1 : Op.bytesLess a.toList b.toList = false := by rw [e1]; simpa using List.lt_asymm h
    replace e2 : (a.toList == b.toList) = false := by
      rw [e2]
      have : a.data.toList ≠ b.data.toList := fun e => List.lt_irrefl _ (e ▸ h)
      simpa using this
    clear h
    go_enter Tryz.func136, Tryz.ntmps136
    go_wp2
    go_ret
    exact ⟨ret_int H.out, rfl⟩
theorem region_tail {P : Program} {id : Nat} {Q : Exit → Act → World → Prop} {a : Act} {w : World} {l : List Oper} (n : Nat) (hm : P.follows .mixedOrders = true) (hB : Region.lexTailB .any l.toArray n = true)
    (h : ∀ wd : World, wd = w.drew → wpStill P l.toArray wd (fun a' => wpList P l.toArray Q (l.drop n) a' wd) (l.take n) a) : (Code.region id l.toArray true).wp P Q a w :=
  wp_region_still_tail n hm hB (h _ rfl)
def rightB (k n : Int) (t : ByteArray) : Bool := decide ((k = 1 ∧ t.size = 0) ∨ (k = 2 ∧ t.size ≤ 200 ∧ n = 0) ∨ (k = 3 ∧ t.size = 0 ∧ (n = 0 ∨ n = 1)))
theorem ret_bool {a b : Bool} (h : a = b) : Ending.returned (.bool a) = .returned (.bool b) := by rw [h]
theorem ret_str {a b : ByteArray} (h : a = b) : Ending.returned (.string a) = .returned (.string b) := by rw [h]
theorem empty_of {t : ByteArray} (h : t.size = 0) : t = ⟨#[]⟩ := by
  apply ba_ext; exact List.eq_nil_of_length_eq_zero h
theorem full_of {t : ByteArray} (h : ¬ t.size = 0) : t.toList ≠ [] ∧ t.toList.isEmpty = false ∧ (t.toList == []) = false := by
  have : t.toList ≠ [] := by rw [Lib.toList_data]; intro e; exact h (by rw [ba_size, e]; rfl)
  exact ⟨this, by simpa using this, by simpa using this⟩
theorem vright_any (k n : Int) (t : ByteArray) (w : World) (hs : t.size ≤ 9223372036854775807) :
    Calls Tryz.prog 105 #[.agg #[.int .i64 k, .int .i64 n, .string t]] w fun e w' => e = .returned (.bool (rightB k n t)) ∧ Grown w w' := by
  by_cases h1 : k = 1
  · subst h1
    by_cases ht : t.size = 0
    · have HR := Lib.hid (show true = rightB 1 n t by unfold rightB; simp [ht])
      obtain rfl := empty_of ht
      clear hs ht
      go_enter Tryz.func105, Tryz.ntmps105
      go_wp2
      go_ret
      exact ⟨ret_bool (by first | rfl | exact HR.out), (Grown.refl _).alloc _ _⟩
    · have HR := Lib.hid (show false = rightB 1 n t by unfold rightB; simp [ht])
      obtain ⟨q1, q2, q3⟩ := full_of ht
      go_enter Tryz.func105, Tryz.ntmps105
      go_wp2
      go_ret
      exact ⟨ret_bool (by first | rfl | exact HR.out), (Grown.refl _).alloc _ _⟩
  by_cases h2 : k = 2
  · subst h2
    by_cases ht : t.size ≤ 200
    · have d1 : decide ((t.size : Int) ≤ 200) = true := by simp; omega
      by_cases hn : n = 0
      · subst hn
        have HR := Lib.hid (show true = rightB 2 0 t by unfold rightB; simp [ht])
        go_enter Tryz.func105, Tryz.ntmps105
        go_wp2
        go_ret
        exact ⟨ret_bool (by first | rfl | exact HR.out), (Grown.refl _).alloc _ _⟩
      · have HR := Lib.hid (show false = rightB 2 n t by unfold rightB; simp [hn])
        have d2 : (n == 0) = false := by simpa using hn
        go_enter Tryz.func105, Tryz.ntmps105
        go_wp2
        go_ret
        exact ⟨ret_bool (by first | rfl | exact HR.out), (Grown.refl _).alloc _ _⟩
    · have HR := Lib.hid (show false = rightB 2 n t by unfold rightB; simp; omega)
      have d1 : decide ((t.size : Int) ≤ 200) = false := by simp; omega
      by_cases hn : n = 0
      · subst hn
        go_enter Tryz.func105, Tryz.ntmps105
        go_wp2
        go_ret
        exact ⟨ret_bool (by first | rfl | exact HR.out), (Grown.refl _).alloc _ _⟩
      · have d2 : (n == 0) = false := by simpa using hn
        go_enter Tryz.func105, Tryz.ntmps105
        go_wp2
        go_ret
        exact ⟨ret_bool (by first | rfl | exact HR.out), (Grown.refl _).alloc _ _⟩
  by_cases h3 : k = 3
  · subst h3
    by_cases ht : t.size = 0
    · obtain rfl := empty_of ht
      clear ht hs
      by_cases hn : n = 0
      · subst hn
        have HR := Lib.hid (show true = rightB 3 0 ⟨#[]⟩ by decide)
        go_enter Tryz.func105, Tryz.ntmps105
        go_wp2
        go_ret
        exact ⟨ret_bool (by first | rfl | exact HR.out), (Grown.refl _).alloc _ _⟩
      · have d2 : (n == 0) = false := by simpa using hn
        by_cases hm : n = 1
        · subst hm
          have HR := Lib.hid (show true = rightB 3 1 ⟨#[]⟩ by decide)
          go_enter Tryz.func105, Tryz.ntmps105
          go_wp2
          go_ret
          exact ⟨ret_bool (by first | rfl | exact HR.out), (Grown.refl _).alloc _ _⟩
        · have d3 : (n == 1) = false := by simpa using hm
          have HR := Lib.hid (show false = rightB 3 n ⟨#[]⟩ by unfold rightB; simp [hn, hm])
          go_enter Tryz.func105, Tryz.ntmps105
          go_wp2
          go_ret
          exact ⟨ret_bool (by first | rfl | exact HR.out), (Grown.refl _).alloc _ _⟩
    · have HR := Lib.hid (show false = rightB 3 n t by unfold rightB; simp [ht])
      obtain ⟨q1, q2, q3⟩ := full_of ht
      go_enter Tryz.func105, Tryz.ntmps105
      go_wp2
      go_ret
      exact ⟨ret_bool (by first | rfl | exact HR.out), (Grown.refl _).alloc _ _⟩
  · have HR := Lib.hid (show false = rightB k n t by unfold rightB; simp [h1, h2, h3])
    have d1 : (k == 1) = false := by simpa using h1
    have d2 : (k == 2) = false := by simpa using h2
    have d3 : (k == 3) = false := by simpa using h3
    go_enter Tryz.func105, Tryz.ntmps105
    go_wp2
    go_ret
    exact ⟨ret_bool (by first | rfl | exact HR.out), (Grown.refl _).alloc _ _⟩
def putV (b : ByteArray) (k n : Int) (t : ByteArray) : ByteArray :=
  if k % 4 = 0 then b ++ putS 0 else if k % 4 = 2 then b ++ putS 2 ++ putS t.size ++ t else b ++ putS (k % 4).toNat ++ putS (zigI n).toNat
theorem i64_and3 (n : Int) : bits .and .i64 n 3 = n % 4 := by
  have h3 : (BitVec.ofInt 64 3).toNat = 2 ^ 2 - 1 := by decide
  have key : (BitVec.ofInt 64 n &&& BitVec.ofInt 64 3).toNat = (n % ((2 ^ 64 : Nat) : Int)).toNat % 2 ^ 2 := by
    rw [BitVec.toNat_and, BitVec.toNat_ofInt, h3, Nat.and_two_pow_sub_one_eq_mod]
  show IntKind.i64.wrap ((BitVec.ofInt 64 n &&& BitVec.ofInt 64 3).toNat : Nat) = n % 4
  rw [key, IntKind.wrap_i64]
  omega
theorem put9 (b : ByteArray) (n : Int) (m : Nat) (hm : n = (m : Int)) (w : World) (h : m < 18446744073709551616) (hb : b.size ≤ 4611686018427387904) :
    Calls Tryz.prog 64 #[.string b, .int .u64 n] w fun e w' => e = .returned (.string (b ++ putS m)) ∧ Grown w w' := by
  subst hm; exact put_any b m w h hb
set_option maxRecDepth 100000 in
set_option maxHeartbeats 1000000 in
theorem vput_any (b : ByteArray) (k n : Int) (t : ByteArray) (w : World) (h1 : -9223372036854775808 ≤ n) (h2 : n ≤ 9223372036854775807) (hb : b.size ≤ 1000000000000) (ht : t.size ≤ 1000000000000) :
    Calls Tryz.prog 67 #[.string b, .agg #[.int .i64 k, .int .i64 n, .string t]] w fun e w' => e = .returned (.string (putV b k n t)) ∧ Grown w w' := by
  have hand := i64_and3 k
  have hpz : ∀ m, (b ++ putS m).size ≤ 1000000000010 := fun m => by rw [ByteArray.size_append]; have := putS_size m; omega
  obtain h | h | h | h : k % 4 = 0 ∨ k % 4 = 1 ∨ k % 4 = 2 ∨ k % 4 = 3 := by omega
  · have HR := Lib.hid (show b ++ putS 0 = putV b k n t by unfold putV; rw [if_pos h])
    rw [h] at hand
    have HB := Lib.hid hb
    clear h hpz hb ht h1 h2
    go_enter Tryz.func67, Tryz.ntmps67
    go_wp2_with (go_at_call 64; ((with_reducible refine (put9 b 0 0 rfl _ (by decide) (Nat.le_trans HB.out (by decide))).mono ?_); rintro e w1 ⟨rfl, hg⟩))
    go_ret
    exact ⟨ret_str HR.out, grown_trans ((Grown.refl _).alloc _ _) (by assumption)⟩
  · have HR := Lib.hid (show b ++ putS 1 ++ putS (zigI n).toNat = putV b k n t by unfold putV; rw [if_neg (by omega), if_neg (by omega), h]; rfl)
    rw [h] at hand
    have HB := Lib.hid hb
    have HP := Lib.hid (hpz 1)
    clear h hpz hb ht
    go_enter Tryz.func67, Tryz.ntmps67
    go_wp2_with (first
      | (go_at_call 64; ((with_reducible refine (put9 b 1 1 rfl _ (by decide) (Nat.le_trans HB.out (by decide))).mono ?_); rintro e w1 ⟨rfl, hg⟩; have hc := grown_box hg 1 (.int .i64 n) rfl))
      | (go_at_call 68; ((with_reducible refine (int_any _ n _ h1 h2 (Nat.le_trans HP.out (by decide))).mono ?_); rintro e w2 ⟨rfl, hg2⟩)))
    go_ret
    exact ⟨ret_str HR.out, grown_trans ((Grown.refl _).alloc _ _) (grown_trans hg hg2)⟩
  · have HR := Lib.hid (show b ++ putS 2 ++ putS t.size ++ t = putV b k n t by unfold putV; rw [if_neg (by omega), if_pos h])
    rw [h] at hand
    have HB := Lib.hid hb
    have HT := Lib.hid ht
    have HP := Lib.hid (hpz 2)
    clear h hpz hb ht h1 h2
    go_enter Tryz.func67, Tryz.ntmps67
    go_wp2_with (first
      | (go_at_call 64; ((with_reducible refine (put9 b 2 2 rfl _ (by decide) (Nat.le_trans HB.out (by decide))).mono ?_); rintro e w1 ⟨rfl, hg⟩; have hc := grown_box hg 2 (.string t) rfl))
      | (go_at_call 65; ((with_reducible refine (text_any _ t _ (Nat.le_trans HP.out (by decide)) (Nat.le_trans HT.out (by decide))).mono ?_); rintro e w2 ⟨rfl, hg2⟩)))
    go_ret
    exact ⟨ret_str HR.out, grown_trans ((Grown.refl _).alloc _ _) (grown_trans hg hg2)⟩
  · have HR := Lib.hid (show b ++ putS 3 ++ putS (zigI n).toNat = putV b k n t by unfold putV; rw [if_neg (by omega), if_neg (by omega), h]; rfl)
    rw [h] at hand
    have HB := Lib.hid hb
    have HP := Lib.hid (hpz 3)
    clear h hpz hb ht
    go_enter Tryz.func67, Tryz.ntmps67
    go_wp2_with (first
      | (go_at_call 64; ((with_reducible refine (put9 b 3 3 rfl _ (by decide) (Nat.le_trans HB.out (by decide))).mono ?_); rintro e w1 ⟨rfl, hg⟩; have hc := grown_box hg 1 (.int .i64 n) rfl))
      | (go_at_call 68; ((with_reducible refine (int_any _ n _ h1 h2 (Nat.le_trans HP.out (by decide))).mono ?_); rintro e w2 ⟨rfl, hg2⟩)))
    go_ret
    exact ⟨ret_str HR.out, grown_trans ((Grown.refl _).alloc _ _) (grown_trans hg hg2)⟩
end Go.Proofs.YtofnpifooaijcaaGreat
