/-
  What is proved: varint.Int, Text, TakeInt and TakeText, called with any arguments (texts of up to 2^62 bytes), return what P1.4 to P1.6 say; the world has new blocks at most.
  plain facts on texts as lists of bytes, P1.7 over texts, and the contracts of varint's takes at named results.
  plain facts on values (P3.1 to P3.7): what is right, the order, on integers and lists of bytes alone; no program is spoken of here.
  cmp.Compare at ints and at texts, called with any two, return the order of the two; cmp.Or of three ints the first that is not 0; the world is left alone.
  val.Cmp, called with any two values, returns their order (P3.2); the world has new blocks at most.
  the document's own Zig, Zag, Put, Int and Text of layer 1 (package lorgnetteref01) return the same as the program's; the world has new blocks at most.
-/
import Derived.Test.YtjcnjmlgedmmoaaDoorM1
import Derived.Lib.Strings
import Derived.Laws.Cover1
import Derived.Laws.StructEq
import Derived.Sort.Walk0
import Derived.StillTailTactics
namespace Go.Proofs.YtjcnjmlgedmmoaaDoor
open Go.RowKit

theorem int_any (b : ByteArray) (n : Int) (w : World) (h1 : -9223372036854775808 ≤ n) (h2 : n ≤ 9223372036854775807) (hb : b.size ≤ 4611686018427387904) :
    Calls Tryd.prog 63 #[.string b, .int .i64 n] w fun e w' => e = .returned (.string (b ++ putS (zigI n).toNat)) ∧ Grown w w' := by
  have hz := zig_bd n h1 h2
  obtain ⟨z, hzz⟩ : ∃ z : Nat, zigI n = (z : Int) := ⟨(zigI n).toNat, by omega⟩
  have hz1 : (zigI n).toNat = z := by omega
  rw [hz1]
  have HZ := Lib.hid hzz
  have hzl : z < 18446744073709551616 := by omega
  clear hz hzz hz1
  go_enter Tryd.func63, Tryd.ntmps63
  go_wp2_with (first | (go_at_call 74; refine (zig_any _ _ h1 h2).mono ?_; rintro e w' ⟨rfl, rfl⟩; rw [HZ.out]) | (go_at_call 46; refine (put_any _ _ _ hzl hb).mono ?_; rintro e w1 ⟨rfl, hg⟩))
  go_ret
  exact ⟨rfl, by assumption⟩

theorem text_any (b s : ByteArray) (w : World) (hb : b.size ≤ 2305843009213693952) (hs : s.size ≤ 2305843009213693952) :
    Calls Tryd.prog 62 #[.string b, .string s] w fun e w' => e = .returned (.string (b ++ putS s.size ++ s)) ∧ Grown w w' := by
  have hp := putS_size s.size
  have hbp : (b ++ putS s.size).size ≤ 2305843009213693962 := by rw [ByteArray.size_append]; omega
  go_enter Tryd.func62, Tryd.ntmps62
  go_wp2_with (go_at_call 46; refine (put_any _ _ _ (by omega) (by omega)).mono ?_; rintro e w1 ⟨rfl, hg⟩)
  go_ret
  exact ⟨rfl, by assumption⟩

theorem tkE_bd (s : ByteArray) : tkE s = 0 ∨ tkE s = 2 ∨ tkE s = 3 ∨ tkE s = 4 := (takeL_err _).1
theorem tkN_bd (s : ByteArray) : tkN s < 18446744073709551616 := takeL_bd _
theorem tk_bad (s : ByteArray) (h : tkE s ≠ 0) : tkN s = 0 ∧ tkR s = ⟨#[]⟩ := by
  have := (takeL_err s.data.toList).2 h
  exact ⟨this.1, by unfold tkR; rw [this.2]⟩
theorem tkR_size (s : ByteArray) : (tkR s).size ≤ s.size := tk_len s.data.toList 0 0

/-- P1.4. -/
def tiN (s : ByteArray) : Int := if tkE s = 0 then zagI (tkN s) else 0
theorem ret3i {a a' : Int} {r r' : ByteArray} {e e' : Int} (h1 : a = a') (h2 : r = r') (h3 : e = e') :
    Ending.returned (.tuple #[.int .i64 a, .string r, .int .i64 e]) = .returned (.tuple #[.int .i64 a', .string r', .int .i64 e']) := by rw [h1, h2, h3]
theorem ret3s {a a' : ByteArray} {r r' : ByteArray} {e e' : Int} (h1 : a = a') (h2 : r = r') (h3 : e = e') :
    Ending.returned (.tuple #[.string a, .string r, .int .i64 e]) = .returned (.tuple #[.string a', .string r', .int .i64 e']) := by rw [h1, h2, h3]

theorem takeInt_any (s : ByteArray) (w : World) (hs : s.size ≤ 9223372036854775807) :
    Calls Tryd.prog 67 #[.string s] w fun e w' => e = .returned (.tuple #[.int .i64 (tiN s), .string (tkR s), .int .i64 (tkE s)]) ∧ Grown w w' := by
  have hn := tkN_bd s
  by_cases h : tkE s = 0
  · have he : ((tkE s : Int) != 0) = false := by simp [h]
    have H := Lib.hid h
    clear h
    go_enter Tryd.func67, Tryd.ntmps67
    go_wp2_with (first | (go_at_call 54; refine (take_any _ _ hs).mono ?_; rintro e w1 ⟨rfl, hg⟩) | (go_at_call 76; refine (zag_any _ _ (by omega) (by omega)).mono ?_; rintro e w2 ⟨rfl, rfl⟩))
    go_ret3
    exact ⟨ret3i (by unfold tiN; rw [if_pos H.out]) rfl (by rw [H.out]; rfl), by assumption⟩
  · have he : ((tkE s : Int) != 0) = true := by simp [h]
    have H := Lib.hid h
    clear h
    go_enter Tryd.func67, Tryd.ntmps67
    go_wp2_with (first | (go_at_call 54; refine (take_any _ _ hs).mono ?_; rintro e w1 ⟨rfl, hg⟩) | (go_at_call 76; refine (zag_any _ _ (by omega) (by omega)).mono ?_; rintro e w2 ⟨rfl, rfl⟩))
    go_ret3
    exact ⟨ret3i (by unfold tiN; rw [if_neg H.out]) (tk_bad s H.out).2.symm rfl, by assumption⟩

/-- P1.6. -/
def ttL (s : ByteArray) (most : Int) : ByteArray × ByteArray × Nat :=
  if tkE s ≠ 0 then (⟨#[]⟩, ⟨#[]⟩, tkE s)
  else if most < 0 ∨ most < (tkN s : Int) then (⟨#[]⟩, ⟨#[]⟩, 4)
  else if (tkR s).size < tkN s then (⟨#[]⟩, ⟨#[]⟩, 2)
  else ((tkR s).extract 0 (tkN s), (tkR s).extract (tkN s) (tkR s).size, 0)
def ttT (s : ByteArray) (most : Int) : ByteArray := (ttL s most).1
def ttR (s : ByteArray) (most : Int) : ByteArray := (ttL s most).2.1
def ttE (s : ByteArray) (most : Int) : Nat := (ttL s most).2.2
theorem tt_of {s : ByteArray} {most : Int} {a b : ByteArray} {e : Nat} (h : ttL s most = (a, b, e)) : a = ttT s most ∧ b = ttR s most ∧ e = ttE s most := by
  unfold ttT ttR ttE; rw [h]; exact ⟨rfl, rfl, rfl⟩

set_option maxRecDepth 100000 in
theorem takeText_any (s : ByteArray) (most : Int) (w : World) (hs : s.size ≤ 9223372036854775807) (h1 : -9223372036854775808 ≤ most) (h2 : most ≤ 9223372036854775807) :
    Calls Tryd.prog 66 #[.string s, .int .i64 most] w fun e w' => e = .returned (.tuple #[.string (ttT s most), .string (ttR s most), .int .i64 (ttE s most)]) ∧ Grown w w' := by
  have hn := tkN_bd s
  have hr := tkR_size s
  by_cases h : tkE s = 0
  · have he : ((tkE s : Int) != 0) = false := by simp [h]
    by_cases hm : most < 0
    · have HR := Lib.hid (tt_of (s := s) (most := most) (by unfold ttL; rw [if_neg (by omega), if_pos (by omega)]))
      have hmb : decide (most < 0) = true := by simpa using hm
      have H := Lib.hid h
      clear h
      go_enter Tryd.func66, Tryd.ntmps66
      go_wp2_with (go_at_call 54; refine (take_any _ _ hs).mono ?_; rintro e w1 ⟨rfl, hg⟩)
      go_ret3
      exact ⟨ret3s HR.out.1 HR.out.2.1 (by rw [← HR.out.2.2]; rfl), by assumption⟩
    by_cases hl : most < (tkN s : Int)
    · have HR := Lib.hid (tt_of (s := s) (most := most) (by unfold ttL; rw [if_neg (by omega), if_pos (by omega)]))
      have hmb : decide (most < 0) = false := by simpa using hm
      have hlb : decide (most < (tkN s : Int)) = true := by simpa using hl
      have H := Lib.hid h
      clear h
      go_enter Tryd.func66, Tryd.ntmps66
      go_wp2_with (go_at_call 54; refine (take_any _ _ hs).mono ?_; rintro e w1 ⟨rfl, hg⟩)
      go_ret3
      exact ⟨ret3s HR.out.1 HR.out.2.1 (by rw [← HR.out.2.2]; rfl), by assumption⟩
    by_cases hz : (tkR s).size < tkN s
    · have HR := Lib.hid (tt_of (s := s) (most := most) (by unfold ttL; rw [if_neg (by omega), if_neg (by omega), if_pos hz]))
      have hmb : decide (most < 0) = false := by simpa using hm
      have hlb : decide (most < (tkN s : Int)) = false := by simpa using hl
      have hzb : decide ((tkR s).size < tkN s) = true := by simpa using hz
      have H := Lib.hid h
      clear h
      go_enter Tryd.func66, Tryd.ntmps66
      go_wp2_with (go_at_call 54; refine (take_any _ _ hs).mono ?_; rintro e w1 ⟨rfl, hg⟩)
      go_ret3
      exact ⟨ret3s HR.out.1 HR.out.2.1 (by rw [← HR.out.2.2]; rfl), by assumption⟩
    · have HR := Lib.hid (tt_of (s := s) (most := most) (by unfold ttL; rw [if_neg (by omega), if_neg (by omega), if_neg hz]))
      have hmb : decide (most < 0) = false := by simpa using hm
      have hlb : decide (most < (tkN s : Int)) = false := by simpa using hl
      have hzb : decide ((tkR s).size < tkN s) = false := by simpa using hz
      have H := Lib.hid h
      clear h
      go_enter Tryd.func66, Tryd.ntmps66
      go_wp2_with (go_at_call 54; refine (take_any _ _ hs).mono ?_; rintro e w1 ⟨rfl, hg⟩)
      go_quiet (fail)
      go_wp2
      go_ret3
      exact ⟨ret3s HR.out.1 HR.out.2.1 (by rw [← HR.out.2.2]; rfl), grown_trans hg (grown_drewN _ _)⟩
  · have he : ((tkE s : Int) != 0) = true := by simp [h]
    have HR := Lib.hid (tt_of (s := s) (most := most) (by unfold ttL; rw [if_pos h]))
    clear h
    go_enter Tryd.func66, Tryd.ntmps66
    go_wp2_with (go_at_call 54; refine (take_any _ _ hs).mono ?_; rintro e w1 ⟨rfl, hg⟩)
    go_ret3
    exact ⟨ret3s HR.out.1 HR.out.2.1 (by rw [← HR.out.2.2]), by assumption⟩
end Go.Proofs.YtjcnjmlgedmmoaaDoor

namespace Go.Proofs.YtjcnjmlgedmmoaaDoor
open Go.RowKit

theorem ba_ext {a b : ByteArray} (h : a.data.toList = b.data.toList) : a = b := ByteArray.ext (Array.ext' h)
theorem ba_app (a b : ByteArray) : (a ++ b).data.toList = a.data.toList ++ b.data.toList := by rw [ByteArray.data_append, Array.toList_append]
theorem ba_size (a : ByteArray) : a.size = a.data.toList.length := rfl
theorem put_app (n : Nat) (s : ByteArray) : ((⟨#[]⟩ : ByteArray) ++ putS n ++ s).data.toList = putL n ++ s.data.toList := by
  rw [ba_app, ba_app]; rfl
theorem put_app_size (n : Nat) (s : ByteArray) : ((⟨#[]⟩ : ByteArray) ++ putS n ++ s).size ≤ 10 + s.size := by
  rw [ba_size, put_app, List.length_append, ← ba_size]; have := putL_le n; omega

/-- P1.7 over texts. -/
theorem tk_put (n : Nat) (s : ByteArray) (h : n < 18446744073709551616) :
    tkN (⟨#[]⟩ ++ putS n ++ s) = n ∧ tkR (⟨#[]⟩ ++ putS n ++ s) = s ∧ tkE (⟨#[]⟩ ++ putS n ++ s) = 0 := by
  unfold tkN tkR tkE
  rw [put_app, take_putL n _ h]
  exact ⟨rfl, rfl, rfl⟩
theorem tk_back (s : ByteArray) (h : tkE s = 0) : (⟨#[]⟩ : ByteArray) ++ putS (tkN s) ++ tkR s = s := by
  apply ba_ext
  rw [put_app]
  exact (put_takeL s.data.toList _ (tkN s) (by rw [← h]; rfl)).1

theorem take_c (s : ByteArray) (n : Int) (r : ByteArray) (k : Int) (hn : (tkN s : Int) = n) (hr : tkR s = r) (hk : (tkE s : Int) = k) (hs : s.size ≤ 9223372036854775807) (w : World) :
    Calls Tryd.prog 54 #[.string s] w fun e w' => e = .returned (.tuple #[.int .u64 n, .string r, .int .i64 k]) ∧ Grown w w' := by
  subst hn hr hk; exact take_any s w hs
theorem takeInt_c (s : ByteArray) (n : Int) (r : ByteArray) (k : Int) (hn : tiN s = n) (hr : tkR s = r) (hk : (tkE s : Int) = k) (hs : s.size ≤ 9223372036854775807) (w : World) :
    Calls Tryd.prog 67 #[.string s] w fun e w' => e = .returned (.tuple #[.int .i64 n, .string r, .int .i64 k]) ∧ Grown w w' := by
  subst hn hr hk; exact takeInt_any s w hs
theorem takeText_c (s : ByteArray) (m : Int) (t : ByteArray) (r : ByteArray) (k : Int) (hn : ttT s m = t) (hr : ttR s m = r) (hk : (ttE s m : Int) = k) (hs : s.size ≤ 9223372036854775807) (h0 : -9223372036854775808 ≤ m) (h1 : m ≤ 9223372036854775807) (w : World) :
    Calls Tryd.prog 66 #[.string s, .int .i64 m] w fun e w' => e = .returned (.tuple #[.string t, .string r, .int .i64 k]) ∧ Grown w w' := by
  subst hn hr hk; exact takeText_any s m w hs h0 h1
end Go.Proofs.YtjcnjmlgedmmoaaDoor

namespace Go.Proofs.YtjcnjmlgedmmoaaDoor

/-- P3.2. -/
def cmpI (a b : Int) : Int := if a < b then -1 else if b < a then 1 else 0
def cmpL (a b : List UInt8) : Int := if a < b then -1 else if b < a then 1 else 0
def cmpV (k1 n1 : Int) (t1 : List UInt8) (k2 n2 : Int) (t2 : List UInt8) : Int :=
  if cmpI k1 k2 ≠ 0 then cmpI k1 k2 else if cmpI n1 n2 ≠ 0 then cmpI n1 n2 else cmpL t1 t2

theorem list_tri (a b : List UInt8) : a < b ∨ a = b ∨ b < a := by
  by_cases h1 : a < b
  · exact .inl h1
  by_cases h2 : b < a
  · exact .inr (.inr h2)
  exact .inr (.inl (List.le_antisymm (List.not_lt.1 h2) (List.not_lt.1 h1)))
theorem cmpI_bd (a b : Int) : cmpI a b = -1 ∨ cmpI a b = 0 ∨ cmpI a b = 1 := by unfold cmpI; repeat (first | exact .inl rfl | exact .inr (.inl rfl) | exact .inr (.inr rfl) | split)
theorem cmpL_bd (a b : List UInt8) : cmpL a b = -1 ∨ cmpL a b = 0 ∨ cmpL a b = 1 := by unfold cmpL; repeat (first | exact .inl rfl | exact .inr (.inl rfl) | exact .inr (.inr rfl) | split)
theorem cmpV_bd (k1 n1 : Int) (t1 : List UInt8) (k2 n2 : Int) (t2 : List UInt8) : cmpV k1 n1 t1 k2 n2 t2 = -1 ∨ cmpV k1 n1 t1 k2 n2 t2 = 0 ∨ cmpV k1 n1 t1 k2 n2 t2 = 1 := by
  unfold cmpV; repeat (first | exact cmpI_bd _ _ | exact cmpL_bd _ _ | split)
theorem cmpI_zero (a b : Int) : cmpI a b = 0 ↔ a = b := by unfold cmpI; (repeat split) <;> constructor <;> intro h <;> omega
theorem cmpI_anti (a b : Int) : cmpI b a = - cmpI a b := by
  unfold cmpI
  by_cases h1 : a < b
  · rw [if_pos h1, if_neg (by omega), if_pos h1]; rfl
  · by_cases h2 : b < a
    · rw [if_pos h2, if_neg h1, if_pos h2]
    · rw [if_neg h2, if_neg h1, if_neg h1, if_neg h2]; rfl
theorem cmpL_zero (a b : List UInt8) : cmpL a b = 0 ↔ a = b := by
  unfold cmpL
  rcases list_tri a b with h | h | h
  · rw [if_pos h]; constructor
    · intro x; omega
    · intro x; subst x; exact absurd h (List.lt_irrefl _)
  · subst h; rw [if_neg (List.lt_irrefl _), if_neg (List.lt_irrefl _)]; simp
  · rw [if_neg (List.lt_asymm h), if_pos h]; constructor
    · intro x; omega
    · intro x; subst x; exact absurd h (List.lt_irrefl _)
theorem cmpL_anti (a b : List UInt8) : cmpL b a = - cmpL a b := by
  unfold cmpL
  rcases list_tri a b with h | h | h
  · rw [if_pos h, if_neg (List.lt_asymm h), if_pos h]; rfl
  · subst h; rw [if_neg (List.lt_irrefl _), if_neg (List.lt_irrefl _)]; rfl
  · rw [if_pos h, if_neg (List.lt_asymm h), if_pos h]
theorem cmpV_anti (k1 n1 : Int) (t1 : List UInt8) (k2 n2 : Int) (t2 : List UInt8) : cmpV k2 n2 t2 k1 n1 t1 = - cmpV k1 n1 t1 k2 n2 t2 := by
  unfold cmpV
  rw [cmpI_anti k1 k2, cmpI_anti n1 n2, cmpL_anti t1 t2]
  by_cases h1 : cmpI k1 k2 = 0
  · by_cases h2 : cmpI n1 n2 = 0
    · simp [h1, h2]
    · simp [h1, h2]
  · simp [h1]
theorem cmpV_zero (k1 n1 : Int) (t1 : List UInt8) (k2 n2 : Int) (t2 : List UInt8) : cmpV k1 n1 t1 k2 n2 t2 = 0 ↔ k1 = k2 ∧ n1 = n2 ∧ t1 = t2 := by
  unfold cmpV
  rw [← cmpI_zero k1, ← cmpI_zero n1, ← cmpL_zero t1]
  by_cases h1 : cmpI k1 k2 = 0
  · by_cases h2 : cmpI n1 n2 = 0
    · simp [h1, h2]
    · simp [h1, h2]
  · simp [h1]
theorem cmpI_le (a b : Int) : cmpI a b ≤ 0 ↔ a ≤ b := by unfold cmpI; (repeat split) <;> constructor <;> intro h <;> omega
theorem cmpL_le (a b : List UInt8) : cmpL a b ≤ 0 ↔ a ≤ b := by
  unfold cmpL
  rcases list_tri a b with h | h | h
  · rw [if_pos h]; constructor
    · intro _; exact List.le_of_lt h
    · intro _; omega
  · subst h; rw [if_neg (List.lt_irrefl _), if_neg (List.lt_irrefl _)]; constructor
    · intro _; exact List.le_refl _
    · intro _; omega
  · rw [if_neg (List.lt_asymm h), if_pos h]; constructor
    · intro x; omega
    · intro x; exact absurd h (List.not_lt.2 x)
theorem cmpV_le (k1 n1 : Int) (t1 : List UInt8) (k2 n2 : Int) (t2 : List UInt8) : cmpV k1 n1 t1 k2 n2 t2 ≤ 0 ↔ k1 < k2 ∨ k1 = k2 ∧ (n1 < n2 ∨ n1 = n2 ∧ t1 ≤ t2) := by
  unfold cmpV
  have a1 := cmpI_zero k1 k2
  have a2 := cmpI_le k1 k2
  have b1 := cmpI_zero n1 n2
  have b2 := cmpI_le n1 n2
  have c2 := cmpL_le t1 t2
  by_cases h1 : cmpI k1 k2 = 0
  · by_cases h2 : cmpI n1 n2 = 0
    · rw [if_neg (by simp [h1]), if_neg (by simp [h2]), c2]
      have := a1.1 h1; have := b1.1 h2
      constructor
      · intro h; exact .inr ⟨by omega, .inr ⟨by omega, h⟩⟩
      · rintro (h | ⟨_, h | ⟨_, h⟩⟩)
        · omega
        · omega
        · exact h
    · rw [if_neg (by simp [h1]), if_pos h2, b2]
      have := a1.1 h1
      have hb : n1 ≠ n2 := fun e => h2 (b1.2 e)
      constructor
      · intro h; exact .inr ⟨by omega, .inl (by omega)⟩
      · rintro (h | ⟨_, h | ⟨h, _⟩⟩) <;> omega
  · rw [if_pos h1, a2]
    have hb : k1 ≠ k2 := fun e => h1 (a1.2 e)
    constructor
    · intro h; exact .inl (by omega)
    · rintro (h | ⟨h, _⟩) <;> omega
theorem cmpV_trans (k1 n1 : Int) (t1 : List UInt8) (k2 n2 : Int) (t2 : List UInt8) (k3 n3 : Int) (t3 : List UInt8) (h1 : cmpV k1 n1 t1 k2 n2 t2 ≤ 0) (h2 : cmpV k2 n2 t2 k3 n3 t3 ≤ 0) : cmpV k1 n1 t1 k3 n3 t3 ≤ 0 := by
  rw [cmpV_le] at h1 h2 ⊢
  rcases h1 with h1 | ⟨rfl, h1 | ⟨rfl, h1⟩⟩
  · left
    rcases h2 with h2 | ⟨rfl, _⟩ <;> omega
  · rcases h2 with h2 | ⟨rfl, h2 | ⟨rfl, _⟩⟩
    · left; omega
    · right; exact ⟨rfl, .inl (by omega)⟩
    · right; exact ⟨rfl, .inl (by omega)⟩
  · rcases h2 with h2 | ⟨rfl, h2 | ⟨rfl, h2⟩⟩
    · left; omega
    · right; exact ⟨rfl, .inl (by omega)⟩
    · right; exact ⟨rfl, .inr ⟨rfl, List.le_trans h1 h2⟩⟩
end Go.Proofs.YtjcnjmlgedmmoaaDoor

namespace Go.Proofs.YtjcnjmlgedmmoaaDoor
open Go.RowKit

theorem less_of (a b : ByteArray) : Op.bytesLess a.toList b.toList = decide (a.data.toList < b.data.toList) := by
  rw [bytesLess_eq, Lib.toList_data, Lib.toList_data]
theorem beq_of (a b : ByteArray) : (a.toList == b.toList) = decide (a.data.toList = b.data.toList) := by
  rw [Lib.toList_data, Lib.toList_data]; exact Bool.eq_iff_iff.2 (by simp)

def orI (x y z : Int) : Int := if x ≠ 0 then x else if y ≠ 0 then y else z
theorem cmpV_or (k1 n1 : Int) (t1 : List UInt8) (k2 n2 : Int) (t2 : List UInt8) : orI (cmpI k1 k2) (cmpI n1 n2) (cmpL t1 t2) = cmpV k1 n1 t1 k2 n2 t2 := rfl

end Go.Proofs.YtjcnjmlgedmmoaaDoor

namespace Go.Proofs.YtjcnjmlgedmmoaaDoor
open Go.RowKit

/-- A region whose first n operations only read, in whatever order, and whose others have one order: the world behind the draw under a name of its own. -/
theorem region_tail {P : Program} {id : Nat} {Q : Exit → Act → World → Prop} {a : Act} {w : World} {l : List Oper} (n : Nat) (hm : P.follows .mixedOrders = true) (hB : Region.lexTailB .any l.toArray n = true)
    (h : ∀ wd : World, wd = w.drew → wpStill P l.toArray wd (fun a' => wpList P l.toArray Q (l.drop n) a' wd) (l.take n) a) : (Code.region id l.toArray true).wp P Q a w :=
  wp_region_still_tail n hm hB (h _ rfl)

end Go.Proofs.YtjcnjmlgedmmoaaDoor

namespace Go.Proofs.YtjcnjmlgedmmoaaDoor
open Go.RowKit

theorem rzig_any (n : Int) (w : World) (h1 : -9223372036854775808 ≤ n) (h2 : n ≤ 9223372036854775807) :
    Calls Tryd.prog 75 #[.int .i64 n] w fun e w' => e = .returned (.int .u64 (zigI n)) ∧ w = w' := by
  by_cases hneg : n < 0
  · go_enter Tryd.func75, Tryd.ntmps75
    go_wp2
    go_ret
    refine ⟨ret_int ?_, rfl⟩
    unfold zigI
    rw [if_pos (by omega)]
    omega
  · go_enter Tryd.func75, Tryd.ntmps75
    go_wp2
    go_ret
    refine ⟨ret_int ?_, rfl⟩
    unfold zigI
    rw [if_neg (by omega)]

theorem rzag_any (n : Int) (w : World) (h1 : 0 ≤ n) (h2 : n < 18446744073709551616) :
    Calls Tryd.prog 77 #[.int .u64 n] w fun e w' => e = .returned (.int .i64 (zagI n)) ∧ w = w' := by
  by_cases hodd : n % 2 = 1
  · have ht : (n % 2 == 1) = true := by simpa using hodd
    have H := Lib.hid hodd
    clear hodd
    go_enter Tryd.func77, Tryd.ntmps77
    go_wp2
    go_ret
    refine ⟨ret_int ?_, rfl⟩
    unfold zagI
    rw [if_pos H.out]
  · have ht : (n % 2 == 1) = false := by simpa using hodd
    go_enter Tryd.func77, Tryd.ntmps77
    go_wp2
    go_ret
    refine ⟨ret_int ?_, rfl⟩
    unfold zagI
    rw [if_neg (by omega)]

/-- At most f bytes ahead of the last one, as a text. -/
def putFS (f n : Nat) : ByteArray := ⟨(putF f n).toArray⟩

def byteS (z : Int) : ByteArray := ⟨#[UInt8.ofNat z.toNat]⟩
theorem byteS_size (z : Int) : (byteS z).size = 1 := rfl
theorem one_text (z : Int) (w : World) :
    (convert 46 9 (.slice (some ⟨w.heap.size, 0, none⟩) 1 1)).run Tryd.prog (w.alloc (.cells #[.int .u8 z] 5)) = .ok (.string (byteS z)) (w.alloc (.cells #[.int .u8 z] 5)) := by
  have hs : strOfNums [z] = byteS z := rfl
  rw [← hs]
  refine run_convert_bytes_arg _ 46 5 Tryd.underlying46 Tryd.underlying5 w.heap.size 0 1 1 [z] rfl ?_ 9 Tryd.underlying9
  intro i hi
  obtain rfl : i = 0 := by omega
  rw [World.cell?_alloc_new]
  rfl

theorem put_end (f : Nat) (b : ByteArray) (n : Int) (h : n < 128) : b ++ byteS n = b ++ putFS f n.toNat := by
  have : putF f n.toNat = [UInt8.ofNat n.toNat] := by
    cases f with
    | zero => rfl
    | succ f => simp only [putF]; rw [if_pos (by omega)]
  unfold putFS byteS
  rw [this]
theorem put_more (f : Nat) (b : ByteArray) (n : Int) (_h0 : 0 ≤ n) (h : ¬ n < 128) : b ++ byteS (128 + n % 128) ++ putFS f (n / 128).toNat = b ++ putFS (f + 1) n.toNat := by
  apply ba_ext
  rw [ba_app, ba_app, ba_app, List.append_assoc]
  congr 1
  show [UInt8.ofNat (128 + n % 128).toNat] ++ putF f (n / 128).toNat = putF (f + 1) n.toNat
  simp only [putF]
  rw [if_neg (by omega), show (128 + n % 128).toNat = 128 + n.toNat % 128 by omega, show (n / 128).toNat = n.toNat / 128 by omega]
  rfl

theorem rput_any (f : Nat) : ∀ (b : ByteArray) (n : Int) (w : World), f ≤ 9 → 0 ≤ n → n < 128 ^ (f + 1) → n < 18446744073709551616 → b.size ≤ 100000 + (9 - f) →
    Calls Tryd.prog 50 #[.string b, .int .u64 n] w fun e w' => e = .returned (.string (b ++ putFS f n.toNat)) ∧ Grown w w' := by
  induction f with
  | zero =>
    intro b n w hf h0 hn hn2 hb
    have hn' : n < 128 := by simpa using hn
    have h1 := one_text n w
    have h1s := byteS_size n
    have HE := Lib.hid (put_end 0 b n hn')
    clear hn
    go_enter Tryd.func50, Tryd.ntmps50
    go_wp2_with fail
    go_ret
    exact ⟨by rw [← HE.out]; rfl, (Grown.refl _).alloc _ _⟩
  | succ f ih =>
    intro b n w hf h0 hn hn2 hb
    by_cases hn' : n < 128
    · have h1 := one_text n w
      have h1s := byteS_size n
      have HE := Lib.hid (put_end (f + 1) b n hn')
      clear hn ih
      go_enter Tryd.func50, Tryd.ntmps50
      go_wp2_with fail
      go_ret
      exact ⟨by rw [← HE.out]; rfl, (Grown.refl _).alloc _ _⟩
    · have h1 := one_text (128 + n % 128) w
      have h1s := byteS_size (128 + n % 128)
      have HE := Lib.hid (put_more f b n h0 hn')
      have HN := Lib.hid hn
      have hsz : (b ++ byteS (128 + n % 128)).size ≤ 100000 + (9 - f) := by rw [ByteArray.size_append, h1s]; omega
      have hdv : n / 128 < 128 ^ (f + 1) := by
        have e : (128 : Int) ^ (f + 1 + 1) = 128 ^ (f + 1) * 128 := Int.pow_succ _ _
        rw [e] at hn
        exact Int.ediv_lt_of_lt_mul (by omega) hn
      have HI := Lib.hid (ih (b ++ byteS (128 + n % 128)) (n / 128) (w.alloc (.cells #[.int .u8 (128 + n % 128)] 5)) (by omega) (by omega) hdv (by omega) hsz)
      clear hn ih hdv
      go_enter Tryd.func50, Tryd.ntmps50
      go_wp2_with (go_at_call 50; ((with_reducible refine HI.out.mono ?_); rintro e w1 ⟨rfl, hg⟩))
      go_ret
      exact ⟨by rw [← HE.out]; rfl, grown_trans ((Grown.refl _).alloc _ _) (by assumption)⟩

theorem rput9 (b : ByteArray) (n : Int) (w : World) (h0 : 0 ≤ n) (h : n < 18446744073709551616) (hb : b.size ≤ 100000) :
    Calls Tryd.prog 50 #[.string b, .int .u64 n] w fun e w' => e = .returned (.string (b ++ putS n.toNat)) ∧ Grown w w' :=
  rput_any 9 b n w (by omega) h0 (Int.lt_trans h (by decide)) h (by omega)

theorem rint_any (b : ByteArray) (n : Int) (w : World) (h1 : -9223372036854775808 ≤ n) (h2 : n ≤ 9223372036854775807) (hb : b.size ≤ 100000) :
    Calls Tryd.prog 65 #[.string b, .int .i64 n] w fun e w' => e = .returned (.string (b ++ putS (zigI n).toNat)) ∧ Grown w w' := by
  have hz := zig_bd n h1 h2
  go_enter Tryd.func65, Tryd.ntmps65
  go_wp2_with (first | (go_at_call 75; refine (rzig_any _ _ h1 h2).mono ?_; rintro e w' ⟨rfl, rfl⟩) | (go_at_call 50; refine (rput9 _ _ _ hz.1 hz.2 hb).mono ?_; rintro e w1 ⟨rfl, hg⟩))
  go_ret
  exact ⟨rfl, by assumption⟩

theorem rtext_any (b s : ByteArray) (w : World) (hb : b.size ≤ 90000) (hs : s.size ≤ 90000) :
    Calls Tryd.prog 64 #[.string b, .string s] w fun e w' => e = .returned (.string (b ++ putS s.size ++ s)) ∧ Grown w w' := by
  have hp := putS_size s.size
  have hbp : (b ++ putS s.size).size ≤ 90010 := by rw [ByteArray.size_append]; omega
  go_enter Tryd.func64, Tryd.ntmps64
  go_wp2_with (go_at_call 50; ((with_reducible refine (rput9 _ _ _ (by omega) (by omega) (by omega)).mono ?_); rintro e w1 ⟨rfl, hg⟩; rw [Int.toNat_natCast]))
  go_ret
  exact ⟨rfl, by assumption⟩
end Go.Proofs.YtjcnjmlgedmmoaaDoor

