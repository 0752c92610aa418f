/-
  What is proved: varint.Int, Text, TakeInt and TakeText, called with any arguments (texts of up to 2^62 bytes), return what P1.4 to P1.6 say; the world has new blocks at most.
-/
import Derived.Test.YtnfchfldpdnjoaaDoorPut
import Derived.Test.YtnfchfldpdnjoaaDoorTake
import Derived.Test.YtnfchfldpdnjoaaDoorExt
namespace Go.Proofs.YtnfchfldpdnjoaaDoor
open Go.RowKit

theorem int_any (b : ByteArray) (n : Int) (w : World) (h1 : -9223372036854775808 ≤ n) (h2 : n ≤ 9223372036854775807) (hb : b.size ≤ 4611686018427387904) :
    Calls Tryd.prog 28 #[.string b, .int .i64 n] w fun e w' => e = .returned (.string (b ++ putS (zigI n).toNat)) ∧ Grown w w' := by
  have hz := zig_bd n h1 h2
  obtain ⟨z, hzz⟩ : ∃ z : Nat, zigI n = (z : Int) := ⟨(zigI n).toNat, by omega⟩
  have hz1 : (zigI n).toNat = z := by omega
  rw [hz1]
  have HZ := Lib.hid hzz
  have hzl : z < 18446744073709551616 := by omega
  clear hz hzz hz1
  go_enter Tryd.func28, Tryd.ntmps28
  go_wp2_with (first | (go_at_call 43; refine (zig_any _ _ h1 h2).mono ?_; rintro e w' ⟨rfl, rfl⟩; rw [HZ.out]) | (go_at_call 42; refine (put_any _ _ _ hzl hb).mono ?_; rintro e w1 ⟨rfl, hg⟩))
  go_ret
  exact ⟨rfl, by assumption⟩

theorem tkE_bd (s : ByteArray) : tkE s = 0 ∨ tkE s = 2 ∨ tkE s = 3 ∨ tkE s = 4 := (takeL_err _).1
theorem tkN_bd (s : ByteArray) : tkN s < 18446744073709551616 := takeL_bd _
theorem tk_bad (s : ByteArray) (h : tkE s ≠ 0) : tkN s = 0 ∧ tkR s = ⟨#[]⟩ := by
  have := (takeL_err s.data.toList).2 h
  exact ⟨this.1, by unfold tkR; rw [this.2]⟩
theorem tkR_size (s : ByteArray) : (tkR s).size ≤ s.size := tk_len s.data.toList 0 0

/-- P1.4. -/
def tiN (s : ByteArray) : Int := if tkE s = 0 then zagI (tkN s) else 0
theorem ret3i {a a' : Int} {r r' : ByteArray} {e e' : Int} (h1 : a = a') (h2 : r = r') (h3 : e = e') :
    Ending.returned (.tuple #[.int .i64 a, .string r, .int .i64 e]) = .returned (.tuple #[.int .i64 a', .string r', .int .i64 e']) := by rw [h1, h2, h3]
theorem ret3s {a a' : ByteArray} {r r' : ByteArray} {e e' : Int} (h1 : a = a') (h2 : r = r') (h3 : e = e') :
    Ending.returned (.tuple #[.string a, .string r, .int .i64 e]) = .returned (.tuple #[.string a', .string r', .int .i64 e']) := by rw [h1, h2, h3]

theorem takeInt_any (s : ByteArray) (w : World) (hs : s.size ≤ 9223372036854775807) :
    Calls Tryd.prog 24 #[.string s] w fun e w' => e = .returned (.tuple #[.int .i64 (tiN s), .string (tkR s), .int .i64 (tkE s)]) ∧ Grown w w' := by
  have hn := tkN_bd s
  by_cases h : tkE s = 0
  · have he : ((tkE s : Int) != 0) = false := by simp [h]
    have H := Lib.hid h
    clear h
    go_enter Tryd.func24, Tryd.ntmps24
    go_wp2_with (first | (go_at_call 37; refine (take_any _ _ hs).mono ?_; rintro e w1 ⟨rfl, hg⟩) | (go_at_call 38; refine (zag_any _ _ (by omega) (by omega)).mono ?_; rintro e w2 ⟨rfl, rfl⟩))
    go_ret3
    exact ⟨ret3i (by unfold tiN; rw [if_pos H.out]) rfl (by rw [H.out]; rfl), by assumption⟩
  · have he : ((tkE s : Int) != 0) = true := by simp [h]
    have H := Lib.hid h
    clear h
    go_enter Tryd.func24, Tryd.ntmps24
    go_wp2_with (first | (go_at_call 37; refine (take_any _ _ hs).mono ?_; rintro e w1 ⟨rfl, hg⟩) | (go_at_call 38; refine (zag_any _ _ (by omega) (by omega)).mono ?_; rintro e w2 ⟨rfl, rfl⟩))
    go_ret3
    exact ⟨ret3i (by unfold tiN; rw [if_neg H.out]) (tk_bad s H.out).2.symm rfl, by assumption⟩

/-- P1.6. -/
def ttL (s : ByteArray) (most : Int) : ByteArray × ByteArray × Nat :=
  if tkE s ≠ 0 then (⟨#[]⟩, ⟨#[]⟩, tkE s)
  else if most < 0 ∨ most < (tkN s : Int) then (⟨#[]⟩, ⟨#[]⟩, 4)
  else if (tkR s).size < tkN s then (⟨#[]⟩, ⟨#[]⟩, 2)
  else ((tkR s).extract 0 (tkN s), (tkR s).extract (tkN s) (tkR s).size, 0)
def ttT (s : ByteArray) (most : Int) : ByteArray := (ttL s most).1
def ttR (s : ByteArray) (most : Int) : ByteArray := (ttL s most).2.1
def ttE (s : ByteArray) (most : Int) : Nat := (ttL s most).2.2
theorem tt_of {s : ByteArray} {most : Int} {a b : ByteArray} {e : Nat} (h : ttL s most = (a, b, e)) : a = ttT s most ∧ b = ttR s most ∧ e = ttE s most := by
  unfold ttT ttR ttE; rw [h]; exact ⟨rfl, rfl, rfl⟩

end Go.Proofs.YtnfchfldpdnjoaaDoor
