/-
  What is proved: plain facts on texts as lists of bytes, P1.7 over texts, and the contracts of varint's takes at named results.
-/
import Derived.Test.YtnfchfldpdnjoaaDoorMore
import Derived.Lib.Strings
namespace Go.Proofs.YtnfchfldpdnjoaaDoor
open Go.RowKit

theorem ba_ext {a b : ByteArray} (h : a.data.toList = b.data.toList) : a = b := ByteArray.ext (Array.ext' h)
theorem ba_app (a b : ByteArray) : (a ++ b).data.toList = a.data.toList ++ b.data.toList := by rw [ByteArray.data_append, Array.toList_append]
theorem ba_size (a : ByteArray) : a.size = a.data.toList.length := rfl
theorem put_app (n : Nat) (s : ByteArray) : ((⟨#[]⟩ : ByteArray) ++ putS n ++ s).data.toList = putL n ++ s.data.toList := by
  rw [ba_app, ba_app]; rfl
theorem put_app_size (n : Nat) (s : ByteArray) : ((⟨#[]⟩ : ByteArray) ++ putS n ++ s).size ≤ 10 + s.size := by
  rw [ba_size, put_app, List.length_append, ← ba_size]; have := putL_le n; omega

/-- P1.7 over texts. -/
theorem tk_put (n : Nat) (s : ByteArray) (h : n < 18446744073709551616) :
    tkN (⟨#[]⟩ ++ putS n ++ s) = n ∧ tkR (⟨#[]⟩ ++ putS n ++ s) = s ∧ tkE (⟨#[]⟩ ++ putS n ++ s) = 0 := by
  unfold tkN tkR tkE
  rw [put_app, take_putL n _ h]
  exact ⟨rfl, rfl, rfl⟩
theorem tk_back (s : ByteArray) (h : tkE s = 0) : (⟨#[]⟩ : ByteArray) ++ putS (tkN s) ++ tkR s = s := by
  apply ba_ext
  rw [put_app]
  exact (put_takeL s.data.toList _ (tkN s) (by rw [← h]; rfl)).1

theorem take_c (s : ByteArray) (n : Int) (r : ByteArray) (k : Int) (hn : (tkN s : Int) = n) (hr : tkR s = r) (hk : (tkE s : Int) = k) (hs : s.size ≤ 9223372036854775807) (w : World) :
    Calls Tryd.prog 37 #[.string s] w fun e w' => e = .returned (.tuple #[.int .u64 n, .string r, .int .i64 k]) ∧ Grown w w' := by
  subst hn hr hk; exact take_any s w hs
theorem takeInt_c (s : ByteArray) (n : Int) (r : ByteArray) (k : Int) (hn : tiN s = n) (hr : tkR s = r) (hk : (tkE s : Int) = k) (hs : s.size ≤ 9223372036854775807) (w : World) :
    Calls Tryd.prog 24 #[.string s] w fun e w' => e = .returned (.tuple #[.int .i64 n, .string r, .int .i64 k]) ∧ Grown w w' := by
  subst hn hr hk; exact takeInt_any s w hs
end Go.Proofs.YtnfchfldpdnjoaaDoor
