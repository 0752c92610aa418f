/-
  What is proved: plain facts on numbers and texts as bytes (P1.1 to P1.7), over texts: what is put is taken, whatever follows; what is taken is put as these bytes; no program is spoken of here.
-/
import Derived.Test.YtoanccojpppfoaaDoorM2
namespace Go.Proofs.YtoanccojpppfoaaDoor
open Go.RowKit

theorem ba_assoc (a b c : ByteArray) : a ++ b ++ c = a ++ (b ++ c) := by
  apply ba_ext
  simp only [ba_app, List.append_assoc]
theorem ba_nil (a : ByteArray) : (⟨#[]⟩ : ByteArray) ++ a = a := by
  apply ba_ext
  rw [ba_app]; rfl
theorem ba_nil_r (a : ByteArray) : a ++ (⟨#[]⟩ : ByteArray) = a := by
  apply ba_ext
  rw [ba_app]
  show _ ++ [] = _
  rw [List.append_nil]
theorem tk_fore (n : Nat) (s : ByteArray) (h : n < 18446744073709551616) : tkN (putS n ++ s) = n ∧ tkR (putS n ++ s) = s ∧ tkE (putS n ++ s) = 0 := by
  have := tk_put n s h
  rwa [ba_nil] at this
theorem ti_fore (x : Int) (s : ByteArray) (h1 : -9223372036854775808 ≤ x) (h2 : x ≤ 9223372036854775807) : tiN (putS (zigI x).toNat ++ s) = x ∧ tkR (putS (zigI x).toNat ++ s) = s ∧ tkE (putS (zigI x).toNat ++ s) = 0 := by
  have hb := zig_bd x h1 h2
  obtain ⟨p1, p2, p3⟩ := tk_fore (zigI x).toNat s (by omega)
  refine ⟨?_, p2, p3⟩
  unfold tiN
  rw [if_pos p3, p1, show (((zigI x).toNat : Nat) : Int) = zigI x by omega, zag_zig]
theorem tk_aft (s : ByteArray) (h : tkE s = 0) : putS (tkN s) ++ tkR s = s := by
  have := tk_back s h
  rwa [ba_nil] at this
theorem ti_aft (s : ByteArray) (h : tkE s = 0) : putS (zigI (tiN s)).toNat ++ tkR s = s := by
  have e : (zigI (tiN s)).toNat = tkN s := by
    unfold tiN
    rw [if_pos h, zig_zag _ (by omega)]
    exact Int.toNat_natCast _
  rw [e]
  exact tk_aft s h
theorem putS_pos (n : Nat) : 1 ≤ (putS n).size := by
  show 1 ≤ (putL n).toArray.size
  rw [List.size_toArray]
  unfold putL
  rw [putF]
  split <;> simp
theorem ext_fore (t x : ByteArray) : (t ++ x).extract 0 t.size = t ∧ (t ++ x).extract t.size (t ++ x).size = x := by
  constructor
  · apply ba_ext
    rw [Lib.extract_data, ba_app, List.drop_zero, Nat.sub_zero, ba_size, List.take_left]
  · apply ba_ext
    rw [Lib.extract_data, ba_app, ByteArray.size_append, ba_size, List.drop_left, List.take_of_length_le (by rw [ba_size x]; omega)]
theorem ext_aft (s : ByteArray) (n : Nat) : s.extract 0 n ++ s.extract n s.size = s := by
  have e : (s.data.toList.drop n).take (s.size - n) = s.data.toList.drop n := List.take_of_length_le (by rw [List.length_drop, ← ba_size]; omega)
  apply ba_ext
  rw [ba_app, Lib.extract_data, Lib.extract_data, List.drop_zero, Nat.sub_zero, e, List.take_append_drop]
theorem tt_fore (t x : ByteArray) (m : Int) (ht : (t.size : Int) ≤ m) (hm : m ≤ 9223372036854775807) : ttL (putS t.size ++ (t ++ x)) m = (t, x, 0) := by
  obtain ⟨h1, h2, h3⟩ := tk_fore t.size (t ++ x) (by omega)
  unfold ttL
  rw [h1, h2, h3, if_neg (by omega), if_neg (by omega), if_neg (by rw [ByteArray.size_append]; omega), (ext_fore t x).1, (ext_fore t x).2]
theorem tt_aft (s : ByteArray) (m : Int) (h : ttE s m = 0) : putS (ttT s m).size ++ (ttT s m ++ ttR s m) = s ∧ ((ttT s m).size : Int) ≤ m ∧ (ttT s m).size ≤ s.size := by
  unfold ttE ttL at h
  unfold ttT ttR ttL
  by_cases h1 : tkE s ≠ 0
  · rw [if_pos h1] at h; exact absurd h h1
  rw [if_neg h1] at h ⊢
  by_cases h2 : m < 0 ∨ m < (tkN s : Int)
  · rw [if_pos h2] at h; simp at h
  rw [if_neg h2] at h ⊢
  by_cases h3 : (tkR s).size < tkN s
  · rw [if_pos h3] at h; simp at h
  rw [if_neg h3]
  have hn : ((tkR s).extract 0 (tkN s)).size = tkN s := by rw [ByteArray.size_extract]; omega
  have hr := tkR_size s
  refine ⟨?_, by rw [hn]; omega, by rw [hn]; omega⟩
  show putS ((tkR s).extract 0 (tkN s)).size ++ ((tkR s).extract 0 (tkN s) ++ (tkR s).extract (tkN s) (tkR s).size) = s
  rw [hn, ext_aft]
  exact tk_aft s (by omega)
end Go.Proofs.YtoanccojpppfoaaDoor
