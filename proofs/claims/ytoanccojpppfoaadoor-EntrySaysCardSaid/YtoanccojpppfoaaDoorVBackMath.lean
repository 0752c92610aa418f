/-
  What is proved: over texts: what is right is put and taken, whatever follows (P3.7); when a struct differs from another one.
-/
import Derived.Test.YtoanccojpppfoaaDoorVTake
import Derived.Test.YtoanccojpppfoaaDoorBytes
namespace Go.Proofs.YtoanccojpppfoaaDoor
open Go.RowKit

theorem tt_put (t x : ByteArray) (ht : t.size ≤ 200) : ttL (⟨#[]⟩ ++ putS t.size ++ (t ++ x)) 200 = (t, x, 0) := by
  obtain ⟨h1, h2, h3⟩ := tk_put t.size (t ++ x) (by omega)
  unfold ttL
  rw [h1, h2, h3, if_neg (by omega), if_neg (by omega), if_neg (by rw [ByteArray.size_append]; omega)]
  have x1 : (t ++ x).extract 0 t.size = t := by
    apply ba_ext
    rw [Lib.extract_data, ba_app, List.drop_zero, Nat.sub_zero, ba_size, List.take_left]
  have x2 : (t ++ x).extract t.size (t ++ x).size = x := by
    apply ba_ext
    rw [Lib.extract_data, ba_app, ByteArray.size_append, ba_size, List.drop_left, List.take_of_length_le (by rw [ba_size x]; omega)]
  rw [x1, x2]

theorem tv_put (k n : Int) (t x : ByteArray) (h1 : -9223372036854775808 ≤ n) (h2 : n ≤ 9223372036854775807) (hr : rightB k n t = true) : tvL (putV ⟨#[]⟩ k n t ++ x) = (k, n, t, x, 0) := by
  have hr' := hr
  unfold rightB at hr'
  simp only [decide_eq_true_eq] at hr'
  have hz := zig_bd n h1 h2
  have hzt : (((zigI n).toNat : Nat) : Int) = zigI n := by omega
  rcases hr' with ⟨rfl, ht⟩ | ⟨rfl, ht, rfl⟩ | ⟨rfl, ht, hn⟩
  · obtain rfl := empty_of ht
    have e : putV ⟨#[]⟩ 1 n ⟨#[]⟩ ++ x = ⟨#[]⟩ ++ putS 1 ++ (⟨#[]⟩ ++ putS (zigI n).toNat ++ x) := by
      show ⟨#[]⟩ ++ putS 1 ++ putS (zigI n).toNat ++ x = _
      rw [ba_nil (putS (zigI n).toNat)]; simp only [ba_assoc]
    obtain ⟨a1, a2, a3⟩ := tk_put 1 (⟨#[]⟩ ++ putS (zigI n).toNat ++ x) (by omega)
    obtain ⟨b1, b2, b3⟩ := tk_put (zigI n).toNat x (by omega)
    have b4 : tiN (⟨#[]⟩ ++ putS (zigI n).toNat ++ x) = n := by unfold tiN; rw [if_pos b3, b1, hzt, zag_zig]
    unfold tvL
    rw [e, a1, a2, a3, b2, b3, b4, if_neg (by omega), if_neg (by omega), if_neg (by omega), if_neg (by omega), if_neg (by omega)]
    exact if_pos hr
  · have e : putV ⟨#[]⟩ 2 0 t ++ x = ⟨#[]⟩ ++ putS 2 ++ (⟨#[]⟩ ++ putS t.size ++ (t ++ x)) := by
      show ⟨#[]⟩ ++ putS 2 ++ putS t.size ++ t ++ x = _
      rw [ba_nil (putS t.size)]; simp only [ba_assoc]
    obtain ⟨a1, a2, a3⟩ := tk_put 2 (⟨#[]⟩ ++ putS t.size ++ (t ++ x)) (by omega)
    have b := tt_put t x ht
    unfold tvL ttE ttT ttR
    rw [e, a1, a2, a3, b, if_neg (by omega), if_neg (by omega), if_neg (by omega), if_pos rfl]; rfl
  · obtain rfl := empty_of ht
    have e : putV ⟨#[]⟩ 3 n ⟨#[]⟩ ++ x = ⟨#[]⟩ ++ putS 3 ++ (⟨#[]⟩ ++ putS (zigI n).toNat ++ x) := by
      show ⟨#[]⟩ ++ putS 3 ++ putS (zigI n).toNat ++ x = _
      rw [ba_nil (putS (zigI n).toNat)]; simp only [ba_assoc]
    obtain ⟨a1, a2, a3⟩ := tk_put 3 (⟨#[]⟩ ++ putS (zigI n).toNat ++ x) (by omega)
    obtain ⟨b1, b2, b3⟩ := tk_put (zigI n).toNat x (by omega)
    have b4 : tiN (⟨#[]⟩ ++ putS (zigI n).toNat ++ x) = n := by unfold tiN; rw [if_pos b3, b1, hzt, zag_zig]
    unfold tvL
    rw [e, a1, a2, a3, b2, b3, b4, if_neg (by omega), if_neg (by omega), if_neg (by omega), if_neg (by omega), if_neg (by omega)]
    exact if_pos hr

theorem putV_size (b : ByteArray) (k n : Int) (t : ByteArray) : (putV b k n t).size ≤ b.size + 20 + t.size := by
  unfold putV
  have := putS_size 0
  have := putS_size 2
  have := putS_size t.size
  have := putS_size (k % 4).toNat
  have := putS_size (zigI n).toNat
  split
  · rw [ByteArray.size_append]; omega
  split
  · simp only [ByteArray.size_append]; omega
  · simp only [ByteArray.size_append]; omega

/-- How two values differ. -/
theorem differ (k1 n1 : Int) (t1 : ByteArray) (k2 n2 : Int) (t2 : ByteArray) :
    (k1 = k2 ∧ n1 = n2 ∧ t1 = t2) ∨ (k1 == k2) = false ∨ (k1 = k2 ∧ (n1 == n2) = false) ∨ (k1 = k2 ∧ n1 = n2 ∧ (t1.toList == t2.toList) = false) := by
  by_cases h1 : k1 = k2
  · by_cases h2 : n1 = n2
    · by_cases h3 : t1 = t2
      · exact .inl ⟨h1, h2, h3⟩
      · refine .inr (.inr (.inr ⟨h1, h2, ?_⟩))
        rw [beq_of]
        have : t1.data.toList ≠ t2.data.toList := fun e => h3 (ba_ext e)
        simpa using this
    · exact .inr (.inr (.inl ⟨h1, by simpa using h2⟩))
  · exact .inr (.inl (by simpa using h1))
end Go.Proofs.YtoanccojpppfoaaDoor
