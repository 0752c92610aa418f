/-
  What is proved: the Go function VarintBack of layer 1's laws, called with any uint64, int and text, returns true; the world has new blocks at most.
-/
import Derived.Test.YtabacdgpmilniaaAwake
import Derived.Lib.Strings
namespace Go.Proofs.Ytabacdgpmilniaa
open Go.RowKit

theorem ba_ext {a b : ByteArray} (h : a.data.toList = b.data.toList) : a = b := ByteArray.ext (Array.ext' h)
theorem ba_app (a b : ByteArray) : (a ++ b).data.toList = a.data.toList ++ b.data.toList := by rw [ByteArray.data_append, Array.toList_append]
theorem ba_size (a : ByteArray) : a.size = a.data.toList.length := rfl
theorem put_app (n : Nat) (s : ByteArray) : ((⟨#[]⟩ : ByteArray) ++ putS n ++ s).data.toList = putL n ++ s.data.toList := by
  rw [ba_app, ba_app]; rfl
theorem put_app_size (n : Nat) (s : ByteArray) : ((⟨#[]⟩ : ByteArray) ++ putS n ++ s).size ≤ 10 + s.size := by
  rw [ba_size, put_app, List.length_append, ← ba_size]; have := putL_le n; omega

/-- P1.7 over texts. -/
theorem tk_put (n : Nat) (s : ByteArray) (h : n < 18446744073709551616) :
    tkN (⟨#[]⟩ ++ putS n ++ s) = n ∧ tkR (⟨#[]⟩ ++ putS n ++ s) = s ∧ tkE (⟨#[]⟩ ++ putS n ++ s) = 0 := by
  unfold tkN tkR tkE
  rw [put_app, take_putL n _ h]
  exact ⟨rfl, rfl, rfl⟩
theorem tk_back (s : ByteArray) (h : tkE s = 0) : (⟨#[]⟩ : ByteArray) ++ putS (tkN s) ++ tkR s = s := by
  apply ba_ext
  rw [put_app]
  exact (put_takeL s.data.toList _ (tkN s) (by rw [← h]; rfl)).1

theorem back_take (n : Nat) (s : ByteArray) (h : n < 18446744073709551616) (hs : s.size ≤ 600) (w : World) :
    Calls Try.prog 7 #[.string (⟨#[]⟩ ++ putS n ++ s)] w fun e w' => e = .returned (.tuple #[.int .u64 n, .string s, .int .i64 0]) ∧ Grown w w' := by
  have hz := put_app_size n s
  obtain ⟨h1, h2, h3⟩ := tk_put n s h
  exact take_c _ n s 0 (by rw [h1]) h2 (by rw [h3]; rfl) (by omega) w
theorem back_takeInt (k : Int) (s : ByteArray) (h1 : -9223372036854775808 ≤ k) (h2 : k ≤ 9223372036854775807) (hs : s.size ≤ 600) (w : World) :
    Calls Try.prog 9 #[.string (⟨#[]⟩ ++ putS (zigI k).toNat ++ s)] w fun e w' => e = .returned (.tuple #[.int .i64 k, .string s, .int .i64 0]) ∧ Grown w w' := by
  have hz := put_app_size (zigI k).toNat s
  have hb := zig_bd k h1 h2
  obtain ⟨h1, h2, h3⟩ := tk_put (zigI k).toNat s (by omega)
  have e1 : tiN (⟨#[]⟩ ++ putS (zigI k).toNat ++ s) = k := by
    unfold tiN; rw [if_pos h3, h1, show (((zigI k).toNat : Nat) : Int) = zigI k by omega, zag_zig]
  exact takeInt_c _ k s 0 e1 h2 (by rw [h3]; rfl) (by omega) w
theorem back_text (s : ByteArray) (hs : s.size ≤ 600) (w : World) :
    Calls Try.prog 11 #[.string (⟨#[]⟩ ++ putS s.size ++ s ++ s), .int .i64 600] w fun e w' => e = .returned (.tuple #[.string s, .string s, .int .i64 0]) ∧ Grown w w' := by
  have ea : (⟨#[]⟩ : ByteArray) ++ putS s.size ++ s ++ s = ⟨#[]⟩ ++ putS s.size ++ (s ++ s) := ba_ext (by rw [ba_app, put_app, put_app, ba_app, List.append_assoc])
  have hz := put_app_size s.size (s ++ s)
  have hss : (s ++ s).size = s.size + s.size := ByteArray.size_append
  rw [ea]
  obtain ⟨h1, h2, h3⟩ := tk_put s.size (s ++ s) (by omega)
  have e1 : ttL (⟨#[]⟩ ++ putS s.size ++ (s ++ s)) 600 = (s, s, 0) := by
    unfold ttL
    rw [h1, h2, h3, if_neg (by omega), if_neg (by omega), if_neg (by rw [ByteArray.size_append]; omega)]
    have x1 : (s ++ s).extract 0 s.size = s := by
      apply ba_ext
      rw [Lib.extract_data, ba_app, List.drop_zero, Nat.sub_zero, ba_size, List.take_left]
    have x2 : (s ++ s).extract s.size (s ++ s).size = s := by
      apply ba_ext
      rw [Lib.extract_data, ba_app, hss, ba_size, List.drop_left, List.take_of_length_le (by omega)]
    rw [x1, x2]
  obtain ⟨t1, t2, t3⟩ := tt_of e1
  exact takeText_c _ 600 s s 0 t1.symm t2.symm (by rw [← t3]; rfl) (by omega) (by omega) (by omega) w
theorem back_zag (k : Int) (h1 : -9223372036854775808 ≤ k) (h2 : k ≤ 9223372036854775807) (w : World) :
    Calls Try.prog 21 #[.int .u64 (zigI k)] w fun e w' => e = .returned (.int .i64 k) ∧ w = w' := by
  have hb := zig_bd k h1 h2
  refine (zag_any (zigI k) w hb.1 hb.2).mono ?_
  rw [zag_zig]; exact fun _ _ h => h
theorem back_zig (n : Nat) (h : n < 18446744073709551616) (w : World) :
    Calls Try.prog 19 #[.int .i64 (zagI n)] w fun e w' => e = .returned (.int .u64 n) ∧ w = w' := by
  have hb := zag_bd n (by omega) (by omega)
  refine (zig_any (zagI n) w hb.1 hb.2).mono ?_
  rw [zig_zag _ (by omega)]; exact fun _ _ h => h

set_option maxRecDepth 100000 in
set_option maxHeartbeats 4000000 in
theorem back_walk (n : Nat) (k : Int) (s : ByteArray) (w : World) (hn : n < 18446744073709551616) (h1 : -9223372036854775808 ≤ k) (h2 : k ≤ 9223372036854775807) (hs : s.size ≤ 9223372036854775807) :
    Calls Try.prog 4 #[.int .u64 n, .int .i64 k, .string s] w fun e w' => e = .returned (.bool true) ∧ Grown w w' := by
  by_cases h6 : 600 < s.size
  · go_enter Try.func4, Try.ntmps4
    go_wp2_with (go_at_call 6; ((with_reducible refine (awake_any _).mono ?_); rintro e w2 ⟨rfl, hg2⟩))
    go_ret
    exact ⟨rfl, by assumption⟩
  have h600 : s.size ≤ 600 := by omega
  clear h6 hs
  have hps := putS_size n
  have hps2 := putS_size (zigI k).toNat
  have hps3 := putS_size s.size
  have hps4 := putS_size (tkN s)
  have htr := tkR_size s
  have hx1 : ((⟨#[]⟩ : ByteArray) ++ putS s.size ++ s).size ≤ 10 + s.size := put_app_size _ _
  have htn := tkN_bd s
  by_cases he : tkE s = 0
  · have he1 : ((tkE s : Int) != 0) = false := by simp [he]
    have hbk := tk_back s he
    clear he
    go_enter Try.func4, Try.ntmps4
    go_wp2_with (first
      | (go_at_call 13; ((with_reducible refine (put_any ⟨#[]⟩ n _ hn (by decide)).mono ?_); rintro e w1 ⟨rfl, hg⟩))
      | (go_at_call 7; ((with_reducible refine (back_take n s hn h600 _).mono ?_); rintro e w1 ⟨rfl, hg⟩))
      | (go_at_call 15; ((with_reducible refine (int_any ⟨#[]⟩ k _ h1 h2 (by decide)).mono ?_); rintro e w1 ⟨rfl, hg⟩))
      | (go_at_call 9; ((with_reducible refine (back_takeInt k s h1 h2 h600 _).mono ?_); rintro e w1 ⟨rfl, hg⟩))
      | (go_at_call 17; ((with_reducible refine (text_any ⟨#[]⟩ s _ (by decide) (by omega)).mono ?_); rintro e w1 ⟨rfl, hg⟩))
      | (go_at_call 11; ((with_reducible refine (back_text s h600 _).mono ?_); rintro e w1 ⟨rfl, hg⟩))
      | (go_at_call 19; ((with_reducible refine (zig_any k _ h1 h2).mono ?_); rintro e w1 ⟨rfl, rfl⟩))
      | (go_at_call 21; ((with_reducible refine (back_zag k h1 h2 _).mono ?_); rintro e w1 ⟨rfl, rfl⟩))
      | (go_at_call 21; ((with_reducible refine (zag_any n _ (by omega) (by omega)).mono ?_); rintro e w1 ⟨rfl, rfl⟩))
      | (go_at_call 19; ((with_reducible refine (back_zig n hn _).mono ?_); rintro e w1 ⟨rfl, rfl⟩))
      | (go_at_call 7; ((with_reducible refine (take_any s _ (by omega)).mono ?_); rintro e w1 ⟨rfl, hg⟩))
      | (go_at_call 13; ((with_reducible refine (put_any ⟨#[]⟩ (tkN s) _ htn (by decide)).mono ?_); rintro e w1 ⟨rfl, hg⟩))
      | (go_at_call 6; ((with_reducible refine (awake_any _).mono ?_); rintro e w2 ⟨rfl, hg2⟩)))
    go_ret
    refine ⟨rfl, ?_⟩
    repeat (first | exact Grown.refl _ | assumption | refine grown_trans ?_ (by assumption))
  · have he1 : ((tkE s : Int) != 0) = true := by simp [he]
    clear he
    go_enter Try.func4, Try.ntmps4
    go_wp2_with (first
      | (go_at_call 13; ((with_reducible refine (put_any ⟨#[]⟩ n _ hn (by decide)).mono ?_); rintro e w1 ⟨rfl, hg⟩))
      | (go_at_call 7; ((with_reducible refine (back_take n s hn h600 _).mono ?_); rintro e w1 ⟨rfl, hg⟩))
      | (go_at_call 15; ((with_reducible refine (int_any ⟨#[]⟩ k _ h1 h2 (by decide)).mono ?_); rintro e w1 ⟨rfl, hg⟩))
      | (go_at_call 9; ((with_reducible refine (back_takeInt k s h1 h2 h600 _).mono ?_); rintro e w1 ⟨rfl, hg⟩))
      | (go_at_call 17; ((with_reducible refine (text_any ⟨#[]⟩ s _ (by decide) (by omega)).mono ?_); rintro e w1 ⟨rfl, hg⟩))
      | (go_at_call 11; ((with_reducible refine (back_text s h600 _).mono ?_); rintro e w1 ⟨rfl, hg⟩))
      | (go_at_call 19; ((with_reducible refine (zig_any k _ h1 h2).mono ?_); rintro e w1 ⟨rfl, rfl⟩))
      | (go_at_call 21; ((with_reducible refine (back_zag k h1 h2 _).mono ?_); rintro e w1 ⟨rfl, rfl⟩))
      | (go_at_call 21; ((with_reducible refine (zag_any n _ (by omega) (by omega)).mono ?_); rintro e w1 ⟨rfl, rfl⟩))
      | (go_at_call 19; ((with_reducible refine (back_zig n hn _).mono ?_); rintro e w1 ⟨rfl, rfl⟩))
      | (go_at_call 7; ((with_reducible refine (take_any s _ (by omega)).mono ?_); rintro e w1 ⟨rfl, hg⟩))
      | (go_at_call 13; ((with_reducible refine (put_any ⟨#[]⟩ (tkN s) _ htn (by decide)).mono ?_); rintro e w1 ⟨rfl, hg⟩))
      | (go_at_call 6; ((with_reducible refine (awake_any _).mono ?_); rintro e w2 ⟨rfl, hg2⟩)))
    go_ret
    refine ⟨rfl, ?_⟩
    repeat (first | exact Grown.refl _ | assumption | refine grown_trans ?_ (by assumption))
end Go.Proofs.Ytabacdgpmilniaa
