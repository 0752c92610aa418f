/-
  What is proved: the document's own Zig, Zag, Put, Int and Text of layer 1 (package lorgnetteref01) return the same as the program's; the world has new blocks at most.
-/
import Derived.Test.YtoanccojpppfoaaDoorM2
namespace Go.Proofs.YtoanccojpppfoaaDoor
open Go.RowKit

theorem rzig_any (n : Int) (w : World) (h1 : -9223372036854775808 ≤ n) (h2 : n ≤ 9223372036854775807) :
    Calls Tryd.prog 71 #[.int .i64 n] w fun e w' => e = .returned (.int .u64 (zigI n)) ∧ w = w' := by
  by_cases hneg : n < 0
  · go_enter Tryd.func71, Tryd.ntmps71
    go_wp2
    go_ret
    refine ⟨ret_int ?_, rfl⟩
    unfold zigI
    rw [if_pos (by omega)]
    omega
  · go_enter Tryd.func71, Tryd.ntmps71
    go_wp2
    go_ret
    refine ⟨ret_int ?_, rfl⟩
    unfold zigI
    rw [if_neg (by omega)]

theorem rzag_any (n : Int) (w : World) (h1 : 0 ≤ n) (h2 : n < 18446744073709551616) :
    Calls Tryd.prog 66 #[.int .u64 n] w fun e w' => e = .returned (.int .i64 (zagI n)) ∧ w = w' := by
  by_cases hodd : n % 2 = 1
  · have ht : (n % 2 == 1) = true := by simpa using hodd
    have H := Lib.hid hodd
    clear hodd
    go_enter Tryd.func66, Tryd.ntmps66
    go_wp2
    go_ret
    refine ⟨ret_int ?_, rfl⟩
    unfold zagI
    rw [if_pos H.out]
  · have ht : (n % 2 == 1) = false := by simpa using hodd
    go_enter Tryd.func66, Tryd.ntmps66
    go_wp2
    go_ret
    refine ⟨ret_int ?_, rfl⟩
    unfold zagI
    rw [if_neg (by omega)]

/-- At most f bytes ahead of the last one, as a text. -/
def putFS (f n : Nat) : ByteArray := ⟨(putF f n).toArray⟩

def byteS (z : Int) : ByteArray := ⟨#[UInt8.ofNat z.toNat]⟩
theorem byteS_size (z : Int) : (byteS z).size = 1 := rfl
theorem one_text (z : Int) (w : World) :
    (convert 75 9 (.slice (some ⟨w.heap.size, 0, none⟩) 1 1)).run Tryd.prog (w.alloc (.cells #[.int .u8 z] 5)) = .ok (.string (byteS z)) (w.alloc (.cells #[.int .u8 z] 5)) := by
  have hs : strOfNums [z] = byteS z := rfl
  rw [← hs]
  refine run_convert_bytes_arg _ 75 5 Tryd.underlying75 Tryd.underlying5 w.heap.size 0 1 1 [z] rfl ?_ 9 Tryd.underlying9
  intro i hi
  obtain rfl : i = 0 := by omega
  rw [World.cell?_alloc_new]
  rfl

theorem put_end (f : Nat) (b : ByteArray) (n : Int) (h : n < 128) : b ++ byteS n = b ++ putFS f n.toNat := by
  have : putF f n.toNat = [UInt8.ofNat n.toNat] := by
    cases f with
    | zero => rfl
    | succ f => simp only [putF]; rw [if_pos (by omega)]
  unfold putFS byteS
  rw [this]
theorem put_more (f : Nat) (b : ByteArray) (n : Int) (_h0 : 0 ≤ n) (h : ¬ n < 128) : b ++ byteS (128 + n % 128) ++ putFS f (n / 128).toNat = b ++ putFS (f + 1) n.toNat := by
  apply ba_ext
  rw [ba_app, ba_app, ba_app, List.append_assoc]
  congr 1
  show [UInt8.ofNat (128 + n % 128).toNat] ++ putF f (n / 128).toNat = putF (f + 1) n.toNat
  simp only [putF]
  rw [if_neg (by omega), show (128 + n % 128).toNat = 128 + n.toNat % 128 by omega, show (n / 128).toNat = n.toNat / 128 by omega]
  rfl

theorem rput_any (f : Nat) : ∀ (b : ByteArray) (n : Int) (w : World), f ≤ 9 → 0 ≤ n → n < 128 ^ (f + 1) → n < 18446744073709551616 → b.size ≤ 100000 + (9 - f) →
    Calls Tryd.prog 46 #[.string b, .int .u64 n] w fun e w' => e = .returned (.string (b ++ putFS f n.toNat)) ∧ Grown w w' := by
  induction f with
  | zero =>
    intro b n w hf h0 hn hn2 hb
    have hn' : n < 128 := by simpa using hn
    have h1 := one_text n w
    have h1s := byteS_size n
    have HE := Lib.hid (put_end 0 b n hn')
    clear hn
    go_enter Tryd.func46, Tryd.ntmps46
    go_wp2_with fail
    go_ret
    exact ⟨by rw [← HE.out]; rfl, (Grown.refl _).alloc _ _⟩
  | succ f ih =>
    intro b n w hf h0 hn hn2 hb
    by_cases hn' : n < 128
    · have h1 := one_text n w
      have h1s := byteS_size n
      have HE := Lib.hid (put_end (f + 1) b n hn')
      clear hn ih
      go_enter Tryd.func46, Tryd.ntmps46
      go_wp2_with fail
      go_ret
      exact ⟨by rw [← HE.out]; rfl, (Grown.refl _).alloc _ _⟩
    · have h1 := one_text (128 + n % 128) w
      have h1s := byteS_size (128 + n % 128)
      have HE := Lib.hid (put_more f b n h0 hn')
      have HN := Lib.hid hn
      have hsz : (b ++ byteS (128 + n % 128)).size ≤ 100000 + (9 - f) := by rw [ByteArray.size_append, h1s]; omega
      have hdv : n / 128 < 128 ^ (f + 1) := by
        have e : (128 : Int) ^ (f + 1 + 1) = 128 ^ (f + 1) * 128 := Int.pow_succ _ _
        rw [e] at hn
        exact Int.ediv_lt_of_lt_mul (by omega) hn
      have HI := Lib.hid (ih (b ++ byteS (128 + n % 128)) (n / 128) (w.alloc (.cells #[.int .u8 (128 + n % 128)] 5)) (by omega) (by omega) hdv (by omega) hsz)
      clear hn ih hdv
      go_enter Tryd.func46, Tryd.ntmps46
      go_wp2_with (go_at_call 46; ((with_reducible refine HI.out.mono ?_); rintro e w1 ⟨rfl, hg⟩))
      go_ret
      exact ⟨by rw [← HE.out]; rfl, grown_trans ((Grown.refl _).alloc _ _) (by assumption)⟩

theorem rput9 (b : ByteArray) (n : Int) (w : World) (h0 : 0 ≤ n) (h : n < 18446744073709551616) (hb : b.size ≤ 100000) :
    Calls Tryd.prog 46 #[.string b, .int .u64 n] w fun e w' => e = .returned (.string (b ++ putS n.toNat)) ∧ Grown w w' :=
  rput_any 9 b n w (by omega) h0 (Int.lt_trans h (by decide)) h (by omega)

theorem rint_any (b : ByteArray) (n : Int) (w : World) (h1 : -9223372036854775808 ≤ n) (h2 : n ≤ 9223372036854775807) (hb : b.size ≤ 100000) :
    Calls Tryd.prog 61 #[.string b, .int .i64 n] w fun e w' => e = .returned (.string (b ++ putS (zigI n).toNat)) ∧ Grown w w' := by
  have hz := zig_bd n h1 h2
  go_enter Tryd.func61, Tryd.ntmps61
  go_wp2_with (first | (go_at_call 71; refine (rzig_any _ _ h1 h2).mono ?_; rintro e w' ⟨rfl, rfl⟩) | (go_at_call 46; refine (rput9 _ _ _ hz.1 hz.2 hb).mono ?_; rintro e w1 ⟨rfl, hg⟩))
  go_ret
  exact ⟨rfl, by assumption⟩

theorem rtext_any (b s : ByteArray) (w : World) (hb : b.size ≤ 90000) (hs : s.size ≤ 90000) :
    Calls Tryd.prog 43 #[.string b, .string s] w fun e w' => e = .returned (.string (b ++ putS s.size ++ s)) ∧ Grown w w' := by
  have hp := putS_size s.size
  have hbp : (b ++ putS s.size).size ≤ 90010 := by rw [ByteArray.size_append]; omega
  go_enter Tryd.func43, Tryd.ntmps43
  go_wp2_with (go_at_call 46; ((with_reducible refine (rput9 _ _ _ (by omega) (by omega) (by omega)).mono ?_); rintro e w1 ⟨rfl, hg⟩; rw [Int.toNat_natCast]))
  go_ret
  exact ⟨rfl, by assumption⟩
end Go.Proofs.YtoanccojpppfoaaDoor
