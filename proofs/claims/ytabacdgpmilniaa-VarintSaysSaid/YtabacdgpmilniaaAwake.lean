/-
  What is proved: the helper 'awake' of layer 1's laws returns true; the world has new blocks at most.
-/
import Derived.Test.YtabacdgpmilniaaMore
namespace Go.Proofs.Ytabacdgpmilniaa
open Go.RowKit

theorem take_c (s : ByteArray) (n : Int) (r : ByteArray) (k : Int) (hn : (tkN s : Int) = n) (hr : tkR s = r) (hk : (tkE s : Int) = k) (hs : s.size ≤ 9223372036854775807) (w : World) :
    Calls Try.prog 7 #[.string s] w fun e w' => e = .returned (.tuple #[.int .u64 n, .string r, .int .i64 k]) ∧ Grown w w' := by
  subst hn hr hk; exact take_any s w hs
theorem takeInt_c (s : ByteArray) (n : Int) (r : ByteArray) (k : Int) (hn : tiN s = n) (hr : tkR s = r) (hk : (tkE s : Int) = k) (hs : s.size ≤ 9223372036854775807) (w : World) :
    Calls Try.prog 9 #[.string s] w fun e w' => e = .returned (.tuple #[.int .i64 n, .string r, .int .i64 k]) ∧ Grown w w' := by
  subst hn hr hk; exact takeInt_any s w hs
theorem takeText_c (s : ByteArray) (m : Int) (t : ByteArray) (r : ByteArray) (k : Int) (hn : ttT s m = t) (hr : ttR s m = r) (hk : (ttE s m : Int) = k) (hs : s.size ≤ 9223372036854775807) (h0 : -9223372036854775808 ≤ m) (h1 : m ≤ 9223372036854775807) (w : World) :
    Calls Try.prog 11 #[.string s, .int .i64 m] w fun e w' => e = .returned (.tuple #[.string t, .string r, .int .i64 k]) ∧ Grown w w' := by
  subst hn hr hk; exact takeText_any s m w hs h0 h1

theorem c1 (w : World) : Calls Try.prog 7 #[.string ⟨#[172, 2, 120]⟩] w fun e w' => e = .returned (.tuple #[.int .u64 300, .string ⟨#[120]⟩, .int .i64 0]) ∧ Grown w w' :=
  take_c ⟨#[172, 2, 120]⟩ 300 ⟨#[120]⟩ 0 (by decide) (by decide) (by decide) (by decide) w
theorem c2 (w : World) : Calls Try.prog 7 #[.string ⟨#[128, 0]⟩] w fun e w' => e = .returned (.tuple #[.int .u64 0, .string ⟨#[]⟩, .int .i64 3]) ∧ Grown w w' :=
  take_c ⟨#[128, 0]⟩ 0 ⟨#[]⟩ 3 (by decide) (by decide) (by decide) (by decide) w
theorem c3 (w : World) : Calls Try.prog 7 #[.string ⟨#[128]⟩] w fun e w' => e = .returned (.tuple #[.int .u64 0, .string ⟨#[]⟩, .int .i64 2]) ∧ Grown w w' :=
  take_c ⟨#[128]⟩ 0 ⟨#[]⟩ 2 (by decide) (by decide) (by decide) (by decide) w
theorem c4 (w : World) : Calls Try.prog 7 #[.string ⟨#[255, 255, 255, 255, 255, 255, 255, 255, 255, 2]⟩] w fun e w' => e = .returned (.tuple #[.int .u64 0, .string ⟨#[]⟩, .int .i64 4]) ∧ Grown w w' :=
  take_c ⟨#[255, 255, 255, 255, 255, 255, 255, 255, 255, 2]⟩ 0 ⟨#[]⟩ 4 (by decide) (by decide) (by decide) (by decide) w
theorem c5 (w : World) : Calls Try.prog 11 #[.string ⟨#[2, 97, 98, 99]⟩, .int .i64 2] w fun e w' => e = .returned (.tuple #[.string ⟨#[97, 98]⟩, .string ⟨#[99]⟩, .int .i64 0]) ∧ Grown w w' :=
  takeText_c ⟨#[2, 97, 98, 99]⟩ 2 ⟨#[97, 98]⟩ ⟨#[99]⟩ 0 (by decide) (by decide) (by decide) (by decide) (by decide) (by decide) w
theorem c6 (w : World) : Calls Try.prog 11 #[.string ⟨#[2, 97, 98, 99]⟩, .int .i64 1] w fun e w' => e = .returned (.tuple #[.string ⟨#[]⟩, .string ⟨#[]⟩, .int .i64 4]) ∧ Grown w w' :=
  takeText_c ⟨#[2, 97, 98, 99]⟩ 1 ⟨#[]⟩ ⟨#[]⟩ 4 (by decide) (by decide) (by decide) (by decide) (by decide) (by decide) w
theorem c7 (w : World) : Calls Try.prog 9 #[.string ⟨#[3]⟩] w fun e w' => e = .returned (.tuple #[.int .i64 (-2), .string ⟨#[]⟩, .int .i64 0]) ∧ Grown w w' :=
  takeInt_c ⟨#[3]⟩ (-2) ⟨#[]⟩ 0 (by decide) (by decide) (by decide) (by decide) w
theorem c8 (w : World) : Calls Try.prog 13 #[.string ⟨#[97]⟩, .int .u64 300] w fun e w' => e = .returned (.string ⟨#[97, 172, 2]⟩) ∧ Grown w w' :=
  put_any ⟨#[97]⟩ 300 w (by decide) (by decide)
theorem c9 (w : World) : Calls Try.prog 19 #[.int .i64 (-1)] w fun e w' => e = .returned (.int .u64 1) ∧ w = w' :=
  zig_any (-1) w (by decide) (by decide)
theorem c10 (w : World) : Calls Try.prog 21 #[.int .u64 2] w fun e w' => e = .returned (.int .i64 1) ∧ w = w' :=
  zag_any 2 w (by decide) (by decide)
theorem c11 (w : World) : Calls Try.prog 17 #[.string ⟨#[]⟩, .string ⟨#[97, 98]⟩] w fun e w' => e = .returned (.string ⟨#[2, 97, 98]⟩) ∧ Grown w w' :=
  text_any ⟨#[]⟩ ⟨#[97, 98]⟩ w (by decide) (by decide)
theorem c12 (w : World) : Calls Try.prog 15 #[.string ⟨#[]⟩, .int .i64 (-1)] w fun e w' => e = .returned (.string ⟨#[1]⟩) ∧ Grown w w' :=
  int_any ⟨#[]⟩ (-1) w (by decide) (by decide) (by decide)

set_option maxRecDepth 100000 in
set_option maxHeartbeats 1000000 in
theorem awake_any (w : World) :
    Calls Try.prog 6 #[] w fun e w' => e = .returned (.bool true) ∧ Grown w w' := by
  go_enter Try.func6, Try.ntmps6
  go_wp2_with (first
    | (go_at_call 7; ((with_reducible refine (c1 _).mono ?_); rintro e w1 ⟨rfl, hg⟩))
    | (go_at_call 7; ((with_reducible refine (c2 _).mono ?_); rintro e w1 ⟨rfl, hg⟩))
    | (go_at_call 7; ((with_reducible refine (c3 _).mono ?_); rintro e w1 ⟨rfl, hg⟩))
    | (go_at_call 7; ((with_reducible refine (c4 _).mono ?_); rintro e w1 ⟨rfl, hg⟩))
    | (go_at_call 11; ((with_reducible refine (c5 _).mono ?_); rintro e w1 ⟨rfl, hg⟩))
    | (go_at_call 11; ((with_reducible refine (c6 _).mono ?_); rintro e w1 ⟨rfl, hg⟩))
    | (go_at_call 9; ((with_reducible refine (c7 _).mono ?_); rintro e w1 ⟨rfl, hg⟩))
    | (go_at_call 13; ((with_reducible refine (c8 _).mono ?_); rintro e w1 ⟨rfl, hg⟩))
    | (go_at_call 19; ((with_reducible refine (c9 _).mono ?_); rintro e w1 ⟨rfl, rfl⟩))
    | (go_at_call 21; ((with_reducible refine (c10 _).mono ?_); rintro e w1 ⟨rfl, rfl⟩))
    | (go_at_call 17; ((with_reducible refine (c11 _).mono ?_); rintro e w1 ⟨rfl, hg⟩))
    | (go_at_call 15; ((with_reducible refine (c12 _).mono ?_); rintro e w1 ⟨rfl, hg⟩)))
  go_ret
  refine ⟨rfl, ?_⟩
  repeat (first | exact Grown.refl _ | assumption | refine grown_trans ?_ (by assumption))
end Go.Proofs.Ytabacdgpmilniaa
