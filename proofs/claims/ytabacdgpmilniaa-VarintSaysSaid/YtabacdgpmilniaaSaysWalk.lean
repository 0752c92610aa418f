/-
  What is proved: the Go function VarintSays of layer 1's laws, called with any uint64, text and pair of ints, returns true; the world has new blocks at most.
-/
import Derived.Test.YtabacdgpmilniaaRefB
namespace Go.Proofs.Ytabacdgpmilniaa
open Go.RowKit

theorem grown_box {w w1 : World} {c : Array Value} {t : TypeId} (hg : Grown (w.alloc (.cells c t)) w1) (i : Nat) (v : Value) (hv : c[i]? = some v) : w1.cell? ⟨w.heap.size, i, none⟩ = some v := by
  rw [hg.1.cell (by simp) (by simp), World.cell?_alloc_new]
  exact hv
theorem rputn (b : ByteArray) (n : Nat) (w : World) (h : n < 18446744073709551616) (hb : b.size ≤ 1000) :
    Calls Try.prog 14 #[.string b, .int .u64 n] w fun e w' => e = .returned (.string (b ++ putS n)) ∧ Grown w w' := by
  have := rput9 b n w (by omega) (by omega) hb
  rw [Int.toNat_natCast] at this
  exact this

set_option maxRecDepth 100000 in
set_option maxHeartbeats 4000000 in
theorem says_walk (n : Nat) (s : ByteArray) (x0 x1 : Int) (w : World) (hn : n < 18446744073709551616) (hs : s.size ≤ 9223372036854775807)
    (a1 : -9223372036854775808 ≤ x0) (a2 : x0 ≤ 9223372036854775807) (b1 : -9223372036854775808 ≤ x1) (b2 : x1 ≤ 9223372036854775807) :
    Calls Try.prog 3 #[.int .u64 n, .string s, .agg #[.int .i64 x0, .int .i64 x1]] w fun e w' => e = .returned (.bool true) ∧ Grown w w' := by
  have hG := Grown.refl (w.alloc (.cells #[.int .i64 x0, .int .i64 x1] 23))
  have hc0 := grown_box hG 0 (.int .i64 x0) rfl
  have hc1 := grown_box hG 1 (.int .i64 x1) rfl
  by_cases h6 : 600 < s.size
  · go_enter Try.func3, Try.ntmps3
    go_wp2_with (go_at_call 6; ((with_reducible refine (awake_any _).mono ?_); rintro e w1 ⟨rfl, hg⟩; (replace hG := grown_trans hG hg); clear hg; (replace hc0 := grown_box hG 0 (.int .i64 x0) rfl); (replace hc1 := grown_box hG 1 (.int .i64 x1) rfl)))
    go_ret
    exact ⟨rfl, grown_trans ((Grown.refl _).alloc _ _) hG⟩
  have Hhs9 : RowKit.Hid (s.size ≤ 9223372036854775807) := by
    have h : s.size ≤ 9223372036854775807 := by omega
    exact h
  have hs1 : s.size ≤ 1000 := by omega
  have h600 : s.size ≤ 600 := by omega
  have h601 : decide (600 < (s.size : Int)) = false := by simp; omega
  clear h6
  have Hhs62 : RowKit.Hid (s.size ≤ 4611686018427387904) := by
    have h : s.size ≤ 4611686018427387904 := by omega
    exact h
  have Hhs61 : RowKit.Hid (s.size ≤ 2305843009213693952) := by
    have h : s.size ≤ 2305843009213693952 := by omega
    exact h
  have Hhn0 : RowKit.Hid (0 ≤ (n : Int)) := by
    have h : 0 ≤ (n : Int) := by omega
    exact h
  have Hhn1 : RowKit.Hid ((n : Int) < 18446744073709551616) := by
    have h : (n : Int) < 18446744073709551616 := by omega
    exact h
  clear hs
  go_enter Try.func3, Try.ntmps3
  go_wp2_with (first
    | (go_at_call 7; ((with_reducible refine (take_any s _ Hhs9.out).mono ?_); rintro e w1 ⟨rfl, hg⟩; (replace hG := grown_trans hG hg); clear hg; (replace hc0 := grown_box hG 0 (.int .i64 x0) rfl); (replace hc1 := grown_box hG 1 (.int .i64 x1) rfl)))
    | (go_at_call 8; ((with_reducible refine (rtake_any s _ hs1).mono ?_); rintro e w1 ⟨rfl, hg⟩; (replace hG := grown_trans hG hg); clear hg; (replace hc0 := grown_box hG 0 (.int .i64 x0) rfl); (replace hc1 := grown_box hG 1 (.int .i64 x1) rfl)))
    | (go_at_call 9; ((with_reducible refine (takeInt_any s _ Hhs9.out).mono ?_); rintro e w1 ⟨rfl, hg⟩; (replace hG := grown_trans hG hg); clear hg; (replace hc0 := grown_box hG 0 (.int .i64 x0) rfl); (replace hc1 := grown_box hG 1 (.int .i64 x1) rfl)))
    | (go_at_call 10; ((with_reducible refine (rtakeInt_any s _ hs1).mono ?_); rintro e w1 ⟨rfl, hg⟩; (replace hG := grown_trans hG hg); clear hg; (replace hc0 := grown_box hG 0 (.int .i64 x0) rfl); (replace hc1 := grown_box hG 1 (.int .i64 x1) rfl)))
    | (go_at_call 11; ((with_reducible refine (takeText_any s x1 _ Hhs9.out b1 b2).mono ?_); rintro e w1 ⟨rfl, hg⟩; (replace hG := grown_trans hG hg); clear hg; (replace hc0 := grown_box hG 0 (.int .i64 x0) rfl); (replace hc1 := grown_box hG 1 (.int .i64 x1) rfl)))
    | (go_at_call 12; ((with_reducible refine (rtakeText_any s x1 _ hs1 b1 b2).mono ?_); rintro e w1 ⟨rfl, hg⟩; (replace hG := grown_trans hG hg); clear hg; (replace hc0 := grown_box hG 0 (.int .i64 x0) rfl); (replace hc1 := grown_box hG 1 (.int .i64 x1) rfl)))
    | (go_at_call 13; ((with_reducible refine (put_any s n _ hn Hhs62.out).mono ?_); rintro e w1 ⟨rfl, hg⟩; (replace hG := grown_trans hG hg); clear hg; (replace hc0 := grown_box hG 0 (.int .i64 x0) rfl); (replace hc1 := grown_box hG 1 (.int .i64 x1) rfl)))
    | (go_at_call 14; ((with_reducible refine (rputn s n _ hn hs1).mono ?_); rintro e w1 ⟨rfl, hg⟩; (replace hG := grown_trans hG hg); clear hg; (replace hc0 := grown_box hG 0 (.int .i64 x0) rfl); (replace hc1 := grown_box hG 1 (.int .i64 x1) rfl)))
    | (go_at_call 15; ((with_reducible refine (int_any s x0 _ a1 a2 Hhs62.out).mono ?_); rintro e w1 ⟨rfl, hg⟩; (replace hG := grown_trans hG hg); clear hg; (replace hc0 := grown_box hG 0 (.int .i64 x0) rfl); (replace hc1 := grown_box hG 1 (.int .i64 x1) rfl)))
    | (go_at_call 16; ((with_reducible refine (rint_any s x0 _ a1 a2 hs1).mono ?_); rintro e w1 ⟨rfl, hg⟩; (replace hG := grown_trans hG hg); clear hg; (replace hc0 := grown_box hG 0 (.int .i64 x0) rfl); (replace hc1 := grown_box hG 1 (.int .i64 x1) rfl)))
    | (go_at_call 17; ((with_reducible refine (text_any s s _ Hhs61.out Hhs61.out).mono ?_); rintro e w1 ⟨rfl, hg⟩; (replace hG := grown_trans hG hg); clear hg; (replace hc0 := grown_box hG 0 (.int .i64 x0) rfl); (replace hc1 := grown_box hG 1 (.int .i64 x1) rfl)))
    | (go_at_call 18; ((with_reducible refine (rtext_any s s _ hs1 hs1).mono ?_); rintro e w1 ⟨rfl, hg⟩; (replace hG := grown_trans hG hg); clear hg; (replace hc0 := grown_box hG 0 (.int .i64 x0) rfl); (replace hc1 := grown_box hG 1 (.int .i64 x1) rfl)))
    | (go_at_call 19; ((with_reducible refine (zig_any x0 _ a1 a2).mono ?_); rintro e w1 ⟨rfl, rfl⟩))
    | (go_at_call 20; ((with_reducible refine (rzig_any x0 _ a1 a2).mono ?_); rintro e w1 ⟨rfl, rfl⟩))
    | (go_at_call 21; ((with_reducible refine (zag_any n _ Hhn0.out Hhn1.out).mono ?_); rintro e w1 ⟨rfl, rfl⟩))
    | (go_at_call 22; ((with_reducible refine (rzag_any n _ Hhn0.out Hhn1.out).mono ?_); rintro e w1 ⟨rfl, rfl⟩))
    | (go_at_call 6; ((with_reducible refine (awake_any _).mono ?_); rintro e w1 ⟨rfl, hg⟩; (replace hG := grown_trans hG hg); clear hg; (replace hc0 := grown_box hG 0 (.int .i64 x0) rfl); (replace hc1 := grown_box hG 1 (.int .i64 x1) rfl))))
  have HG := Lib.hid hG
  have hld := Ext.cell (W := _) hc0
  clear hc0 hc1 hG
  dsimp only [List.append]
  refine region_ext _ (by kernel_rfl) (by kernel_rfl) (Grown.refl _) ?_
  repeat (go_big_quiet_step ((first
    | (go_at_call 13; (with_reducible exact Ext.calls (put_any s n _ hn Hhs62.out)))
    | (go_at_call 14; (with_reducible exact Ext.calls (rputn s n _ hn hs1)))
    | (go_at_call 15; (with_reducible exact Ext.calls (int_any s x0 _ a1 a2 Hhs62.out)))
    | (go_at_call 16; (with_reducible exact Ext.calls (rint_any s x0 _ a1 a2 hs1)))
    | (go_at_call 17; (with_reducible exact Ext.calls (text_any s s _ Hhs61.out Hhs61.out)))
    | (go_at_call 18; (with_reducible exact Ext.calls (rtext_any s s _ hs1 hs1)))
    | (go_at_call 19; (with_reducible exact Ext.same (zig_any x0 _ a1 a2)))
    | (go_at_call 20; (with_reducible exact Ext.same (rzig_any x0 _ a1 a2)))
    | (go_at_call 21; (with_reducible exact Ext.same (zag_any n _ Hhn0.out Hhn1.out)))
    | (go_at_call 22; (with_reducible exact Ext.same (rzag_any n _ Hhn0.out Hhn1.out)))
    | (go_at_call 6; (with_reducible exact Ext.calls (awake_any _))))))
  refine wpQuiet_nil ?_
  intro g
  go_wp2_with fail
  go_ret
  exact ⟨rfl, grown_trans ((Grown.refl _).alloc _ _) (grown_trans HG.out g.g)⟩
end Go.Proofs.Ytabacdgpmilniaa
