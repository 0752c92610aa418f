/-
  What is proved: the Go function PathSays of layer 4's laws, called with any two texts and any int, returns true; the world has new blocks at most.
-/
import Derived.Test.YtepjhijnihjedaaPAwake
import Derived.Test.YtepjhijnihjedaaPSame
namespace Go.Proofs.Ytepjhijnihjedaa
open Go.RowKit

theorem joiS_splS (p : ByteArray) : joiS (splS p) = p := by
  unfold joiS
  rw [splS_list, joi_spl, ofL_back]
theorem splS_few (p : ByteArray) (hp : p.size ≤ 2000) : Few (splS p) := by
  have := splS_le p
  exact ⟨by omega, fun x hx => by have := splS_size p x hx; omega⟩
theorem join_split (p : ByteArray) (hp : p.size ≤ 2000) (b c : Nat) (w : World) (h : Sl w ⟨b, 0, none⟩ (splS p).length c (splS p)) :
    Calls Try.prog 10 #[.slice (some ⟨b, 0, none⟩) (splS p).length c] w fun e w' => e = .returned (.string p) ∧ Ke w w' := by
  have := join_any b 0 (splS p).length c (splS p) w h (splS_few p hp)
  rwa [joiS_splS] at this
theorem rright_c (p : ByteArray) (r : Bool) (hr : rightS p = r) (hp : p.size ≤ 1099511627776) (w : World) :
    Calls Try.prog 14 #[.string p] w fun e w' => e = .returned (.bool r) ∧ Ke w w' := by
  subst hr; exact rright_any p w hp
theorem rpat_c (p : ByteArray) (r : Bool) (hr : patS p = r) (hp : p.size ≤ 1099511627776) (w : World) :
    Calls Try.prog 16 #[.string p] w fun e w' => e = .returned (.bool r) ∧ Ke w w' := by
  subst hr; exact rpat_any p w hp
theorem rmat_c (p q : ByteArray) (r : Bool) (hr : matS p q = r) (hp : p.size ≤ 1099511627776) (hq : q.size ≤ 1099511627776) (w : World) :
    Calls Try.prog 20 #[.string p, .string q] w fun e w' => e = .returned (.bool r) ∧ Ke w w' := by
  subst hr; exact rmat_any p q w hp hq
theorem rswap0_c (p : ByteArray) (i : Int) (r : ByteArray) (hr : swapS p i [] = r) (hp : p.size ≤ 2000) (hi1 : -9223372036854775808 ≤ i) (hi2 : i ≤ 9223372036854775807) (w : World) :
    Calls Try.prog 24 #[.string p, .int .i64 i, .slice none 0 0] w fun e w' => e = .returned (.string r) ∧ Ke w w' := by
  subst hr; exact rswap_any p i none 0 0 [] w hp hi1 hi2 (.inl ⟨rfl, rfl, rfl, rfl⟩) (by omega) (fun x hx => by simp at hx)
theorem rswap2_c (p : ByteArray) (i : Int) (x y r : ByteArray) (hr : swapS p i [x, y] = r) (hp : p.size ≤ 2000) (hi1 : -9223372036854775808 ≤ i) (hi2 : i ≤ 9223372036854775807) (hx : x.size ≤ 2000) (hy : y.size ≤ 2000) (w : World) :
    Calls Try.prog 24 #[.string p, .int .i64 i, .slice (some ⟨w.heap.size, 0, none⟩) 2 2] (w.alloc (.cells #[.string x, .string y] 9)) fun e w' => e = .returned (.string r) ∧ Ke w w' := by
  subst hr
  exact (rswap_any p i _ 2 2 [x, y] _ hp hi1 hi2 (.inr ⟨_, rfl, sl_lit2 w x y⟩) (by omega) (fun z hz => by
    simp only [List.mem_cons, List.not_mem_nil, or_false] at hz
    rcases hz with rfl | rfl
    · exact hx
    · exact hy)).mono fun e w' ⟨he, hk⟩ => ⟨he, ((Ke.refl w).alloc _).trans hk⟩

set_option maxRecDepth 100000 in
set_option maxHeartbeats 4000000 in
theorem says_walk (p q : ByteArray) (i : Int) (w : World) (h1 : -9223372036854775808 ≤ i) (h2 : i ≤ 9223372036854775807) (hp : p.size ≤ 9223372036854775807) (hq : q.size ≤ 9223372036854775807) :
    Calls Try.prog 3 #[.string p, .string q, .int .i64 i] w fun e w' => e = .returned (.bool true) ∧ Ke w w' := by
  by_cases hp2 : 200 < p.size
  · go_enter Try.func3, Try.ntmps3
    go_wp2_with (go_at_call 6; ((with_reducible refine (awake_any _).mono ?_); rintro e w2 ⟨rfl, hg2⟩))
    go_ret
    exact ⟨rfl, by assumption⟩
  by_cases hq2 : 200 < q.size
  · go_enter Try.func3, Try.ntmps3
    go_wp2_with (go_at_call 6; ((with_reducible refine (awake_any _).mono ?_); rintro e w2 ⟨rfl, hg2⟩))
    go_ret
    exact ⟨rfl, by assumption⟩
  have p2 : p.size ≤ 200 := by omega
  have q2 : q.size ≤ 200 := by omega
  clear hp2 hq2 hp hq
  obtain ⟨r1, H1⟩ : ∃ r, segS p = r := ⟨_, rfl⟩
  obtain ⟨r2, H2⟩ : ∃ r, rightS p = r := ⟨_, rfl⟩
  obtain ⟨r3, H3⟩ : ∃ r, patS p = r := ⟨_, rfl⟩
  obtain ⟨r4, H4⟩ : ∃ r, begS p q = r := ⟨_, rfl⟩
  obtain ⟨r5, H5⟩ : ∃ r, matS p q = r := ⟨_, rfl⟩
  obtain ⟨r6, H6⟩ : ∃ r, apS p q = r := ⟨_, rfl⟩
  obtain ⟨x7, H7⟩ : ∃ r, swapS p i [q, ⟨#[120]⟩] = r := ⟨_, rfl⟩
  obtain ⟨x8, H8⟩ : ∃ r, swapS p i [] = r := ⟨_, rfl⟩
  have A0 := Lib.hid (fun w => seg_c p r1 H1 (by omega) w)
  have A1 := Lib.hid (fun w => rseg_c p r1 H1 (by omega) w)
  have A2 := Lib.hid (fun w => right_c p r2 H2 (by omega) w)
  have A3 := Lib.hid (fun w => rright_c p r2 H2 (by omega) w)
  have A4 := Lib.hid (fun w => pat_c p r3 H3 (by omega) w)
  have A5 := Lib.hid (fun w => rpat_c p r3 H3 (by omega) w)
  have A6 := Lib.hid (fun w => beg_any_c p q r4 H4 (by omega) (by omega) w)
  have A7 := Lib.hid (fun w => rbeg_any_c p q r4 H4 (by omega) (by omega) w)
  have A8 := Lib.hid (fun w => mat_c p q r5 H5 (by omega) (by omega) w)
  have A9 := Lib.hid (fun w => rmat_c p q r5 H5 (by omega) (by omega) w)
  have A10 := Lib.hid (fun w => ap_any_c p q r6 H6 (by omega) (by omega) w)
  have A11 := Lib.hid (fun w => rap_any_c p q r6 H6 (by omega) (by omega) w)
  have A12 := Lib.hid (fun w => swap2_c p i q ⟨#[120]⟩ x7 H7 (by omega) h1 h2 (by omega) (by decide) w)
  have A13 := Lib.hid (fun w => rswap2_c p i q ⟨#[120]⟩ x7 H7 (by omega) h1 h2 (by omega) (by decide) w)
  have A14 := Lib.hid (fun w => swap0_c p i x8 H8 (by omega) h1 h2 w)
  have A15 := Lib.hid (fun w => rswap0_c p i x8 H8 (by omega) h1 h2 w)
  have A16 := Lib.hid (fun w => awake_any w)
  clear H1 H2 H3 H4 H5 H6 H7 H8
  go_enter Try.func3, Try.ntmps3
  go_wp2_with fail
  go_at_call 8
  refine (split_any p _ (by omega)).mono ?_
  rintro e w1 ⟨b1, c1, rfl, hs1, hbb1, hk1⟩
  have HS1 := Lib.hid hs1
  have HK1 := Lib.hid hk1
  clear hs1 hk1 hbb1
  go_wp2_with fail
  go_at_call 9
  refine (rsplit_any p _ (by omega)).mono ?_
  rintro e w2 ⟨b2, c2, rfl, hs2, hbb2, hk2⟩
  have HM := Lib.hid (same_yes b1 0 c1 b2 0 c2 _ _ w2 (HS1.out.ke hk2) hs2)
  have HK2 := Lib.hid (HK1.out.trans hk2)
  clear hs2 hk2 hbb2 HS1 HK1
  go_wp2_with fail
  go_at_call 7
  refine HM.out.mono ?_
  rintro e w3 ⟨rfl, hk3⟩
  have HK3 := Lib.hid (HK2.out.trans hk3)
  clear hk3 HK2 HM
  go_wp2_with fail
  go_at_call 8
  refine (split_any p _ (by omega)).mono ?_
  rintro e w4 ⟨b4, c4, rfl, hs4, hbb4, hk4⟩
  have HJ := Lib.hid (join_split p (by omega) b4 c4 w4 hs4)
  have HK4 := Lib.hid (HK3.out.trans hk4)
  clear hs4 hk4 hbb4 HK3
  go_wp2_with fail
  go_at_call 10
  refine HJ.out.mono ?_
  rintro e w5 ⟨rfl, hk5⟩
  have HK5 := Lib.hid (HK4.out.trans hk5)
  clear hk5 HK4 HJ
  go_wp2_with (first
    | (go_at_call 11; ((with_reducible refine (A0.out _).mono ?_); rintro e w1 ⟨rfl, hg⟩))
    | (go_at_call 12; ((with_reducible refine (A1.out _).mono ?_); rintro e w1 ⟨rfl, hg⟩))
    | (go_at_call 13; ((with_reducible refine (A2.out _).mono ?_); rintro e w1 ⟨rfl, hg⟩))
    | (go_at_call 14; ((with_reducible refine (A3.out _).mono ?_); rintro e w1 ⟨rfl, hg⟩))
    | (go_at_call 15; ((with_reducible refine (A4.out _).mono ?_); rintro e w1 ⟨rfl, hg⟩))
    | (go_at_call 16; ((with_reducible refine (A5.out _).mono ?_); rintro e w1 ⟨rfl, hg⟩))
    | (go_at_call 17; ((with_reducible refine (A6.out _).mono ?_); rintro e w1 ⟨rfl, hg⟩))
    | (go_at_call 18; ((with_reducible refine (A7.out _).mono ?_); rintro e w1 ⟨rfl, hg⟩))
    | (go_at_call 19; ((with_reducible refine (A8.out _).mono ?_); rintro e w1 ⟨rfl, hg⟩))
    | (go_at_call 20; ((with_reducible refine (A9.out _).mono ?_); rintro e w1 ⟨rfl, hg⟩))
    | (go_at_call 21; ((with_reducible refine (A10.out _).mono ?_); rintro e w1 ⟨rfl, hg⟩))
    | (go_at_call 22; ((with_reducible refine (A11.out _).mono ?_); rintro e w1 ⟨rfl, hg⟩))
    | (go_at_call 23; ((with_reducible refine (A12.out _).mono ?_); rintro e w1 ⟨rfl, hg⟩))
    | (go_at_call 24; ((with_reducible refine (A13.out _).mono ?_); rintro e w1 ⟨rfl, hg⟩))
    | (go_at_call 23; ((with_reducible refine (A14.out _).mono ?_); rintro e w1 ⟨rfl, hg⟩))
    | (go_at_call 24; ((with_reducible refine (A15.out _).mono ?_); rintro e w1 ⟨rfl, hg⟩))
    | (go_at_call 6; ((with_reducible refine (A16.out _).mono ?_); rintro e w1 ⟨rfl, hg⟩)))
  go_ret
  refine ⟨rfl, HK5.out.trans ?_⟩
  repeat (first | exact Ke.refl _ | assumption | refine Ke.trans ?_ (by assumption))
end Go.Proofs.Ytepjhijnihjedaa
