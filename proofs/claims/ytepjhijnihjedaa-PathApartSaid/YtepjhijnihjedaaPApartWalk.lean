/-
  What is proved: the Go function PathApart of layer 4's laws, called with any three texts, returns true; the world has new blocks at most.
-/
import Derived.Test.YtepjhijnihjedaaPAwake
namespace Go.Proofs.Ytepjhijnihjedaa
open Go.RowKit

theorem ap_comm (a b : ByteArray) : apS b a = apS a b := apL_comm _ _
theorem mat_self (p : ByteArray) : matS p p = true := matL_self _
theorem ap_beg (p a b : ByteArray) (h1 : apS a b = true) (h2 : begS p a = true) : begS p b = false := by
  cases h : begS p b with
  | false => rfl
  | true => exact (apart_not _ _ _ h1 h2 h).elim
theorem right_all {p : ByteArray} (h : rightS p = true) : (spl p.data.toList).all segL = true := by
  unfold rightS rightL at h
  rw [Bool.and_eq_true] at h
  exact h.1
theorem ap_right (a p : ByteArray) (h1 : rightS a = true) (h2 : rightS p = true) (hl : (splS a).length = (splS p).length) : apS a p = (a.toList != p.toList) := by
  unfold apS
  rw [apL_right _ _ (by rw [spl_length, spl_length]; exact hl) (right_all h1) (right_all h2), Lib.toList_data, Lib.toList_data]
  by_cases e : a.data.toList = p.data.toList
  · rw [e]; simp
  · rw [bne_iff_ne.2 e]
    exact bne_iff_ne.2 fun h => e (by rw [← joi_spl a.data.toList, h, joi_spl])

set_option maxRecDepth 100000 in
set_option maxHeartbeats 40000000 in
theorem apart_core (p a b : ByteArray) (w : World) (hp : p.size ≤ 200) (ha : a.size ≤ 200) (hb : b.size ≤ 200) (hr : rightS p = true)
    (x1 : Bool) (hx : apS a b = x1) (y1 : Bool) (hy : begS p a = y1) (ra : Bool) (hra : rightS a = ra) (z : Bool) (hz : apS a p = z)
    (hc1 : x1 = false ∨ (x1 = true ∧ y1 = false) ∨ (x1 = true ∧ y1 = true ∧ begS p b = false))
    (hc2 : ra = false ∨ (ra = true ∧ ¬ (splS a).length = (splS p).length) ∨ (ra = true ∧ (splS a).length = (splS p).length ∧ (a.toList != p.toList) = z ∧ (a.toList == p.toList) = !z)) :
    Calls Try.prog 4 #[.string p, .string a, .string b] w fun e w' => e = .returned (.bool true) ∧ Ke w w' := by
  have hl1 := splS_le p
  have hl2 := splS_le a
  have A0 := Lib.hid (fun w => right_c p true hr (by omega) w)
  have A1 := Lib.hid (fun w => mat_c p p true (mat_self p) (by omega) (by omega) w)
  have A4 := Lib.hid (fun w => split_n a _ rfl (by omega) w)
  have A5 := Lib.hid (fun w => split_n p _ rfl (by omega) w)
  have A6 := Lib.hid (fun w => ap_any_c a p z hz (by omega) (by omega) w)
  have A7 := Lib.hid (fun w => awake_any w)
  have A8 := Lib.hid (fun w => right_c a ra hra (by omega) w)
  have A2 := Lib.hid (fun w => ap_any_c a b x1 hx (by omega) (by omega) w)
  have A3 := Lib.hid (fun w => ap_any_c b a x1 (by rw [ap_comm]; exact hx) (by omega) (by omega) w)
  have A9 := Lib.hid (fun w => beg_any_c p a y1 hy (by omega) (by omega) w)
  have A10 := Lib.hid (fun (h : begS p b = false) w => beg_any_c p b false h (by omega) (by omega) w)
  clear hr hx hy hra hz
  rcases hc1 with h1 | ⟨h1, h2⟩ | ⟨h1, h2, h3⟩ <;> rcases hc2 with g1 | ⟨g1, g2⟩ | ⟨g1, g2, g3, g4⟩
  all_goals subst h1; subst g1
  all_goals (first | subst h2 | skip)
  all_goals (first | (cases z <;> simp only [Bool.not_false, Bool.not_true] at g4) | skip)
  all_goals (first | (have B10 := Lib.hid (A10.out h3); clear h3) | skip)
  all_goals (first
    | (have d1 : (((splS a).length : Int) == ((splS p).length : Int)) = true := beq_iff_eq.2 (by omega)
       have d2 : ((splS a).length == (splS p).length) = true := beq_iff_eq.2 g2
       clear g2)
    | (have d1 : (((splS a).length : Int) == ((splS p).length : Int)) = false := beq_eq_false_iff_ne.2 (by omega)
       have d2 : ((splS a).length == (splS p).length) = false := beq_eq_false_iff_ne.2 g2
       clear g2)
    | skip)
  all_goals
    go_enter Try.func4, Try.ntmps4
    go_wp2_with (first
      | (go_at_call 13; ((with_reducible refine (A0.out _).mono ?_); rintro e w1 ⟨rfl, hg⟩))
      | (go_at_call 19; ((with_reducible refine (A1.out _).mono ?_); rintro e w1 ⟨rfl, hg⟩))
      | (go_at_call 21; ((with_reducible refine (A2.out _).mono ?_); rintro e w1 ⟨rfl, hg⟩))
      | (go_at_call 21; ((with_reducible refine (A3.out _).mono ?_); rintro e w1 ⟨rfl, hg⟩))
      | (go_at_call 17; ((with_reducible refine (A9.out _).mono ?_); rintro e w1 ⟨rfl, hg⟩))
      | (go_at_call 17; ((with_reducible refine (B10.out _).mono ?_); rintro e w1 ⟨rfl, hg⟩))
      | (go_at_call 13; ((with_reducible refine (A8.out _).mono ?_); rintro e w1 ⟨rfl, hg⟩))
      | (go_at_call 8; ((with_reducible refine (A4.out _).mono ?_); rintro e w1 ⟨bx, cx, rfl, hg⟩))
      | (go_at_call 8; ((with_reducible refine (A5.out _).mono ?_); rintro e w1 ⟨bx, cx, rfl, hg⟩))
      | (go_at_call 21; ((with_reducible refine (A6.out _).mono ?_); rintro e w1 ⟨rfl, hg⟩))
      | (go_at_call 6; ((with_reducible refine (A7.out _).mono ?_); rintro e w1 ⟨rfl, hg⟩)))
    go_ret
    refine ⟨rfl, ?_⟩
    repeat (first | exact Ke.refl _ | assumption | refine Ke.trans ?_ (by assumption))

set_option maxRecDepth 100000 in
set_option maxHeartbeats 4000000 in
theorem apart_walk (p a b : ByteArray) (w : World) (hp : p.size ≤ 9223372036854775807) (ha : a.size ≤ 9223372036854775807) (hb : b.size ≤ 9223372036854775807) :
    Calls Try.prog 4 #[.string p, .string a, .string b] w fun e w' => e = .returned (.bool true) ∧ Ke w w' := by
  by_cases p2 : 200 < p.size
  · go_enter Try.func4, Try.ntmps4
    go_wp2_with (go_at_call 6; ((with_reducible refine (awake_any _).mono ?_); rintro e w2 ⟨rfl, hg2⟩))
    go_ret
    exact ⟨rfl, by assumption⟩
  by_cases a2 : 200 < a.size
  · go_enter Try.func4, Try.ntmps4
    go_wp2_with (go_at_call 6; ((with_reducible refine (awake_any _).mono ?_); rintro e w2 ⟨rfl, hg2⟩))
    go_ret
    exact ⟨rfl, by assumption⟩
  by_cases b2 : 200 < b.size
  · go_enter Try.func4, Try.ntmps4
    go_wp2_with (go_at_call 6; ((with_reducible refine (awake_any _).mono ?_); rintro e w2 ⟨rfl, hg2⟩))
    go_ret
    exact ⟨rfl, by assumption⟩
  have hp' : p.size ≤ 200 := by omega
  have ha' : a.size ≤ 200 := by omega
  have hb' : b.size ≤ 200 := by omega
  clear p2 a2 b2 hp ha hb
  cases hr : rightS p with
  | false =>
    have A0 := Lib.hid (fun w => right_c p false hr (by omega) w)
    clear hr
    go_enter Try.func4, Try.ntmps4
    go_wp2_with (first
      | (go_at_call 13; ((with_reducible refine (A0.out _).mono ?_); rintro e w1 ⟨rfl, hg⟩))
      | (go_at_call 6; ((with_reducible refine (awake_any _).mono ?_); rintro e w2 ⟨rfl, hg2⟩)))
    go_ret
    exact ⟨rfl, hg.trans hg2⟩
  | true =>
    refine apart_core p a b w hp' ha' hb' hr _ rfl _ rfl _ rfl _ rfl ?_ ?_
    · cases h1 : apS a b with
      | false => exact .inl rfl
      | true =>
        cases h2 : begS p a with
        | false => exact .inr (.inl ⟨rfl, rfl⟩)
        | true => exact .inr (.inr ⟨rfl, rfl, ap_beg p a b h1 h2⟩)
    · cases h1 : rightS a with
      | false => exact .inl rfl
      | true =>
        by_cases hl : (splS a).length = (splS p).length
        · exact .inr (.inr ⟨rfl, hl, (ap_right a p h1 hr hl).symm, by rw [ap_right a p h1 hr hl, bne, Bool.not_not]⟩)
        · exact .inr (.inl ⟨rfl, hl⟩)
end Go.Proofs.Ytepjhijnihjedaa
