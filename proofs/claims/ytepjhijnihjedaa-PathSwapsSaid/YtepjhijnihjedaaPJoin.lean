/-
  What is proved: path.Join and the document's Join, called with a slice of up to a million texts of up to a million bytes each, return these with strokes between (P4.3); the world has new blocks at most.
-/
import Derived.Test.YtepjhijnihjedaaPSplit
namespace Go.Proofs.Ytepjhijnihjedaa
open Go.RowKit

theorem ret_str {a b : ByteArray} (h : a = b) : Ending.returned (.string a) = .returned (.string b) := by rw [h]
/-- P4.3, over texts. -/
def joiS (L : List ByteArray) : ByteArray := ofL (joi (toLs L))
def Few (L : List ByteArray) : Prop := L.length ≤ 1000000 ∧ ∀ x ∈ L, x.size ≤ 1000000
theorem Few.take {L : List ByteArray} (h : Few L) (k : Nat) : Few (L.take k) :=
  ⟨by rw [List.length_take]; have := h.1; omega, fun x hx => h.2 x (List.mem_of_mem_take hx)⟩
theorem joiS_size (L : List ByteArray) (h : Few L) : (joiS L).size ≤ 1000001000000 := by
  have h1 := joi_len (toLs L) 1000000 (fun s hs => by
    obtain ⟨x, hx, rfl⟩ := List.mem_map.1 hs
    exact h.2 x hx)
  rw [toLs_len] at h1
  have h2 : L.length * (1000000 + 1) ≤ 1000000 * (1000000 + 1) := Nat.mul_le_mul_right _ h.1
  have h3 : (joiS L).size = (joi (toLs L)).length := by unfold joiS; rw [ba_size, ofL_list]
  omega
theorem joi_snoc : ∀ (L : List (List UInt8)) (x : List UInt8), L ≠ [] → joi (L ++ [x]) = joi L ++ 47 :: x
  | [], _, h => absurd rfl h
  | [a], x, _ => by rw [List.cons_append, List.nil_append, joi_cons2, joi_one, joi_one]
  | a :: b :: r, x, _ => by
    have := joi_snoc (b :: r) x (by simp)
    rw [List.cons_append, List.cons_append, joi_cons2, joi_cons2, ← List.cons_append, this]
    simp
theorem joiS_zero (L : List ByteArray) : joiS (L.take 0) = ⟨#[]⟩ := rfl
theorem joiS_first (L : List ByteArray) (h : 0 < L.length) : joiS (L.take 1) = ⟨#[]⟩ ++ L.getD 0 ⟨#[]⟩ := by
  cases L with
  | nil => simp at h
  | cons a r =>
    apply ba_ext
    rw [ba_app]
    unfold joiS
    rw [ofL_list]
    simp [toLs, joi_one]
theorem joiS_next (L : List ByteArray) (k : Nat) (h : k < L.length) (hk : 0 < k) : joiS (L.take (k + 1)) = joiS (L.take k) ++ ⟨#[47]⟩ ++ L.getD k ⟨#[]⟩ := by
  apply ba_ext
  rw [ba_app, ba_app]
  unfold joiS
  rw [ofL_list, ofL_list, List.take_succ_eq_append_getElem h, toLs_app, show toLs [L[k]] = [L[k].data.toList] from rfl, joi_snoc _ _ (by
    intro e
    have := congrArg List.length e
    rw [toLs_len, List.length_take] at this
    have h2 : min k L.length = 0 := this
    omega)]
  rw [List.getD_eq_getElem?_getD, List.getElem?_eq_getElem h]
  simp

theorem join_any (b o n c : Nat) (L : List ByteArray) (w : World) (h : Sl w ⟨b, o, none⟩ n c L) (hf : Few L) :
    Calls Try.prog 10 #[.slice (some ⟨b, o, none⟩) n c] w fun e w' => e = .returned (.string (joiS L)) ∧ Ke w w' := by
  have hz := joiS_size L hf
  obtain ⟨rfl, h2, h3, h4, h5⟩ := h
  have HC := Lib.hid (Try.strings_Join b o c L ⟨#[47]⟩ w (fun j x hj => by have := h5 j x hj; rwa [Addr.add_lit] at this) h4 (by have := hf.1; omega) h2 (by
    have e : (Lib.join (L.map (·.data.toList)) (⟨#[47]⟩ : ByteArray).data.toList).length = (joiS L).size := by unfold joiS; rw [ba_size, ofL_list]; rfl
    omega))
  clear h5 h4 h3 h2
  go_enter Try.func10, Try.ntmps10
  go_wp2_with (go_at_call 26; ((with_reducible refine HC.out.mono ?_); rintro e w1 ⟨rfl, hk⟩))
  go_ret
  exact ⟨rfl, hk⟩
theorem join_nil (c : Nat) (w : World) :
    Calls Try.prog 10 #[.slice none 0 c] w fun e w' => e = .returned (.string (joiS [])) ∧ Ke w w' := by
  go_enter Try.func10, Try.ntmps10
  go_wp2_with (go_at_call 26; ((with_reducible refine (Try.strings_Join_none _ _ _ _).mono ?_); rintro e w1 ⟨rfl, rfl⟩))
  go_ret
  exact ⟨rfl, Ke.refl _⟩
theorem join_own (base n : Nat) (v : Value) (L : List ByteArray) (w : World) (h : w.ownsRow base 9 1 v n (L.map strV)) (hf : Few L) :
    Calls Try.prog 10 #[v] w fun e w' => e = .returned (.string (joiS L)) ∧ Ke w w' := by
  rcases Nat.eq_zero_or_pos n with h0 | h0
  · subst h0
    have hl : L = [] := List.eq_nil_of_length_eq_zero (by simpa using h.1)
    subst hl
    rcases h.2 with ⟨rfl, _⟩ | ⟨g, cap, cur, rfl, _, hg, h1, h2, _⟩
    · exact join_nil 0 w
    · exact join_any g 0 0 cap [] w ⟨rfl, h1, h2, (Array.getElem?_eq_some_iff.1 hg).1, fun j x hj => by simp at hj⟩ hf
  · obtain ⟨g, c, rfl, _, hs⟩ := Sl.of_own h h0
    exact join_any g 0 n c L w hs hf

set_option maxRecDepth 100000 in
set_option maxHeartbeats 2000000 in
theorem rjoin_any (b o n c : Nat) (L : List ByteArray) (w : World) (h : Sl w ⟨b, o, none⟩ n c L) (hf : Few L) :
    Calls Try.prog 29 #[.slice (some ⟨b, o, none⟩) n c] w fun e w' => e = .returned (.string (joiS L)) ∧ Ke w w' := by
  have hl := h.1
  have hcm := h.2.1
  have hcx := h.2.2.1
  simp only [maxLen] at hcx
  have HS := Lib.hid h
  have HF := Lib.hid hf
  have hn := hf.1
  have HL := Lib.hid hl
  have hn2 : n ≤ 1000000 := by omega
  clear h hf hl
  go_enter Try.func29, Try.ntmps29
  go_wp2
  go_loop [3, 8] (fun s i => ∃ k : Nat, k ≤ n ∧ i = .int .i64 k ∧ s = .string (joiS (L.take k))) (fun _ i => n - (intOf i).toNat)
  case atStart => exact ⟨0, Nat.zero_le _, rfl, rfl⟩
  case round =>
    obtain ⟨k, hk, rfl, rfl⟩ := hrel
    have hz := joiS_size _ (HF.out.take k)
    by_cases hlt : k < n
    · have g := HS.out.get hlt
      have hlL : k < L.length := by rw [← HL.out]; exact hlt
      have hxz : (L.getD k ⟨#[]⟩).size ≤ 1000000 := by
        rw [List.getD_eq_getElem?_getD, List.getElem?_eq_getElem hlL]
        exact HF.out.2 _ (List.getElem_mem hlL)
      by_cases hk0 : k = 0
      · subst hk0
        have HN := Lib.hid (joiS_first L hlL)
        rw [joiS_zero] at hz ⊢
        rw [Nat.add_zero] at g
        generalize L.getD 0 ⟨#[]⟩ = x at g hxz HN
        clear hlL
        go_wp2
        go_round
        case rel => exact ⟨1, by omega, by go_num, by rw [HN.out]⟩
        case measure => simp [intOf]; omega
      · have HN := Lib.hid (joiS_next L k hlL (by omega))
        have hk1 : (0 : Int) < k := by omega
        have hz2 : (joiS (L.take k) ++ ⟨#[47]⟩).size ≤ 1000001000001 := by
          rw [ByteArray.size_append]
          have : (⟨#[47]⟩ : ByteArray).size = 1 := rfl
          omega
        generalize L.getD k ⟨#[]⟩ = x at g hxz HN
        generalize joiS (L.take k) = s at hz hz2 HN
        clear hlL hk0
        go_wp2
        go_round
        case rel => exact ⟨k + 1, by omega, by go_num, by rw [HN.out]⟩
        case measure => simp [intOf]; omega
    · have HT := Lib.hid (List.take_of_length_le (l := L) (i := k) (by have := HL.out; omega))
      go_wp2
      go_ret
      exact ⟨ret_str (by rw [HT.out]), Ke.refl _⟩
theorem rjoin_own (base n : Nat) (v : Value) (L : List ByteArray) (w : World) (h : w.ownsRow base 9 1 v n (L.map strV)) (hf : Few L) (hv : v ≠ .slice none 0 0) :
    Calls Try.prog 29 #[v] w fun e w' => e = .returned (.string (joiS L)) ∧ Ke w w' := by
  have hl : L.length = n := by simpa using h.1
  have hc := fun g (hg : v.ownBlock = some g) => h.cells (g := g) hg
  rcases h.2 with ⟨h0, _⟩ | ⟨g, cap, cur, rfl, _, hg, h1, h2, _⟩
  · exact absurd h0 hv
  · exact rjoin_any g 0 n cap L w ⟨hl.symm, h1, h2, (Array.getElem?_eq_some_iff.1 hg).1, fun j x hj => hc g rfl j _ (by rw [List.getElem?_map, hj]; rfl)⟩ hf
end Go.Proofs.Ytepjhijnihjedaa
