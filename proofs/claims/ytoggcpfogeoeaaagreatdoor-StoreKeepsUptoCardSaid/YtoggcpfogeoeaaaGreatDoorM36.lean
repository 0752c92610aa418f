/-
  What is proved: what the helper 'awake' of layer 8's law calls, at the values that it calls it with: what each call returns; the world has new blocks at most.
  the helper 'awake' of layer 8's law returns true, where the laid tables read as their initialisers lay them; the world has new blocks at most.
-/
import Derived.Test.YtoggcpfogeoeaaaGreatDoorM25
import Derived.Test.YtoggcpfogeoeaaaGreatDoorM26
import Derived.Test.YtoggcpfogeoeaaaGreatDoorM27
import Derived.Test.YtoggcpfogeoeaaaGreatDoorM33
import Derived.Test.YtoggcpfogeoeaaaGreatDoorM34
import Derived.Test.YtoggcpfogeoeaaaGreatDoorM35
import Derived.Lib.ItoaLen
namespace Go.Proofs.YtoggcpfogeoeaaaGreatDoor
open Go.RowKit
set_option linter.unusedVariables false

/-- A state that lies in memory. -/
structure Stt (w : World) (A : Option Addr) (n c : Nat) (B : Option Addr) (m k : Nat) (D : Option Addr) (p q : Nat) (L : List En) (V : List Int) (C : List (Int × Int)) : Prop where
  el : El w A n c L
  il : Il w B m k V
  dl : Dl w D p q C
theorem Stt.kept {w w' : World} {A B D : Option Addr} {n c m k p q : Nat} {L : List En} {V : List Int} {C : List (Int × Int)} (h : Stt w A n c B m k D p q L V C) (hk : Kept w w') : Stt w' A n c B m k D p q L V C :=
  ⟨h.el.kept hk, h.il.kept hk, h.dl.kept hk⟩
def e1 : En := ⟨(1, 1), ⟨#[97, 47, 98]⟩, 1, 1, 5, ⟨#[]⟩, (0, 0)⟩
def e2 : En := ⟨(0, 1), ⟨#[99]⟩, 1, 1, 6, ⟨#[]⟩, (0, 0)⟩
theorem rightE1 : rightE e1 = true := by kernel_rfl
theorem rightE2 : rightE e2 = true := by kernel_rfl
theorem e1_d : e1.d = (1, 1) := rfl
theorem e2_d : e2.d = (0, 1) := rfl
theorem enB1 : EnB e1 := ⟨by decide, by decide, by decide, by decide, by decide, by decide, by decide, by decide, by decide, by decide⟩
theorem enB2 : EnB e2 := ⟨by decide, by decide, by decide, by decide, by decide, by decide, by decide, by decide, by decide, by decide⟩
theorem atV2 (a b r : Int) : atV [a, b] r = if r = 0 then a else if r = 1 then b else 0 := by
  by_cases h0 : r = 0
  · subst h0; rfl
  by_cases h1 : r = 1
  · subst h1; rfl
  rw [if_neg h0, if_neg h1]
  by_cases h2 : r < 0
  · exact atV_neg _ h2
  · exact atV_out _ (by simp only [List.length_cons, List.length_nil]; omega)
theorem atV3 (a b c r : Int) : atV [a, b, c] r = if r = 0 then a else if r = 1 then b else if r = 2 then c else 0 := by
  by_cases h0 : r = 0
  · subst h0; rfl
  by_cases h1 : r = 1
  · subst h1; rfl
  by_cases h2 : r = 2
  · subst h2; rfl
  rw [if_neg h0, if_neg h1, if_neg h2]
  by_cases h3 : r < 0
  · exact atV_neg _ h3
  · exact atV_out _ (by simp only [List.length_cons, List.length_nil]; omega)
theorem right_nil : RightC [] [] := StOk.nil.ctx
theorem right_small {V : List Int} (h : VecOk V) (hl : ∀ k : Nat, V.length = k + 1 → V.getD k 0 ≠ 0) : RightC V [] := ⟨h, hl, rise_nil, fun d hd => (by cases hd), fun d hd => (by cases hd)⟩
theorem set1 : SetC (fun d => hasC [] [] d ∨ (rightD d = true ∧ d = (1, 1))) [0, 1] [] := by
  refine ⟨right_small ⟨by decide, by decide⟩ (fun k hk => by simp at hk; subst hk; decide), fun d => ?_⟩
  obtain ⟨a, b⟩ := d
  unfold hasC
  rw [atV2]
  simp only [atV_nil, List.not_mem_nil, or_false, Prod.mk.injEq]
  constructor
  · intro h
    refine .inr ⟨?_, ?_⟩
    · have : a = 1 ∧ b = 1 := by repeat (split at h <;> try omega)
      rw [this.1, this.2]; decide
    · repeat (split at h <;> try omega)
  · rintro (h | ⟨_, h1, h2⟩)
    · omega
    · subst h1 h2; decide
theorem set2 : SetC (fun d => hasC [0, 1] [] d ∨ (rightD d = true ∧ d = (0, 1))) [1, 1] [] := by
  refine ⟨right_small ⟨by decide, by decide⟩ (fun k hk => by simp at hk; subst hk; decide), fun d => ?_⟩
  obtain ⟨a, b⟩ := d
  unfold hasC
  rw [atV2, atV2]
  simp only [List.not_mem_nil, or_false, Prod.mk.injEq]
  constructor
  · intro h
    by_cases h0 : a = 0
    · refine .inr ?_
      have hb : b = 1 := by rw [if_pos h0] at h; omega
      exact ⟨by rw [h0, hb]; decide, h0, hb⟩
    · refine .inl ?_
      rw [if_neg h0] at h ⊢
      exact h
  · rintro (h | ⟨_, h1, h2⟩)
    · by_cases h0 : a = 0
      · rw [if_pos h0] at h; omega
      · rw [if_neg h0] at h ⊢; exact h
    · subst h1 h2; decide
theorem set3 : SetC (fun d => hasC [1, 1] [] d ∨ (rightD d = true ∧ d ∈ [((1 : Int), (1 : Int)), (2, 1)])) [1, 1, 1] [] := by
  refine ⟨right_small ⟨by decide, by decide⟩ (fun k hk => by simp at hk; subst hk; decide), fun d => ?_⟩
  obtain ⟨a, b⟩ := d
  unfold hasC
  rw [atV2, atV3]
  simp only [List.not_mem_nil, or_false, List.mem_cons, Prod.mk.injEq]
  constructor
  · intro h
    by_cases h2 : a = 2
    · refine .inr ?_
      have hb : b = 1 := by subst h2; simp at h; omega
      exact ⟨by rw [h2, hb]; decide, .inr ⟨h2, hb⟩⟩
    · refine .inl ?_
      rw [if_neg h2] at h
      exact h
  · rintro (h | ⟨_, ⟨h1, h2⟩ | ⟨h1, h2⟩⟩)
    · by_cases h2 : a = 2
      · subst h2; simp at h; omega
      · rw [if_neg h2]; exact h
    · subst h1 h2; decide
    · subst h1 h2; decide
theorem ok_s : StOk [e2, e1] [1, 1] [] := by
  have h1 := StOk.nil.put rightE1 set1
  have h2 := h1.put rightE2 set2
  exact h2
theorem not_s : ¬ StOk [e2, e1] [] [] := fun h => by
  have := h.known e1 (by simp)
  revert this; decide
theorem ens_s : EnsB [e2, e1] := fun x hx => by
  simp only [List.mem_cons, List.not_mem_nil, or_false] at hx
  rcases hx with rfl | rfl
  · exact ⟨enB2, by decide, by decide⟩
  · exact ⟨enB1, by decide, by decide⟩
theorem ens_w : EnsB [e2] := fun x hx => ens_s x (by simp at hx; simp [hx])

set_option maxRecDepth 100000 in
set_option maxHeartbeats 2000000 in
theorem one_any (a b : Int) (p : ByteArray) (n : Int) (w : World) :
    Calls Tryz.prog 16 #[.int .i64 a, .int .i64 b, .string p, .int .i64 n] w fun e w' => e = .returned (.agg #[.int .i64 a, .int .i64 b, .string p, .int .i64 1, .int .i64 1, .int .i64 n, .string ⟨#[]⟩, .int .i64 0, .int .i64 0]) ∧ Kept w w' := by
  have K0 := Lib.hid (((Kept.refl w).alloc #[.int .i64 a, .int .i64 b, .string p, .int .i64 1, .int .i64 1, .int .i64 n, .string ⟨#[]⟩, .int .i64 0, .int .i64 0] 35))
  go_enter Tryz.func16, Tryz.ntmps16
  go_wp2
  refine bodyPost_ret (by simp [results, Tryz.results16, go_sem, *]) rfl ⟨rfl, ?_⟩
  first | exact K0.out | exact (((((((((((Kept.refl w).alloc #[.int .i64 0, .int .i64 0, .string ⟨#[]⟩, .int .i64 0, .int .i64 0, .int .i64 0, .string ⟨#[]⟩, .int .i64 0, .int .i64 0] 35).setCell (Nat.le_refl _) _).setCell (Nat.le_refl _) _).setCell (Nat.le_refl _) _).setCell (Nat.le_refl _) _).setCell (Nat.le_refl _) _).setCell (Nat.le_refl _) _).setCell (Nat.le_refl _) _).setCell (Nat.le_refl _) _).setCell (Nat.le_refl _) _)
section
variable (w : World) {A B D E : Option Addr} {c k q : Nat}
theorem aw_with1 : Calls Tryz.prog 6 #[.agg #[.slice none 0 0, .slice none 0 0, .slice none 0 0], .agg #[.int .i64 1, .int .i64 1, .string ⟨#[97, 47, 98]⟩, .int .i64 1, .int .i64 1, .int .i64 5, .string ⟨#[]⟩, .int .i64 0, .int .i64 0]] w fun e w' => ∃ A c B k D q, e = .returned (.agg #[.slice A 1 c, .slice B 2 k, .slice D 0 q]) ∧ Stt w' A 1 c B 2 k D 0 q [e1] [0, 1] [] ∧ Kept w w' := by
  refine (with_any none 0 0 [] none 0 0 [] none 0 0 [] e1 w (El.nil w) (Il.nil w) (Dl.nil w) riseE_nil right_nil (by decide) (by decide)).mono ?_
  rintro e w' ⟨A, n, c, B, m, k, D, p, q, V, C, rfl, he, hi, hd, hs, hm, hk⟩
  obtain ⟨rfl, rfl⟩ := hs.same set1 (fun d => Iff.rfl)
  obtain rfl : n = 1 := he.1
  obtain rfl : m = 2 := hi.1
  obtain rfl : p = 0 := hd.1
  exact ⟨A, c, B, k, D, q, rfl, ⟨he, hi, hd⟩, hk⟩
theorem aw_with2 (h : Stt w A 1 c B 2 k D 0 q [e1] [0, 1] []) : Calls Tryz.prog 6 #[.agg #[.slice A 1 c, .slice B 2 k, .slice D 0 q], .agg #[.int .i64 0, .int .i64 1, .string ⟨#[99]⟩, .int .i64 1, .int .i64 1, .int .i64 6, .string ⟨#[]⟩, .int .i64 0, .int .i64 0]] w fun e w' => ∃ A c B k D q, e = .returned (.agg #[.slice A 2 c, .slice B 2 k, .slice D 0 q]) ∧ Stt w' A 2 c B 2 k D 0 q [e2, e1] [1, 1] [] ∧ Kept w w' := by
  refine (with_any A 1 c [e1] B 2 k [0, 1] D 0 q [] e2 w h.el h.il h.dl (by unfold RiseE; simp) set1.right (by decide) (by decide)).mono ?_
  rintro e w' ⟨A, n, c, B, m, k, D, p, q, V, C, rfl, he, hi, hd, hs, hm, hk⟩
  obtain ⟨rfl, rfl⟩ := hs.same set2 (fun d => Iff.rfl)
  obtain rfl : n = 2 := he.1
  obtain rfl : m = 2 := hi.1
  obtain rfl : p = 0 := hd.1
  exact ⟨A, c, B, k, D, q, rfl, ⟨he, hi, hd⟩, hk⟩
theorem aw_without (h : Stt w A 2 c B 2 k D 0 q [e2, e1] [1, 1] []) (g : Dl w E 2 2 [(1, 1), (2, 1)]) : Calls Tryz.prog 9 #[.agg #[.slice A 2 c, .slice B 2 k, .slice D 0 q], .slice E 2 2] w fun e w' => ∃ A c B k D q, e = .returned (.agg #[.slice A 1 c, .slice B 3 k, .slice D 0 q]) ∧ Stt w' A 1 c B 3 k D 0 q [e2] [1, 1, 1] [] ∧ Kept w w' := by
  refine (without_any A 2 c [e2, e1] B 2 k [1, 1] D 0 q [] E 2 2 [(1, 1), (2, 1)] w h.el h.il h.dl g set2.right (by decide) (by decide) (by decide)).mono ?_
  rintro e w' ⟨A, n, c, B, m, k, D, p, q, V, C, rfl, he, hi, hd, hs, hm, hk⟩
  obtain ⟨rfl, rfl⟩ := hs.same set3 (fun d => Iff.rfl)
  obtain rfl : n = 1 := he.1
  obtain rfl : m = 3 := hi.1
  obtain rfl : p = 0 := hd.1
  exact ⟨A, c, B, k, D, q, rfl, ⟨he, hi, hd⟩, hk⟩
theorem aw_get1 (h : Stt w A 2 c B 2 k D 0 q [e2, e1] [1, 1] []) : Calls Tryz.prog 7 #[.agg #[.slice A 2 c, .slice B 2 k, .slice D 0 q], .agg #[.int .i64 1, .int .i64 1]] w fun e w' => e = .returned (.tuple #[.agg #[.int .i64 1, .int .i64 1, .string ⟨#[97, 47, 98]⟩, .int .i64 1, .int .i64 1, .int .i64 5, .string ⟨#[]⟩, .int .i64 0, .int .i64 0], .bool true]) ∧ Kept w w' := by
  refine (get_any A 2 c [e2, e1] _ _ 1 1 w h.el ok_s.rise (by decide) true (by decide)).mono ?_
  rintro e w' ⟨y, rfl, h1, _, hk⟩
  obtain ⟨hm, hd⟩ := h1 rfl
  obtain rfl : y = e1 := rise_one ok_s.rise hm (by simp) hd
  exact ⟨rfl, hk⟩
theorem aw_get2 (h : Stt w A 1 c B 3 k D 0 q [e2] [1, 1, 1] []) : Calls Tryz.prog 7 #[.agg #[.slice A 1 c, .slice B 3 k, .slice D 0 q], .agg #[.int .i64 1, .int .i64 1]] w fun e w' => e = .returned (.tuple #[.agg #[.int .i64 0, .int .i64 0, .string ⟨#[]⟩, .int .i64 0, .int .i64 0, .int .i64 0, .string ⟨#[]⟩, .int .i64 0, .int .i64 0], .bool false]) ∧ Kept w w' := by
  refine (get_any A 1 c [e2] _ _ 1 1 w h.el (by unfold RiseE; simp) (by decide) false (by decide)).mono ?_
  rintro e w' ⟨y, rfl, _, h2, hk⟩
  obtain rfl := h2 rfl
  exact ⟨rfl, hk⟩
def putR : ByteArray := putSt ⟨#[]⟩ [e2, e1] [1, 1] []
theorem putR_size : putR.size ≤ 10000 := by
  have := putSt_size ens_s ⟨#[]⟩ [1, 1] []
  have h0 : (⟨#[]⟩ : ByteArray).size = 0 := rfl
  unfold putR
  simp only [List.length_cons, List.length_nil] at this
  omega
theorem aw_put (h : Stt w A 2 c B 2 k D 0 q [e2, e1] [1, 1] []) : Calls Tryz.prog 14 #[.string ⟨#[]⟩, .agg #[.slice A 2 c, .slice B 2 k, .slice D 0 q]] w fun e w' => e = .returned (.string putR) ∧ Kept w w' :=
  sput_any ⟨#[]⟩ A 2 c [e2, e1] B 2 k [1, 1] D 0 q [] w h.el h.il h.dl set2.right (by decide) (by decide) (by decide) ens_s _ rfl
theorem aw_take (s : ByteArray) (hs : putR ++ ⟨#[122]⟩ = s) : Calls Tryz.prog 13 #[.string s] w fun e w' => ∃ A c B k D q, e = .returned (.tuple #[.agg #[.slice A 2 c, .slice B 2 k, .slice D 0 q], .string ⟨#[122]⟩, .int .i64 0]) ∧ Stt w' A 2 c B 2 k D 0 q [e2, e1] [1, 1] [] ∧ Kept w w' := by
  subst hs
  refine (stake_any _ w (by rw [ByteArray.size_append]; have := putR_size; have h1 : (⟨#[122]⟩ : ByteArray).size = 1 := rfl; omega)).mono ?_
  rintro e w' ⟨A, n, c, L, B, m, k, V, D, p, q, C, r, z, rfl, he, hi, hd, ht, hk⟩
  have h2 : tsL (putR ++ ⟨#[122]⟩) = ([e2, e1], [1, 1], [], ⟨#[122]⟩, 0) := ts_fore ok_s (fun x hx => by have := (ens_s x hx).1; exact ⟨this.v1, this.v2⟩) (by decide) (by decide) _
  rw [h2] at ht
  simp only [Prod.mk.injEq] at ht
  obtain ⟨rfl, rfl, rfl, rfl, rfl⟩ := ht
  obtain rfl : n = 2 := he.1
  obtain rfl : m = 2 := hi.1
  obtain rfl : p = 0 := hd.1
  exact ⟨A, c, B, k, D, q, rfl, ⟨he, hi, hd⟩, hk⟩
theorem ts_bad : tsL ⟨#[0, 0, 5]⟩ = ([], [], [], ⟨#[]⟩, 2) := by
  have h1 : tcL ⟨#[0, 0, 5]⟩ = ([], [], ⟨#[5]⟩, 0) := by
    have := tc_fore right_nil (by decide) ⟨#[5]⟩
    rw [show putC ⟨#[]⟩ [] [] ++ (⟨#[5]⟩ : ByteArray) = ⟨#[0, 0, 5]⟩ by kernel_rfl] at this
    exact this
  have h2 : (tesL ⟨#[5]⟩).2.2 = 2 := by kernel_rfl
  unfold tsL
  rw [h1]
  simp only [h2]
  rw [if_neg (by decide), if_pos (by decide)]
theorem aw_take2 : Calls Tryz.prog 13 #[.string ⟨#[0, 0, 5]⟩] w fun e w' => ∃ A n c B m k D p q r, e = .returned (.tuple #[.agg #[.slice A n c, .slice B m k, .slice D p q], .string r, .int .i64 2]) ∧ Kept w w' := by
  refine (stake_any _ w (by decide)).mono ?_
  rintro e w' ⟨A, n, c, L, B, m, k, V, D, p, q, C, r, z, rfl, he, hi, hd, ht, hk⟩
  rw [ts_bad] at ht
  simp only [Prod.mk.injEq] at ht
  obtain ⟨_, _, _, _, rfl⟩ := ht
  exact ⟨A, n, c, B, m, k, D, p, q, r, rfl, hk⟩
theorem aw_has (h : Stt w A 1 c B 3 k D 0 q [e2] [1, 1, 1] []) : Calls Tryz.prog 11 #[.agg #[.slice B 3 k, .slice D 0 q], .agg #[.int .i64 2, .int .i64 1]] w fun e w' => e = .returned (.bool true) ∧ Kept w w' :=
  ghas_any B 3 k [1, 1, 1] D 0 q [] 2 1 w h.il h.dl true (by decide)
theorem aw_same1 {A' B' D' : Option Addr} {c' k' q' : Nat} (h : Stt w A 2 c B 2 k D 0 q [e2, e1] [1, 1] []) (h' : Stt w A' 2 c' B' 2 k' D' 0 q' [e2, e1] [1, 1] []) : Calls Tryz.prog 15 #[.agg #[.slice A 2 c, .slice B 2 k, .slice D 0 q], .agg #[.slice A' 2 c', .slice B' 2 k', .slice D' 0 q']] w fun e w' => e = .returned (.bool true) ∧ Kept w w' :=
  ssame_any A 2 c _ B 2 k _ D 0 q _ A' 2 c' _ B' 2 k' _ D' 0 q' _ w h.el h.il h.dl h'.el h'.il h'.dl true ⟨fun _ => ⟨rfl, rfl, rfl⟩, fun _ => rfl⟩
theorem aw_same2 {A' B' D' : Option Addr} {c' k' q' : Nat} (h : Stt w A 2 c B 2 k D 0 q [e2, e1] [1, 1] []) (h' : Stt w A' 1 c' B' 3 k' D' 0 q' [e2] [1, 1, 1] []) : Calls Tryz.prog 15 #[.agg #[.slice A 2 c, .slice B 2 k, .slice D 0 q], .agg #[.slice A' 1 c', .slice B' 3 k', .slice D' 0 q']] w fun e w' => e = .returned (.bool false) ∧ Kept w w' :=
  ssame_any A 2 c _ B 2 k _ D 0 q _ A' 1 c' _ B' 3 k' _ D' 0 q' _ w h.el h.il h.dl h'.el h'.il h'.dl false ⟨(fun e => by cases e), fun e => by have := congrArg List.length e.1; simp at this⟩
theorem aw_at (h : Stt w A 2 c B 2 k D 0 q [e2, e1] [1, 1] []) : Calls Tryz.prog 17 #[.agg #[.slice A 2 c, .slice B 2 k, .slice D 0 q], .string ⟨#[97]⟩] w fun e w' => ∃ A' c', e = .returned (.slice A' 1 c') ∧ Kept w w' := by
  refine (sat_any A 2 c [e2, e1] _ _ ⟨#[97]⟩ w h.el (by decide) (fun x hx => by have := (ens_s x hx).2.1; omega) (by decide)).mono ?_
  rintro e w' ⟨A', c', rfl, _, hk⟩
  exact ⟨A', c', by rw [show (atE [e2, e1] ⟨#[97]⟩).length = 1 by kernel_rfl], hk⟩
theorem aw_right1 (h : Stt w A 2 c B 2 k D 0 q [e2, e1] [1, 1] []) : Calls Tryz.prog 8 #[.agg #[.slice A 2 c, .slice B 2 k, .slice D 0 q]] w fun e w' => e = .returned (.bool true) ∧ Kept w w' :=
  sright_any A 2 c [e2, e1] B 2 k [1, 1] D 0 q [] w h.el h.il h.dl set2.right (by decide) (by decide) (fun x hx => by have := (ens_s x hx).2; omega) true ⟨fun _ => ok_s, fun _ => rfl⟩
theorem aw_right2 (h : Stt w A 2 c B 2 k D 0 q [e2, e1] [1, 1] []) : Calls Tryz.prog 8 #[.agg #[.slice A 2 c, .slice none 0 0, .slice none 0 0]] w fun e w' => e = .returned (.bool false) ∧ Kept w w' :=
  sright_any A 2 c [e2, e1] none 0 0 [] none 0 0 [] w h.el (Il.nil w) (Dl.nil w) right_nil (by decide) (by decide) (fun x hx => by have := (ens_s x hx).2; omega) false ⟨(fun e => by cases e), fun e => absurd e not_s⟩
theorem text_w : textEs [e2] = ⟨#[48, 46, 49, 32, 99, 61, 54, 64, 48, 46, 48, 10]⟩ := by
  unfold textEs textEs textE textD textV markE itoaS e2
  simp only
  rw [show (1 : Int) = ((1 : Nat) : Int) from rfl, show (6 : Int) = ((6 : Nat) : Int) from rfl, show (0 : Int) = ((0 : Nat) : Int) from rfl]
  rw [Lib.itoa_nonneg, Lib.itoa_nonneg, Lib.itoa_nonneg, Lib.decDigits_one (by decide), Lib.decDigits_one (by decide), Lib.decDigits_one (by decide)]
  rfl
theorem aw_text (h : Stt w A 1 c B 3 k D 0 q [e2] [1, 1, 1] []) (hl : LaidE w) : Calls Tryz.prog 18 #[.agg #[.slice A 1 c, .slice B 3 k, .slice D 0 q]] w fun e w' => e = .returned (.string ⟨#[48, 46, 49, 32, 99, 61, 54, 64, 48, 46, 48, 10]⟩) ∧ Kept w w' :=
  stext_any A 1 c [e2] _ _ w h.el (by decide) ens_w hl _ text_w
end
end Go.Proofs.YtoggcpfogeoeaaaGreatDoor

namespace Go.Proofs.YtoggcpfogeoeaaaGreatDoor
open Go.RowKit
set_option linter.unusedVariables false

theorem lt_box {w w' : World} {c : Array Value} {t : TypeId} (hg : Kept (w.alloc (.cells c t)) w') : w.heap.size < w'.heap.size := by
  have := hg.2.2; simp at this; omega
set_option maxRecDepth 100000 in
set_option maxHeartbeats 16000000 in
theorem sawake_any (w : World) (hl : LaidE w) :
    Calls Tryz.prog 4 #[] w fun e w' => e = .returned (.bool true) ∧ Kept w w' := by
  have HLW := Lib.hid hl
  clear hl
  go_enter Tryz.func4, Tryz.ntmps4
  go_wp2_with fail
  go_at_call 16
  refine (one_any 1 1 ⟨#[97, 47, 98]⟩ 5 _).mono ?_
  rintro e w1 ⟨rfl, hk⟩
  have K1 := Lib.hid hk
  clear hk
  go_wp2_with fail
  go_at_call 6
  refine (aw_with1 _).mono ?_
  rintro e w2 ⟨A2, c2, B2, k2, D2, q2, rfl, hs, hk⟩
  have S2 := Lib.hid hs
  have K2 := Lib.hid (K1.out.trans hk)
  clear hs hk
  go_wp2_with fail
  go_at_call 16
  refine (one_any 0 1 ⟨#[99]⟩ 6 _).mono ?_
  rintro e w3 ⟨rfl, hk⟩
  have S3 := Lib.hid (S2.out.kept hk)
  have K3 := Lib.hid (K2.out.trans hk)
  clear hk
  go_wp2_with fail
  go_at_call 6
  refine (aw_with2 _ S3.out).mono ?_
  rintro e w4 ⟨A, c, B, k, D, q, rfl, hs, hk⟩
  obtain ⟨g, o, x, rfl, hx, EX⟩ := hs.el.get (k := 0) (by decide)
  obtain rfl : e2 = x := by simpa using hx
  have p2 := EX.c2
  simp only [e2, Nat.zero_mul, Nat.add_zero] at p2
  have hcap2 : 2 ≤ c := hs.el.cap.1
  have hcap3 : c ≤ 9223372036854775807 := hs.el.cap.2
  have P4 := Lib.hid p2
  have S4 := Lib.hid hs
  have K4 := Lib.hid (K3.out.trans hk)
  clear hs hk hx EX p2 S2 S3
  have B1 := Lib.hid (Box3.new w4 (.slice (some ⟨g, o, none⟩) 2 c) (.slice B 2 k) (.slice D 0 q) 29)
  have ka := ((Kept.refl w4).alloc #[.slice (some ⟨g, o, none⟩) 2 c, .slice B 2 k, .slice D 0 q] 29).alloc #[.int .i64 1, .int .i64 1, .int .i64 2, .int .i64 1] 31
  have GD := Lib.hid (show Dl ((w4.alloc (.cells #[.slice (some ⟨g, o, none⟩) 2 c, .slice B 2 k, .slice D 0 q] 29)).alloc (.cells #[.int .i64 1, .int .i64 1, .int .i64 2, .int .i64 1] 31)) (some ⟨w4.heap.size + 1, 0, none⟩) 2 2 [(1, 1), (2, 1)] by
    have h0 := fun i v hv => (Kept.refl ((w4.alloc (.cells #[.slice (some ⟨g, o, none⟩) 2 c, .slice B 2 k, .slice D 0 q] 29)).alloc (.cells #[.int .i64 1, .int .i64 1, .int .i64 2, .int .i64 1] 31))).box i v hv
    rw [show (w4.alloc (.cells #[.slice (some ⟨g, o, none⟩) 2 c, .slice B 2 k, .slice D 0 q] 29)).heap.size = w4.heap.size + 1 by simp] at h0
    refine ⟨rfl, Nat.le_refl _, by decide, (fun h => by cases h), .inr ⟨_, 0, rfl, fun j x hj => ?_⟩⟩
    match j, hj with
    | 0, hj => obtain rfl := Option.some.inj hj; exact ⟨h0 0 _ rfl, h0 1 _ rfl⟩
    | 1, hj => obtain rfl := Option.some.inj hj; exact ⟨h0 2 _ rfl, h0 3 _ rfl⟩)
  have KA := Lib.hid ka
  have SA := Lib.hid (S4.out.kept ka)
  clear ka
  go_wp2_with fail
  go_at_call 9
  refine (aw_without _ SA.out GD.out).mono ?_
  rintro e w5 ⟨A5, c5, B5, k5, D5, q5, rfl, hs, hk⟩
  have S5 := Lib.hid (SA.out.kept hk)
  have W5 := Lib.hid hs
  have P5 := Lib.hid ((KA.out.trans hk).cell P4.out)
  have K5 := Lib.hid (K4.out.trans (KA.out.trans hk))
  have X5 := Lib.hid ((B1.out.kept ((Kept.refl _).alloc #[.int .i64 1, .int .i64 1, .int .i64 2, .int .i64 1] 31)).kept hk)
  have l5 : w4.heap.size < w5.heap.size := (X5.out).lt
  clear hs hk SA GD KA B1 P4 S4
  have x0 := X5.out.c0; have x1 := X5.out.c1; have x2 := X5.out.c2
  have ka := (Kept.refl w5).alloc #[.slice A5 1 c5, .slice B5 3 k5, .slice D5 0 q5] 29
  have Y5 := Lib.hid (Box3.new w5 (.slice A5 1 c5) (.slice B5 3 k5) (.slice D5 0 q5) 29)
  have KA := Lib.hid ka
  clear ka
  go_wp2_with fail
  go_at_call 7
  refine (aw_get1 _ (S5.out.kept KA.out)).mono ?_
  rintro e w6 ⟨rfl, hk⟩
  have hka := KA.out.trans hk
  have S6 := Lib.hid (S5.out.kept hka)
  have W6 := Lib.hid (W5.out.kept hka)
  have P6 := Lib.hid (hka.cell P5.out)
  have K6 := Lib.hid (K5.out.trans hka)
  have X6 := Lib.hid (X5.out.kept hka)
  have Y6 := Lib.hid (Y5.out.kept hk)
  have l6 : w5.heap.size < w6.heap.size := Y6.out.lt
  clear hk hka KA S5 W5 P5 K5 X5 Y5 x0 x1 x2
  have x0 := Y6.out.c0; have x1 := Y6.out.c1; have x2 := Y6.out.c2
  have KA := Lib.hid ((Kept.refl w6).alloc #[.int .i64 1, .int .i64 1, .string ⟨#[97, 47, 98]⟩, .int .i64 1, .int .i64 1, .int .i64 5, .string ⟨#[]⟩, .int .i64 0, .int .i64 0] 35)
  have Z6 := Lib.hid (Ent.new w6 e1 35)
  go_wp2_with fail
  go_at_call 7
  refine (aw_get2 _ (W6.out.kept KA.out)).mono ?_
  rintro e w7 ⟨rfl, hk⟩
  have hka := KA.out.trans hk
  have S7 := Lib.hid (S6.out.kept hka)
  have W7 := Lib.hid (W6.out.kept hka)
  have P7 := Lib.hid (hka.cell P6.out)
  have K7 := Lib.hid (K6.out.trans hka)
  have X7 := Lib.hid (X6.out.kept hka)
  have Y7 := Lib.hid (Y6.out.kept hka)
  have Z7 := Lib.hid (show w7.cell? ⟨w6.heap.size, 5, none⟩ = some (.int .i64 5) from (Z6.out.kept hk).c5)
  have l7 : w6.heap.size < w7.heap.size := lt_box hk
  clear hk hka KA S6 W6 P6 K6 X6 Y6 Z6 x0 x1 x2
  have x0 := X7.out.c0; have x1 := X7.out.c1; have x2 := X7.out.c2
  have KA := Lib.hid ((Kept.refl w7).alloc #[.int .i64 0, .int .i64 0, .string ⟨#[]⟩, .int .i64 0, .int .i64 0, .int .i64 0, .string ⟨#[]⟩, .int .i64 0, .int .i64 0] 35)
  have n47 : w4.heap.size < w7.heap.size := (by omega)
  go_wp2_with fail
  go_at_call 14
  refine (aw_put _ (S7.out.kept KA.out)).mono ?_
  rintro e w8 ⟨rfl, hk⟩
  have hka := KA.out.trans hk
  have S8 := Lib.hid (S7.out.kept hka)
  have W8 := Lib.hid (W7.out.kept hka)
  have P8 := Lib.hid (hka.cell P7.out)
  have K8 := Lib.hid (K7.out.trans hka)
  have X8 := Lib.hid (X7.out.kept hka)
  have Y8 := Lib.hid (Y7.out.kept hka)
  have Z8 := Lib.hid (hka.cell Z7.out)
  have l8 : w7.heap.size < w8.heap.size := lt_box hk
  clear hk hka KA S7 W7 P7 K7 X7 Y7 Z7 x0 x1 x2
  go_wp2_with fail
  go_at_call 13
  refine (aw_take _ _ rfl).mono ?_
  rintro e w9 ⟨A9, c9, B9, k9, D9, q9, rfl, hs, hk⟩
  have S9 := Lib.hid (S8.out.kept hk)
  have W9 := Lib.hid (W8.out.kept hk)
  have T9 := Lib.hid hs
  have P9 := Lib.hid (hk.cell P8.out)
  have K9 := Lib.hid (K8.out.trans hk)
  have X9 := Lib.hid (X8.out.kept hk)
  have Y9 := Lib.hid (Y8.out.kept hk)
  have Z9 := Lib.hid (hk.cell Z8.out)
  have l9 : w8.heap.size ≤ w9.heap.size := hk.2.2
  clear hk hs S8 W8 P8 K8 X8 Y8 Z8
  have KA := Lib.hid ((Kept.refl w9).alloc #[.slice A9 2 c9, .slice B9 2 k9, .slice D9 0 q9] 29)
  have V9 := Lib.hid (Box3.new w9 (.slice A9 2 c9) (.slice B9 2 k9) (.slice D9 0 q9) 29)
  go_wp2_with fail
  go_at_call 13
  refine (aw_take2 _).mono ?_
  rintro e wa ⟨Aa, na, ca, Ba, ma, k_a, Da, pa, qa, ra, rfl, hk⟩
  have hka := KA.out.trans hk
  have Sa := Lib.hid (S9.out.kept hka)
  have Wa := Lib.hid (W9.out.kept hka)
  have Ta := Lib.hid (T9.out.kept hka)
  have Pa := Lib.hid (hka.cell P9.out)
  have K_a := Lib.hid (K9.out.trans hka)
  have Xa := Lib.hid (X9.out.kept hka)
  have Ya := Lib.hid (Y9.out.kept hka)
  have Va := Lib.hid (V9.out.kept hk)
  have Za := Lib.hid (hka.cell Z9.out)
  have la : w9.heap.size < wa.heap.size := lt_box hk
  clear hk hka KA S9 W9 T9 P9 K9 X9 Y9 Z9 V9
  have KB := Lib.hid ((Kept.refl wa).alloc #[.slice Aa na ca, .slice Ba ma k_a, .slice Da pa qa] 29)
  have r0 := Pa.out
  have x0 := Xa.out.c0; have x1 := Xa.out.c1; have x2 := Xa.out.c2
  have y0 := Ya.out.c0; have y1 := Ya.out.c1; have y2 := Ya.out.c2
  have z5 := Za.out
  have hgl : g < wa.heap.size := World.block_lt_of_cell? wa _ r0
  have n4a : w4.heap.size < wa.heap.size := (by omega)
  have n5a : w5.heap.size < wa.heap.size := (by omega)
  have n6a : w6.heap.size < wa.heap.size := (by omega)
  go_wp2_with fail
  go_at_call 11
  refine (aw_has _ (Wa.out.kept KB.out)).mono ?_
  rintro e wb ⟨rfl, hk⟩
  have hka := KB.out.trans hk
  have Sb := Lib.hid (Sa.out.kept hka)
  have Wb := Lib.hid (Wa.out.kept hka)
  have Tb := Lib.hid (Ta.out.kept hka)
  have Kb := Lib.hid (K_a.out.trans hka)
  have Xb := Lib.hid (Xa.out.kept hka)
  have Yb := Lib.hid (Ya.out.kept hka)
  have Vb := Lib.hid (Va.out.kept hka)
  clear hk hka Sa Wa Ta Pa K_a Xa Ya Va Za KB r0 x0 x1 x2 y0 y1 y2 z5 hgl
  have x0 := Xb.out.c0; have x1 := Xb.out.c1; have x2 := Xb.out.c2
  have y0 := Vb.out.c0; have y1 := Vb.out.c1; have y2 := Vb.out.c2
  go_wp2_with fail
  go_at_call 15
  refine (aw_same1 _ Tb.out Sb.out).mono ?_
  rintro e wc ⟨rfl, hk⟩
  have Sc := Lib.hid (Sb.out.kept hk)
  have Wc := Lib.hid (Wb.out.kept hk)
  have Kc := Lib.hid (Kb.out.trans hk)
  have Xc := Lib.hid (Xb.out.kept hk)
  have Yc := Lib.hid (Yb.out.kept hk)
  clear hk Sb Wb Tb Kb Xb Yb Vb x0 x1 x2 y0 y1 y2
  have x0 := Xc.out.c0; have x1 := Xc.out.c1; have x2 := Xc.out.c2
  go_wp2_with fail
  go_at_call 17
  refine (aw_at _ Sc.out).mono ?_
  rintro e wd ⟨Ad, cd, rfl, hk⟩
  have Sd := Lib.hid (Sc.out.kept hk)
  have Wd := Lib.hid (Wc.out.kept hk)
  have Kd := Lib.hid (Kc.out.trans hk)
  have Xd := Lib.hid (Xc.out.kept hk)
  have Yd := Lib.hid (Yc.out.kept hk)
  clear hk Sc Wc Kc Xc Yc x0 x1 x2
  have x0 := Xd.out.c0; have x1 := Xd.out.c1; have x2 := Xd.out.c2
  go_wp2_with fail
  go_at_call 8
  refine (aw_right1 _ Sd.out).mono ?_
  rintro e we ⟨rfl, hk⟩
  have Se := Lib.hid (Sd.out.kept hk)
  have We := Lib.hid (Wd.out.kept hk)
  have Ke := Lib.hid (Kd.out.trans hk)
  have Xe := Lib.hid (Xd.out.kept hk)
  have Ye := Lib.hid (Yd.out.kept hk)
  clear hk Sd Wd Kd Xd Yd x0 x1 x2
  have x0 := Xe.out.c0; have x1 := Xe.out.c1; have x2 := Xe.out.c2
  go_wp2_with fail
  go_at_call 8
  refine (aw_right2 _ Se.out).mono ?_
  rintro e wf ⟨rfl, hk⟩
  have Sf := Lib.hid (Se.out.kept hk)
  have Wf := Lib.hid (We.out.kept hk)
  have Kf := Lib.hid (Ke.out.trans hk)
  have Xf := Lib.hid (Xe.out.kept hk)
  have Yf := Lib.hid (Ye.out.kept hk)
  clear hk Se We Ke Xe Ye x0 x1 x2
  have x0 := Yf.out.c0; have x1 := Yf.out.c1; have x2 := Yf.out.c2
  go_wp2_with fail
  go_at_call 18
  refine (aw_text _ Wf.out (HLW.out.kept Kf.out)).mono ?_
  rintro e wg ⟨rfl, hk⟩
  have Sg := Lib.hid (Sf.out.kept hk)
  have Wg := Lib.hid (Wf.out.kept hk)
  have Kg := Lib.hid (Kf.out.trans hk)
  have Xg := Lib.hid (Xf.out.kept hk)
  have Yg := Lib.hid (Yf.out.kept hk)
  clear hk Sf Wf Kf Xf Yf x0 x1 x2
  have x0 := Xg.out.c0; have x1 := Xg.out.c1; have x2 := Xg.out.c2
  have y0 := Yg.out.c0; have y1 := Yg.out.c1; have y2 := Yg.out.c2
  go_wp2_with fail
  go_at_call 15
  refine (aw_same2 _ Sg.out Wg.out).mono ?_
  rintro e wh ⟨rfl, hk⟩
  go_wp2_with fail
  go_ret
  exact ⟨rfl, Kg.out.trans hk⟩
end Go.Proofs.YtoggcpfogeoeaaaGreatDoor

