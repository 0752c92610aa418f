/-
  What is proved: plain facts on what a set tells (P6.8, P6.9, P6.14): each of its dots, once; of each replica the greatest; no program is spoken of here.
-/
import Derived.Test.YtgofecnpmohmgaaCDots
import Derived.Test.YtgofecnpmohmgaaCMost
namespace Go.Proofs.Ytgofecnpmohmgaa

theorem repD_mem (i : Nat) (x : Int) (d : Int × Int) : d ∈ repD i x ↔ d.1 = i ∧ 1 ≤ d.2 ∧ d.2 ≤ x := by
  unfold repD
  rw [List.mem_map]
  constructor
  · rintro ⟨s, hs, rfl⟩
    have := List.mem_range.1 hs
    exact ⟨rfl, by simp only; omega, by simp only; omega⟩
  · rintro ⟨h1, h2, h3⟩
    refine ⟨(d.2 - 1).toNat, List.mem_range.2 (by omega), ?_⟩
    obtain ⟨a, b⟩ := d
    simp only at h1 h2 h3 ⊢
    rw [h1, Prod.mk.injEq]
    exact ⟨rfl, by omega⟩
theorem repD_nodup (i : Nat) (x : Int) : (repD i x).Nodup := by
  unfold repD List.Nodup
  rw [List.pairwise_map]
  refine List.Pairwise.imp (R := fun a b : Nat => a < b) (fun hab => ?_) List.pairwise_lt_range
  intro e
  simp only [Prod.mk.injEq] at e
  omega
theorem dotsV_mem (V : List Int) (n : Nat) (d : Int × Int) : d ∈ dotsV V n ↔ ∃ i : Nat, i < n ∧ d.1 = i ∧ 1 ≤ d.2 ∧ d.2 ≤ V.getD i 0 := by
  unfold dotsV
  rw [List.mem_flatMap]
  constructor
  · rintro ⟨i, hi, h⟩
    exact ⟨i, List.mem_range.1 hi, (repD_mem _ _ _).1 h⟩
  · rintro ⟨i, hi, h⟩
    exact ⟨i, List.mem_range.2 hi, (repD_mem _ _ _).2 h⟩
theorem dotsV_all (V : List Int) (d : Int × Int) : d ∈ dotsV V V.length ↔ 1 ≤ d.2 ∧ d.2 ≤ atV V d.1 := by
  rw [dotsV_mem]
  constructor
  · rintro ⟨i, hi, h1, h2, h3⟩
    exact ⟨h2, by rw [h1, atV_nat]; exact h3⟩
  · rintro ⟨h1, h2⟩
    by_cases hr : 0 ≤ d.1 ∧ d.1 < V.length
    · refine ⟨d.1.toNat, by omega, by omega, h1, ?_⟩
      rw [← atV_nat, show ((d.1.toNat : Nat) : Int) = d.1 by omega]
      exact h2
    · rcases Int.lt_or_le d.1 0 with h0 | h0
      · rw [atV_neg V h0] at h2; omega
      · rw [atV_out V (by omega)] at h2; omega
theorem dotsV_nodup (V : List Int) (n : Nat) : (dotsV V n).Nodup := by
  induction n with
  | zero => unfold dotsV; exact List.nodup_nil
  | succ n ih =>
    have e : dotsV V (n + 1) = dotsV V n ++ repD n (V.getD n 0) := by
      unfold dotsV
      rw [List.range_succ, List.flatMap_append]
      simp
    rw [e, List.nodup_append]
    refine ⟨ih, repD_nodup _ _, fun a ha b hb hab => ?_⟩
    subst hab
    obtain ⟨i, hi, h1, _⟩ := (dotsV_mem _ _ _).1 ha
    have := ((repD_mem _ _ _).1 hb).1
    omega
theorem dotsC_mem (V : List Int) (C : List (Int × Int)) (d : Int × Int) : d ∈ dotsC V C ↔ hasC V C d := by
  unfold dotsC hasC
  rw [List.mem_append, dotsV_all]
theorem rise_nodup {L : List (Int × Int)} (h : Rise L) : L.Nodup := h.imp fun hab e => by subst e; exact LtD.irrefl _ hab
theorem dotsC_nodup {V : List Int} {C : List (Int × Int)} (h : RightC V C) : (dotsC V C).Nodup := by
  unfold dotsC
  rw [List.nodup_append]
  refine ⟨dotsV_nodup _ _, rise_nodup h.rise, fun a ha b hb hab => ?_⟩
  subst hab
  have h1 := (dotsV_all _ _).1 ha
  have h2 := h.apart a hb
  omega
theorem nodup_le : ∀ (X Y : List (Int × Int)), X.Nodup → (∀ x ∈ X, x ∈ Y) → X.length ≤ Y.length
  | [], _, _, _ => Nat.zero_le _
  | x :: X, Y, hn, hs => by
    have hn2 := List.nodup_cons.1 hn
    have hx := hs x (List.mem_cons_self ..)
    have ih := nodup_le X (Y.erase x) hn2.2 fun y hy => by
      have hne : y ≠ x := fun e => hn2.1 (e ▸ hy)
      exact (List.mem_erase_of_ne hne).2 (hs y (List.mem_cons_of_mem _ hy))
    rw [List.length_erase_of_mem hx] at ih
    have := List.length_pos_of_mem hx
    rw [List.length_cons]
    omega
theorem sort_len {L X : List (Int × Int)} (h : SortD L X) (hn : L.Nodup) (hl : X.length ≤ L.length) : X.length = L.length :=
  Nat.le_antisymm hl (nodup_le L X hn fun x hx => (h.mem x).2 hx)
theorem fold_ge (C : List (Int × Int)) (r : Int) : ∀ a : Int, a ≤ C.foldl (fun n d => if d.1 = r then max n d.2 else n) a ∧ (∀ d ∈ C, d.1 = r → d.2 ≤ C.foldl (fun n d => if d.1 = r then max n d.2 else n) a) ∧
    (C.foldl (fun n d => if d.1 = r then max n d.2 else n) a = a ∨ ∃ d ∈ C, d.1 = r ∧ d.2 = C.foldl (fun n d => if d.1 = r then max n d.2 else n) a) := by
  induction C with
  | nil => exact fun a => ⟨Int.le_refl _, (fun d hd => by cases hd), .inl rfl⟩
  | cons x C ih =>
    intro a
    rw [List.foldl_cons]
    obtain ⟨h1, h2, h3⟩ := ih (if x.1 = r then max a x.2 else a)
    refine ⟨?_, fun d hd hr => ?_, ?_⟩
    · by_cases hr : x.1 = r
      · rw [if_pos hr] at h1 ⊢; omega
      · rw [if_neg hr] at h1 ⊢; exact h1
    · rcases List.mem_cons.1 hd with rfl | hd
      · rw [if_pos hr] at h1 ⊢; omega
      · exact h2 d hd hr
    · rcases h3 with h3 | ⟨d, hd, hr, he⟩
      · rw [h3]
        by_cases hr : x.1 = r
        · rw [if_pos hr]
          rcases Int.le_total a x.2 with hh | hh
          · exact .inr ⟨x, List.mem_cons_self .., hr, by omega⟩
          · exact .inl (by omega)
        · rw [if_neg hr]; exact .inl rfl
      · exact .inr ⟨d, List.mem_cons_of_mem _ hd, hr, he⟩
theorem most_ge {V : List Int} {C : List (Int × Int)} {d : Int × Int} (h : hasC V C d) : d.2 ≤ mostC V C d.1 := by
  obtain ⟨h1, h2, _⟩ := fold_ge C d.1 (atV V d.1)
  unfold mostC
  rcases h with ⟨_, h⟩ | h
  · omega
  · exact h2 d h rfl
theorem most_has {V : List Int} {C : List (Int × Int)} {d : Int × Int} (h : hasC V C d) (h1 : 1 ≤ d.2) : hasC V C (d.1, mostC V C d.1) := by
  have hg := most_ge h
  obtain ⟨_, _, h3⟩ := fold_ge C d.1 (atV V d.1)
  have e : C.foldl (fun n x => if x.1 = d.1 then max n x.2 else n) (atV V d.1) = mostC V C d.1 := rfl
  rw [e] at h3
  rcases h3 with h3 | ⟨x, hx, hr, he⟩
  · exact .inl ⟨by simp only; omega, by simp only; omega⟩
  · refine .inr ?_
    rw [← he, ← hr]
    exact hx
theorem most_bd {V : List Int} {C : List (Int × Int)} (h : RightC V C) (r : Int) : 0 ≤ mostC V C r ∧ mostC V C r ≤ 1073741824 := by
  obtain ⟨h1, h2, h3⟩ := fold_ge C r (atV V r)
  have hb := h.vec.at_bd r
  have e : C.foldl (fun n x => if x.1 = r then max n x.2 else n) (atV V r) = mostC V C r := rfl
  rw [e] at h1 h3
  rcases h3 with h3 | ⟨x, hx, hr, he⟩
  · omega
  · have := rightD_bd (h.right x hx); omega
end Go.Proofs.Ytgofecnpmohmgaa
