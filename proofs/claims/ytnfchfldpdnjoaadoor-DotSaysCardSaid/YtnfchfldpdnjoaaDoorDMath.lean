/-
  What is proved: plain facts on dots (P5.2, P5.5, P5.6, P5.10): their order, lists that rise, and that such a list is told by what is in it; no program is spoken of here.
-/
import Derived.Test.YtnfchfldpdnjoaaDoorValMath
namespace Go.Proofs.YtnfchfldpdnjoaaDoor

/-- P5.2. -/
def cmpD (a b : Int × Int) : Int := if cmpI a.1 b.1 ≠ 0 then cmpI a.1 b.1 else cmpI a.2 b.2
def LtD (a b : Int × Int) : Prop := a.1 < b.1 ∨ (a.1 = b.1 ∧ a.2 < b.2)
theorem cmpD_lt (a b : Int × Int) : cmpD a b < 0 ↔ LtD a b := by
  unfold cmpD LtD cmpI
  (repeat split) <;> constructor <;> intro h <;> omega
theorem cmpD_gt (a b : Int × Int) : 0 < cmpD a b ↔ LtD b a := by
  unfold cmpD LtD cmpI
  (repeat split) <;> constructor <;> intro h <;> omega
theorem cmpD_eq (a b : Int × Int) : cmpD a b = 0 ↔ a = b := by
  obtain ⟨a1, a2⟩ := a
  obtain ⟨b1, b2⟩ := b
  unfold cmpD cmpI
  simp only [Prod.mk.injEq]
  (repeat split) <;> constructor <;> intro h <;> omega
theorem cmpD_anti (a b : Int × Int) : cmpD b a = - cmpD a b := by
  unfold cmpD cmpI
  (repeat split) <;> omega
theorem cmpD_bd (a b : Int × Int) : cmpD a b = -1 ∨ cmpD a b = 0 ∨ cmpD a b = 1 := by
  unfold cmpD; repeat (first | exact cmpI_bd _ _ | split)
theorem LtD.trans {a b c : Int × Int} (h : LtD a b) (k : LtD b c) : LtD a c := by unfold LtD at *; omega
theorem LtD.irrefl (a : Int × Int) : ¬ LtD a a := by unfold LtD; omega
theorem LtD.asymm {a b : Int × Int} (h : LtD a b) : ¬ LtD b a := fun k => LtD.irrefl _ (h.trans k)
theorem LtD.tri (a b : Int × Int) : LtD a b ∨ a = b ∨ LtD b a := by
  obtain ⟨a1, a2⟩ := a
  obtain ⟨b1, b2⟩ := b
  unfold LtD
  simp only [Prod.mk.injEq]
  omega

/-- Lists that rise. -/
def Rise (L : List (Int × Int)) : Prop := L.Pairwise LtD
theorem rise_unique : ∀ (X Y : List (Int × Int)), Rise X → Rise Y → (∀ x, x ∈ X ↔ x ∈ Y) → X = Y
  | [], [], _, _, _ => rfl
  | [], y :: ys, _, _, h => absurd ((h y).2 (List.mem_cons_self ..)) (by simp)
  | x :: xs, [], _, _, h => absurd ((h x).1 (List.mem_cons_self ..)) (by simp)
  | x :: xs, y :: ys, hX, hY, h => by
    obtain ⟨x1, x2⟩ := List.pairwise_cons.1 hX
    obtain ⟨y1, y2⟩ := List.pairwise_cons.1 hY
    have e : x = y := by
      rcases List.mem_cons.1 ((h x).1 (List.mem_cons_self ..)) with e | e
      · exact e
      · rcases List.mem_cons.1 ((h y).2 (List.mem_cons_self ..)) with e2 | e2
        · exact e2.symm
        · exact absurd (y1 _ e) (LtD.asymm (x1 _ e2))
    subst e
    refine congrArg _ (rise_unique xs ys x2 y2 fun z => ⟨fun hz => ?_, fun hz => ?_⟩)
    · rcases List.mem_cons.1 ((h z).1 (List.mem_cons_of_mem _ hz)) with e | e
      · subst e; exact absurd (x1 _ hz) (LtD.irrefl _)
      · exact e
    · rcases List.mem_cons.1 ((h z).2 (List.mem_cons_of_mem _ hz)) with e | e
      · subst e; exact absurd (y1 _ hz) (LtD.irrefl _)
      · exact e
/-- Rising, with just what is in L and d. -/
structure WithD (L : List (Int × Int)) (d : Int × Int) (X : List (Int × Int)) : Prop where
  rise : Rise X
  mem : ∀ x, x ∈ X ↔ x ∈ L ∨ x = d
/-- P5.6: rising, with just what is in L. -/
structure SortD (L X : List (Int × Int)) : Prop where
  rise : Rise X
  mem : ∀ x, x ∈ X ↔ x ∈ L
theorem SortD.same {L X Y : List (Int × Int)} (h : SortD L X) (k : SortD L Y) : X = Y := rise_unique X Y h.rise k.rise fun x => (h.mem x).trans (k.mem x).symm
theorem WithD.same {L X Y : List (Int × Int)} {d : Int × Int} (h : WithD L d X) (k : WithD L d Y) : X = Y := rise_unique X Y h.rise k.rise fun x => (h.mem x).trans (k.mem x).symm
theorem WithD.self {L : List (Int × Int)} {d : Int × Int} (h : Rise L) (hd : d ∈ L) : WithD L d L := ⟨h, fun _ => ⟨.inl, fun h => h.elim id fun e => e ▸ hd⟩⟩
/-- d put in at place k. -/
theorem WithD.put {L : List (Int × Int)} {d : Int × Int} (h : Rise L) (k : Nat) (h1 : ∀ x ∈ L.take k, LtD x d) (h2 : ∀ x ∈ L.drop k, LtD d x) : WithD L d (L.take k ++ d :: L.drop k) := by
  have e : L.take k ++ L.drop k = L := List.take_append_drop k L
  have hp := h
  unfold Rise at hp
  rw [← e, List.pairwise_append] at hp
  obtain ⟨p1, p2, p3⟩ := hp
  refine ⟨?_, fun x => ?_⟩
  · unfold Rise
    rw [List.pairwise_append]
    refine ⟨p1, List.pairwise_cons.2 ⟨h2, p2⟩, fun x hx y hy => ?_⟩
    rcases List.mem_cons.1 hy with rfl | hy
    · exact h1 x hx
    · exact p3 x hx y hy
  · conv => rhs; rw [← e]
    simp only [List.mem_append, List.mem_cons]
    constructor
    · rintro (h | h | h)
      · exact .inl (.inl h)
      · exact .inr h
      · exact .inl (.inr h)
    · rintro ((h | h) | h)
      · exact .inl h
      · exact .inr (.inr h)
      · exact .inr (.inl h)
theorem WithD.len {L X : List (Int × Int)} {d : Int × Int} (hL : Rise L) (h : WithD L d X) : (X.length = L.length) ↔ d ∈ L := by
  by_cases hd : d ∈ L
  · rw [(h.same (WithD.self hL hd))]
    simp [hd]
  · have hk : ∃ k, (∀ x ∈ L.take k, LtD x d) ∧ (∀ x ∈ L.drop k, LtD d x) := by
      clear h
      induction L with
      | nil => exact ⟨0, by simp, by simp⟩
      | cons a r ih =>
        obtain ⟨a1, a2⟩ := List.pairwise_cons.1 hL
        rcases LtD.tri a d with h | h | h
        · obtain ⟨k, k1, k2⟩ := ih a2 (fun hm => hd (List.mem_cons_of_mem _ hm))
          refine ⟨k + 1, fun x hx => ?_, fun x hx => k2 x (by simpa using hx)⟩
          rw [List.take_succ_cons] at hx
          rcases List.mem_cons.1 hx with rfl | hx
          · exact h
          · exact k1 x hx
        · exact absurd (h ▸ List.mem_cons_self ..) hd
        · refine ⟨0, by simp, fun x hx => ?_⟩
          rw [List.drop_zero] at hx
          rcases List.mem_cons.1 hx with rfl | hx
          · exact h
          · exact h.trans (a1 x hx)
    obtain ⟨k, k1, k2⟩ := hk
    rw [h.same (WithD.put hL k k1 k2)]
    have e : (L.take k ++ L.drop k).length = L.length := by rw [List.take_append_drop]
    simp only [List.length_append, List.length_cons] at e ⊢
    constructor
    · intro h; omega
    · intro h; exact absurd h hd
theorem rise_nil : Rise [] := List.Pairwise.nil
/-- The document's Sort: one put in behind the other. -/
theorem SortD.step {L X Y : List (Int × Int)} {d : Int × Int} (h : SortD L X) (k : WithD X d Y) : SortD (L ++ [d]) Y :=
  ⟨k.rise, fun x => by rw [k.mem, h.mem]; simp⟩
end Go.Proofs.YtnfchfldpdnjoaaDoor
