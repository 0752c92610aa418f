/-
  What is proved: plain facts on the five states of the example that layer 9's laws answer (their sets, what is joined of them, what covers what), and the calls that make them.
  plain facts on what a set tells (P6.8, P6.9, P6.14): each of its dots, once; of each replica the greatest; no program is spoken of here.
  plain facts on what some events make of what three replicas know: all of it is in order and right, gives unlike things to no dot, and each replica knows all that any one knows of its own dots; a step more keeps that; no program is spoken of here.
  words for memory that the laws of layer 9 use: a slice of events, an array of three states that is written place by place, a state in a block of its own.
-/
import Derived.Test.YtcldbmhjfmbcfaaM27
import Derived.Test.YtcldbmhjfmbcfaaJRJoin
import Derived.Test.YtcldbmhjfmbcfaaM30
import Derived.Test.YtcldbmhjfmbcfaaM20
import Derived.Test.YtcldbmhjfmbcfaaM19
import Derived.Test.YtcldbmhjfmbcfaaM26
namespace Go.Proofs.Ytcldbmhjfmbcfaa
open Go.RowKit
set_option linter.unusedVariables false

def eS : En := ⟨(1, 1), ⟨#[97]⟩, 1, 1, 5, ⟨#[]⟩, (0, 0)⟩
def eT : En := ⟨(0, 1), ⟨#[97]⟩, 1, 1, 6, ⟨#[]⟩, (0, 0)⟩
def eU : En := ⟨(1, 2), ⟨#[98]⟩, 1, 1, 7, ⟨#[]⟩, (0, 0)⟩
def sS : Sta := ⟨[eS], [0, 1], []⟩
def sW : Sta := ⟨[], [0, 1], []⟩
def sT : Sta := ⟨[eT], [1, 1], []⟩
def sU : Sta := ⟨[eS, eU], [0, 2], []⟩
def sJ : Sta := ⟨[eT, eU], [1, 2], []⟩
theorem hasV2 (a b : Int) (d : Int × Int) : hasC [a, b] [] d ↔ (d.1 = 0 ∧ 1 ≤ d.2 ∧ d.2 ≤ a) ∨ (d.1 = 1 ∧ 1 ≤ d.2 ∧ d.2 ≤ b) := by
  unfold hasC
  rcases Int.lt_trichotomy d.1 0 with h | h | h
  · rw [atV_neg _ h]; simp; omega
  · rw [h]; simp [atV]; 
  · by_cases h1 : d.1 = 1
    · rw [h1]; simp [atV]
    · rw [atV_out _ (by simp; omega)]; simp; omega
theorem hasV0 (d : Int × Int) : ¬ hasC [] [] d := by unfold hasC; rw [atV_nil]; simp; omega
theorem rightV2 {a b : Int} (ha : 0 ≤ a ∧ a ≤ 1000) (hb : 1 ≤ b ∧ b ≤ 1000) : RightC [a, b] [] :=
  ⟨⟨by simp, fun n hn => by
      simp only [List.mem_cons, List.not_mem_nil, or_false] at hn
      rcases hn with rfl | rfl <;> omega⟩, fun k hk => by
      obtain rfl : k = 1 := by simpa using hk.symm
      simp; omega, rise_nil, fun d hd => (by cases hd), fun d hd => (by cases hd)⟩
theorem right_iff (d : Int × Int) : rightD d = true ↔ 0 ≤ d.1 ∧ d.1 < 64 ∧ 1 ≤ d.2 ∧ d.2 ≤ 1073741824 := by unfold rightD; rw [decide_eq_true_iff]
theorem setS : SetC (fun d => hasC Sta.none.V Sta.none.C d ∨ (rightD d = true ∧ d = eS.d)) [0, 1] [] := by
  refine ⟨rightV2 (by omega) (by omega), fun ⟨d1, d2⟩ => ?_⟩
  have h0 : ¬ hasC Sta.none.V Sta.none.C (d1, d2) := hasV0 _
  rw [hasV2, right_iff]
  simp only [eS, Prod.mk.injEq, h0, false_or]
  omega
theorem setW : SetC (fun d => hasC sS.V sS.C d ∨ (rightD d = true ∧ d ∈ [((1 : Int), (1 : Int))])) [0, 1] [] := by
  refine ⟨rightV2 (by omega) (by omega), fun ⟨d1, d2⟩ => ?_⟩
  simp only [sS]
  rw [hasV2, right_iff]
  simp only [List.mem_cons, List.not_mem_nil, or_false, Prod.mk.injEq]
  omega
theorem setT : SetC (fun d => hasC sW.V sW.C d ∨ (rightD d = true ∧ d = eT.d)) [1, 1] [] := by
  refine ⟨rightV2 (by omega) (by omega), fun ⟨d1, d2⟩ => ?_⟩
  simp only [sW]
  rw [hasV2, hasV2, right_iff]
  simp only [eT, Prod.mk.injEq]
  omega
theorem setU : SetC (fun d => hasC sS.V sS.C d ∨ (rightD d = true ∧ d = eU.d)) [0, 2] [] := by
  refine ⟨rightV2 (by omega) (by omega), fun ⟨d1, d2⟩ => ?_⟩
  simp only [sS]
  rw [hasV2, hasV2, right_iff]
  simp only [eU, Prod.mk.injEq]
  omega
theorem setO : SetC (CompS [] [((1 : Int), (1 : Int))]) [0, 1] [] := by
  refine ⟨rightV2 (by omega) (by omega), fun ⟨d1, d2⟩ => ?_⟩
  rw [of_has, hasV2, right_iff]
  simp only [List.mem_cons, List.not_mem_nil, or_false, Prod.mk.injEq]
  omega
theorem setJ : SetC (fun d => sT.has d ∨ sU.has d) [1, 2] [] := by
  refine ⟨rightV2 (by omega) (by omega), fun ⟨d1, d2⟩ => ?_⟩
  show hasC [1, 2] [] (d1, d2) ↔ hasC [1, 1] [] (d1, d2) ∨ hasC [0, 2] [] (d1, d2)
  rw [hasV2, hasV2, hasV2]
  simp only
  omega
theorem riseE1 (x : En) : RiseE [x] := List.pairwise_singleton _ _
theorem ordS : Ord sS := ⟨riseE1 _, rightV2 (by omega) (by omega), fun x hx => by
  obtain rfl : x = eS := by simpa [sS] using hx
  exact (hasV2 _ _ _).2 (by simp [eS])⟩
theorem ordW : Ord sW := ⟨riseE_nil, rightV2 (by omega) (by omega), fun x hx => by cases hx⟩
theorem ordT : Ord sT := ⟨riseE1 _, rightV2 (by omega) (by omega), fun x hx => by
  obtain rfl : x = eT := by simpa [sT] using hx
  exact (hasV2 _ _ _).2 (by simp [eT])⟩
theorem ordU : Ord sU := ⟨List.pairwise_cons.2 ⟨fun y hy => by
    obtain rfl : y = eU := by simpa using hy
    exact .inr ⟨rfl, by simp [eS, eU]⟩, riseE1 _⟩, rightV2 (by omega) (by omega), fun x hx => by
  simp only [sU, List.mem_cons, List.not_mem_nil, or_false] at hx
  rcases hx with rfl | rfl
  · exact (hasV2 _ _ _).2 (by simp [eS])
  · exact (hasV2 _ _ _).2 (by simp [eU])⟩
theorem joinTU : JoinOf sT sU sJ := by
  have h := join_of ordT ordU setJ
  have e1 : sT.L.filter (stayE sU.L sU.V sU.C) = [eT] := by kernel_rfl
  have e2 : sU.L.filter (newE sT.V sT.C) = [eU] := by kernel_rfl
  rw [e1, e2, mergeE_lt (by decide), mergeE_nil] at h
  exact h
theorem agreeTU : Agree sT sU := fun x hx y hy e => by
  obtain rfl : x = eT := by simpa [sT] using hx
  simp only [sU, List.mem_cons, List.not_mem_nil, or_false] at hy
  rcases hy with rfl | rfl <;> simp [eT, eS, eU] at e
theorem agreeST : Agree sS sT := fun x hx y hy e => by
  obtain rfl : x = eS := by simpa [sS] using hx
  obtain rfl : y = eT := by simpa [sT] using hy
  simp [eT, eS] at e
theorem agreeSU : Agree sS sU := fun x hx y hy e => by
  obtain rfl : x = eS := by simpa [sS] using hx
  simp only [sU, List.mem_cons, List.not_mem_nil, or_false] at hy
  rcases hy with rfl | rfl
  · rfl
  · simp [eS, eU] at e
theorem ordJ : Ord sJ := joinTU.ord ordT ordU
theorem joinUT : JoinOf sU sT sJ := joinTU.comm ordT ordU agreeTU
theorem coverTS : JoinOf sT sS sT := by
  refine (covers_iff ordT ordS agreeST.symm).2 ⟨fun d hd => ?_, fun x hx => ?_⟩
  · have hd2 := (hasV2 0 1 d).1 hd
    exact (hasV2 1 1 d).2 (by omega)
  · obtain rfl : x = eT := by simpa [sT] using hx
    exact .inr fun h => by
      have := (hasV2 0 1 eT.d).1 h
      simp [eT] at this
theorem coverUS : JoinOf sU sS sU := by
  refine (covers_iff ordU ordS agreeSU.symm).2 ⟨fun d hd => ?_, fun x hx => ?_⟩
  · have hd2 := (hasV2 0 1 d).1 hd
    exact (hasV2 0 2 d).2 (by omega)
  · simp only [sU, List.mem_cons, List.not_mem_nil, or_false] at hx
    rcases hx with rfl | rfl
    · exact .inl (by simp [sS])
    · exact .inr fun h => by
        have := (hasV2 0 1 eU.d).1 h
        simp [eU] at this
theorem coverJS : JoinOf sJ sS sJ := by
  refine (covers_iff ordJ ordS (joinTU.agree agreeST.symm agreeSU.symm)).2 ⟨fun d hd => ?_, fun x hx => ?_⟩
  · have hd2 := (hasV2 0 1 d).1 hd
    exact (hasV2 1 2 d).2 (by omega)
  · simp only [sJ, List.mem_cons, List.not_mem_nil, or_false] at hx
    rcases hx with rfl | rfl
    · exact .inr fun h => by
        have := (hasV2 0 1 eT.d).1 h
        simp [eT] at this
    · exact .inr fun h => by
        have := (hasV2 0 1 eU.d).1 h
        simp [eU] at this
theorem coverST : ¬ JoinOf sS sT sS := fun h => by
  have h2 := ((covers_iff ordS ordT agreeST).1 h).1 (0, 1) ((hasV2 1 1 _).2 (by simp))
  have := (hasV2 0 1 ((0 : Int), (1 : Int))).1 h2
  simp at this
theorem allSTU {r : Sta} (h : AllR [sS, sT, sU] r) : r = sJ := by
  have h1 : AllR [sS, sT] sT := (AllR.self ordS).join (l2 := [sT]) (AllR.self ordT) (fun s hs => by simp at hs; rw [hs]; exact ordS) (coverTS.comm ordT ordS agreeST.symm)
  have h2 : AllR ([sS, sT] ++ [sU]) sJ := h1.join (AllR.self ordU) (fun s hs => by
    simp only [List.mem_cons, List.not_mem_nil, or_false] at hs
    rcases hs with rfl | rfl
    · exact ordS
    · exact ordT) joinTU
  exact h.one h2
theorem beyU : sU.L.filter (newE [0, 1] []) = [eU] := by kernel_rfl
theorem goneTU : goneE sT sU = [(1, 1)] := by kernel_rfl
theorem stS_at {L : List En} {S : Int × Int → Prop} {mx : Nat} {w w' : World} {e : Ending} (h : StS L S mx w e w') {V : List Int} {C : List (Int × Int)} (hs : SetC S V C) : StJ (fun s => s = ⟨L, V, C⟩) w e w' := by
  obtain ⟨A, n, c, B, m, k, D, p, q, V', C', rfl, he, hi, hd, hs', _, hk⟩ := h
  obtain ⟨rfl, rfl⟩ := hs'.same hs fun d => Iff.rfl
  exact ⟨A, n, c, B, m, k, D, p, q, ⟨L, V', C'⟩, rfl, ⟨he, hi, hd⟩, rfl, hk⟩
end Go.Proofs.Ytcldbmhjfmbcfaa

namespace Go.Proofs.Ytcldbmhjfmbcfaa

theorem repD_mem (i : Nat) (x : Int) (d : Int × Int) : d ∈ repD i x ↔ d.1 = i ∧ 1 ≤ d.2 ∧ d.2 ≤ x := by
  unfold repD
  rw [List.mem_map]
  constructor
  · rintro ⟨s, hs, rfl⟩
    have := List.mem_range.1 hs
    exact ⟨rfl, by simp only; omega, by simp only; omega⟩
  · rintro ⟨h1, h2, h3⟩
    refine ⟨(d.2 - 1).toNat, List.mem_range.2 (by omega), ?_⟩
    obtain ⟨a, b⟩ := d
    simp only at h1 h2 h3 ⊢
    rw [h1, Prod.mk.injEq]
    exact ⟨rfl, by omega⟩
theorem repD_nodup (i : Nat) (x : Int) : (repD i x).Nodup := by
  unfold repD List.Nodup
  rw [List.pairwise_map]
  refine List.Pairwise.imp (R := fun a b : Nat => a < b) (fun hab => ?_) List.pairwise_lt_range
  intro e
  simp only [Prod.mk.injEq] at e
  omega
theorem dotsV_mem (V : List Int) (n : Nat) (d : Int × Int) : d ∈ dotsV V n ↔ ∃ i : Nat, i < n ∧ d.1 = i ∧ 1 ≤ d.2 ∧ d.2 ≤ V.getD i 0 := by
  unfold dotsV
  rw [List.mem_flatMap]
  constructor
  · rintro ⟨i, hi, h⟩
    exact ⟨i, List.mem_range.1 hi, (repD_mem _ _ _).1 h⟩
  · rintro ⟨i, hi, h⟩
    exact ⟨i, List.mem_range.2 hi, (repD_mem _ _ _).2 h⟩
theorem dotsV_all (V : List Int) (d : Int × Int) : d ∈ dotsV V V.length ↔ 1 ≤ d.2 ∧ d.2 ≤ atV V d.1 := by
  rw [dotsV_mem]
  constructor
  · rintro ⟨i, hi, h1, h2, h3⟩
    exact ⟨h2, by rw [h1, atV_nat]; exact h3⟩
  · rintro ⟨h1, h2⟩
    by_cases hr : 0 ≤ d.1 ∧ d.1 < V.length
    · refine ⟨d.1.toNat, by omega, by omega, h1, ?_⟩
      rw [← atV_nat, show ((d.1.toNat : Nat) : Int) = d.1 by omega]
      exact h2
    · rcases Int.lt_or_le d.1 0 with h0 | h0
      · rw [atV_neg V h0] at h2; omega
      · rw [atV_out V (by omega)] at h2; omega
theorem dotsV_nodup (V : List Int) (n : Nat) : (dotsV V n).Nodup := by
  induction n with
  | zero => unfold dotsV; exact List.nodup_nil
  | succ n ih =>
    have e : dotsV V (n + 1) = dotsV V n ++ repD n (V.getD n 0) := by
      unfold dotsV
      rw [List.range_succ, List.flatMap_append]
      simp
    rw [e, List.nodup_append]
    refine ⟨ih, repD_nodup _ _, fun a ha b hb hab => ?_⟩
    subst hab
    obtain ⟨i, hi, h1, _⟩ := (dotsV_mem _ _ _).1 ha
    have := ((repD_mem _ _ _).1 hb).1
    omega
theorem dotsC_mem (V : List Int) (C : List (Int × Int)) (d : Int × Int) : d ∈ dotsC V C ↔ hasC V C d := by
  unfold dotsC hasC
  rw [List.mem_append, dotsV_all]
theorem rise_nodup {L : List (Int × Int)} (h : Rise L) : L.Nodup := h.imp fun hab e => by subst e; exact LtD.irrefl _ hab
theorem dotsC_nodup {V : List Int} {C : List (Int × Int)} (h : RightC V C) : (dotsC V C).Nodup := by
  unfold dotsC
  rw [List.nodup_append]
  refine ⟨dotsV_nodup _ _, rise_nodup h.rise, fun a ha b hb hab => ?_⟩
  subst hab
  have h1 := (dotsV_all _ _).1 ha
  have h2 := h.apart a hb
  omega
theorem nodup_le : ∀ (X Y : List (Int × Int)), X.Nodup → (∀ x ∈ X, x ∈ Y) → X.length ≤ Y.length
  | [], _, _, _ => Nat.zero_le _
  | x :: X, Y, hn, hs => by
    have hn2 := List.nodup_cons.1 hn
    have hx := hs x (List.mem_cons_self ..)
    have ih := nodup_le X (Y.erase x) hn2.2 fun y hy => by
      have hne : y ≠ x := fun e => hn2.1 (e ▸ hy)
      exact (List.mem_erase_of_ne hne).2 (hs y (List.mem_cons_of_mem _ hy))
    rw [List.length_erase_of_mem hx] at ih
    have := List.length_pos_of_mem hx
    rw [List.length_cons]
    omega
theorem sort_len {L X : List (Int × Int)} (h : SortD L X) (hn : L.Nodup) (hl : X.length ≤ L.length) : X.length = L.length :=
  Nat.le_antisymm hl (nodup_le L X hn fun x hx => (h.mem x).2 hx)
theorem fold_ge (C : List (Int × Int)) (r : Int) : ∀ a : Int, a ≤ C.foldl (fun n d => if d.1 = r then max n d.2 else n) a ∧ (∀ d ∈ C, d.1 = r → d.2 ≤ C.foldl (fun n d => if d.1 = r then max n d.2 else n) a) ∧
    (C.foldl (fun n d => if d.1 = r then max n d.2 else n) a = a ∨ ∃ d ∈ C, d.1 = r ∧ d.2 = C.foldl (fun n d => if d.1 = r then max n d.2 else n) a) := by
  induction C with
  | nil => exact fun a => ⟨Int.le_refl _, (fun d hd => by cases hd), .inl rfl⟩
  | cons x C ih =>
    intro a
    rw [List.foldl_cons]
    obtain ⟨h1, h2, h3⟩ := ih (if x.1 = r then max a x.2 else a)
    refine ⟨?_, fun d hd hr => ?_, ?_⟩
    · by_cases hr : x.1 = r
      · rw [if_pos hr] at h1 ⊢; omega
      · rw [if_neg hr] at h1 ⊢; exact h1
    · rcases List.mem_cons.1 hd with rfl | hd
      · rw [if_pos hr] at h1 ⊢; omega
      · exact h2 d hd hr
    · rcases h3 with h3 | ⟨d, hd, hr, he⟩
      · rw [h3]
        by_cases hr : x.1 = r
        · rw [if_pos hr]
          rcases Int.le_total a x.2 with hh | hh
          · exact .inr ⟨x, List.mem_cons_self .., hr, by omega⟩
          · exact .inl (by omega)
        · rw [if_neg hr]; exact .inl rfl
      · exact .inr ⟨d, List.mem_cons_of_mem _ hd, hr, he⟩
theorem most_ge {V : List Int} {C : List (Int × Int)} {d : Int × Int} (h : hasC V C d) : d.2 ≤ mostC V C d.1 := by
  obtain ⟨h1, h2, _⟩ := fold_ge C d.1 (atV V d.1)
  unfold mostC
  rcases h with ⟨_, h⟩ | h
  · omega
  · exact h2 d h rfl
theorem most_has {V : List Int} {C : List (Int × Int)} {d : Int × Int} (h : hasC V C d) (h1 : 1 ≤ d.2) : hasC V C (d.1, mostC V C d.1) := by
  have hg := most_ge h
  obtain ⟨_, _, h3⟩ := fold_ge C d.1 (atV V d.1)
  have e : C.foldl (fun n x => if x.1 = d.1 then max n x.2 else n) (atV V d.1) = mostC V C d.1 := rfl
  rw [e] at h3
  rcases h3 with h3 | ⟨x, hx, hr, he⟩
  · exact .inl ⟨by simp only; omega, by simp only; omega⟩
  · refine .inr ?_
    rw [← he, ← hr]
    exact hx
theorem most_bd {V : List Int} {C : List (Int × Int)} (h : RightC V C) (r : Int) : 0 ≤ mostC V C r ∧ mostC V C r ≤ 1073741824 := by
  obtain ⟨h1, h2, h3⟩ := fold_ge C r (atV V r)
  have hb := h.vec.at_bd r
  have e : C.foldl (fun n x => if x.1 = r then max n x.2 else n) (atV V r) = mostC V C r := rfl
  rw [e] at h1 h3
  rcases h3 with h3 | ⟨x, hx, hr, he⟩
  · omega
  · have := rightD_bd (h.right x hx); omega
end Go.Proofs.Ytcldbmhjfmbcfaa

namespace Go.Proofs.Ytcldbmhjfmbcfaa
open Go.RowKit
set_option linter.unusedVariables false

theorem most_at {V : List Int} {C : List (Int × Int)} (h : RightC V C) (r : Int) : mostC V C r = 0 ∨ hasC V C (r, mostC V C r) := by
  obtain ⟨h1, _, h3⟩ := fold_ge C r (atV V r)
  have hb := h.vec.at_bd r
  have e : C.foldl (fun n x => if x.1 = r then max n x.2 else n) (atV V r) = mostC V C r := rfl
  rw [e] at h1 h3
  rcases h3 with h3 | ⟨x, hx, hr, he⟩
  · by_cases h0 : atV V r = 0
    · exact .inl (h3.trans h0)
    · exact .inr (.inl ⟨by simp only; omega, by simp only; omega⟩)
  · refine .inr (.inr ?_)
    rw [← he, ← hr]
    exact hx
/-- What is so of what three replicas know, behind t events. -/
structure Inv (p : Nat → Sta) (t : Nat) : Prop where
  ord : ∀ k, k < 3 → Ord (p k)
  ent : ∀ k, k < 3 → ∀ x ∈ (p k).L, rightE x = true ∧ 0 ≤ x.vn ∧ x.vn ≤ 1000
  agree : ∀ j k, j < 3 → k < 3 → Agree (p j) (p k)
  own : ∀ j, j < 3 → ∀ d, (p j).has d → ∃ k : Nat, k < 3 ∧ d.1 = k ∧ 1 ≤ d.2 ∧ d.2 ≤ t ∧ (p k).has d
theorem Inv.start : Inv (fun _ => .none) 0 :=
  ⟨fun _ _ => Ord.none, (fun k hk x hx => by cases hx), fun _ _ _ _ => Agree.none _, fun j hj d hd => by
    exfalso
    unfold Sta.has Sta.none hasC at hd
    simp [atV_nil] at hd
    omega⟩
theorem Inv.ok {p : Nat → Sta} {t : Nat} (h : Inv p t) {k : Nat} (hk : k < 3) : StOk (p k).L (p k).V (p k).C := (h.ord k hk).ok fun x hx => (h.ent k hk x hx).1
/-- The dot of the next event. -/
def nextD (s : Sta) (a : Nat) : Int × Int := ((a : Int), mostC s.V s.C a + 1)
theorem Inv.next {p : Nat → Sta} {t : Nat} (h : Inv p t) {a b : Nat} (ha : a < 3) (hb : b < 3) {s : Sta} (hs : JoinOf (p a) (p b) s) :
    1 ≤ (nextD s a).2 ∧ (nextD s a).2 ≤ t + 1 ∧ (∀ j, j < 3 → ¬ (p j).has (nextD s a)) ∧ ¬ s.has (nextD s a) := by
  have ho := hs.ord (h.ord a ha) (h.ord b hb)
  have hm := most_bd ho.ctx a
  have hno : ¬ s.has (nextD s a) := fun k => by
    have := most_ge k
    unfold nextD at this
    simp only at this
    omega
  refine ⟨by unfold nextD; simp only; omega, ?_, fun j hj k => ?_, hno⟩
  · unfold nextD
    simp only
    rcases most_at ho.ctx (a : Int) with h0 | h0
    · omega
    · rcases (hs.has _).1 h0 with h1 | h1
      · obtain ⟨_, _, _, _, h2, _⟩ := h.own a ha _ h1; simp only at h2; omega
      · obtain ⟨_, _, _, _, h2, _⟩ := h.own b hb _ h1; simp only at h2; omega
  · obtain ⟨i, hi, hd, _, _, hk⟩ := h.own j hj _ k
    have : i = a := by unfold nextD at hd; simp only at hd; omega
    subst this
    exact hno ((hs.has _).2 (.inl hk))
/-- The entry that an event leaves. -/
def leftE (d : Int × Int) (path : ByteArray) (i : Int) : En := ⟨d, path, 2, 1, i, ⟨#[]⟩, (0, 0)⟩
theorem leftE_right {d : Int × Int} {path : ByteArray} {i : Int} (hd : rightD d = true) (hp : L4.rightS path = true) : rightE (leftE d path i) = true := by
  refine rightE_of.2 ⟨hd, hp, ?_, ?_, ?_⟩
  · unfold kindE leftE; simp
  · unfold rightB leftE; rw [decide_eq_true_iff]; exact .inl ⟨rfl, rfl⟩
  · unfold verE leftE; simp
def upd (p : Nat → Sta) (a : Nat) (s : Sta) : Nat → Sta := fun k => if k = a then s else p k
theorem upd_same (p : Nat → Sta) (a : Nat) (s : Sta) : upd p a s a = s := if_pos rfl
theorem upd_other (p : Nat → Sta) {a k : Nat} (s : Sta) (h : k ≠ a) : upd p a s k = p k := if_neg h
/-- One event more. -/
theorem Inv.step {p : Nat → Sta} {t : Nat} (h : Inv p t) (ht : t ≤ 1000) {a b : Nat} (ha : a < 3) (hb : b < 3) {s n : Sta} (hs : JoinOf (p a) (p b) s) (path : ByteArray) (i : Int) (hp : L4.rightS path = true) (hi : 0 ≤ i ∧ i ≤ 1000)
    (hn : Ord n) (hh : ∀ e, n.has e ↔ s.has e ∨ e = nextD s a) (hm : ∀ y ∈ n.L, y ∈ s.L ∨ y = leftE (nextD s a) path i) : Inv (upd p a n) (t + 1) := by
  obtain ⟨n1, n2, n3, n4⟩ := h.next ha hb hs
  have hrd : rightD (nextD s a) = true := by
    unfold rightD
    rw [decide_eq_true_iff]
    have e1 : (nextD s a).1 = (a : Int) := rfl
    omega
  have hsx : ∀ y ∈ s.L, rightE y = true ∧ 0 ≤ y.vn ∧ y.vn ≤ 1000 := fun y hy => (hs.from_ hy).elim (h.ent a ha y) (h.ent b hb y)
  have hso := hs.ord (h.ord a ha) (h.ord b hb)
  have hag : ∀ k, k < 3 → k ≠ a → Agree n (p k) := fun k hk hka y hy z hz e => by
    rcases hm y hy with h1 | h1
    · exact (hs.agree (h.agree a k ha hk) (h.agree b k hb hk)) y h1 z hz e
    · exfalso
      refine n3 k hk ?_
      have := (h.ord k hk).known z hz
      rw [← e, h1] at this
      exact this
  refine ⟨fun k hk => ?_, fun k hk y hy => ?_, fun j k hj hk => ?_, fun j hj d hd => ?_⟩
  · by_cases e : k = a
    · subst e; rw [upd_same]; exact hn
    · rw [upd_other p n e]; exact h.ord k hk
  · by_cases e : k = a
    · subst e
      rw [upd_same] at hy
      rcases hm y hy with h1 | h1
      · exact hsx y h1
      · rw [h1]; exact ⟨leftE_right hrd hp, hi.1, hi.2⟩
    · rw [upd_other p n e] at hy; exact h.ent k hk y hy
  · by_cases e1 : j = a
    · subst e1
      rw [upd_same]
      by_cases e2 : k = j
      · subst e2; rw [upd_same]; exact Agree.self hn
      · rw [upd_other p n e2]; exact hag k hk e2
    · rw [upd_other p n e1]
      by_cases e2 : k = a
      · subst e2; rw [upd_same]; exact (hag j hj e1).symm
      · rw [upd_other p n e2]; exact h.agree j k hj hk
  · have old : ∀ i, i < 3 → (p i).has d → ∃ k : Nat, k < 3 ∧ d.1 = k ∧ 1 ≤ d.2 ∧ d.2 ≤ ((t + 1 : Nat) : Int) ∧ (upd p a n k).has d := fun i hi2 hd2 => by
      obtain ⟨k, hk, h1, h2, h3, h4⟩ := h.own i hi2 d hd2
      refine ⟨k, hk, h1, h2, by omega, ?_⟩
      by_cases e : k = a
      · subst e; rw [upd_same]; exact (hh d).2 (.inl ((hs.has d).2 (.inl h4)))
      · rw [upd_other p n e]; exact h4
    by_cases e : j = a
    · subst e
      rw [upd_same] at hd
      rcases (hh d).1 hd with h1 | h1
      · rcases (hs.has d).1 h1 with h2 | h2
        · exact old j hj h2
        · exact old b hb h2
      · subst h1
        refine ⟨j, hj, rfl, n1, by omega, ?_⟩
        rw [upd_same]; exact hd
    · rw [upd_other p n e] at hd
      exact old j hj hd
/-- The dots that an event takes away. -/
def wipeD (s : Sta) (path : ByteArray) : List (Int × Int) := (s.L.filter fun x => L4.begS x.p path).map (·.d)
theorem wipeD_known {s : Sta} (hs : Ord s) {path : ByteArray} {d : Int × Int} (h : d ∈ wipeD s path) : s.has d := by
  obtain ⟨x, hx, rfl⟩ := List.mem_map.1 h
  exact hs.known x (List.mem_filter.1 hx).1
/-- What an event makes: some dots taken away with its own, a value left or none. -/
theorem step_has {s n : Sta} (hs : Ord s) {G : List (Int × Int)} (hG : ∀ d ∈ G, s.has d) {d : Int × Int} (hd : rightD d = true) (h : SetC (fun e => s.has e ∨ (rightD e = true ∧ e ∈ G ++ [d])) n.V n.C) (e : Int × Int) : n.has e ↔ s.has e ∨ e = d := by
  refine (h.has e).trans ⟨?_, ?_⟩
  · rintro (h1 | ⟨_, h1⟩)
    · exact .inl h1
    · rcases List.mem_append.1 h1 with h2 | h2
      · exact .inl (hG e h2)
      · exact .inr (by simpa using h2)
  · rintro (h1 | h1)
    · exact .inl h1
    · subst h1; exact .inr ⟨hd, by simp⟩
theorem step_out {s n : Sta} (hs : Ord s) {G : List (Int × Int)} (hG : ∀ d ∈ G, s.has d) {d : Int × Int} (hd : rightD d = true) (hL : n.L = outE s.L (G ++ [d])) (h : SetC (fun e => s.has e ∨ (rightD e = true ∧ e ∈ G ++ [d])) n.V n.C) : Ord n :=
  ⟨by rw [hL]; exact outE_rise hs.rise _, h.right, fun x hx => (step_has hs hG hd h _).2 (.inl (hs.known x (outE_mem.1 (hL ▸ hx)).1))⟩
theorem step_with {m n : Sta} (hm : Ord m) {x : En} (hd : rightD x.d = true) (hL : n.L = withE m.L x) (h : SetC (fun e => m.has e ∨ (rightD e = true ∧ e = x.d)) n.V n.C) : Ord n :=
  ⟨by rw [hL]; exact withE_rise hm.rise _, h.right, fun y hy => (h.has _).2 (by
    rw [hL] at hy
    rcases withE_mem.1 hy with rfl | ⟨h1, _⟩
    · exact .inr ⟨hd, rfl⟩
    · exact .inl (hm.known y h1))⟩
/-- Of dots of three replicas, numbered up to t, there are 3 t. -/
theorem few_dots {L : List (Int × Int)} (hr : Rise L) {t : Nat} (h : ∀ d ∈ L, ∃ k : Nat, k < 3 ∧ d.1 = k ∧ 1 ≤ d.2 ∧ d.2 ≤ t) : L.length ≤ 3 * t := by
  have hl := nodup_le L ((List.range 3).flatMap fun k => (List.range t).map fun n => (((k : Nat) : Int), ((n + 1 : Nat) : Int))) (rise_nodup hr) fun d hd => by
    obtain ⟨k, hk, h1, h2, h3⟩ := h d hd
    refine List.mem_flatMap.2 ⟨k, List.mem_range.2 hk, List.mem_map.2 ⟨(d.2 - 1).toNat, List.mem_range.2 (by omega), ?_⟩⟩
    obtain ⟨d1, d2⟩ := d
    simp only [Prod.mk.injEq] at h1 h2 h3 ⊢
    exact ⟨h1.symm, by omega⟩
  refine Nat.le_trans hl ?_
  rw [List.length_flatMap]
  simp only [List.length_map, List.length_range]
  rw [show (List.range 3).map (fun _ => t) = [t, t, t] from rfl]
  simp only [List.sum_cons, List.sum_nil]
  omega
theorem Inv.few {p : Nat → Sta} {t : Nat} (h : Inv p t) {k : Nat} (hk : k < 3) : (p k).L.length ≤ 3 * t ∧ (p k).C.length ≤ 3 * t := by
  have ho := h.ord k hk
  constructor
  · have := few_dots (L := (p k).L.map (·.d)) (riseE_map.1 ho.rise) (t := t) fun d hd => by
      obtain ⟨x, hx, rfl⟩ := List.mem_map.1 hd
      obtain ⟨i, h1, h2, h3, h4, _⟩ := h.own k hk _ (ho.known x hx)
      exact ⟨i, h1, h2, h3, h4⟩
    rwa [List.length_map] at this
  · exact few_dots ho.ctx.rise fun d hd => by
      obtain ⟨i, h1, h2, h3, h4, _⟩ := h.own k hk d (.inr hd)
      exact ⟨i, h1, h2, h3, h4⟩
end Go.Proofs.Ytcldbmhjfmbcfaa

namespace Go.Proofs.Ytcldbmhjfmbcfaa
open Go.RowKit
set_option linter.unusedVariables false

/-- An event. -/
structure Ev where
  ea : Int
  ef : Int
  path : ByteArray
  clear_ : Bool
  leave : Bool
structure EvO (w : World) (b o : Nat) (x : Ev) : Prop where
  c0 : w.cell? ⟨b, o, none⟩ = some (.int .i64 x.ea)
  c1 : w.cell? ⟨b, o + 1, none⟩ = some (.int .i64 x.ef)
  c2 : w.cell? ⟨b, o + 2, none⟩ = some (.string x.path)
  c3 : w.cell? ⟨b, o + 3, none⟩ = some (.bool x.clear_)
  c4 : w.cell? ⟨b, o + 4, none⟩ = some (.bool x.leave)
theorem EvO.kept {w w' : World} {b o : Nat} {x : Ev} (h : EvO w b o x) (hk : Kept w w') : EvO w' b o x :=
  ⟨hk.cell h.c0, hk.cell h.c1, hk.cell h.c2, hk.cell h.c3, hk.cell h.c4⟩
theorem EvO.new (w : World) (x : Ev) (t : TypeId) : EvO (w.alloc (.cells #[.int .i64 x.ea, .int .i64 x.ef, .string x.path, .bool x.clear_, .bool x.leave] t)) w.heap.size 0 x :=
  ⟨(Kept.refl _).box 0 _ rfl, (Kept.refl _).box 1 _ rfl, (Kept.refl _).box 2 _ rfl, (Kept.refl _).box 3 _ rfl, (Kept.refl _).box 4 _ rfl⟩
def Evl (w : World) (A : Option Addr) (n c : Nat) (L : List Ev) : Prop :=
  n = L.length ∧ n ≤ c ∧ c ≤ maxLen ∧ (A = none → c = 0) ∧ (n = 0 ∨ ∃ b o, A = some ⟨b, o, none⟩ ∧ ∀ j x, L[j]? = some x → EvO w b (o + j * 5) x)
theorem Evl.kept {w w' : World} {A : Option Addr} {n c : Nat} {L : List Ev} (h : Evl w A n c L) (hk : Kept w w') : Evl w' A n c L :=
  ⟨h.1, h.2.1, h.2.2.1, h.2.2.2.1, h.2.2.2.2.imp id fun ⟨b, o, hA, hc⟩ => ⟨b, o, hA, fun j x hj => (hc j x hj).kept hk⟩⟩
theorem Evl.cap {w : World} {A : Option Addr} {n c : Nat} {L : List Ev} (h : Evl w A n c L) : n ≤ c ∧ c ≤ 9223372036854775807 := ⟨h.2.1, h.2.2.1⟩
theorem Evl.get {w : World} {A : Option Addr} {n c : Nat} {L : List Ev} (h : Evl w A n c L) {k : Nat} (hk : k < n) : ∃ b o x, A = some ⟨b, o, none⟩ ∧ L[k]? = some x ∧ EvO w b (o + k * 5) x := by
  have hl : k < L.length := by rw [← h.1]; exact hk
  rcases h.2.2.2.2 with h0 | ⟨b, o, hA, hc⟩
  · omega
  · exact ⟨b, o, L[k], hA, List.getElem?_eq_getElem hl, hc k L[k] (List.getElem?_eq_getElem hl)⟩
/-- What holds no slice stays where slices are overwritten by others. -/
theorem keepO {w : World} {b o : Nat} {u0 u1 u2 : Value} {a0 a1 a2 : Option Addr} {n0 n1 n2 c0 c1 c2 : Nat} (h0 : w.cell? ⟨b, o, none⟩ = some (.slice a0 n0 c0)) (h1 : w.cell? ⟨b, o + 1, none⟩ = some (.slice a1 n1 c1)) (h2 : w.cell? ⟨b, o + 2, none⟩ = some (.slice a2 n2 c2))
    {x : Addr} {u : Value} (hu : w.cell? x = some u) (hn : ∀ a n c, u ≠ .slice a n c) : (((w.setCell ⟨b, o, none⟩ u0).setCell ⟨b, o + 1, none⟩ u1).setCell ⟨b, o + 2, none⟩ u2).cell? x = some u := by
  have e0 : x ≠ ⟨b, o, none⟩ := fun e => by subst e; rw [h0] at hu; exact hn _ _ _ (Option.some.inj hu).symm
  have e1 : x ≠ ⟨b, o + 1, none⟩ := fun e => by subst e; rw [h1] at hu; exact hn _ _ _ (Option.some.inj hu).symm
  have e2 : x ≠ ⟨b, o + 2, none⟩ := fun e => by subst e; rw [h2] at hu; exact hn _ _ _ (Option.some.inj hu).symm
  rw [World.cell?_setCell_other _ _ _ _ (by first | exact e2 | exact e2.symm), World.cell?_setCell_other _ _ _ _ (by first | exact e1 | exact e1.symm), World.cell?_setCell_other _ _ _ _ (by first | exact e0 | exact e0.symm)]
  exact hu
theorem Stt.over {w : World} {b o : Nat} {u0 u1 u2 : Value} {a0 a1 a2 : Option Addr} {n0 n1 n2 c0 c1 c2 : Nat} (h0 : w.cell? ⟨b, o, none⟩ = some (.slice a0 n0 c0)) (h1 : w.cell? ⟨b, o + 1, none⟩ = some (.slice a1 n1 c1)) (h2 : w.cell? ⟨b, o + 2, none⟩ = some (.slice a2 n2 c2))
    {A B D : Option Addr} {n c m k p q : Nat} {L : List En} {V : List Int} {C : List (Int × Int)} (h : Stt w A n c B m k D p q L V C) : Stt (((w.setCell ⟨b, o, none⟩ u0).setCell ⟨b, o + 1, none⟩ u1).setCell ⟨b, o + 2, none⟩ u2) A n c B m k D p q L V C := by
  obtain ⟨⟨e1, e2, e3, e4, e5⟩, ⟨i1, i2, i3, i4, i5⟩, d1, d2, d3, d4, d5⟩ := h
  refine ⟨⟨e1, e2, e3, e4, e5.imp id fun ⟨g, r, hA, hc⟩ => ⟨g, r, hA, fun j x hj => EntO.of_flat fun i u hu => keepO h0 h1 h2 ((hc j x hj).flat i u hu) (cellE_not hu)⟩⟩,
    ⟨i1, i2, i3, i4, i5.imp id fun ⟨g, r, hA, hc⟩ => ⟨g, r, hA, fun j x hj => keepO h0 h1 h2 (hc j x hj) (fun _ _ _ e => by cases e)⟩⟩,
    d1, d2, d3, d4, d5.imp id fun ⟨g, r, hA, hc⟩ => ⟨g, r, hA, fun j x hj => ⟨keepO h0 h1 h2 (hc j x hj).1 (fun _ _ _ e => by cases e), keepO h0 h1 h2 (hc j x hj).2 (fun _ _ _ e => by cases e)⟩⟩⟩
/-- Three states side by side in a block that may be written. -/
structure Arr (w : World) (b : Nat) (p : Nat → Sta) : Prop where
  st : ∀ k, k < 3 → StO w b (k * 3) (p k)
  f : ∀ j, w.frozen? ⟨b, j, none⟩ = false
  lt : b < w.heap.size
theorem Arr.kept {w w' : World} {b : Nat} {p : Nat → Sta} (h : Arr w b p) (hk : Kept w w') : Arr w' b p :=
  ⟨fun k hk3 => (h.st k hk3).kept hk, fun j => (hk.2.1 ⟨b, j, none⟩ h.lt).trans (h.f j), Nat.lt_of_lt_of_le h.lt hk.2.2⟩
theorem Arr.set {w : World} {b : Nat} {p : Nat → Sta} (h : Arr w b p) {a : Nat} (ha : a < 3) {A B D : Option Addr} {n c m k q r : Nat} {s : Sta} (hs : Stt w A n c B m k D q r s.L s.V s.C) :
    Arr (((w.setCell ⟨b, a * 3, none⟩ (.slice A n c)).setCell ⟨b, a * 3 + 1, none⟩ (.slice B m k)).setCell ⟨b, a * 3 + 2, none⟩ (.slice D q r)) b (upd p a s) := by
  obtain ⟨_, _, _, _, _, _, _, _, _, h0, h1, h2, _⟩ := h.st a ha
  refine ⟨fun j hj => ?_, fun j => by rw [World.frozen?_setCell, World.frozen?_setCell, World.frozen?_setCell]; exact h.f j, by have := h.lt; simpa [World.setCell] using this⟩
  by_cases e : j = a
  · subst e
    rw [upd_same]
    refine ⟨A, n, c, B, m, k, D, q, r, ?_, ?_, ?_, hs.over h0 h1 h2⟩
    · rw [World.cell?_setCell_other _ _ _ _ (by simp), World.cell?_setCell_other _ _ _ _ (by simp)]
      exact World.cell?_setCell_same _ _ _ h0
    · rw [World.cell?_setCell_other _ _ _ _ (by simp)]
      exact World.cell?_setCell_same _ _ _ (by rw [World.cell?_setCell_other _ _ _ _ (by simp)]; exact h1)
    · exact World.cell?_setCell_same _ _ _ (by rw [World.cell?_setCell_other _ _ _ _ (by simp), World.cell?_setCell_other _ _ _ _ (by simp)]; exact h2)
  · rw [upd_other p s e]
    obtain ⟨A1, n1, c1, B1, m1, k1, D1, p1, q1, g0, g1, g2, gs⟩ := h.st j hj
    refine ⟨A1, n1, c1, B1, m1, k1, D1, p1, q1, ?_, ?_, ?_, gs.over h0 h1 h2⟩
    all_goals
      rw [World.cell?_setCell_other _ _ _ _ (by first | (simp; done) | (simp; omega)), World.cell?_setCell_other _ _ _ _ (by first | (simp; done) | (simp; omega)), World.cell?_setCell_other _ _ _ _ (by first | (simp; done) | (simp; omega))]
      assumption
theorem Arr.new (w : World) (t : TypeId) : Arr (w.alloc (.cells #[.slice none 0 0, .slice none 0 0, .slice none 0 0, .slice none 0 0, .slice none 0 0, .slice none 0 0, .slice none 0 0, .slice none 0 0, .slice none 0 0] t)) w.heap.size (fun _ => .none) := by
  refine ⟨fun k hk => ?_, fun j => by rw [frozen?_alloc_cells]; simp [World.frozen?], by simp⟩
  match k, hk with
  | 0, _ => exact ⟨none, 0, 0, none, 0, 0, none, 0, 0, (Kept.refl _).box 0 _ rfl, (Kept.refl _).box 1 _ rfl, (Kept.refl _).box 2 _ rfl, stt_none _⟩
  | 1, _ => exact ⟨none, 0, 0, none, 0, 0, none, 0, 0, (Kept.refl _).box 3 _ rfl, (Kept.refl _).box 4 _ rfl, (Kept.refl _).box 5 _ rfl, stt_none _⟩
  | 2, _ => exact ⟨none, 0, 0, none, 0, 0, none, 0, 0, (Kept.refl _).box 6 _ rfl, (Kept.refl _).box 7 _ rfl, (Kept.refl _).box 8 _ rfl, stt_none _⟩
/-- A state in a block of its own, behind whatever was there. -/
def HasS (W : World) (S : Sta → Prop) (v : Value) (wx : World) : Prop :=
  ∃ b A n c B m k D p q s, v = .pointer (some ⟨b, 0, none⟩) ∧ W.heap.size ≤ b ∧ Kept W wx ∧ Box3 wx b (.slice A n c) (.slice B m k) (.slice D p q) ∧ Stt wx A n c B m k D p q (Sta.L s) (Sta.V s) (Sta.C s) ∧ S s
theorem hasS_set {W w5 : World} {S : Sta → Prop} {b n c m k p q : Nat} {A B D a0 a1 a2 : Option Addr} {n0 n1 n2 c0 c1 c2 : Nat} {s : Sta} (h : Stt w5 A n c B m k D p q s.L s.V s.C)
    (hb : Box3 w5 b (.slice a0 n0 c0) (.slice a1 n1 c1) (.slice a2 n2 c2)) (hW : W.heap.size ≤ b) (hk : Kept W w5) (hs : S s) :
    HasS W S (.pointer (some ⟨b, 0, none⟩)) (((w5.setCell ⟨b, 0, none⟩ (.slice A n c)).setCell ⟨b, 1, none⟩ (.slice B m k)).setCell ⟨b, 2, none⟩ (.slice D p q)) :=
  ⟨b, A, n, c, B, m, k, D, p, q, s, rfl, hW, ((hk.setCell hW _).setCell hW _).setCell hW _, hb.set3 _ _ _, ⟨hb.el _ _ _ h.el, hb.il _ _ _ h.il, hb.dl _ _ _ h.dl⟩, hs⟩
end Go.Proofs.Ytcldbmhjfmbcfaa

