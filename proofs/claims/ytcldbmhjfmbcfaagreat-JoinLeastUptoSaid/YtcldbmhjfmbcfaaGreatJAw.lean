/-
  What is proved: plain facts on the five states of the example that layer 9's laws answer (their sets, what is joined of them, what covers what), and the calls that make them.
-/
import Derived.Test.YtcldbmhjfmbcfaaGreatM27
import Derived.Test.YtcldbmhjfmbcfaaGreatM28
import Derived.Test.YtcldbmhjfmbcfaaGreatM29
namespace Go.Proofs.YtcldbmhjfmbcfaaGreat
open Go.RowKit
set_option linter.unusedVariables false

def eS : En := ⟨(1, 1), ⟨#[97]⟩, 1, 1, 5, ⟨#[]⟩, (0, 0)⟩
def eT : En := ⟨(0, 1), ⟨#[97]⟩, 1, 1, 6, ⟨#[]⟩, (0, 0)⟩
def eU : En := ⟨(1, 2), ⟨#[98]⟩, 1, 1, 7, ⟨#[]⟩, (0, 0)⟩
def sS : Sta := ⟨[eS], [0, 1], []⟩
def sW : Sta := ⟨[], [0, 1], []⟩
def sT : Sta := ⟨[eT], [1, 1], []⟩
def sU : Sta := ⟨[eS, eU], [0, 2], []⟩
def sJ : Sta := ⟨[eT, eU], [1, 2], []⟩
theorem hasV2 (a b : Int) (d : Int × Int) : hasC [a, b] [] d ↔ (d.1 = 0 ∧ 1 ≤ d.2 ∧ d.2 ≤ a) ∨ (d.1 = 1 ∧ 1 ≤ d.2 ∧ d.2 ≤ b) := by
  unfold hasC
  rcases Int.lt_trichotomy d.1 0 with h | h | h
  · rw [atV_neg _ h]; simp; omega
  · rw [h]; simp [atV]; 
  · by_cases h1 : d.1 = 1
    · rw [h1]; simp [atV]
    · rw [atV_out _ (by simp; omega)]; simp; omega
theorem hasV0 (d : Int × Int) : ¬ hasC [] [] d := by unfold hasC; rw [atV_nil]; simp; omega
theorem rightV2 {a b : Int} (ha : 0 ≤ a ∧ a ≤ 1000) (hb : 1 ≤ b ∧ b ≤ 1000) : RightC [a, b] [] :=
  ⟨⟨by simp, fun n hn => by
      simp only [List.mem_cons, List.not_mem_nil, or_false] at hn
      rcases hn with rfl | rfl <;> omega⟩, fun k hk => by
      obtain rfl : k = 1 := by simpa using hk.symm
      simp; omega, rise_nil, fun d hd => (by cases hd), fun d hd => (by cases hd)⟩
theorem right_iff (d : Int × Int) : rightD d = true ↔ 0 ≤ d.1 ∧ d.1 < 64 ∧ 1 ≤ d.2 ∧ d.2 ≤ 1073741824 := by unfold rightD; rw [decide_eq_true_iff]
theorem setS : SetC (fun d => hasC Sta.none.V Sta.none.C d ∨ (rightD d = true ∧ d = eS.d)) [0, 1] [] := by
  refine ⟨rightV2 (by omega) (by omega), fun ⟨d1, d2⟩ => ?_⟩
  have h0 : ¬ hasC Sta.none.V Sta.none.C (d1, d2) := hasV0 _
  rw [hasV2, right_iff]
  simp only [eS, Prod.mk.injEq, h0, false_or]
  omega
theorem setW : SetC (fun d => hasC sS.V sS.C d ∨ (rightD d = true ∧ d ∈ [((1 : Int), (1 : Int))])) [0, 1] [] := by
  refine ⟨rightV2 (by omega) (by omega), fun ⟨d1, d2⟩ => ?_⟩
  simp only [sS]
  rw [hasV2, right_iff]
  simp only [List.mem_cons, List.not_mem_nil, or_false, Prod.mk.injEq]
  omega
theorem setT : SetC (fun d => hasC sW.V sW.C d ∨ (rightD d = true ∧ d = eT.d)) [1, 1] [] := by
  refine ⟨rightV2 (by omega) (by omega), fun ⟨d1, d2⟩ => ?_⟩
  simp only [sW]
  rw [hasV2, hasV2, right_iff]
  simp only [eT, Prod.mk.injEq]
  omega
theorem setU : SetC (fun d => hasC sS.V sS.C d ∨ (rightD d = true ∧ d = eU.d)) [0, 2] [] := by
  refine ⟨rightV2 (by omega) (by omega), fun ⟨d1, d2⟩ => ?_⟩
  simp only [sS]
  rw [hasV2, hasV2, right_iff]
  simp only [eU, Prod.mk.injEq]
  omega
theorem setO : SetC (CompS [] [((1 : Int), (1 : Int))]) [0, 1] [] := by
  refine ⟨rightV2 (by omega) (by omega), fun ⟨d1, d2⟩ => ?_⟩
  rw [of_has, hasV2, right_iff]
  simp only [List.mem_cons, List.not_mem_nil, or_false, Prod.mk.injEq]
  omega
theorem setJ : SetC (fun d => sT.has d ∨ sU.has d) [1, 2] [] := by
  refine ⟨rightV2 (by omega) (by omega), fun ⟨d1, d2⟩ => ?_⟩
  show hasC [1, 2] [] (d1, d2) ↔ hasC [1, 1] [] (d1, d2) ∨ hasC [0, 2] [] (d1, d2)
  rw [hasV2, hasV2, hasV2]
  simp only
  omega
theorem riseE1 (x : En) : RiseE [x] := List.pairwise_singleton _ _
theorem ordS : Ord sS := ⟨riseE1 _, rightV2 (by omega) (by omega), fun x hx => by
  obtain rfl : x = eS := by simpa [sS] using hx
  exact (hasV2 _ _ _).2 (by simp [eS])⟩
theorem ordW : Ord sW := ⟨riseE_nil, rightV2 (by omega) (by omega), fun x hx => by cases hx⟩
theorem ordT : Ord sT := ⟨riseE1 _, rightV2 (by omega) (by omega), fun x hx => by
  obtain rfl : x = eT := by simpa [sT] using hx
  exact (hasV2 _ _ _).2 (by simp [eT])⟩
theorem ordU : Ord sU := ⟨List.pairwise_cons.2 ⟨fun y hy => by
    obtain rfl : y = eU := by simpa using hy
    exact .inr ⟨rfl, by simp [eS, eU]⟩, riseE1 _⟩, rightV2 (by omega) (by omega), fun x hx => by
  simp only [sU, List.mem_cons, List.not_mem_nil, or_false] at hx
  rcases hx with rfl | rfl
  · exact (hasV2 _ _ _).2 (by simp [eS])
  · exact (hasV2 _ _ _).2 (by simp [eU])⟩
theorem joinTU : JoinOf sT sU sJ := by
  have h := join_of ordT ordU setJ
  have e1 : sT.L.filter (stayE sU.L sU.V sU.C) = [eT] := by kernel_rfl
  have e2 : sU.L.filter (newE sT.V sT.C) = [eU] := by kernel_rfl
  rw [e1, e2, mergeE_lt (by decide), mergeE_nil] at h
  exact h
theorem agreeTU : Agree sT sU := fun x hx y hy e => by
  obtain rfl : x = eT := by simpa [sT] using hx
  simp only [sU, List.mem_cons, List.not_mem_nil, or_false] at hy
  rcases hy with rfl | rfl <;> simp [eT, eS, eU] at e
theorem agreeST : Agree sS sT := fun x hx y hy e => by
  obtain rfl : x = eS := by simpa [sS] using hx
  obtain rfl : y = eT := by simpa [sT] using hy
  simp [eT, eS] at e
theorem agreeSU : Agree sS sU := fun x hx y hy e => by
  obtain rfl : x = eS := by simpa [sS] using hx
  simp only [sU, List.mem_cons, List.not_mem_nil, or_false] at hy
  rcases hy with rfl | rfl
  · rfl
  · simp [eS, eU] at e
theorem ordJ : Ord sJ := joinTU.ord ordT ordU
theorem joinUT : JoinOf sU sT sJ := joinTU.comm ordT ordU agreeTU
theorem coverTS : JoinOf sT sS sT := by
  refine (covers_iff ordT ordS agreeST.symm).2 ⟨fun d hd => ?_, fun x hx => ?_⟩
  · have hd2 := (hasV2 0 1 d).1 hd
    exact (hasV2 1 1 d).2 (by omega)
  · obtain rfl : x = eT := by simpa [sT] using hx
    exact .inr fun h => by
      have := (hasV2 0 1 eT.d).1 h
      simp [eT] at this
theorem coverUS : JoinOf sU sS sU := by
  refine (covers_iff ordU ordS agreeSU.symm).2 ⟨fun d hd => ?_, fun x hx => ?_⟩
  · have hd2 := (hasV2 0 1 d).1 hd
    exact (hasV2 0 2 d).2 (by omega)
  · simp only [sU, List.mem_cons, List.not_mem_nil, or_false] at hx
    rcases hx with rfl | rfl
    · exact .inl (by simp [sS])
    · exact .inr fun h => by
        have := (hasV2 0 1 eU.d).1 h
        simp [eU] at this
theorem coverJS : JoinOf sJ sS sJ := by
  refine (covers_iff ordJ ordS (joinTU.agree agreeST.symm agreeSU.symm)).2 ⟨fun d hd => ?_, fun x hx => ?_⟩
  · have hd2 := (hasV2 0 1 d).1 hd
    exact (hasV2 1 2 d).2 (by omega)
  · simp only [sJ, List.mem_cons, List.not_mem_nil, or_false] at hx
    rcases hx with rfl | rfl
    · exact .inr fun h => by
        have := (hasV2 0 1 eT.d).1 h
        simp [eT] at this
    · exact .inr fun h => by
        have := (hasV2 0 1 eU.d).1 h
        simp [eU] at this
theorem coverST : ¬ JoinOf sS sT sS := fun h => by
  have h2 := ((covers_iff ordS ordT agreeST).1 h).1 (0, 1) ((hasV2 1 1 _).2 (by simp))
  have := (hasV2 0 1 ((0 : Int), (1 : Int))).1 h2
  simp at this
theorem allSTU {r : Sta} (h : AllR [sS, sT, sU] r) : r = sJ := by
  have h1 : AllR [sS, sT] sT := (AllR.self ordS).join (l2 := [sT]) (AllR.self ordT) (fun s hs => by simp at hs; rw [hs]; exact ordS) (coverTS.comm ordT ordS agreeST.symm)
  have h2 : AllR ([sS, sT] ++ [sU]) sJ := h1.join (AllR.self ordU) (fun s hs => by
    simp only [List.mem_cons, List.not_mem_nil, or_false] at hs
    rcases hs with rfl | rfl
    · exact ordS
    · exact ordT) joinTU
  exact h.one h2
theorem beyU : sU.L.filter (newE [0, 1] []) = [eU] := by kernel_rfl
theorem goneTU : goneE sT sU = [(1, 1)] := by kernel_rfl
theorem stS_at {L : List En} {S : Int × Int → Prop} {mx : Nat} {w w' : World} {e : Ending} (h : StS L S mx w e w') {V : List Int} {C : List (Int × Int)} (hs : SetC S V C) : StJ (fun s => s = ⟨L, V, C⟩) w e w' := by
  obtain ⟨A, n, c, B, m, k, D, p, q, V', C', rfl, he, hi, hd, hs', _, hk⟩ := h
  obtain ⟨rfl, rfl⟩ := hs'.same hs fun d => Iff.rfl
  exact ⟨A, n, c, B, m, k, D, p, q, ⟨L, V', C'⟩, rfl, ⟨he, hi, hd⟩, rfl, hk⟩
end Go.Proofs.YtcldbmhjfmbcfaaGreat
