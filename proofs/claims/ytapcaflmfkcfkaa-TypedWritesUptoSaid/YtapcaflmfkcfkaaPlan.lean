/-
  What is proved: as region_mix (XMix), where at some places either of two operations may come first: both are walked.
-/
import Derived.Test.YtapcaflmfkcfkaaM4
namespace Go.Proofs.Ytapcaflmfkcfkaa
open Go.RowKit

inductive Plan where
  | stop : Plan
  | read : List Nat → Plan → Plan
  | one : Nat → Plan → Plan
  | two : Nat → Plan → Nat → Plan → Plan
  | three : Nat → Plan → Nat → Plan → Nat → Plan → Plan
def planN : Plan → Nat
  | .stop => 0
  | .read l p => planN p + l.length
  | .one _ p => planN p + 1
  | .two _ p _ _ => planN p + 1
  | .three _ p _ _ _ _ => planN p + 1
def planB (ops : Array Oper) : Plan → Array Bool → Bool
  | .stop, listed => (Region.ready .any ops listed).isEmpty
  | .read l p, listed => match quietB ops l listed with
    | none => false
    | some y => planB ops p y
  | .one i p, listed => Region.ready .any ops listed == [i] && (ops[i]?).isSome && planB ops p (listed.setIfInBounds i true)
  | .two i p j q, listed => Region.ready .any ops listed == [i, j] && (ops[i]?).isSome && (ops[j]?).isSome && planN p == planN q && planB ops p (listed.setIfInBounds i true) && planB ops q (listed.setIfInBounds j true)
  | .three i p j q k r, listed => Region.ready .any ops listed == [i, j, k] && (ops[i]?).isSome && (ops[j]?).isSome && (ops[k]?).isSome && planN p == planN q && planN p == planN r && planB ops p (listed.setIfInBounds i true) && planB ops q (listed.setIfInBounds j true) && planB ops r (listed.setIfInBounds k true)
def wpPlan (P : Program) (ops : Array Oper) (C : World → Prop) (Q : Exit → Act → World → Prop) : Plan → Act → World → Prop
  | .stop, a, w => Q .normal a w
  | .read l p, a, w => wpQuiet P ops C (fun a' => wpPlan P ops C Q p a' w) (pickOps ops.toList l) a
  | .one i p, a, w => wpList P ops (soloQ fun a' w' => C w' ∧ wpPlan P ops C Q p a' w') (pickOps ops.toList [i]) a w
  | .two i p j q, a, w => wpList P ops (soloQ fun a' w' => C w' ∧ wpPlan P ops C Q p a' w') (pickOps ops.toList [i]) a w ∧ wpList P ops (soloQ fun a' w' => C w' ∧ wpPlan P ops C Q q a' w') (pickOps ops.toList [j]) a w
  | .three i p j q k r, a, w => wpList P ops (soloQ fun a' w' => C w' ∧ wpPlan P ops C Q p a' w') (pickOps ops.toList [i]) a w ∧ wpList P ops (soloQ fun a' w' => C w' ∧ wpPlan P ops C Q q a' w') (pickOps ops.toList [j]) a w ∧ wpList P ops (soloQ fun a' w' => C w' ∧ wpPlan P ops C Q r a' w') (pickOps ops.toList [k]) a w

section
variable {P : Program} {ops : Array Oper} {Q : Exit → Act → World → Prop} {C : World → Prop}
theorem op_of_list {i : Nat} {o : Oper} {a : Act} {w : World} {K : Act → World → Prop} (ho : ops[i]? = some o) (h : wpList P ops (soloQ K) (pickOps ops.toList [i]) a w) : wpOp P ops Q i K a w := by
  have e : pickOps ops.toList [i] = [o] := by
    rw [pickOps_cons, show ops.toList[i]? = some o by rw [Array.getElem?_toList]; exact ho, consO_some, pickOps_nil]
  rw [e] at h
  unfold wpOp
  simp only [ho]
  simp only [wpList] at h
  by_cases hw : Region.wanted o (yielded ops a.tmps) = true
  · rw [if_pos hw] at h ⊢
    rcases h with h | ⟨_, _, _, hf⟩
    · exact .inl (wp_of_solo h)
    · exact (hf : False).elim
  · rw [if_neg hw] at h ⊢
    exact h
theorem wpOp_mono {i : Nat} {a : Act} {w : World} {K K' : Act → World → Prop} (hK : ∀ a w, K a w → K' a w) (h : wpOp P ops Q i K a w) : wpOp P ops Q i K' a w := by
  unfold wpOp at *
  split
  · rename_i ho; simp only [ho] at h; exact hK _ _ h
  · rename_i o ho
    simp only [ho] at h
    split
    · rename_i hw
      rw [if_pos hw] at h
      exact h.imp (Oper.wp_mono hK) id
    · rename_i hw
      rw [if_neg hw] at h
      exact hK _ _ h
theorem plan_any (hs : Region.noSelect ops = true) (hQ : ∀ c d v a w, Q (.panic c) (Act.put a d v) w → Q (.panic c) a w) : ∀ (p : Plan) (listed : Array Bool) (a : Act) (w : World),
    planB ops p listed = true → C w → wpPlan P ops C Q p a w → wpAnyH P .any ops Q C (planN p) listed a w
  | .stop, listed, a, w, hB, hC, h => by
    simp only [planB, List.isEmpty_iff] at hB
    exact wpAnyH_done hB h _
  | .read l p, listed, a, w, hB, hC, h => by
    simp only [planB] at hB
    cases hq : quietB ops l listed with
    | none => rw [hq] at hB; simp at hB
    | some y =>
      rw [hq] at hB
      exact quiet_any hs hQ l listed y (planN p) a w _ hq hC h fun a' h' => plan_any hs hQ p y a' w hB hC h'
  | .one i p, listed, a, w, hB, hC, h => by
    simp only [planB, Bool.and_eq_true, beq_iff_eq] at hB
    obtain ⟨⟨hr, hi⟩, hB⟩ := hB
    obtain ⟨o, ho⟩ := Option.isSome_iff_exists.1 hi
    refine wpAnyH_all hr (by simp) fun j hj => ?_
    obtain rfl : j = i := by simpa using hj
    exact wpOp_mono (fun a2 w2 h2 => ⟨h2.1, plan_any hs hQ p _ a2 w2 hB h2.1 h2.2⟩) (op_of_list ho h)
  | .two i p j q, listed, a, w, hB, hC, h => by
    simp only [planB, Bool.and_eq_true, beq_iff_eq] at hB
    obtain ⟨⟨⟨⟨⟨hr, hi⟩, hj⟩, hn⟩, hB1⟩, hB2⟩ := hB
    obtain ⟨o1, ho1⟩ := Option.isSome_iff_exists.1 hi
    obtain ⟨o2, ho2⟩ := Option.isSome_iff_exists.1 hj
    refine wpAnyH_all hr (by simp) fun t ht => ?_
    simp only [List.mem_cons, List.not_mem_nil, or_false] at ht
    rcases ht with rfl | rfl
    · exact wpOp_mono (fun a2 w2 h2 => ⟨h2.1, plan_any hs hQ p _ a2 w2 hB1 h2.1 h2.2⟩) (op_of_list ho1 h.1)
    · exact wpOp_mono (fun a2 w2 h2 => ⟨h2.1, by rw [hn]; exact plan_any hs hQ q _ a2 w2 hB2 h2.1 h2.2⟩) (op_of_list ho2 h.2)
  | .three i p j q k r, listed, a, w, hB, hC, h => by
    simp only [planB, Bool.and_eq_true, beq_iff_eq] at hB
    obtain ⟨⟨⟨⟨⟨⟨⟨⟨hr, hi⟩, hj⟩, hk⟩, hn⟩, hn2⟩, hB1⟩, hB2⟩, hB3⟩ := hB
    obtain ⟨o1, ho1⟩ := Option.isSome_iff_exists.1 hi
    obtain ⟨o2, ho2⟩ := Option.isSome_iff_exists.1 hj
    obtain ⟨o3, ho3⟩ := Option.isSome_iff_exists.1 hk
    refine wpAnyH_all hr (by simp) fun t ht => ?_
    simp only [List.mem_cons, List.not_mem_nil, or_false] at ht
    rcases ht with rfl | rfl | rfl
    · exact wpOp_mono (fun a2 w2 h2 => ⟨h2.1, plan_any hs hQ p _ a2 w2 hB1 h2.1 h2.2⟩) (op_of_list ho1 h.1)
    · exact wpOp_mono (fun a2 w2 h2 => ⟨h2.1, by rw [hn]; exact plan_any hs hQ q _ a2 w2 hB2 h2.1 h2.2⟩) (op_of_list ho2 h.2.1)
    · exact wpOp_mono (fun a2 w2 h2 => ⟨h2.1, by rw [hn2]; exact plan_any hs hQ r _ a2 w2 hB3 h2.1 h2.2⟩) (op_of_list ho3 h.2.2)
end

def planF (ops : Array Oper) (n : Nat) : Plan → Nat → Bool
  | .stop, m => (List.range n).all fun j => !isReady ops n m j
  | .read l p, m => match quietF ops n l m with
    | none => false
    | some y => planF ops n p y
  | .one i p, m => Nat.blt i n && (List.range n).all (fun t => isReady ops n m t == (t == i)) && (ops[i]?).isSome && planF ops n p (m ||| 2 ^ i)
  | .two i p j q, m => Nat.blt i j && Nat.blt j n && (List.range n).all (fun t => isReady ops n m t == (t == i || t == j)) && (ops[i]?).isSome && (ops[j]?).isSome && planN p == planN q && planF ops n p (m ||| 2 ^ i) && planF ops n q (m ||| 2 ^ j)
  | .three i p j q k r, m => Nat.blt i j && Nat.blt j k && Nat.blt k n && (List.range n).all (fun t => isReady ops n m t == (t == i || t == j || t == k)) && (ops[i]?).isSome && (ops[j]?).isSome && (ops[k]?).isSome && planN p == planN q && planN p == planN r && planF ops n p (m ||| 2 ^ i) && planF ops n q (m ||| 2 ^ j) && planF ops n r (m ||| 2 ^ k)
theorem filter_two {n i j : Nat} {p : Nat → Bool} (hij : i < j) (hj : j < n) (h : ∀ t, t < n → p t = (t == i || t == j)) : (List.range n).filter p = [i, j] := by
  rw [List.filter_congr (q := fun t => t == i || t == j) (fun t ht => h t (List.mem_range.1 ht))]
  clear h
  induction n with
  | zero => omega
  | succ n ih =>
    rw [List.range_succ, List.filter_append]
    by_cases e : j = n
    · subst e
      have : (List.range j).filter (fun t => t == i || t == j) = [i] := by
        rw [List.filter_congr (q := fun t => t == i) (fun t ht => by have := List.mem_range.1 ht; rw [show (t == j) = false by simp; omega, Bool.or_false])]
        exact filter_one hij fun t _ => rfl
      rw [this]
      simp
    · rw [ih (by omega)]
      have h1 : (n == i || n == j) = false := by simp; omega
      simp [h1]
theorem filter_three {n i j k : Nat} {p : Nat → Bool} (hij : i < j) (hjk : j < k) (hk : k < n) (h : ∀ t, t < n → p t = (t == i || t == j || t == k)) : (List.range n).filter p = [i, j, k] := by
  rw [List.filter_congr (q := fun t => t == i || t == j || t == k) (fun t ht => h t (List.mem_range.1 ht))]
  clear h
  induction n with
  | zero => omega
  | succ n ih =>
    rw [List.range_succ, List.filter_append]
    by_cases e : k = n
    · subst e
      have : (List.range k).filter (fun t => t == i || t == j || t == k) = [i, j] := by
        rw [List.filter_congr (q := fun t => t == i || t == j) (fun t ht => by have := List.mem_range.1 ht; rw [show (t == k) = false by simp; omega, Bool.or_false])]
        exact filter_two hij hjk fun t _ => rfl
      rw [this]
      simp
    · rw [ih (by omega)]
      have h1 : (n == i || n == j || n == k) = false := by simp; omega
      simp [h1]
theorem planF_B (ops : Array Oper) : ∀ (p : Plan) (m : Nat), planF ops ops.size p m = true → planB ops p (bits ops.size m) = true
  | .stop, m, h => by
    simp only [planF, List.all_eq_true, Bool.not_eq_true'] at h
    simp only [planB, List.isEmpty_iff]
    rw [ready_bits, List.filter_eq_nil_iff]
    intro j hj
    rw [h j hj]
    simp
  | .read l p, m, h => by
    simp only [planF] at h
    cases hq : quietF ops ops.size l m with
    | none => rw [hq] at h; simp at h
    | some y =>
      rw [hq] at h
      simp only [planB, quietF_B ops l m y hq]
      exact planF_B ops p y h
  | .one i p, m, h => by
    simp only [planF, Bool.and_eq_true, Nat.blt_eq, List.all_eq_true, beq_iff_eq] at h
    obtain ⟨⟨⟨hi, ha⟩, hs⟩, hm⟩ := h
    simp only [planB, Bool.and_eq_true, beq_iff_eq]
    refine ⟨⟨?_, hs⟩, by rw [bits_set]; exact planF_B ops p _ hm⟩
    rw [ready_bits]
    exact filter_one hi fun t ht => ha t (List.mem_range.2 ht)
  | .two i p j q, m, h => by
    simp only [planF, Bool.and_eq_true, Nat.blt_eq, List.all_eq_true, beq_iff_eq] at h
    obtain ⟨⟨⟨⟨⟨⟨⟨hij, hj⟩, ha⟩, h1⟩, h2⟩, hn⟩, hp⟩, hq⟩ := h
    simp only [planB, Bool.and_eq_true, beq_iff_eq]
    refine ⟨⟨⟨⟨⟨?_, h1⟩, h2⟩, hn⟩, by rw [bits_set]; exact planF_B ops p _ hp⟩, by rw [bits_set]; exact planF_B ops q _ hq⟩
    rw [ready_bits]
    exact filter_two hij hj fun t ht => ha t (List.mem_range.2 ht)
  | .three i p j q k r, m, h => by
    simp only [planF, Bool.and_eq_true, Nat.blt_eq, List.all_eq_true, beq_iff_eq] at h
    obtain ⟨⟨⟨⟨⟨⟨⟨⟨⟨⟨⟨hij, hjk⟩, hk⟩, ha⟩, h1⟩, h2⟩, h3⟩, hn⟩, hn2⟩, hp⟩, hq⟩, hr⟩ := h
    simp only [planB, Bool.and_eq_true, beq_iff_eq]
    refine ⟨⟨⟨⟨⟨⟨⟨⟨?_, h1⟩, h2⟩, h3⟩, hn⟩, hn2⟩, by rw [bits_set]; exact planF_B ops p _ hp⟩, by rw [bits_set]; exact planF_B ops q _ hq⟩, by rw [bits_set]; exact planF_B ops r _ hr⟩
    rw [ready_bits]
    exact filter_three hij hjk hk fun t ht => ha t (List.mem_range.2 ht)
theorem wpPlan_read {P : Program} {ops : Array Oper} {C : World → Prop} {Q : Exit → Act → World → Prop} {l : List Nat} {p : Plan} {a : Act} {w : World} :
    wpPlan P ops C Q (.read l p) a w = wpQuiet P ops C (fun a' => wpPlan P ops C Q p a' w) (pickOps ops.toList l) a := rfl
theorem wpPlan_one {P : Program} {ops : Array Oper} {C : World → Prop} {Q : Exit → Act → World → Prop} {i : Nat} {p : Plan} {a : Act} {w : World} :
    wpPlan P ops C Q (.one i p) a w = wpList P ops (soloQ fun a' w' => C w' ∧ wpPlan P ops C Q p a' w') (pickOps ops.toList [i]) a w := rfl
theorem wpPlan_two {P : Program} {ops : Array Oper} {C : World → Prop} {Q : Exit → Act → World → Prop} {i j : Nat} {p q : Plan} {a : Act} {w : World} :
    wpPlan P ops C Q (.two i p j q) a w = (wpList P ops (soloQ fun a' w' => C w' ∧ wpPlan P ops C Q p a' w') (pickOps ops.toList [i]) a w ∧ wpList P ops (soloQ fun a' w' => C w' ∧ wpPlan P ops C Q q a' w') (pickOps ops.toList [j]) a w) := rfl
theorem wpPlan_three {P : Program} {ops : Array Oper} {C : World → Prop} {Q : Exit → Act → World → Prop} {i j k : Nat} {p q r : Plan} {a : Act} {w : World} :
    wpPlan P ops C Q (.three i p j q k r) a w = (wpList P ops (soloQ fun a' w' => C w' ∧ wpPlan P ops C Q p a' w') (pickOps ops.toList [i]) a w ∧ wpList P ops (soloQ fun a' w' => C w' ∧ wpPlan P ops C Q q a' w') (pickOps ops.toList [j]) a w ∧ wpList P ops (soloQ fun a' w' => C w' ∧ wpPlan P ops C Q r a' w') (pickOps ops.toList [k]) a w) := rfl
theorem wpPlan_stop {P : Program} {ops : Array Oper} {C : World → Prop} {Q : Exit → Act → World → Prop} {a : Act} {w : World} (h : Q .normal a w) : wpPlan P ops C Q .stop a w := h
theorem soloP {W : World} {P : Program} {ops : Array Oper} {Q : Exit → Act → World → Prop} {p : Plan} {a : Act} {w : World} (hk : Kept W w) (h : wpPlan P ops (fun w' => ∃ g : KExt W, w' = g.w) Q p a w) :
    soloQ (fun a' w' => (∃ g : KExt W, w' = g.w) ∧ wpPlan P ops (fun w' => ∃ g : KExt W, w' = g.w) Q p a' w') .normal a w := ⟨⟨⟨w, hk⟩, rfl⟩, h⟩
/-- The region, walked by the plan. -/
theorem region_plan {P : Program} (W : World) {id : Nat} {Q : Exit → Act → World → Prop} {a : Act} {w : World} {l : List Oper} (n : Nat) (p : Plan) (hm : P.follows .mixedOrders = true) (hs : Region.noSelect l.toArray = true) (hl : l.length = n) (hn : planN p = n)
    (hB : planF l.toArray n p 0 = true) (hQ : ∀ c d v a w, Q (.panic c) (Act.put a d v) w → Q (.panic c) a w) (h0 : Kept W w)
    (h : ∀ wd : World, Kept w wd → wpPlan P l.toArray (fun w' => ∃ g : KExt W, w' = g.w) Q p a wd) : (Code.region id l.toArray true).wp P Q a w := by
  subst hl
  refine wp_region_held (S := fun w' => ∃ g : KExt W, w' = g.w) hm ?_
  have hk : Kept w { w with drawn := w.drawn + 1 } := (Kept.refl w).drew
  have hB2 := planF_B l.toArray p 0 (by rw [List.size_toArray]; exact hB)
  rw [List.size_toArray, ← bits_none] at hB2
  have := plan_any (Q := Q) (C := fun w' => ∃ g : KExt W, w' = g.w) hs hQ p (Array.replicate l.length false) a { w with drawn := w.drawn + 1 } hB2 ⟨⟨_, h0.trans hk⟩, rfl⟩ (h _ hk)
  rw [hn] at this
  rw [List.size_toArray]
  exact this
end Go.Proofs.Ytapcaflmfkcfkaa
