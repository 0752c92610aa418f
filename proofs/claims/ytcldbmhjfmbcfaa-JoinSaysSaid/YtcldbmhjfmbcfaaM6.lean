/-
  What is proved: as region_mix (XMix), where at some places either of two operations may come first: both are walked.
  a region that draws its order, walked part by part (XPlan): where both ways of a part meet again, what follows is walked once.
-/
import Derived.Test.YtcldbmhjfmbcfaaM5
namespace Go.Proofs.Ytcldbmhjfmbcfaa
open Go.RowKit

inductive Plan where
  | stop : Plan
  | read : List Nat → Plan → Plan
  | one : Nat → Plan → Plan
  | two : Nat → Plan → Nat → Plan → Plan
  | three : Nat → Plan → Nat → Plan → Nat → Plan → Plan
def planN : Plan → Nat
  | .stop => 0
  | .read l p => planN p + l.length
  | .one _ p => planN p + 1
  | .two _ p _ _ => planN p + 1
  | .three _ p _ _ _ _ => planN p + 1
def planB (ops : Array Oper) : Plan → Array Bool → Bool
  | .stop, listed => (Region.ready .any ops listed).isEmpty
  | .read l p, listed => match quietB ops l listed with
    | none => false
    | some y => planB ops p y
  | .one i p, listed => Region.ready .any ops listed == [i] && (ops[i]?).isSome && planB ops p (listed.setIfInBounds i true)
  | .two i p j q, listed => Region.ready .any ops listed == [i, j] && (ops[i]?).isSome && (ops[j]?).isSome && planN p == planN q && planB ops p (listed.setIfInBounds i true) && planB ops q (listed.setIfInBounds j true)
  | .three i p j q k r, listed => Region.ready .any ops listed == [i, j, k] && (ops[i]?).isSome && (ops[j]?).isSome && (ops[k]?).isSome && planN p == planN q && planN p == planN r && planB ops p (listed.setIfInBounds i true) && planB ops q (listed.setIfInBounds j true) && planB ops r (listed.setIfInBounds k true)
def wpPlan (P : Program) (ops : Array Oper) (C : World → Prop) (Q : Exit → Act → World → Prop) : Plan → Act → World → Prop
  | .stop, a, w => Q .normal a w
  | .read l p, a, w => wpQuiet P ops C (fun a' => wpPlan P ops C Q p a' w) (pickOps ops.toList l) a
  | .one i p, a, w => wpList P ops (soloQ fun a' w' => C w' ∧ wpPlan P ops C Q p a' w') (pickOps ops.toList [i]) a w
  | .two i p j q, a, w => wpList P ops (soloQ fun a' w' => C w' ∧ wpPlan P ops C Q p a' w') (pickOps ops.toList [i]) a w ∧ wpList P ops (soloQ fun a' w' => C w' ∧ wpPlan P ops C Q q a' w') (pickOps ops.toList [j]) a w
  | .three i p j q k r, a, w => wpList P ops (soloQ fun a' w' => C w' ∧ wpPlan P ops C Q p a' w') (pickOps ops.toList [i]) a w ∧ wpList P ops (soloQ fun a' w' => C w' ∧ wpPlan P ops C Q q a' w') (pickOps ops.toList [j]) a w ∧ wpList P ops (soloQ fun a' w' => C w' ∧ wpPlan P ops C Q r a' w') (pickOps ops.toList [k]) a w

section
variable {P : Program} {ops : Array Oper} {Q : Exit → Act → World → Prop} {C : World → Prop}
theorem op_of_list {i : Nat} {o : Oper} {a : Act} {w : World} {K : Act → World → Prop} (ho : ops[i]? = some o) (h : wpList P ops (soloQ K) (pickOps ops.toList [i]) a w) : wpOp P ops Q i K a w := by
  have e : pickOps ops.toList [i] = [o] := by
    rw [pickOps_cons, show ops.toList[i]? = some o by rw [Array.getElem?_toList]; exact ho, consO_some, pickOps_nil]
  rw [e] at h
  unfold wpOp
  simp only [ho]
  simp only [wpList] at h
  by_cases hw : Region.wanted o (yielded ops a.tmps) = true
  · rw [if_pos hw] at h ⊢
    rcases h with h | ⟨_, _, _, hf⟩
    · exact .inl (wp_of_solo h)
    · exact (hf : False).elim
  · rw [if_neg hw] at h ⊢
    exact h
theorem wpOp_mono {i : Nat} {a : Act} {w : World} {K K' : Act → World → Prop} (hK : ∀ a w, K a w → K' a w) (h : wpOp P ops Q i K a w) : wpOp P ops Q i K' a w := by
  unfold wpOp at *
  split
  · rename_i ho; simp only [ho] at h; exact hK _ _ h
  · rename_i o ho
    simp only [ho] at h
    split
    · rename_i hw
      rw [if_pos hw] at h
      exact h.imp (Oper.wp_mono hK) id
    · rename_i hw
      rw [if_neg hw] at h
      exact hK _ _ h
theorem plan_any (hs : Region.noSelect ops = true) (hQ : ∀ c d v a w, Q (.panic c) (Act.put a d v) w → Q (.panic c) a w) : ∀ (p : Plan) (listed : Array Bool) (a : Act) (w : World),
    planB ops p listed = true → C w → wpPlan P ops C Q p a w → wpAnyH P .any ops Q C (planN p) listed a w
  | .stop, listed, a, w, hB, hC, h => by
    simp only [planB, List.isEmpty_iff] at hB
    exact wpAnyH_done hB h _
  | .read l p, listed, a, w, hB, hC, h => by
    simp only [planB] at hB
    cases hq : quietB ops l listed with
    | none => rw [hq] at hB; simp at hB
    | some y =>
      rw [hq] at hB
      exact quiet_any hs hQ l listed y (planN p) a w _ hq hC h fun a' h' => plan_any hs hQ p y a' w hB hC h'
  | .one i p, listed, a, w, hB, hC, h => by
    simp only [planB, Bool.and_eq_true, beq_iff_eq] at hB
    obtain ⟨⟨hr, hi⟩, hB⟩ := hB
    obtain ⟨o, ho⟩ := Option.isSome_iff_exists.1 hi
    refine wpAnyH_all hr (by simp) fun j hj => ?_
    obtain rfl : j = i := by simpa using hj
    exact wpOp_mono (fun a2 w2 h2 => ⟨h2.1, plan_any hs hQ p _ a2 w2 hB h2.1 h2.2⟩) (op_of_list ho h)
  | .two i p j q, listed, a, w, hB, hC, h => by
    simp only [planB, Bool.and_eq_true, beq_iff_eq] at hB
    obtain ⟨⟨⟨⟨⟨hr, hi⟩, hj⟩, hn⟩, hB1⟩, hB2⟩ := hB
    obtain ⟨o1, ho1⟩ := Option.isSome_iff_exists.1 hi
    obtain ⟨o2, ho2⟩ := Option.isSome_iff_exists.1 hj
    refine wpAnyH_all hr (by simp) fun t ht => ?_
    simp only [List.mem_cons, List.not_mem_nil, or_false] at ht
    rcases ht with rfl | rfl
    · exact wpOp_mono (fun a2 w2 h2 => ⟨h2.1, plan_any hs hQ p _ a2 w2 hB1 h2.1 h2.2⟩) (op_of_list ho1 h.1)
    · exact wpOp_mono (fun a2 w2 h2 => ⟨h2.1, by rw [hn]; exact plan_any hs hQ q _ a2 w2 hB2 h2.1 h2.2⟩) (op_of_list ho2 h.2)
  | .three i p j q k r, listed, a, w, hB, hC, h => by
    simp only [planB, Bool.and_eq_true, beq_iff_eq] at hB
    obtain ⟨⟨⟨⟨⟨⟨⟨⟨hr, hi⟩, hj⟩, hk⟩, hn⟩, hn2⟩, hB1⟩, hB2⟩, hB3⟩ := hB
    obtain ⟨o1, ho1⟩ := Option.isSome_iff_exists.1 hi
    obtain ⟨o2, ho2⟩ := Option.isSome_iff_exists.1 hj
    obtain ⟨o3, ho3⟩ := Option.isSome_iff_exists.1 hk
    refine wpAnyH_all hr (by simp) fun t ht => ?_
    simp only [List.mem_cons, List.not_mem_nil, or_false] at ht
    rcases ht with rfl | rfl | rfl
    · exact wpOp_mono (fun a2 w2 h2 => ⟨h2.1, plan_any hs hQ p _ a2 w2 hB1 h2.1 h2.2⟩) (op_of_list ho1 h.1)
    · exact wpOp_mono (fun a2 w2 h2 => ⟨h2.1, by rw [hn]; exact plan_any hs hQ q _ a2 w2 hB2 h2.1 h2.2⟩) (op_of_list ho2 h.2.1)
    · exact wpOp_mono (fun a2 w2 h2 => ⟨h2.1, by rw [hn2]; exact plan_any hs hQ r _ a2 w2 hB3 h2.1 h2.2⟩) (op_of_list ho3 h.2.2)
end

def planF (ops : Array Oper) (n : Nat) : Plan → Nat → Bool
  | .stop, m => (List.range n).all fun j => !isReady ops n m j
  | .read l p, m => match quietF ops n l m with
    | none => false
    | some y => planF ops n p y
  | .one i p, m => Nat.blt i n && (List.range n).all (fun t => isReady ops n m t == (t == i)) && (ops[i]?).isSome && planF ops n p (m ||| 2 ^ i)
  | .two i p j q, m => Nat.blt i j && Nat.blt j n && (List.range n).all (fun t => isReady ops n m t == (t == i || t == j)) && (ops[i]?).isSome && (ops[j]?).isSome && planN p == planN q && planF ops n p (m ||| 2 ^ i) && planF ops n q (m ||| 2 ^ j)
  | .three i p j q k r, m => Nat.blt i j && Nat.blt j k && Nat.blt k n && (List.range n).all (fun t => isReady ops n m t == (t == i || t == j || t == k)) && (ops[i]?).isSome && (ops[j]?).isSome && (ops[k]?).isSome && planN p == planN q && planN p == planN r && planF ops n p (m ||| 2 ^ i) && planF ops n q (m ||| 2 ^ j) && planF ops n r (m ||| 2 ^ k)
theorem filter_two {n i j : Nat} {p : Nat → Bool} (hij : i < j) (hj : j < n) (h : ∀ t, t < n → p t = (t == i || t == j)) : (List.range n).filter p = [i, j] := by
  rw [List.filter_congr (q := fun t => t == i || t == j) (fun t ht => h t (List.mem_range.1 ht))]
  clear h
  induction n with
  | zero => omega
  | succ n ih =>
    rw [List.range_succ, List.filter_append]
    by_cases e : j = n
    · subst e
      have : (List.range j).filter (fun t => t == i || t == j) = [i] := by
        rw [List.filter_congr (q := fun t => t == i) (fun t ht => by have := List.mem_range.1 ht; rw [show (t == j) = false by simp; omega, Bool.or_false])]
        exact filter_one hij fun t _ => rfl
      rw [this]
      simp
    · rw [ih (by omega)]
      have h1 : (n == i || n == j) = false := by simp; omega
      simp [h1]
theorem filter_three {n i j k : Nat} {p : Nat → Bool} (hij : i < j) (hjk : j < k) (hk : k < n) (h : ∀ t, t < n → p t = (t == i || t == j || t == k)) : (List.range n).filter p = [i, j, k] := by
  rw [List.filter_congr (q := fun t => t == i || t == j || t == k) (fun t ht => h t (List.mem_range.1 ht))]
  clear h
  induction n with
  | zero => omega
  | succ n ih =>
    rw [List.range_succ, List.filter_append]
    by_cases e : k = n
    · subst e
      have : (List.range k).filter (fun t => t == i || t == j || t == k) = [i, j] := by
        rw [List.filter_congr (q := fun t => t == i || t == j) (fun t ht => by have := List.mem_range.1 ht; rw [show (t == k) = false by simp; omega, Bool.or_false])]
        exact filter_two hij hjk fun t _ => rfl
      rw [this]
      simp
    · rw [ih (by omega)]
      have h1 : (n == i || n == j || n == k) = false := by simp; omega
      simp [h1]
theorem planF_B (ops : Array Oper) : ∀ (p : Plan) (m : Nat), planF ops ops.size p m = true → planB ops p (bits ops.size m) = true
  | .stop, m, h => by
    simp only [planF, List.all_eq_true, Bool.not_eq_true'] at h
    simp only [planB, List.isEmpty_iff]
    rw [ready_bits, List.filter_eq_nil_iff]
    intro j hj
    rw [h j hj]
    simp
  | .read l p, m, h => by
    simp only [planF] at h
    cases hq : quietF ops ops.size l m with
    | none => rw [hq] at h; simp at h
    | some y =>
      rw [hq] at h
      simp only [planB, quietF_B ops l m y hq]
      exact planF_B ops p y h
  | .one i p, m, h => by
    simp only [planF, Bool.and_eq_true, Nat.blt_eq, List.all_eq_true, beq_iff_eq] at h
    obtain ⟨⟨⟨hi, ha⟩, hs⟩, hm⟩ := h
    simp only [planB, Bool.and_eq_true, beq_iff_eq]
    refine ⟨⟨?_, hs⟩, by rw [bits_set]; exact planF_B ops p _ hm⟩
    rw [ready_bits]
    exact filter_one hi fun t ht => ha t (List.mem_range.2 ht)
  | .two i p j q, m, h => by
    simp only [planF, Bool.and_eq_true, Nat.blt_eq, List.all_eq_true, beq_iff_eq] at h
    obtain ⟨⟨⟨⟨⟨⟨⟨hij, hj⟩, ha⟩, h1⟩, h2⟩, hn⟩, hp⟩, hq⟩ := h
    simp only [planB, Bool.and_eq_true, beq_iff_eq]
    refine ⟨⟨⟨⟨⟨?_, h1⟩, h2⟩, hn⟩, by rw [bits_set]; exact planF_B ops p _ hp⟩, by rw [bits_set]; exact planF_B ops q _ hq⟩
    rw [ready_bits]
    exact filter_two hij hj fun t ht => ha t (List.mem_range.2 ht)
  | .three i p j q k r, m, h => by
    simp only [planF, Bool.and_eq_true, Nat.blt_eq, List.all_eq_true, beq_iff_eq] at h
    obtain ⟨⟨⟨⟨⟨⟨⟨⟨⟨⟨⟨hij, hjk⟩, hk⟩, ha⟩, h1⟩, h2⟩, h3⟩, hn⟩, hn2⟩, hp⟩, hq⟩, hr⟩ := h
    simp only [planB, Bool.and_eq_true, beq_iff_eq]
    refine ⟨⟨⟨⟨⟨⟨⟨⟨?_, h1⟩, h2⟩, h3⟩, hn⟩, hn2⟩, by rw [bits_set]; exact planF_B ops p _ hp⟩, by rw [bits_set]; exact planF_B ops q _ hq⟩, by rw [bits_set]; exact planF_B ops r _ hr⟩
    rw [ready_bits]
    exact filter_three hij hjk hk fun t ht => ha t (List.mem_range.2 ht)
theorem wpPlan_read {P : Program} {ops : Array Oper} {C : World → Prop} {Q : Exit → Act → World → Prop} {l : List Nat} {p : Plan} {a : Act} {w : World} :
    wpPlan P ops C Q (.read l p) a w = wpQuiet P ops C (fun a' => wpPlan P ops C Q p a' w) (pickOps ops.toList l) a := rfl
theorem wpPlan_one {P : Program} {ops : Array Oper} {C : World → Prop} {Q : Exit → Act → World → Prop} {i : Nat} {p : Plan} {a : Act} {w : World} :
    wpPlan P ops C Q (.one i p) a w = wpList P ops (soloQ fun a' w' => C w' ∧ wpPlan P ops C Q p a' w') (pickOps ops.toList [i]) a w := rfl
theorem wpPlan_two {P : Program} {ops : Array Oper} {C : World → Prop} {Q : Exit → Act → World → Prop} {i j : Nat} {p q : Plan} {a : Act} {w : World} :
    wpPlan P ops C Q (.two i p j q) a w = (wpList P ops (soloQ fun a' w' => C w' ∧ wpPlan P ops C Q p a' w') (pickOps ops.toList [i]) a w ∧ wpList P ops (soloQ fun a' w' => C w' ∧ wpPlan P ops C Q q a' w') (pickOps ops.toList [j]) a w) := rfl
theorem wpPlan_three {P : Program} {ops : Array Oper} {C : World → Prop} {Q : Exit → Act → World → Prop} {i j k : Nat} {p q r : Plan} {a : Act} {w : World} :
    wpPlan P ops C Q (.three i p j q k r) a w = (wpList P ops (soloQ fun a' w' => C w' ∧ wpPlan P ops C Q p a' w') (pickOps ops.toList [i]) a w ∧ wpList P ops (soloQ fun a' w' => C w' ∧ wpPlan P ops C Q q a' w') (pickOps ops.toList [j]) a w ∧ wpList P ops (soloQ fun a' w' => C w' ∧ wpPlan P ops C Q r a' w') (pickOps ops.toList [k]) a w) := rfl
theorem wpPlan_stop {P : Program} {ops : Array Oper} {C : World → Prop} {Q : Exit → Act → World → Prop} {a : Act} {w : World} (h : Q .normal a w) : wpPlan P ops C Q .stop a w := h
theorem soloP {W : World} {P : Program} {ops : Array Oper} {Q : Exit → Act → World → Prop} {p : Plan} {a : Act} {w : World} (hk : Kept W w) (h : wpPlan P ops (fun w' => ∃ g : KExt W, w' = g.w) Q p a w) :
    soloQ (fun a' w' => (∃ g : KExt W, w' = g.w) ∧ wpPlan P ops (fun w' => ∃ g : KExt W, w' = g.w) Q p a' w') .normal a w := ⟨⟨⟨w, hk⟩, rfl⟩, h⟩
/-- The region, walked by the plan. -/
theorem region_plan {P : Program} (W : World) {id : Nat} {Q : Exit → Act → World → Prop} {a : Act} {w : World} {l : List Oper} (n : Nat) (p : Plan) (hm : P.follows .mixedOrders = true) (hs : Region.noSelect l.toArray = true) (hl : l.length = n) (hn : planN p = n)
    (hB : planF l.toArray n p 0 = true) (hQ : ∀ c d v a w, Q (.panic c) (Act.put a d v) w → Q (.panic c) a w) (h0 : Kept W w)
    (h : ∀ wd : World, Kept w wd → wpPlan P l.toArray (fun w' => ∃ g : KExt W, w' = g.w) Q p a wd) : (Code.region id l.toArray true).wp P Q a w := by
  subst hl
  refine wp_region_held (S := fun w' => ∃ g : KExt W, w' = g.w) hm ?_
  have hk : Kept w { w with drawn := w.drawn + 1 } := (Kept.refl w).drew
  have hB2 := planF_B l.toArray p 0 (by rw [List.size_toArray]; exact hB)
  rw [List.size_toArray, ← bits_none] at hB2
  have := plan_any (Q := Q) (C := fun w' => ∃ g : KExt W, w' = g.w) hs hQ p (Array.replicate l.length false) a { w with drawn := w.drawn + 1 } hB2 ⟨⟨_, h0.trans hk⟩, rfl⟩ (h _ hk)
  rw [hn] at this
  rw [List.size_toArray]
  exact this
end Go.Proofs.Ytcldbmhjfmbcfaa

namespace Go.Proofs.Ytcldbmhjfmbcfaa
open Go.RowKit

def partB (ops : Array Oper) : Plan → Array Bool → Array Bool → Bool
  | .stop, y, z => y == z
  | .read l p, y, z => match quietB ops l y with
    | none => false
    | some x => partB ops p x z
  | .one i p, y, z => Region.ready .any ops y == [i] && (ops[i]?).isSome && partB ops p (y.setIfInBounds i true) z
  | .two i p j q, y, z => Region.ready .any ops y == [i, j] && (ops[i]?).isSome && (ops[j]?).isSome && planN p == planN q && partB ops p (y.setIfInBounds i true) z && partB ops q (y.setIfInBounds j true) z
  | .three _ _ _ _ _ _, _, _ => false
def partF (ops : Array Oper) (n : Nat) : Plan → Nat → Nat → Bool
  | .stop, m, z => m == z
  | .read l p, m, z => match quietF ops n l m with
    | none => false
    | some y => partF ops n p y z
  | .one i p, m, z => Nat.blt i n && (List.range n).all (fun t => isReady ops n m t == (t == i)) && (ops[i]?).isSome && partF ops n p (m ||| 2 ^ i) z
  | .two i p j q, m, z => Nat.blt i j && Nat.blt j n && (List.range n).all (fun t => isReady ops n m t == (t == i || t == j)) && (ops[i]?).isSome && (ops[j]?).isSome && planN p == planN q && partF ops n p (m ||| 2 ^ i) z && partF ops n q (m ||| 2 ^ j) z
  | .three _ _ _ _ _ _, _, _ => false
theorem partF_B (ops : Array Oper) : ∀ (p : Plan) (m z : Nat), partF ops ops.size p m z = true → partB ops p (bits ops.size m) (bits ops.size z) = true
  | .stop, m, z, h => by
    simp only [partF, beq_iff_eq] at h
    subst h
    simp only [partB, beq_self_eq_true]
  | .read l p, m, z, h => by
    simp only [partF] at h
    cases hq : quietF ops ops.size l m with
    | none => rw [hq] at h; simp at h
    | some y =>
      rw [hq] at h
      simp only [partB, quietF_B ops l m y hq]
      exact partF_B ops p y z h
  | .one i p, m, z, h => by
    simp only [partF, Bool.and_eq_true, Nat.blt_eq, List.all_eq_true, beq_iff_eq] at h
    obtain ⟨⟨⟨hi, ha⟩, hs⟩, hm⟩ := h
    simp only [partB, Bool.and_eq_true, beq_iff_eq]
    refine ⟨⟨?_, hs⟩, by rw [bits_set]; exact partF_B ops p _ z hm⟩
    rw [ready_bits]
    exact filter_one hi fun t ht => ha t (List.mem_range.2 ht)
  | .two i p j q, m, z, h => by
    simp only [partF, Bool.and_eq_true, Nat.blt_eq, List.all_eq_true, beq_iff_eq] at h
    obtain ⟨⟨⟨⟨⟨⟨⟨hij, hj⟩, ha⟩, h1⟩, h2⟩, hn⟩, hp⟩, hq⟩ := h
    simp only [partB, Bool.and_eq_true, beq_iff_eq]
    refine ⟨⟨⟨⟨⟨?_, h1⟩, h2⟩, hn⟩, by rw [bits_set]; exact partF_B ops p _ z hp⟩, by rw [bits_set]; exact partF_B ops q _ z hq⟩
    rw [ready_bits]
    exact filter_two hij hj fun t ht => ha t (List.mem_range.2 ht)
  | .three _ _ _ _ _ _, _, _, h => by simp [partF] at h
section
variable {P : Program} {ops : Array Oper} {Q : Exit → Act → World → Prop} {C : World → Prop}
theorem part_any (hs : Region.noSelect ops = true) (hQ : ∀ c d v a w, Q (.panic c) (Act.put a d v) w → Q (.panic c) a w) (K : Act → World → Prop) (r : Nat) : ∀ (p : Plan) (y z : Array Bool) (a : Act) (w : World),
    partB ops p y z = true → C w → wpPlan P ops C (fun _ a w => K a w) p a w → (∀ a' w', C w' → K a' w' → wpAnyH P .any ops Q C r z a' w') → wpAnyH P .any ops Q C (r + planN p) y a w
  | .stop, y, z, a, w, hB, hC, h, hK => by
    simp only [partB, beq_iff_eq] at hB
    subst hB
    exact hK a w hC h
  | .read l p, y, z, a, w, hB, hC, h, hK => by
    simp only [partB] at hB
    cases hq : quietB ops l y with
    | none => rw [hq] at hB; simp at hB
    | some x =>
      rw [hq] at hB
      have h2 := quiet_any hs hQ l y x (r + planN p) a w _ hq hC h fun a' h' => part_any hs hQ K r p x z a' w hB hC h' hK
      rw [Nat.add_assoc] at h2
      exact h2
  | .one i p, y, z, a, w, hB, hC, h, hK => by
    simp only [partB, Bool.and_eq_true, beq_iff_eq] at hB
    obtain ⟨⟨hr, hi⟩, hB⟩ := hB
    obtain ⟨o, ho⟩ := Option.isSome_iff_exists.1 hi
    refine wpAnyH_all (fuel := r + planN p) hr (by simp) fun j hj => ?_
    obtain rfl : j = i := by simpa using hj
    exact wpOp_mono (fun a2 w2 h2 => ⟨h2.1, part_any hs hQ K r p _ z a2 w2 hB h2.1 h2.2 hK⟩) (op_of_list ho h)
  | .two i p j q, y, z, a, w, hB, hC, h, hK => by
    simp only [partB, Bool.and_eq_true, beq_iff_eq] at hB
    obtain ⟨⟨⟨⟨⟨hr, hi⟩, hj⟩, hn⟩, hB1⟩, hB2⟩ := hB
    obtain ⟨o1, ho1⟩ := Option.isSome_iff_exists.1 hi
    obtain ⟨o2, ho2⟩ := Option.isSome_iff_exists.1 hj
    refine wpAnyH_all (fuel := r + planN p) hr (by simp) fun t ht => ?_
    simp only [List.mem_cons, List.not_mem_nil, or_false] at ht
    rcases ht with rfl | rfl
    · exact wpOp_mono (fun a2 w2 h2 => ⟨h2.1, part_any hs hQ K r p _ z a2 w2 hB1 h2.1 h2.2 hK⟩) (op_of_list ho1 h.1)
    · exact wpOp_mono (fun a2 w2 h2 => ⟨h2.1, by rw [hn]; exact part_any hs hQ K r q _ z a2 w2 hB2 h2.1 h2.2 hK⟩) (op_of_list ho2 h.2)
  | .three _ _ _ _ _ _, _, _, _, _, hB, _, _, _ => by simp [partB] at hB
end
def seqN : List (Plan × Nat) → Plan → Nat
  | [], q => planN q
  | x :: l, q => seqN l q + planN x.1
def seqF (ops : Array Oper) (n : Nat) : List (Plan × Nat) → Plan → Nat → Bool
  | [], q, m => planF ops n q m
  | x :: l, q, m => partF ops n x.1 m x.2 && seqF ops n l q x.2
def wpSeq (P : Program) (ops : Array Oper) (C : World → Prop) (Q : Exit → Act → World → Prop) : List (Plan × Nat) → Plan → Act → World → Prop
  | [], q, a, w => wpPlan P ops C Q q a w
  | x :: l, q, a, w => ∃ K : Act → World → Prop, wpPlan P ops C (fun _ a w => K a w) x.1 a w ∧ ∀ a' w', C w' → K a' w' → wpSeq P ops C Q l q a' w'
section
variable {P : Program} {ops : Array Oper} {Q : Exit → Act → World → Prop} {C : World → Prop}
theorem seq_any (hs : Region.noSelect ops = true) (hQ : ∀ c d v a w, Q (.panic c) (Act.put a d v) w → Q (.panic c) a w) (q : Plan) : ∀ (l : List (Plan × Nat)) (m : Nat) (a : Act) (w : World),
    seqF ops ops.size l q m = true → C w → wpSeq P ops C Q l q a w → wpAnyH P .any ops Q C (seqN l q) (bits ops.size m) a w
  | [], m, a, w, hF, hC, h => plan_any hs hQ q _ a w (planF_B ops q m hF) hC h
  | x :: l, m, a, w, hF, hC, h => by
    simp only [seqF, Bool.and_eq_true] at hF
    obtain ⟨K, h1, h2⟩ := h
    exact part_any hs hQ K (seqN l q) x.1 _ _ a w (partF_B ops x.1 m x.2 hF.1) hC h1 fun a' w' hc hk => seq_any hs hQ q l x.2 a' w' hF.2 hc (h2 a' w' hc hk)
theorem wpSeq_go {p q : Plan} {z : Nat} {l : List (Plan × Nat)} {a : Act} {w : World} (h : wpPlan P ops C (fun _ a w => wpSeq P ops C Q l q a w) p a w) : wpSeq P ops C Q ((p, z) :: l) q a w :=
  ⟨_, h, fun _ _ _ k => k⟩
theorem wpSeq_two (i j : Tmp) (R : Value → Value → World → Prop) {p q : Plan} {z : Nat} {l : List (Plan × Nat)} {a : Act} {w : World} (h1 : wpPlan P ops C (fun _ a' w' => ∃ v u, a' = Act.put (Act.put a (some i) v) (some j) u ∧ R v u w') p a w)
    (h2 : ∀ v u w', C w' → R v u w' → wpSeq P ops C Q l q (Act.put (Act.put a (some i) v) (some j) u) w') : wpSeq P ops C Q ((p, z) :: l) q a w :=
  ⟨_, h1, fun a' w' hc ⟨v, u, e, hr⟩ => by subst e; exact h2 v u w' hc hr⟩
theorem wpSeq_four (i j k m : Tmp) (R : Value → Value → World → Prop) {p q : Plan} {z : Nat} {l : List (Plan × Nat)} {a : Act} {w : World} (h1 : wpPlan P ops C (fun _ a' w' => ∃ v0 v u0 u, a' = Act.put (Act.put (Act.put (Act.put a (some i) v0) (some j) v) (some k) u0) (some m) u ∧ R v u w') p a w)
    (h2 : ∀ v0 v u0 u w', C w' → R v u w' → wpSeq P ops C Q l q (Act.put (Act.put (Act.put (Act.put a (some i) v0) (some j) v) (some k) u0) (some m) u) w') : wpSeq P ops C Q ((p, z) :: l) q a w :=
  ⟨_, h1, fun a' w' hc ⟨v0, v, u0, u, e, hr⟩ => by subst e; exact h2 v0 v u0 u w' hc hr⟩
end
theorem wpSeq_nil {P : Program} {ops : Array Oper} {C : World → Prop} {Q : Exit → Act → World → Prop} {q : Plan} {a : Act} {w : World} (h : wpPlan P ops C Q q a w) : wpSeq P ops C Q [] q a w := h
/-- The region, walked by its parts. -/
theorem region_seq {P : Program} (W : World) {id : Nat} {Q : Exit → Act → World → Prop} {a : Act} {w : World} {l : List Oper} (n : Nat) (L : List (Plan × Nat)) (q : Plan) (hm : P.follows .mixedOrders = true) (hs : Region.noSelect l.toArray = true) (hl : l.length = n) (hn : seqN L q = n)
    (hB : seqF l.toArray n L q 0 = true) (hQ : ∀ c d v a w, Q (.panic c) (Act.put a d v) w → Q (.panic c) a w) (h0 : Kept W w)
    (h : ∀ wd : World, Kept w wd → wpSeq P l.toArray (fun w' => ∃ g : KExt W, w' = g.w) Q L q a wd) : (Code.region id l.toArray true).wp P Q a w := by
  subst hl
  refine wp_region_held (S := fun w' => ∃ g : KExt W, w' = g.w) hm ?_
  have hk : Kept w { w with drawn := w.drawn + 1 } := (Kept.refl w).drew
  have := seq_any (Q := Q) (C := fun w' => ∃ g : KExt W, w' = g.w) hs hQ q L 0 a { w with drawn := w.drawn + 1 } (by rw [List.size_toArray]; exact hB) ⟨⟨_, h0.trans hk⟩, rfl⟩ (h _ hk)
  rw [hn, List.size_toArray, ← bits_none] at this
  rw [List.size_toArray]
  exact this
end Go.Proofs.Ytcldbmhjfmbcfaa

