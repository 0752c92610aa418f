/-
  What is proved: plain facts on fields that are sorted by their paths and stay as they came where these are the same (P11.3): which row that is, that there is just one, and what exchanges, and rows put together, leave of it; no program is spoken of here.
  plain facts on the library's stable sort of fields: what exchanges of two parts, the turning of two parts side by side, and the search for where two rows in order part, leave; no program is spoken of here.
-/
import Derived.Test.YtjieofiaoepccaaGreatDoorM10
import Derived.Sort.LotA
namespace Go.Proofs.YtjieofiaoepccaaGreatDoor
open Go.RowKit Go.Sort

instance : Inhabited Fd := ⟨Fd.none⟩
/-- The fields of each path, in the same order. -/
def ofP (p : ByteArray) (L : List Fd) : List Fd := L.filter fun x => decide (x.p = p)
def Stab (L M : List Fd) : Prop := ∀ p : ByteArray, ofP p L = ofP p M
theorem ofP_app (p : ByteArray) (L M : List Fd) : ofP p (L ++ M) = ofP p L ++ ofP p M := List.filter_append ..
theorem Stab.refl (L : List Fd) : Stab L L := fun _ => rfl
theorem Stab.symm {L M : List Fd} (h : Stab L M) : Stab M L := fun p => (h p).symm
theorem Stab.trans {L M N : List Fd} (h : Stab L M) (k : Stab M N) : Stab L N := fun p => (h p).trans (k p)
theorem Stab.app {A B C D : List Fd} (h : Stab A B) (k : Stab C D) : Stab (A ++ C) (B ++ D) := fun p => by rw [ofP_app, ofP_app, h p, k p]
theorem Stab.mid {P X Y S : List Fd} (h : Stab (P ++ X ++ S) (P ++ Y ++ S)) : Stab X Y := fun p => by
  have := h p
  rw [ofP_app, ofP_app, ofP_app, ofP_app] at this
  exact List.append_cancel_left (List.append_cancel_right this)
theorem mem_ofP {p : ByteArray} {L : List Fd} {x : Fd} : x ∈ ofP p L ↔ x ∈ L ∧ x.p = p := by
  unfold ofP
  rw [List.mem_filter, decide_eq_true_iff]
theorem Stab.mem {L M : List Fd} (h : Stab L M) (x : Fd) : x ∈ L ↔ x ∈ M := by
  have e := h x.p
  constructor
  · intro hx
    exact (mem_ofP.1 (e ▸ mem_ofP.2 ⟨hx, rfl⟩)).1
  · intro hx
    exact (mem_ofP.1 (e ▸ mem_ofP.2 ⟨hx, rfl⟩ : x ∈ ofP x.p L)).1
theorem ofP_none {p : ByteArray} {L : List Fd} (h : ∀ x ∈ L, x.p ≠ p) : ofP p L = [] := by
  unfold ofP
  rw [List.filter_eq_nil_iff]
  exact fun x hx => by rw [decide_eq_true_iff]; exact h x hx
theorem Stab.turn {X Y : List Fd} (h : ∀ x ∈ X, ∀ y ∈ Y, x.p ≠ y.p) : Stab (X ++ Y) (Y ++ X) := fun p => by
  rw [ofP_app, ofP_app]
  by_cases hx : ∃ x ∈ X, x.p = p
  · obtain ⟨x, hx, rfl⟩ := hx
    rw [ofP_none (p := x.p) (L := Y) fun y hy e => h x hx y hy e.symm]
    simp
  · rw [ofP_none (p := p) (L := X) fun x hx2 e => hx ⟨x, hx2, e⟩]
    simp
/-- There is just one. -/
theorem flat_one : ∀ (L M : List Fd), Flat L → Flat M → Stab L M → L = M
  | [], [], _, _, _ => rfl
  | [], y :: M, _, _, h => absurd ((h.mem y).2 (by simp)) (by simp)
  | x :: L, [], _, _, h => absurd ((h.mem x).1 (by simp)) (by simp)
  | x :: L, y :: M, hL, hM, h => by
    obtain ⟨l1, l2⟩ := List.pairwise_cons.1 hL
    obtain ⟨m1, m2⟩ := List.pairwise_cons.1 hM
    have e : x.p = y.p := by
      have a : ¬ LtP y.p x.p := by
        rcases List.mem_cons.1 ((h.mem y).2 (by simp)) with e | e
        · rw [e]; exact LtP.irrefl _
        · exact l1 y e
      have b : ¬ LtP x.p y.p := by
        rcases List.mem_cons.1 ((h.mem x).1 (by simp)) with e | e
        · rw [e]; exact LtP.irrefl _
        · exact m1 x e
      rcases LtP.tri x.p y.p with c | c | c
      · exact absurd c b
      · exact c
      · exact absurd c a
    have hx := h x.p
    unfold ofP at hx
    rw [List.filter_cons_of_pos (by simp), List.filter_cons_of_pos (by simpa using e.symm)] at hx
    obtain ⟨rfl, hx2⟩ := List.cons.inj hx
    have ht : Stab L M := fun p => by
      by_cases hp : x.p = p
      · rw [← hp]; exact hx2
      · have := h p
        unfold ofP at this
        rw [List.filter_cons_of_neg (by simpa using hp), List.filter_cons_of_neg (by simpa using hp)] at this
        exact this
    rw [flat_one L M l2 m2 ht]
theorem insF_stab (L : List Fd) (x : Fd) : Stab (insF L x) (L ++ [x]) := fun p => by
  unfold insF
  rw [show x :: L.filter (fun y => decide (LtP x.p y.p)) = [x] ++ L.filter (fun y => decide (LtP x.p y.p)) from rfl, ofP_app, ofP_app, ofP_app]
  by_cases hp : x.p = p
  · have e1 : ofP p (L.filter fun y => decide (LtP x.p y.p)) = [] := ofP_none fun y hy e => by
      have := (List.mem_filter.1 hy).2
      rw [decide_eq_true_iff, e, hp] at this
      exact LtP.irrefl _ this
    have e2 : ofP p (L.filter fun y => !decide (LtP x.p y.p)) = ofP p L := by
      unfold ofP
      rw [List.filter_filter]
      refine List.filter_congr fun y _ => ?_
      by_cases hy : y.p = p
      · rw [hy, hp]; simp [LtP.irrefl]
      · simp [hy]
    rw [e1, e2, List.append_nil]
  · have e0 : ofP p [x] = [] := ofP_none fun y hy => by rw [List.mem_singleton.1 hy]; exact hp
    rw [e0, List.nil_append, List.append_nil]
    by_cases hq : LtP x.p p
    · have e1 : ofP p (L.filter fun y => decide (LtP x.p y.p)) = ofP p L := by
        unfold ofP
        rw [List.filter_filter]
        refine List.filter_congr fun y _ => ?_
        by_cases hy : y.p = p
        · rw [hy]; simp [hq]
        · simp [hy]
      have e2 : ofP p (L.filter fun y => !decide (LtP x.p y.p)) = [] := ofP_none fun y hy e => by
        have := (List.mem_filter.1 hy).2
        rw [e] at this
        simp [hq] at this
      rw [e1, e2, List.nil_append]
    · have e1 : ofP p (L.filter fun y => decide (LtP x.p y.p)) = [] := ofP_none fun y hy e => by
        have := (List.mem_filter.1 hy).2
        rw [decide_eq_true_iff, e] at this
        exact hq this
      have e2 : ofP p (L.filter fun y => !decide (LtP x.p y.p)) = ofP p L := by
        unfold ofP
        rw [List.filter_filter]
        refine List.filter_congr fun y _ => ?_
        by_cases hy : y.p = p
        · rw [hy]; simp [hq]
        · simp [hy]
      rw [e1, e2, List.append_nil]
theorem foldl_stab : ∀ (L M : List Fd), Stab (L.foldl insF M) (M ++ L)
  | [], M => by rw [List.append_nil]; exact Stab.refl _
  | x :: L, M => by
    rw [List.foldl_cons]
    refine (foldl_stab L (insF M x)).trans ?_
    rw [show M ++ x :: L = M ++ [x] ++ L by simp]
    exact (insF_stab M x).app (Stab.refl L)
theorem ofF_stab (L : List Fd) : Stab (ofF L) L := by
  have := foldl_stab L []
  rw [List.nil_append] at this
  exact this
theorem ofF_is {Z L : List Fd} (h : Flat Z) (k : Stab Z L) : Z = ofF L := flat_one _ _ h (ofF_flat L) (k.trans (ofF_stab L).symm)
/-- Two rows in order, each in two parts, which part so that all of both first ones stand ahead of all of both second ones. -/
theorem stab_parts {X1 X2 Y1 Y2 Z1 Z2 : List Fd} (hX : Flat (X1 ++ X2)) (hY : Flat (Y1 ++ Y2)) (h1 : ∀ x ∈ X1, ∀ y ∈ Y2, ¬ LtP y.p x.p) (h2 : ∀ x ∈ X2, ∀ y ∈ Y1, LtP y.p x.p)
    (z1 : Stab Z1 (X1 ++ Y1)) (z2 : Stab Z2 (X2 ++ Y2)) (f1 : Flat Z1) (f2 : Flat Z2) : Flat (Z1 ++ Z2) ∧ Stab (Z1 ++ Z2) (X1 ++ X2 ++ (Y1 ++ Y2)) := by
  constructor
  · unfold Flat
    rw [List.pairwise_append]
    refine ⟨f1, f2, fun a ha b hb => ?_⟩
    have ha2 := List.mem_append.1 ((z1.mem a).1 ha)
    have hb2 := List.mem_append.1 ((z2.mem b).1 hb)
    rcases ha2 with ha2 | ha2 <;> rcases hb2 with hb2 | hb2
    · exact (List.pairwise_append.1 hX).2.2 a ha2 b hb2
    · exact h1 a ha2 b hb2
    · exact (h2 b hb2 a ha2).asymm
    · exact (List.pairwise_append.1 hY).2.2 a ha2 b hb2
  · refine (z1.app z2).trans ?_
    have := Stab.turn (X := Y1) (Y := X2) fun y hy x hx e => by
      have := h2 x hx y hy
      rw [e] at this
      exact LtP.irrefl _ this
    have := (Stab.refl X1).app (this.app (Stab.refl Y2))
    simpa [List.append_assoc] using this
/-- An exchange, in a row as a list. -/
theorem arr_get (A : List Fd) (x : Fd) (B : List Fd) {i : Nat} (h : i = A.length) : (A ++ x :: B).toArray[i]! = x := by
  subst h
  rw [getElem!_pos _ _ (by simp)]
  simp
theorem arr_at {L : List Fd} {i : Nat} {x : Fd} (h : L[i]? = some x) : L.toArray[i]! = x := by
  have hl := (List.getElem?_eq_some_iff.1 h).1
  rw [getElem!_pos _ i (by simpa using hl)]
  simpa using (List.getElem?_eq_some_iff.1 h).2
theorem swp_at (A : List Fd) (x : Fd) (M : List Fd) (y : Fd) (B : List Fd) {i j : Nat} (hi : i = A.length) (hj : j = A.length + 1 + M.length) : swp (A ++ x :: (M ++ y :: B)).toArray i j = (A ++ y :: (M ++ x :: B)).toArray := by
  have e1 := arr_get A x (M ++ y :: B) hi
  have e2 : (A ++ x :: (M ++ y :: B)).toArray[j]! = y := by
    rw [show A ++ x :: (M ++ y :: B) = (A ++ x :: M) ++ y :: B by simp]
    exact arr_get (A ++ x :: M) y B (by rw [hj]; simp; omega)
  unfold swp
  rw [e1, e2]
  subst hi hj
  rw [List.setIfInBounds_toArray, List.setIfInBounds_toArray]
  congr 1
  rw [List.set_append_right _ _ (Nat.le_refl _), Nat.sub_self, List.set_cons_zero, List.set_append_right _ _ (by omega), show A.length + 1 + M.length - A.length = M.length + 1 by omega, List.set_cons_succ, List.set_append_right _ _ (Nat.le_refl _), Nat.sub_self, List.set_cons_zero]
theorem swp_sym (d : Array Fd) (i j : Nat) : swp d i j = swp d j i := by
  unfold swp
  by_cases h : i = j
  · subst h; rfl
  · rw [Array.setIfInBounds_comm _ _ h]
/-- Two of a row side by side, exchanged. -/
theorem swp_next (A : List Fd) (x y : Fd) (B : List Fd) {i : Nat} (hi : i = A.length) : swp (A ++ x :: y :: B).toArray (i + 1) i = (A ++ y :: x :: B).toArray := by
  rw [swp_sym]
  exact swp_at A x [] y B hi (by rw [hi]; simp)
theorem split_two {d : Array Fd} {i : Nat} (h : i + 1 < d.size) : ∃ A x y B, d = (A ++ x :: y :: B).toArray ∧ A.length = i ∧ d[i]! = x ∧ d[i + 1]! = y := by
  refine ⟨d.toList.take i, d[i]!, d[i + 1]!, d.toList.drop (i + 2), ?_, by simp; omega, rfl, rfl⟩
  apply Array.ext'
  show d.toList = _
  have e1 : d.toList.drop i = d[i]! :: d[i + 1]! :: d.toList.drop (i + 2) := by
    rw [List.drop_eq_getElem_cons (by simp; omega), List.drop_eq_getElem_cons (by simp; omega)]
    rw [getElem!_pos d i (by omega), getElem!_pos d (i + 1) (by omega)]
    simp
  rw [← e1, List.take_append_drop]
/-- Less, as it is asked: by the path alone. -/
def ltF (x y : Fd) : Bool := decide (LtP x.p y.p)
theorem ltF_swo : SWO ltF where
  irrefl x := decide_eq_false (LtP.irrefl _)
  trans x y z h1 h2 := decide_eq_true ((of_decide_eq_true h1).trans (of_decide_eq_true h2))
  ntrans x y z h1 h2 := by
    refine decide_eq_false fun h => ?_
    rcases LtP.not.1 (of_decide_eq_false h1) with e | e
    · exact of_decide_eq_false h2 (by rw [e]; exact h)
    · exact of_decide_eq_false h2 (e.trans h)
theorem swp_stab {d : Array Fd} {j : Nat} (h : j + 1 < d.size) (hl : ltF d[j + 1]! d[j]! = true) : Stab (swp d (j + 1) j).toList d.toList := by
  obtain ⟨A, x, y, B, rfl, h1, h2, h3⟩ := split_two h
  rw [h2, h3] at hl
  rw [swp_next A x y B h1.symm]
  show Stab (A ++ y :: x :: B) (A ++ x :: y :: B)
  have := (Stab.refl A).app ((Stab.turn (X := [y]) (Y := [x]) fun a ha b hb e => by
    obtain rfl := List.mem_singleton.1 ha
    obtain rfl := List.mem_singleton.1 hb
    have := of_decide_eq_true hl
    rw [e] at this
    exact LtP.irrefl _ this).app (Stab.refl B))
  simpa using this
theorem insInner_stab (a : Nat) : ∀ (j : Nat) (d : Array Fd), j < d.size → Stab (insInner ltF a j d).toList d.toList
  | 0, d, _ => Stab.refl _
  | j + 1, d, h => by
    unfold insInner
    split
    · rename_i hc
      rw [Bool.and_eq_true] at hc
      refine (insInner_stab a j _ ?_).trans (swp_stab h hc.2)
      unfold swp
      simp; omega
    · exact Stab.refl _
theorem insInner_size (a : Nat) : ∀ (j : Nat) (d : Array Fd), (insInner ltF a j d).size = d.size
  | 0, d => rfl
  | j + 1, d => by
    unfold insInner
    split
    · rw [insInner_size a j]; unfold swp; simp
    · rfl
theorem insOuter_stab (a b : Nat) : ∀ (m i : Nat) (d : Array Fd), b - i = m → b ≤ d.size → Stab (insOuter ltF a b i d).toList d.toList
  | 0, i, d, h, _ => by
    unfold insOuter
    rw [if_neg (by omega)]
    exact Stab.refl _
  | m + 1, i, d, h, hb => by
    unfold insOuter
    rw [if_pos (by omega)]
    exact (insOuter_stab a b m (i + 1) _ (by omega) (by rw [insInner_size]; exact hb)).trans (insInner_stab a i d (by omega))
/-- A part of a row, sorted by insertion. -/
theorem ins_part (P X S : List Fd) {a b : Nat} (ha : a = P.length) (hb : b = P.length + X.length) : ∃ Z, insertionSort ltF (P ++ X ++ S).toArray a b = (P ++ Z ++ S).toArray ∧ Z.length = X.length ∧ Flat Z ∧ Stab Z X := by
  have hsz : b ≤ (P ++ X ++ S).toArray.size := by simp; omega
  obtain ⟨⟨p1, p2, _⟩, ps⟩ := insertionSort_holds ltF_swo (P ++ X ++ S).toArray a b (by omega) hsz
  have st : Stab (insertionSort ltF (P ++ X ++ S).toArray a b).toList (P ++ X ++ S) := insOuter_stab a b _ (a + 1) _ rfl hsz
  generalize insertionSort ltF (P ++ X ++ S).toArray a b = d at p1 p2 ps st
  have hl : d.toList.length = P.length + X.length + S.length := by
    have := p1; simp at this; simp; omega
  have hg : ∀ i, i < d.toList.length → d[i]! = d.toList[i]! := fun i hi => by
    rw [getElem!_pos d i (by simpa using hi), getElem!_pos d.toList i hi]; simp
  have e1 : d.toList.take a = P := by
    refine List.ext_getElem (by rw [List.length_take]; omega) fun i h1 h2 => ?_
    have h3 := p2 i (.inl (by omega))
    have h4 : (P ++ X ++ S).toArray[i]! = P[i] := arr_at (by rw [List.append_assoc, List.getElem?_append_left h2]; exact List.getElem?_eq_getElem h2)
    rw [List.length_take] at h1
    rw [h4, getElem!_pos d i (by simp at hl; omega)] at h3
    rw [List.getElem_take, ← h3]; simp
  have e2 : d.toList.drop b = S := by
    refine List.ext_getElem (by rw [List.length_drop]; omega) fun i h1 h2 => ?_
    have h3 := p2 (b + i) (.inr (by omega))
    have h4 : (P ++ X ++ S).toArray[b + i]! = S[i] := arr_at (by
      rw [List.getElem?_append_right (by simp; omega), show b + i - (P ++ X).length = i by simp; omega]; exact List.getElem?_eq_getElem h2)
    rw [List.length_drop] at h1
    rw [h4, getElem!_pos d (b + i) (by simp at hl; omega)] at h3
    rw [List.getElem_drop, ← h3]; simp
  refine ⟨(d.toList.drop a).take X.length, ?_, by rw [List.length_take, List.length_drop]; omega, ?_, ?_⟩
  · apply Array.ext'
    show d.toList = _
    have e3 : (d.toList.drop a).drop X.length = S := by rw [List.drop_drop, show a + X.length = b by omega]; exact e2
    conv => lhs; rw [← List.take_append_drop a d.toList, e1, ← List.take_append_drop X.length (d.toList.drop a), e3]
    simp
  · unfold Flat
    rw [List.pairwise_iff_getElem]
    intro i j hi hj hij
    rw [List.length_take, List.length_drop] at hi hj
    have := ps (a + i) (a + j) (by omega) (by omega) (by omega)
    rw [getElem!_pos d (a + i) (by simp at hl; omega), getElem!_pos d (a + j) (by simp at hl; omega)] at this
    have h5 := of_decide_eq_false this
    simpa using h5
  · refine Stab.mid (P := P) (S := S) ?_
    have e3 : P ++ (d.toList.drop a).take X.length ++ S = d.toList := by
      have e4 : (d.toList.drop a).drop X.length = S := by rw [List.drop_drop, show a + X.length = b by omega]; exact e2
      conv => rhs; rw [← List.take_append_drop a d.toList, e1, ← List.take_append_drop X.length (d.toList.drop a), e4]
      simp
    rw [e3]; exact st
end Go.Proofs.YtjieofiaoepccaaGreatDoor

namespace Go.Proofs.YtjieofiaoepccaaGreatDoor
open Go.RowKit Go.Sort

theorem flat_idx {X : List Fd} (h : Flat X) {i j : Nat} {x y : Fd} (hx : X[i]? = some x) (hy : X[j]? = some y) (hij : i ≤ j) : ¬ LtP y.p x.p := by
  obtain ⟨a, rfl⟩ := List.getElem?_eq_some_iff.1 hx
  obtain ⟨b, rfl⟩ := List.getElem?_eq_some_iff.1 hy
  rcases Nat.eq_or_lt_of_le hij with e | e
  · subst e; exact LtP.irrefl _
  · exact List.pairwise_iff_getElem.1 h i j a b e
theorem nlt_trans {a b c : ByteArray} (h : ¬ LtP b a) (k : ¬ LtP c b) : ¬ LtP c a := fun e => by
  rcases LtP.not.1 h with g | g
  · exact k (by rw [g] at e; exact e)
  · exact k (e.trans g)
theorem lt_of_nlt {a b c : ByteArray} (h : ¬ LtP b a) (k : LtP b c) : LtP a c := by
  rcases LtP.not.1 h with g | g
  · rw [g]; exact k
  · exact g.trans k
theorem lt_of_lt_n {a b c : ByteArray} (h : LtP a b) (k : ¬ LtP c b) : LtP a c := by
  rcases LtP.not.1 k with g | g
  · rw [← g]; exact h
  · exact h.trans g
theorem mem_take_idx {X : List Fd} {s : Nat} {x : Fd} (h : x ∈ X.take s) : ∃ i, i < s ∧ X[i]? = some x := by
  obtain ⟨i, hi⟩ := List.mem_iff_getElem?.1 h
  rw [List.getElem?_take] at hi
  split at hi
  · exact ⟨i, by assumption, hi⟩
  · cases hi
theorem mem_drop_idx {X : List Fd} {s : Nat} {x : Fd} (h : x ∈ X.drop s) : ∃ i, s ≤ i ∧ X[i]? = some x := by
  obtain ⟨i, hi⟩ := List.mem_iff_getElem?.1 h
  rw [List.getElem?_drop] at hi
  exact ⟨s + i, Nat.le_add_right _ _, hi⟩
/-- Where two rows part: what was asked last on either side says it of all. -/
theorem part_le {X Y : List Fd} (hX : Flat X) (hY : Flat Y) {s t : Nat} (h : s = 0 ∨ t = Y.length ∨ ∃ x y, X[s - 1]? = some x ∧ Y[t]? = some y ∧ ¬ LtP y.p x.p) : ∀ x ∈ X.take s, ∀ y ∈ Y.drop t, ¬ LtP y.p x.p := by
  intro x hx y hy
  obtain ⟨i, hi, hx⟩ := mem_take_idx hx
  obtain ⟨j, hj, hyj⟩ := mem_drop_idx hy
  rcases h with rfl | rfl | ⟨u, v, hu, hv, huv⟩
  · omega
  · have := (List.getElem?_eq_some_iff.1 hyj).1; omega
  · exact nlt_trans (nlt_trans (flat_idx hX hx hu (by omega)) huv) (flat_idx hY hv hyj hj)
theorem part_lt {X Y : List Fd} (hX : Flat X) (hY : Flat Y) {s t : Nat} (h : s = X.length ∨ t = 0 ∨ ∃ x y, X[s]? = some x ∧ Y[t - 1]? = some y ∧ LtP y.p x.p) : ∀ x ∈ X.drop s, ∀ y ∈ Y.take t, LtP y.p x.p := by
  intro x hx y hy
  obtain ⟨i, hi, hxi⟩ := mem_drop_idx hx
  obtain ⟨j, hj, hy⟩ := mem_take_idx hy
  rcases h with rfl | rfl | ⟨u, v, hu, hv, huv⟩
  · have := (List.getElem?_eq_some_iff.1 hxi).1; omega
  · omega
  · exact lt_of_nlt (flat_idx hY hy hv (by omega)) (lt_of_lt_n huv (flat_idx hX hu hxi hi))
theorem flat_take {X : List Fd} (h : Flat X) (s : Nat) : Flat (X.take s) := List.Pairwise.sublist (List.take_sublist s X) h
theorem flat_drop {X : List Fd} (h : Flat X) (s : Nat) : Flat (X.drop s) := List.Pairwise.sublist (List.drop_sublist s X) h
theorem stab_split {X Y Z1 Z2 : List Fd} (hX : Flat X) (hY : Flat Y) {s t : Nat} (h1 : s = 0 ∨ t = Y.length ∨ ∃ x y, X[s - 1]? = some x ∧ Y[t]? = some y ∧ ¬ LtP y.p x.p) (h2 : s = X.length ∨ t = 0 ∨ ∃ x y, X[s]? = some x ∧ Y[t - 1]? = some y ∧ LtP y.p x.p)
    (z1 : Stab Z1 (X.take s ++ Y.take t)) (z2 : Stab Z2 (X.drop s ++ Y.drop t)) (f1 : Flat Z1) (f2 : Flat Z2) : Flat (Z1 ++ Z2) ∧ Stab (Z1 ++ Z2) (X ++ Y) := by
  have := stab_parts (X1 := X.take s) (X2 := X.drop s) (Y1 := Y.take t) (Y2 := Y.drop t) (by rw [List.take_append_drop]; exact hX) (by rw [List.take_append_drop]; exact hY) (part_le hX hY h1) (part_lt hX hY h2) z1 z2 f1 f2
  rw [List.take_append_drop, List.take_append_drop] at this
  exact this
/-- One ahead of a row in order, put into its place. -/
theorem put_one {Y : List Fd} {x : Fd} (hY : Flat Y) {t : Nat} (h1 : t = 0 ∨ ∃ y, Y[t - 1]? = some y ∧ LtP y.p x.p) (h2 : t = Y.length ∨ ∃ y, Y[t]? = some y ∧ ¬ LtP y.p x.p) : Flat (Y.take t ++ x :: Y.drop t) ∧ Stab (Y.take t ++ x :: Y.drop t) ([x] ++ Y) := by
  refine stab_split (X := [x]) (s := 0) (t := t) (List.pairwise_singleton _ _) hY (.inl rfl) (.inr (h1.imp id fun ⟨y, a, b⟩ => ⟨x, y, rfl, a, b⟩)) (Stab.refl _) (Stab.refl _) (flat_take hY t) ?_
  refine List.pairwise_cons.2 ⟨fun y hy => ?_, flat_drop hY t⟩
  obtain ⟨j, hj, hyj⟩ := mem_drop_idx hy
  rcases h2 with rfl | ⟨v, hv, hvx⟩
  · have := (List.getElem?_eq_some_iff.1 hyj).1; omega
  · exact nlt_trans hvx (flat_idx hY hv hyj hj)
/-- One behind a row in order, put into its place. -/
theorem put_last {X : List Fd} {y : Fd} (hX : Flat X) {s : Nat} (h1 : s = 0 ∨ ∃ x, X[s - 1]? = some x ∧ ¬ LtP y.p x.p) (h2 : s = X.length ∨ ∃ x, X[s]? = some x ∧ LtP y.p x.p) : Flat (X.take s ++ y :: X.drop s) ∧ Stab (X.take s ++ y :: X.drop s) (X ++ [y]) := by
  have e : X.take s ++ y :: X.drop s = (X.take s ++ [y]) ++ X.drop s := by simp
  rw [e]
  refine stab_split (Y := [y]) (s := s) (t := 1) hX (List.pairwise_singleton _ _) (.inr (.inl rfl)) (h2.imp id fun h => .inr (h.imp fun x ⟨a, b⟩ => ⟨y, a, rfl, b⟩)) (Stab.refl _) (by simpa using Stab.refl _) ?_ (flat_drop hX s)
  unfold Flat
  rw [List.pairwise_append]
  refine ⟨flat_take hX s, List.pairwise_singleton _ _, fun x hx z hz => ?_⟩
  obtain rfl := List.mem_singleton.1 hz
  obtain ⟨i, hi, hx⟩ := mem_take_idx hx
  rcases h1 with rfl | ⟨v, hv, hvx⟩
  · omega
  · exact nlt_trans (flat_idx hX hx hv (by omega)) hvx
/-- Two parts of a row, exchanged up to their i-th ones. -/
def xch (P A M B S : List Fd) (i : Nat) : List Fd := P ++ (B.take i ++ (A.drop i ++ (M ++ (A.take i ++ (B.drop i ++ S)))))
theorem xch_zero (P A M B S : List Fd) : xch P A M B S 0 = P ++ (A ++ (M ++ (B ++ S))) := by simp [xch]
theorem xch_all (P A M B S : List Fd) {n : Nat} (h1 : A.length = n) (h2 : B.length = n) : xch P A M B S n = P ++ (B ++ (M ++ (A ++ S))) := by
  unfold xch
  rw [List.take_of_length_le (by omega), List.take_of_length_le (by omega), List.drop_of_length_le (by omega), List.drop_of_length_le (by omega)]
  simp
theorem xch_step (P A M B S : List Fd) {n i a b : Nat} (h1 : A.length = n) (h2 : B.length = n) (hi : i < n) (ha : a = P.length) (hb : b = P.length + n + M.length) : swp (xch P A M B S i).toArray (a + i) (b + i) = (xch P A M B S (i + 1)).toArray := by
  have eA : A.drop i = A[i] :: A.drop (i + 1) := List.drop_eq_getElem_cons (by omega)
  have eB : B.drop i = B[i] :: B.drop (i + 1) := List.drop_eq_getElem_cons (by omega)
  have tA : A.take (i + 1) = A.take i ++ [A[i]] := by rw [List.take_add_one, List.getElem?_eq_getElem (by omega)]; rfl
  have tB : B.take (i + 1) = B.take i ++ [B[i]] := by rw [List.take_add_one, List.getElem?_eq_getElem (by omega)]; rfl
  have f1 : xch P A M B S i = (P ++ B.take i) ++ A[i] :: ((A.drop (i + 1) ++ (M ++ A.take i)) ++ B[i] :: (B.drop (i + 1) ++ S)) := by
    unfold xch; rw [eA, eB]; simp only [List.append_assoc, List.cons_append]
  have f2 : xch P A M B S (i + 1) = (P ++ B.take i) ++ B[i] :: ((A.drop (i + 1) ++ (M ++ A.take i)) ++ A[i] :: (B.drop (i + 1) ++ S)) := by
    unfold xch; rw [tA, tB]; simp only [List.append_assoc, List.cons_append, List.nil_append]
  rw [f1, f2]
  exact swp_at _ _ _ _ _ (by rw [ha]; simp; omega) (by rw [hb]; simp; omega)
theorem xch_len (P A M B S : List Fd) (i : Nat) : (xch P A M B S i).length = P.length + A.length + M.length + B.length + S.length := by
  unfold xch
  simp only [List.length_append, List.length_take, List.length_drop]
  omega
/-- One that goes through a row, behind its first t ones. -/
def goes (P Y S : List Fd) (x : Fd) (t : Nat) : List Fd := P ++ (Y.take t ++ x :: (Y.drop t ++ S))
theorem goes_len (P Y S : List Fd) (x : Fd) (t : Nat) : (goes P Y S x t).length = P.length + Y.length + 1 + S.length := by
  unfold goes
  simp only [List.length_append, List.length_take, List.length_drop, List.length_cons]
  omega
theorem goes_step (P Y S : List Fd) (x : Fd) {t k : Nat} (ht : t < Y.length) (hk : k = P.length + t) : swp (goes P Y S x t).toArray k (k + 1) = (goes P Y S x (t + 1)).toArray := by
  have eY : Y.drop t = Y[t] :: Y.drop (t + 1) := List.drop_eq_getElem_cons ht
  have tY : Y.take (t + 1) = Y.take t ++ [Y[t]] := by rw [List.take_add_one, List.getElem?_eq_getElem ht]; rfl
  have f1 : goes P Y S x t = (P ++ Y.take t) ++ x :: ([] ++ Y[t] :: (Y.drop (t + 1) ++ S)) := by
    unfold goes; rw [eY]; simp only [List.append_assoc, List.cons_append, List.nil_append]
  have f2 : goes P Y S x (t + 1) = (P ++ Y.take t) ++ Y[t] :: ([] ++ x :: (Y.drop (t + 1) ++ S)) := by
    unfold goes; rw [tY]; simp only [List.append_assoc, List.cons_append, List.nil_append]
  rw [f1, f2]
  exact swp_at _ _ _ _ _ (by rw [hk]; simp; omega) (by rw [hk]; simp; omega)
theorem goes_back (P Y S : List Fd) (x : Fd) {t k : Nat} (ht : t < Y.length) (hk : k = P.length + t) : swp (goes P Y S x (t + 1)).toArray (k + 1) k = (goes P Y S x t).toArray := by
  have eY : Y.drop t = Y[t] :: Y.drop (t + 1) := List.drop_eq_getElem_cons ht
  have tY : Y.take (t + 1) = Y.take t ++ [Y[t]] := by rw [List.take_add_one, List.getElem?_eq_getElem ht]; rfl
  have f1 : goes P Y S x t = (P ++ Y.take t) ++ x :: ([] ++ Y[t] :: (Y.drop (t + 1) ++ S)) := by
    unfold goes; rw [eY]; simp only [List.append_assoc, List.cons_append, List.nil_append]
  have f2 : goes P Y S x (t + 1) = (P ++ Y.take t) ++ Y[t] :: ([] ++ x :: (Y.drop (t + 1) ++ S)) := by
    unfold goes; rw [tY]; simp only [List.append_assoc, List.cons_append, List.nil_append]
  rw [f1, f2, swp_sym]
  exact swp_at _ _ _ _ _ (by rw [hk]; simp; omega) (by rw [hk]; simp; omega)
/-- What stands where, in a row of four parts. -/
theorem four_x {P X Y S : List Fd} {c : Nat} (h1 : P.length ≤ c) (h2 : c < P.length + X.length) : ∃ x, X[c - P.length]? = some x ∧ (P ++ (X ++ (Y ++ S))).toArray[c]! = x := by
  have hx : X[c - P.length]? = some X[c - P.length] := List.getElem?_eq_getElem (by omega)
  exact ⟨_, hx, arr_at (by rw [List.getElem?_append_right h1, List.getElem?_append_left (by omega), hx])⟩
theorem four_y {P X Y S : List Fd} {c : Nat} (h1 : P.length + X.length ≤ c) (h2 : c < P.length + X.length + Y.length) : ∃ y, Y[c - (P.length + X.length)]? = some y ∧ (P ++ (X ++ (Y ++ S))).toArray[c]! = y := by
  have hy : Y[c - (P.length + X.length)]? = some Y[c - (P.length + X.length)] := List.getElem?_eq_getElem (by omega)
  exact ⟨_, hy, arr_at (by rw [List.getElem?_append_right (by omega), List.getElem?_append_right (by omega), List.getElem?_append_left (by omega), ← hy]; congr 1; omega)⟩
end Go.Proofs.YtjieofiaoepccaaGreatDoor

