/-
  What is proved: plain facts on many states joined, one behind the other (P9.2, P9.6): in any order, and each as often as one likes; the set of dots of a join, told in parts; no program is spoken of here.
  plain facts on what three replicas know, as layer 9's laws ask for them: what is joined of two of them is right; what is put together of parts is the join; no program is spoken of here.
  words for the array of three states that layer 9's laws hold.
  dots of package store, called with any slice of entries that lies in memory, returns their dots, in new memory; the world has new blocks at most.
-/
import Derived.Test.YtcldbmhjfmbcfaaGreatM18
import Derived.Test.YtcldbmhjfmbcfaaGreatM26
import Derived.Test.YtcldbmhjfmbcfaaGreatM27
import Derived.Test.YtcldbmhjfmbcfaaGreatM17
import Derived.Laws.MakeOwn
namespace Go.Proofs.YtcldbmhjfmbcfaaGreat
open Go.RowKit
set_option linter.unusedVariables false

/-- P9.2: r is s with all of l joined to it, one behind the other. -/
def AllOf : List Sta → Sta → Sta → Prop
  | [], s, r => r = s
  | x :: l, s, r => ∃ j, JoinOf s x j ∧ AllOf l j r
theorem allOf_told : ∀ {l : List Sta} {s r : Sta}, AllOf l s r → Ord s → (∀ x ∈ l, Ord x) → (∀ x ∈ l, Agree s x) → (∀ x ∈ l, ∀ y ∈ l, Agree x y) →
    Ord r ∧ (∀ d, r.has d ↔ s.has d ∨ ∃ x ∈ l, x.has d) ∧ (∀ z, r.lives z ↔ s.lives z ∧ ∀ x ∈ l, x.lives z)
  | [], s, r, h, hs, _, _, _ => by
    obtain rfl : r = s := h
    exact ⟨hs, fun d => by simp, fun z => by simp⟩
  | x :: l, s, r, ⟨j, hj, h⟩, hs, ho, ha, hb => by
    have hx := ho x (List.mem_cons_self ..)
    have hsx := ha x (List.mem_cons_self ..)
    obtain ⟨h1, h2, h3⟩ := allOf_told h (hj.ord hs hx) (fun y hy => ho y (List.mem_cons_of_mem _ hy))
      (fun y hy => hj.agree (ha y (List.mem_cons_of_mem _ hy)) (hb x (List.mem_cons_self ..) y (List.mem_cons_of_mem _ hy)))
      (fun y hy z hz => hb y (List.mem_cons_of_mem _ hy) z (List.mem_cons_of_mem _ hz))
    refine ⟨h1, fun d => ?_, fun z => ?_⟩
    · rw [h2, hj.has]
      simp only [List.mem_cons, exists_eq_or_imp]
      exact or_assoc
    · rw [h3, hj.lives hs hx hsx]
      simp only [List.mem_cons, forall_eq_or_imp]
      exact and_assoc
/-- In any order, and each as often as one likes. -/
theorem allOf_same {l l' : List Sta} {s r r' : Sta} (h : AllOf l s r) (h' : AllOf l' s r') (hs : Ord s) (ho : ∀ x ∈ l, Ord x) (ha : ∀ x ∈ l, Agree s x) (hb : ∀ x ∈ l, ∀ y ∈ l, Agree x y) (hm : ∀ x, x ∈ l' ↔ x ∈ l) : r = r' := by
  obtain ⟨h1, h2, h3⟩ := allOf_told h hs ho ha hb
  obtain ⟨k1, k2, k3⟩ := allOf_told h' hs (fun x hx => ho x ((hm x).1 hx)) (fun x hx => ha x ((hm x).1 hx)) (fun x hx y hy => hb x ((hm x).1 hx) y ((hm y).1 hy))
  refine h1.same k1 (fun d => ?_) fun z => ?_
  · rw [h2, k2]
    exact or_congr Iff.rfl ⟨fun ⟨x, hx, hd⟩ => ⟨x, (hm x).2 hx, hd⟩, fun ⟨x, hx, hd⟩ => ⟨x, (hm x).1 hx, hd⟩⟩
  · rw [h3, k3]
    exact and_congr Iff.rfl ⟨fun h x hx => h x ((hm x).1 hx), fun h x hx => h x ((hm x).2 hx)⟩
/-- What JoinParts puts together knows what the join knows. -/
theorem parts_set {k i j : Sta} (hk : Ord k) (hi : Ord i) (h : JoinOf k i j) {S : Int × Int → Prop} (hS : ∀ d, S d → k.has d ∨ i.has d) (hS2 : ∀ d, k.has d → S d) {V : List Int} {C : List (Int × Int)} (hs : SetC (fun d => S d ∨ i.has d) V C) : V = j.V ∧ C = j.C :=
  hs.same h.set fun d => ⟨fun hd => hd.elim (hS d) .inr, fun hd => hd.elim (fun x => .inl (hS2 d x)) .inr⟩
theorem goneE_known {i k : Sta} {d : Int × Int} (h : d ∈ goneE i k) : i.has d := by
  obtain ⟨_, _, rfl, _, h2⟩ := goneE_mem.1 h
  exact h2
theorem beyondE_known {k i : Sta} (hi : Ord i) {x : En} (h : x ∈ beyondE i.L k.V k.C) : i.has x.d := hi.known x (beyondE_mem.1 h).1
/-- A part of the putting in. -/
theorem withAll_take {L X : List En} {t : Nat} {x : En} (h : X[t]? = some x) : withAll L (X.take (t + 1)) = withE (withAll L (X.take t)) x := by
  unfold withAll
  rw [List.take_add_one, h, Option.toList_some, List.foldl_append]
  rfl
theorem withAll_len (L X : List En) : (withAll L X).length ≤ L.length + X.length := by
  induction X generalizing L with
  | nil => exact Nat.le_refl _
  | cons x X ih =>
    have h1 := ih (withE L x)
    have h2 := withE_len (L := L) x
    show (withAll (withE L x) X).length ≤ _
    rw [List.length_cons]
    omega
end Go.Proofs.YtcldbmhjfmbcfaaGreat

namespace Go.Proofs.YtcldbmhjfmbcfaaGreat
open Go.RowKit
set_option linter.unusedVariables false

theorem sta_same {a b : Sta} : (a.L = b.L ∧ a.V = b.V ∧ a.C = b.C) ↔ a = b :=
  ⟨fun ⟨h1, h2, h3⟩ => Sta.ext' h1 h2 h3, fun h => by subst h; exact ⟨rfl, rfl, rfl⟩⟩
theorem bool_iff (p : Prop) : ∃ r : Bool, r = true ↔ p := by
  by_cases h : p
  · exact ⟨true, fun _ => h, fun _ => rfl⟩
  · exact ⟨false, (fun e => by cases e), fun e => absurd e h⟩
theorem Inv.join_ok {p : Nat → Sta} {n : Nat} (h : Inv p n) {i k : Nat} (hi : i < 3) (hk : k < 3) {j : Sta} (hj : JoinOf (p i) (p k) j) :
    StOk j.L j.V j.C ∧ ∀ x ∈ j.L, x.p.size ≤ 1099511627776 ∧ x.vt.size ≤ 1099511627776 := by
  have hr : ∀ x ∈ j.L, rightE x = true := fun x hx => by
    rcases hj.from_ hx with h1 | h1
    · exact (h.ent i hi x h1).1
    · exact (h.ent k hk x h1).1
  refine ⟨(hj.ord (h.ord i hi) (h.ord k hk)).ok hr, fun x hx => ?_⟩
  have h1 := rightE_of.1 (hr x hx)
  have h2 := rightS_size h1.2.1
  have h3 : x.vt.size ≤ 200 := by
    have := h1.2.2.2.1
    unfold rightB at this
    rw [decide_eq_true_iff] at this
    omega
  omega
theorem Inv.size {p : Nat → Sta} {n : Nat} (h : Inv p n) (hn : n ≤ 40) {k : Nat} (hk : k < 3) : (p k).L.length ≤ 120 ∧ (p k).C.length ≤ 120 := by
  have := h.few hk
  omega
/-- What JoinParts has put together behind t entries. -/
structure Part (k i : Sta) (t : Nat) (s : Sta) : Prop where
  l : s.L = withAll (outE k.L (goneE i k)) ((i.L.filter (newE k.V k.C)).take t)
  ctx : RightC s.V s.C
  only : ∀ d, s.has d → k.has d ∨ i.has d
  all : ∀ d, k.has d → s.has d
theorem Part.start {k i : Sta} {V : List Int} {C : List (Int × Int)} (h : SetC (fun d => hasC k.V k.C d ∨ (rightD d = true ∧ d ∈ goneE i k)) V C) : Part k i 0 ⟨outE k.L (goneE i k), V, C⟩ :=
  ⟨by rw [List.take_zero]; rfl, h.right, fun d hd => ((h.has d).1 hd).imp id fun ⟨_, hg⟩ => goneE_known hg, fun d hd => (h.has d).2 (.inl hd)⟩
theorem Part.step {k i s : Sta} {t : Nat} {x : En} (hi : Ord i) (h : Part k i t s) (hx : (i.L.filter (newE k.V k.C))[t]? = some x) {V : List Int} {C : List (Int × Int)} (hs : SetC (fun d => hasC s.V s.C d ∨ (rightD d = true ∧ d = x.d)) V C) : Part k i (t + 1) ⟨withE s.L x, V, C⟩ :=
  ⟨by show withE s.L x = _; rw [h.l, withAll_take hx], hs.right, fun d hd => by
    rcases (hs.has d).1 hd with h1 | ⟨_, h1⟩
    · exact h.only d h1
    · rw [h1]; exact .inr (hi.known x (List.mem_filter.1 (List.mem_of_getElem? hx)).1), fun d hd => (hs.has d).2 (.inl (h.all d hd))⟩
theorem Part.done {k i j s : Sta} (hk : Ord k) (hi : Ord i) (hj : JoinOf k i j) {t : Nat} (ht : t = (i.L.filter (newE k.V k.C)).length) (h : Part k i t s) {V : List Int} {C : List (Int × Int)} (hs : SetC (CompS (maxV s.V i.V) (s.C ++ i.C)) V C) : j.L = s.L ∧ j.V = V ∧ j.C = C := by
  subst ht
  obtain ⟨h1, h2⟩ := parts_set hk hi hj h.only h.all (V := V) (C := C) ⟨hs.right, fun d => (hs.has d).trans (join_has h.ctx hi.ctx d)⟩
  refine ⟨?_, h1.symm, h2.symm⟩
  rw [h.l, List.take_length, join_parts hk hi hj]
  rfl
theorem Part.rise {k i s : Sta} {t : Nat} (hk : Ord k) (h : Part k i t s) : RiseE s.L := by
  rw [h.l]
  exact withAll_rise (outE_rise hk.rise _)
theorem Part.len {k i s : Sta} {t : Nat} (h : Part k i t s) : s.L.length ≤ k.L.length + i.L.length := by
  rw [h.l]
  refine Nat.le_trans (withAll_len _ _) (Nat.add_le_add (outE_len _ _) ?_)
  rw [List.length_take]
  exact Nat.le_trans (Nat.min_le_right _ _) (List.length_filter_le _ _)
theorem goneE_len (i k : Sta) : (goneE i k).length ≤ k.L.length := by
  unfold goneE
  rw [List.length_map]
  exact List.length_filter_le _ _
end Go.Proofs.YtcldbmhjfmbcfaaGreat

namespace Go.Proofs.YtcldbmhjfmbcfaaGreat
open Go.RowKit
set_option linter.unusedVariables false

theorem arr_three {w : World} {p : Nat → Sta} {A0 B0 D0 A1 B1 D1 A2 B2 D2 : Option Addr} {n0 c0 m0 k0 p0 q0 n1 c1 m1 k1 p1 q1 n2 c2 m2 k2 p2 q2 : Nat} (t : TypeId)
    (h0 : Stt w A0 n0 c0 B0 m0 k0 D0 p0 q0 (p 0).L (p 0).V (p 0).C) (h1 : Stt w A1 n1 c1 B1 m1 k1 D1 p1 q1 (p 1).L (p 1).V (p 1).C) (h2 : Stt w A2 n2 c2 B2 m2 k2 D2 p2 q2 (p 2).L (p 2).V (p 2).C) :
    Arr (w.alloc (.cells #[.slice A0 n0 c0, .slice B0 m0 k0, .slice D0 p0 q0, .slice A1 n1 c1, .slice B1 m1 k1, .slice D1 p1 q1, .slice A2 n2 c2, .slice B2 m2 k2, .slice D2 p2 q2] t)) w.heap.size p := by
  have hk := (Kept.refl w).alloc #[.slice A0 n0 c0, .slice B0 m0 k0, .slice D0 p0 q0, .slice A1 n1 c1, .slice B1 m1 k1, .slice D1 p1 q1, .slice A2 n2 c2, .slice B2 m2 k2, .slice D2 p2 q2] t
  refine ⟨fun k hk3 => ?_, fun j => by rw [frozen?_alloc_cells]; simp [World.frozen?], by simp⟩
  match k, hk3 with
  | 0, _ => exact ⟨A0, n0, c0, B0, m0, k0, D0, p0, q0, (Kept.refl _).box 0 _ rfl, (Kept.refl _).box 1 _ rfl, (Kept.refl _).box 2 _ rfl, h0.kept hk⟩
  | 1, _ => exact ⟨A1, n1, c1, B1, m1, k1, D1, p1, q1, (Kept.refl _).box 3 _ rfl, (Kept.refl _).box 4 _ rfl, (Kept.refl _).box 5 _ rfl, h1.kept hk⟩
  | 2, _ => exact ⟨A2, n2, c2, B2, m2, k2, D2, p2, q2, (Kept.refl _).box 6 _ rfl, (Kept.refl _).box 7 _ rfl, (Kept.refl _).box 8 _ rfl, h2.kept hk⟩
theorem part_start {k i : Sta} {mx : Nat} {w w' : World} {e : Ending} (h : StS (outE k.L (goneE i k)) (fun d => hasC k.V k.C d ∨ (rightD d = true ∧ d ∈ goneE i k)) mx w e w') : StJ (fun s => Part k i 0 s ∧ s.C.length ≤ mx) w e w' := by
  obtain ⟨A, n, c, B, m, k2, D, p, q, V, C, he, h1, h2, h3, h4, h5, h6⟩ := h
  exact ⟨A, n, c, B, m, k2, D, p, q, ⟨_, V, C⟩, he, ⟨h1, h2, h3⟩, ⟨Part.start h4, by rw [← h3.1]; exact h5⟩, h6⟩
theorem part_step {k i s : Sta} {t : Nat} {x : En} {mx : Nat} {w w' : World} {e : Ending} (h : StS (withE s.L x) (fun d => hasC s.V s.C d ∨ (rightD d = true ∧ d = x.d)) mx w e w') (hi : Ord i) (hp : Part k i t s) (hx : (i.L.filter (newE k.V k.C))[t]? = some x) : StJ (fun s => Part k i (t + 1) s ∧ s.C.length ≤ mx) w e w' := by
  obtain ⟨A, n, c, B, m, k2, D, p, q, V, C, he, h1, h2, h3, h4, h5, h6⟩ := h
  exact ⟨A, n, c, B, m, k2, D, p, q, ⟨_, V, C⟩, he, ⟨h1, h2, h3⟩, ⟨Part.step hi hp hx h4, by rw [← h3.1]; exact h5⟩, h6⟩
/-- What JoinParts' inner loop keeps. -/
def PartM (W : World) (b : Nat) (k i : Sta) (A9 : Option Addr) (n9 c9 : Nat) (X : List En) (wx : World) (u : Nat) : Prop :=
  Kept W wx ∧ El wx A9 n9 c9 X ∧ ∃ A n c B m k' D p q s, Box3 wx b (.slice A n c) (.slice B m k') (.slice D p q) ∧ Stt wx A n c B m k' D p q (Sta.L s) (Sta.V s) (Sta.C s) ∧ Part k i u s ∧ s.C.length ≤ 240 + u
section
variable {w : World} {b : Nat} {a1 a2 : Option Addr} {n1 n2 c1 c2 : Nat} {u0 : Value}
theorem keep2 (h : Box3 w b u0 (.slice a1 n1 c1) (.slice a2 n2 c2)) (v1 v2 : Value) {x : Addr} {u : Value} (hu : w.cell? x = some u) (hn : ∀ a n c, u ≠ .slice a n c) :
    ((w.setCell ⟨b, 1, none⟩ v1).setCell ⟨b, 2, none⟩ v2).cell? x = some u := by
  have e1 : x ≠ ⟨b, 1, none⟩ := fun e => by subst e; rw [h.c1] at hu; exact hn _ _ _ (Option.some.inj hu).symm
  have e2 : x ≠ ⟨b, 2, none⟩ := fun e => by subst e; rw [h.c2] at hu; exact hn _ _ _ (Option.some.inj hu).symm
  rw [World.cell?_setCell_other _ _ _ _ (by first | exact e2 | exact e2.symm), World.cell?_setCell_other _ _ _ _ (by first | exact e1 | exact e1.symm)]
  exact hu
theorem stt2 (h : Box3 w b u0 (.slice a1 n1 c1) (.slice a2 n2 c2)) (v1 v2 : Value) {A B D : Option Addr} {n c m k p q : Nat} {L : List En} {V : List Int} {C : List (Int × Int)} (hs : Stt w A n c B m k D p q L V C) : Stt ((w.setCell ⟨b, 1, none⟩ v1).setCell ⟨b, 2, none⟩ v2) A n c B m k D p q L V C := by
  obtain ⟨⟨e1, e2, e3, e4, e5⟩, ⟨i1, i2, i3, i4, i5⟩, d1, d2, d3, d4, d5⟩ := hs
  refine ⟨⟨e1, e2, e3, e4, e5.imp id fun ⟨g, r, hA, hc⟩ => ⟨g, r, hA, fun j x hj => EntO.of_flat fun i u hu => keep2 h _ _ ((hc j x hj).flat i u hu) (cellE_not hu)⟩⟩,
    ⟨i1, i2, i3, i4, i5.imp id fun ⟨g, r, hA, hc⟩ => ⟨g, r, hA, fun j x hj => keep2 h _ _ (hc j x hj) (fun _ _ _ e => by cases e)⟩⟩,
    d1, d2, d3, d4, d5.imp id fun ⟨g, r, hA, hc⟩ => ⟨g, r, hA, fun j x hj => ⟨keep2 h _ _ (hc j x hj).1 (fun _ _ _ e => by cases e), keep2 h _ _ (hc j x hj).2 (fun _ _ _ e => by cases e)⟩⟩⟩
theorem box2of3 {u1 u2 : Value} (h : Box3 w b u0 u1 u2) (v1 v2 : Value) : Box3 ((w.setCell ⟨b, 1, none⟩ v1).setCell ⟨b, 2, none⟩ v2) b u0 v1 v2 := by
  refine ⟨?_, ?_, ?_, fun j => by rw [World.frozen?_setCell, World.frozen?_setCell]; exact h.f j, by have := h.lt; simpa [World.setCell] using this⟩
  · rw [World.cell?_setCell_other _ _ _ _ (by simp), World.cell?_setCell_other _ _ _ _ (by simp)]
    exact h.c0
  · rw [World.cell?_setCell_other _ _ _ _ (by simp)]
    exact World.cell?_setCell_same _ _ _ h.c1
  · refine World.cell?_setCell_same _ _ _ (u := u2) ?_
    rw [World.cell?_setCell_other _ _ _ _ (by simp)]
    exact h.c2
end
theorem Arr.lit {w : World} {b : Nat} {p : Nat → Sta} (h : Arr w b p) {k : Nat} (hk : k < 3) {o0 o1 o2 : Nat} (h0 : o0 = k * 3) (h1 : o1 = k * 3 + 1) (h2 : o2 = k * 3 + 2) :
    ∃ A n c B m k' D p' q, w.cell? ⟨b, o0, none⟩ = some (.slice A n c) ∧ w.cell? ⟨b, o1, none⟩ = some (.slice B m k') ∧ w.cell? ⟨b, o2, none⟩ = some (.slice D p' q) ∧ Stt w A n c B m k' D p' q (p k).L (p k).V (p k).C := by
  subst h0 h1 h2
  exact h.st k hk
theorem Box3.put3 {w : World} {b b' : Nat} {u0 u1 u2 : Value} (h : Box3 w b u0 u1 u2) (hb : b ≠ b') (v0 v1 v2 : Value) : Box3 (((w.setCell ⟨b', 0, none⟩ v0).setCell ⟨b', 1, none⟩ v1).setCell ⟨b', 2, none⟩ v2) b u0 u1 u2 := by
  have n0 : ∀ i j : Nat, (⟨b, i, none⟩ : Addr) ≠ ⟨b', j, none⟩ := fun i j e => hb (congrArg Addr.block e)
  refine ⟨?_, ?_, ?_, fun j => by rw [World.frozen?_setCell, World.frozen?_setCell, World.frozen?_setCell]; exact h.f j, by have := h.lt; simpa [World.setCell] using this⟩
  all_goals
    rw [World.cell?_setCell_other _ _ _ _ (by first | exact n0 _ _ | exact (n0 _ _).symm), World.cell?_setCell_other _ _ _ _ (by first | exact n0 _ _ | exact (n0 _ _).symm), World.cell?_setCell_other _ _ _ _ (by first | exact n0 _ _ | exact (n0 _ _).symm)]
  · exact h.c0
  · exact h.c1
  · exact h.c2
/-- JoinRing's three variables, in blocks of their own. -/
def RingC (W : World) (a0 a1 a2 b0 b1 b2 c0 c1 c2 : Value) (s4 s5 s6 : Value) (wx : World) : Prop :=
  ∃ x y z, s4 = .pointer (some ⟨x, 0, none⟩) ∧ s5 = .pointer (some ⟨y, 0, none⟩) ∧ s6 = .pointer (some ⟨z, 0, none⟩) ∧ Kept W wx ∧ Box3 wx x a0 a1 a2 ∧ Box3 wx y b0 b1 b2 ∧ Box3 wx z c0 c1 c2
theorem Inv.turn {p : Nat → Sta} {n : Nat} (h : Inv p n) {r r' : Sta} (h1 : AllR [p 0, p 1, p 2] r') (h2 : AllR [p 2, p 0, p 1, p 0] r) : r' = r :=
  h1.turn h2 (fun s hs => by
      simp only [List.mem_cons, List.not_mem_nil, or_false] at hs
      rcases hs with rfl | rfl | rfl
      · exact h.ord 0 (by decide)
      · exact h.ord 1 (by decide)
      · exact h.ord 2 (by decide))
    (fun s hs t ht => by
      simp only [List.mem_cons, List.not_mem_nil, or_false] at hs ht
      rcases hs with rfl | rfl | rfl <;> rcases ht with rfl | rfl | rfl <;> exact h.agree _ _ (by decide) (by decide))
    (fun s => by simp only [List.mem_cons, List.not_mem_nil, or_false]; constructor <;> intro h <;> rcases h with h | h | h | h <;> simp_all)
theorem Inv.alls {p : Nat → Sta} {n : Nat} (h : Inv p n) (hn : n ≤ 40) : (∀ s ∈ [p 2, p 0, p 1, p 0], Ord s ∧ s.L.length ≤ 120 ∧ s.C.length ≤ 120) ∧ ∀ s ∈ [p 0, p 1, p 2], Ord s ∧ s.L.length ≤ 120 ∧ s.C.length ≤ 120 := by
  have a0 := h.size hn (k := 0) (by decide); have a1 := h.size hn (k := 1) (by decide); have a2 := h.size hn (k := 2) (by decide)
  have o0 := h.ord 0 (by decide); have o1 := h.ord 1 (by decide); have o2 := h.ord 2 (by decide)
  constructor <;> intro s hs <;> simp only [List.mem_cons, List.not_mem_nil, or_false] at hs
  · rcases hs with rfl | rfl | rfl | rfl
    · exact ⟨o2, a2⟩
    · exact ⟨o0, a0⟩
    · exact ⟨o1, a1⟩
    · exact ⟨o0, a0⟩
  · rcases hs with rfl | rfl | rfl
    · exact ⟨o0, a0⟩
    · exact ⟨o1, a1⟩
    · exact ⟨o2, a2⟩
theorem ss_four {w : World} {A0 B0 D0 A1 B1 D1 A2 B2 D2 A3 B3 D3 : Option Addr} {n0 c0 m0 k0 p0 q0 n1 c1 m1 k1 p1 q1 n2 c2 m2 k2 p2 q2 n3 c3 m3 k3 p3 q3 : Nat} {a b c d : Sta} (t : TypeId)
    (h0 : Stt w A0 n0 c0 B0 m0 k0 D0 p0 q0 a.L a.V a.C) (h1 : Stt w A1 n1 c1 B1 m1 k1 D1 p1 q1 b.L b.V b.C) (h2 : Stt w A2 n2 c2 B2 m2 k2 D2 p2 q2 c.L c.V c.C) (h3 : Stt w A3 n3 c3 B3 m3 k3 D3 p3 q3 d.L d.V d.C) :
    Ss (w.alloc (.cells #[.slice A0 n0 c0, .slice B0 m0 k0, .slice D0 p0 q0, .slice A1 n1 c1, .slice B1 m1 k1, .slice D1 p1 q1, .slice A2 n2 c2, .slice B2 m2 k2, .slice D2 p2 q2, .slice A3 n3 c3, .slice B3 m3 k3, .slice D3 p3 q3] t)) (some ⟨w.heap.size, 0, none⟩) 4 4 [a, b, c, d] := by
  have hk := (Kept.refl w).alloc #[.slice A0 n0 c0, .slice B0 m0 k0, .slice D0 p0 q0, .slice A1 n1 c1, .slice B1 m1 k1, .slice D1 p1 q1, .slice A2 n2 c2, .slice B2 m2 k2, .slice D2 p2 q2, .slice A3 n3 c3, .slice B3 m3 k3, .slice D3 p3 q3] t
  refine ⟨rfl, Nat.le_refl _, by simp [maxLen], (fun h => by cases h), .inr ⟨w.heap.size, 0, rfl, fun j s hj => ?_⟩⟩
  match j, hj with
  | 0, hj =>
    obtain rfl : a = s := by simpa using hj
    exact ⟨A0, n0, c0, B0, m0, k0, D0, p0, q0, (Kept.refl _).box 0 _ rfl, (Kept.refl _).box 1 _ rfl, (Kept.refl _).box 2 _ rfl, h0.kept hk⟩
  | 1, hj =>
    obtain rfl : b = s := by simpa using hj
    exact ⟨A1, n1, c1, B1, m1, k1, D1, p1, q1, (Kept.refl _).box 3 _ rfl, (Kept.refl _).box 4 _ rfl, (Kept.refl _).box 5 _ rfl, h1.kept hk⟩
  | 2, hj =>
    obtain rfl : c = s := by simpa using hj
    exact ⟨A2, n2, c2, B2, m2, k2, D2, p2, q2, (Kept.refl _).box 6 _ rfl, (Kept.refl _).box 7 _ rfl, (Kept.refl _).box 8 _ rfl, h2.kept hk⟩
  | 3, hj =>
    obtain rfl : d = s := by simpa using hj
    exact ⟨A3, n3, c3, B3, m3, k3, D3, p3, q3, (Kept.refl _).box 9 _ rfl, (Kept.refl _).box 10 _ rfl, (Kept.refl _).box 11 _ rfl, h3.kept hk⟩
  | j + 4, hj => simp at hj
end Go.Proofs.YtcldbmhjfmbcfaaGreat

namespace Go.Proofs.YtcldbmhjfmbcfaaGreat
open Go.RowKit
set_option linter.unusedVariables false

/-- A row of n dots that a call makes, filled up to t. -/
structure RowM (U : World) (G : Nat) (n : Nat) (L : List En) (t : Nat) (wr : World) : Prop where
  cell : ∀ j, j < n * 2 → ∃ u, wr.cell? ⟨G, j, none⟩ = some u
  fro : ∀ j, wr.frozen? ⟨G, j, none⟩ = false
  done : ∀ j x, j < t → L[j]? = some x → wr.cell? ⟨G, j * 2, none⟩ = some (.int .i64 x.d.1) ∧ wr.cell? ⟨G, j * 2 + 1, none⟩ = some (.int .i64 x.d.2)
  ke : Kept U wr
  lo : U.heap.size ≤ G
  lt : G < wr.heap.size
theorem RowM.kept {U : World} {G n : Nat} {L : List En} {t : Nat} {wr w' : World} (h : RowM U G n L t wr) (hk : Kept wr w') : RowM U G n L t w' :=
  ⟨fun j hj => (h.cell j hj).imp fun _ hu => hk.cell hu, fun j => (hk.2.1 ⟨G, j, none⟩ h.lt).trans (h.fro j), fun j x hj hx => ⟨hk.cell (h.done j x hj hx).1, hk.cell (h.done j x hj hx).2⟩, h.ke.trans hk, h.lo, Nat.lt_of_lt_of_le h.lt hk.2.2⟩
theorem RowM.set {U : World} {G n : Nat} {L : List En} {t : Nat} {wr : World} (h : RowM U G n L t wr) (ht : t < n) {x : En} (hx : L[t]? = some x) :
    RowM U G n L (t + 1) ((wr.setCell ⟨G, t * 2, none⟩ (.int .i64 x.d.1)).setCell ⟨G, t * 2 + 1, none⟩ (.int .i64 x.d.2)) := by
  obtain ⟨u0, hu0⟩ := h.cell (t * 2) (by omega)
  obtain ⟨u1, hu1⟩ := h.cell (t * 2 + 1) (by omega)
  have s0 : ((wr.setCell ⟨G, t * 2, none⟩ (.int .i64 x.d.1)).setCell ⟨G, t * 2 + 1, none⟩ (.int .i64 x.d.2)).cell? ⟨G, t * 2, none⟩ = some (.int .i64 x.d.1) := by
    rw [World.cell?_setCell_other _ _ _ _ (by intro e'; injection e'; omega)]
    exact World.cell?_setCell_same _ _ _ hu0
  have s1 : ((wr.setCell ⟨G, t * 2, none⟩ (.int .i64 x.d.1)).setCell ⟨G, t * 2 + 1, none⟩ (.int .i64 x.d.2)).cell? ⟨G, t * 2 + 1, none⟩ = some (.int .i64 x.d.2) := by
    refine World.cell?_setCell_same _ _ _ (u := u1) ?_
    rw [World.cell?_setCell_other _ _ _ _ (by intro e'; injection e'; omega)]
    exact hu1
  have so : ∀ j, j ≠ t * 2 → j ≠ t * 2 + 1 → ((wr.setCell ⟨G, t * 2, none⟩ (.int .i64 x.d.1)).setCell ⟨G, t * 2 + 1, none⟩ (.int .i64 x.d.2)).cell? ⟨G, j, none⟩ = wr.cell? ⟨G, j, none⟩ := fun j h1 h2 => by
    rw [World.cell?_setCell_other _ _ _ _ (by intro e'; injection e'; omega), World.cell?_setCell_other _ _ _ _ (by intro e'; injection e'; omega)]
  refine ⟨fun j hj => ?_, fun j => by rw [World.frozen?_setCell, World.frozen?_setCell]; exact h.fro j, fun j y hj hy => ?_, (h.ke.setCell h.lo _).setCell h.lo _, h.lo, by have := h.lt; simpa [World.setCell] using this⟩
  · by_cases e0 : j = t * 2
    · subst e0; exact ⟨_, s0⟩
    by_cases e1 : j = t * 2 + 1
    · subst e1; exact ⟨_, s1⟩
    rw [so j e0 e1]; exact h.cell j hj
  · by_cases e : j = t
    · subst e
      obtain rfl := Option.some.inj (hx.symm.trans hy)
      exact ⟨s0, s1⟩
    · rw [so _ (by omega) (by omega), so _ (by omega) (by omega)]
      exact h.done j y (by omega) hy
theorem RowM.dl {U : World} {G n : Nat} {L : List En} {wr : World} (h : RowM U G n L n wr) (hn : n = L.length) (hm : n ≤ 1000000) : Dl wr (some ⟨G, 0, none⟩) n n (L.map (·.d)) := by
  refine ⟨by rw [List.length_map]; exact hn, Nat.le_refl _, by simp only [maxLen]; omega, (fun e => by cases e), .inr ⟨G, 0, rfl, fun j d hj => ?_⟩⟩
  rw [List.getElem?_map] at hj
  obtain ⟨x, hx, rfl⟩ := Option.map_eq_some_iff.1 hj
  have := h.done j x (by have := (List.getElem?_eq_some_iff.1 hx).1; omega) hx
  rw [Nat.zero_add]
  exact this
theorem make_dots (n : Nat) (hn : n ≤ 1000000) : ∃ cs : Array Value, cs.size = n * 2 ∧
    ∀ W : World, (Instr.makeSlice 27 (.int .i64 (n : Int)) (.int .i64 (n : Int))).run Tryz.prog W = .ok (.slice (some ⟨W.heap.size, 0, none⟩) n n) (W.alloc (.cells cs 43)) := by
  obtain ⟨i0, hi0, hz0, hz1, hz2⟩ := info_parts infoDot
  refine ⟨madeCells (Value.agg #[.int .i64 0, .int .i64 0]).cells (n * 2), size_madeCells _ _, fun W => ?_⟩
  have h := run_make (P := Tryz.prog) W 27 43 i0 (.agg #[.int .i64 0, .int .i64 0]) Tryz.underlying27 hi0 hz0 .i64 .i64 (n : Int) (n : Int) (by omega) (by omega) (by rw [hz2]; omega) (by omega)
  rw [hz1, show ((n : Int)).toNat = n by omega] at h
  exact h

set_option maxRecDepth 100000 in
set_option maxHeartbeats 4000000 in
theorem dots_any (A : Option Addr) (n c : Nat) (L : List En) (w : World) (h : El w A n c L) (hn : n ≤ 1000000) :
    Calls Tryz.prog 34 #[.slice A n c] w fun e w' => ∃ G, e = .returned (.slice (some ⟨G, 0, none⟩) n n) ∧ Dl w' (some ⟨G, 0, none⟩) n n (L.map (·.d)) ∧ Kept w w' := by
  have hcap := h.cap.1; have hcap2 := h.cap.2
  have HN := Lib.hid h.1
  have HE := Lib.hid h
  obtain ⟨cs, hcs, hmk⟩ := make_dots n hn
  have HS := Lib.hid (show RowM w w.heap.size n L 0 (w.alloc (.cells cs 43)) from
    ⟨fun j hj => ⟨cs[j]'(by omega), by rw [World.cell?_alloc_new]; exact Array.getElem?_eq_getElem (by omega)⟩, fun j => by rw [frozen?_alloc_cells]; simp [World.frozen?], fun j x hj => absurd hj (by omega), (Kept.refl w).alloc _ _, Nat.le_refl _, by simp⟩)
  clear h hcs
  go_enter Tryz.func34, Tryz.ntmps34
  go_wp2
  clear hmk
  go_loopw [11] (fun i wr => ∃ t : Nat, t ≤ n ∧ i = .int .i64 t ∧ RowM w w.heap.size n L t wr) (fun i _ => n - (intOf i).toNat)
  case atStart => exact ⟨0, Nat.zero_le _, rfl, HS.out⟩
  case round =>
    obtain ⟨t, ht, rfl, hm⟩ := hrel
    have HM := Lib.hid hm
    clear hm
    by_cases hlt : t < n
    · obtain ⟨g, o, x, rfl, hx, EX⟩ := (HE.out.kept HM.out.ke).get hlt
      have x0 := EX.c0; have x1 := EX.c1; have x2 := EX.c2; have x3 := EX.c3; have x4 := EX.c4; have x5 := EX.c5; have x6 := EX.c6; have x7 := EX.c7; have x8 := EX.c8
      have hM2 := HM.out.kept ((Kept.refl wr).alloc #[.int .i64 x.d.1, .int .i64 x.d.2, .string x.p, .int .i64 x.k, .int .i64 x.vk, .int .i64 x.vn, .string x.vt, .int .i64 x.e.1, .int .i64 x.e.2] 47)
      obtain ⟨u0, g0⟩ := hM2.cell (t * 2) (by omega)
      obtain ⟨u1, g1⟩ := hM2.cell (t * 2 + 1) (by omega)
      have f0 := hM2.fro (t * 2)
      have f1 := hM2.fro (t * 2 + 1)
      have HM3 := Lib.hid (hM2.set hlt hx)
      clear EX hx hM2
      go_wp2
      go_roundw
      case rel => exact ⟨t + 1, hlt, by go_num, HM3.out⟩
      case measure => simp [intOf]; omega
    · obtain rfl : t = n := by omega
      go_wp2
      go_ret
      exact ⟨w.heap.size, rfl, HM.out.dl HN.out hn, HM.out.ke⟩
end Go.Proofs.YtcldbmhjfmbcfaaGreat

