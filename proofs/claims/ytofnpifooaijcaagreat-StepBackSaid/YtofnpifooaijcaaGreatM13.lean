/-
  What is proved: the document's leaf of layer 14 (a part of P14.3), called with any field and a step of the kind 8, returns the field turned and whether it fits; the world has new blocks at most.
  the document's leaf of layer 14 (a part of P14.3), called with any field and a step of the kind 9, returns the field turned and whether it fits; the world has new blocks at most.
  the document's leaf of layer 14 (a part of P14.3), called with any field and a step of the kind 10, returns the field turned and whether it fits; the world has new blocks at most.
  the document's leaf of layer 14 (a part of P14.3), called with any field and step of bounded lengths, returns the field turned and whether it fits; the world has new blocks at most.
  the document's Right of layer 13 (P13.4), called with any table of bounded texts and two kinds, tells whether it is right; the world has new blocks at most.
  the document's shape of layer 14 (a part of P14.3), called with any step of bounded lengths, tells whether its own parts may be so; the world has new blocks at most.
  the document's Right of layer 11 (P11.2), called with any schema of bounded texts, tells whether it is right; the world has new blocks at most.
  words for the document's fields of layer 14: what it hands back.
  plain facts on a step that moves (P14.2, P14.3): its new Path is of a bounded length; what a schema's fields are behind it; no program is spoken of here.
  plain facts on a field turned by a step (P14.3): what the document's leaf tells is what a fit step asks; no program is spoken of here.
  plain facts on the fields behind a step (P14.3): they are few, and their texts are of bounded lengths; no program is spoken of here.
  the document's two of layer 13 (a part of P13.7): two values taken, one behind the other, whatever bytes there are; the world has new blocks at most.
  words for the taking of pairs (P13.7): a table while its pairs are taken, in a row that a block names; what Take hands back.
  the document's Put of layer 13 (P13.6), called with any text and any table, of bounded lengths, returns what that says; the world has new blocks at most.
  words for the contracts of package table.
  strings.Builder's WriteString and String, of a builder that the call itself has made, do what their documentation says: the library's contracts, laid at this program's numbers.
-/
import Derived.Test.YtofnpifooaijcaaGreatM12
import Derived.Test.YtofnpifooaijcaaGreatM6
import Derived.Test.YtofnpifooaijcaaGreatM4
import Derived.Test.YtofnpifooaijcaaGreatM2
import Derived.Deep.DeepCutAuto
import Derived.Test.YtofnpifooaijcaaGreatM5
import Derived.Test.YtofnpifooaijcaaGreatM3
import Derived.Test.YtofnpifooaijcaaGreatM7
import Derived.Shelf.Strings.Builder1
namespace Go.Proofs.YtofnpifooaijcaaGreat
open Go.RowKit
set_option linter.unusedVariables false
theorem zero_t {x : Va} (h : x = .zero) : x.t.toList = [] := by rw [h]; show (⟨#[]⟩ : ByteArray).toList = []; rw [Lib.toList_data]
theorem va_nz {x : Va} (h : x ≠ .zero) : (x.k == 0) = false ∨ ((x.k == 0) = true ∧ (x.n == 0) = false) ∨ ((x.k == 0) = true ∧ (x.n == 0) = true ∧ ¬ x.t.toList = []) := by
  rcases va_ne h with h0 | ⟨h0, h1⟩ | ⟨h0, h1, h2⟩
  · exact .inl h0
  · exact .inr (.inl ⟨h0, h1⟩)
  · refine .inr (.inr ⟨h0, h1, fun e => ?_⟩)
    rw [e, ← zero_t (x := .zero) rfl] at h2
    simp at h2
theorem RightU.kinds {T : Tb} {a b : Int} (h : RightU T a b) : KindsP T.L a b := ⟨⟨h.ok, h.once⟩, h.few⟩
theorem txt_eqK {a b : ByteArray} (h : a = b) : (a.toList == b.toList) = true := by rw [h]; simp
theorem txt_neK {a b : ByteArray} (h : ¬ a = b) : (a.toList == b.toList) = false := by rw [← Bool.not_eq_true]; exact fun e => h (tvs_eq e)
structure StS (x : St) : Prop where
  p : x.p.size ≤ 2000
  nm : x.nm.size ≤ 2000
  fp : x.f.p.size ≤ 2000
  ft : x.f.vt.size ≤ 100000
  d : x.d.t.size ≤ 100000
  L : SzP x.T.L
  td : x.T.d.t.size ≤ 1099511627776
  tb : x.T.b.t.size ≤ 1099511627776
theorem last_sg {p : ByteArray} {m : Nat} (hm : (L4.splS p).length = m) : lastS (sL p) = (L4.sg p (m - 1)).data.toList := by
  have h1 := L4.splS_pos p
  have h2 := L4.sg_get p (m - 1) (by omega)
  unfold lastS
  rw [← splS_sL, hm, List.getD_eq_getElem?_getD, show (sL p)[m - 1]? = some (L4.sg p (m - 1)).data.toList from h2]
  rfl
theorem mid_sg {p : ByteArray} {m : Nat} (hm : (L4.splS p).length = m) (h : 2 ≤ m) : midS (sL p) = (L4.sg p (m - 2)).data.toList := by
  have h2 := L4.sg_get p (m - 2) (by omega)
  unfold midS
  rw [← splS_sL, hm, List.getD_eq_getElem?_getD, show (sL p)[m - 2]? = some (L4.sg p (m - 2)).data.toList from h2]
  rfl
theorem shape_at {x : St} {k : Int} (q : x.k = k) :
    ShapeR x ↔ if k = 1 then L4.patS x.p = true ∧ L4.segS x.nm = true ∧ lastS (sL x.p) ≠ [42] ∧ lastS (sL x.p) ≠ x.nm.data.toList
      else if k = 2 then L4.patS x.p = true ∧ 2 ≤ (sL x.p).length ∧ midS (sL x.p) ≠ [42] else if k = 3 then L4.patS x.p = true ∧ L4.segS x.nm = true
      else if k = 4 ∨ k = 5 then rightF x.f = true else if k = 10 then L4.patS x.p = true ∧ RightT x.T x.a x.b else if k = 6 ∨ k = 7 ∨ k = 8 ∨ k = 9 then L4.patS x.p = true else False := by
  subst q
  unfold ShapeR
  split
  · rename_i h; simp [h]
  · split
    · rename_i h; simp [h]
    · split
      · rename_i h; simp [h]
      · split
        · rename_i h1 h2 h3 h
          constructor
          · rintro (⟨e, _⟩ | ⟨e, _⟩ | ⟨e, _⟩ | ⟨_, e⟩ | ⟨e, _⟩ | ⟨e, _⟩)
            case inr.inr.inr.inl => exact e
            all_goals omega
          · exact fun e => .inr (.inr (.inr (.inl ⟨h, e⟩)))
        · split
          · rename_i h1 h2 h3 h4 h
            constructor
            · rintro (⟨e, _⟩ | ⟨e, _⟩ | ⟨e, _⟩ | ⟨e, _⟩ | ⟨e, _⟩ | ⟨_, e⟩)
              case inr.inr.inr.inr.inr => exact e
              all_goals omega
            · exact fun e => .inr (.inr (.inr (.inr (.inr ⟨h, e⟩))))
          · split
            · rename_i h1 h2 h3 h4 h5 h
              constructor
              · rintro (⟨e, _⟩ | ⟨e, _⟩ | ⟨e, _⟩ | ⟨e, _⟩ | ⟨_, e⟩ | ⟨e, _⟩)
                case inr.inr.inr.inr.inl => exact e
                all_goals omega
              · exact fun e => .inr (.inr (.inr (.inr (.inl ⟨h, e⟩))))
            · rename_i h1 h2 h3 h4 h5 h6
              rw [iff_false]
              rintro (⟨e, _⟩ | ⟨e, _⟩ | ⟨e, _⟩ | ⟨e, _⟩ | ⟨e, _⟩ | ⟨e, _⟩) <;> omega
theorem run_fhead (A : Option Addr) (n c k : Nat) (hk : k ≤ c) (W : World) :
    (Instr.slice 22 (.slice A n c) none (some (.int .i64 (k : Int))) none).run Tryz.prog W = .ok (.slice A k c) W := by
  rw [run_slice_h W 22 _ n c (by kernel_rfl) .i64 (k : Int) (by omega) (by omega), size_fl]
  cases A <;> simp [Result.andThen, sliced, Addr.add]
theorem run_fhead2 (A : Option Addr) (n c k : Nat) (hk : k ≤ c) (W : World) :
    (Instr.sliceAt 22 (.slice A n c) none (some (.int .i64 (k : Int))) none).run Tryz.prog W = .ok (.slice A k c) W := by
  rw [run_sliceAt_slice W _ _ _ _ _ (by kernel_rfl)]; exact run_fhead A n c k hk W
theorem cellF_not {x : Fd} {i : Nat} {u : Value} (h : (cellF x)[i]? = some u) (a : Option Addr) (n c : Nat) : u ≠ .slice a n c := by
  have hm := List.mem_of_getElem? h
  simp only [cellF, List.mem_cons, List.not_mem_nil, or_false] at hm
  rcases hm with rfl | rfl | rfl | rfl | rfl | rfl <;> exact fun e => by cases e
theorem Box1.fl {w : World} {b : Nat} {a0 : Option Addr} {n0 c0 : Nat} (h : Box1 w b (.slice a0 n0 c0)) (v : Value) {A : Option Addr} {n c : Nat} {L : List Fd} (hi : Fl w A n c L) : Fl (w.setCell ⟨b, 0, none⟩ v) A n c L :=
  ⟨hi.1, hi.2.1, hi.2.2.1, hi.2.2.2.1, hi.2.2.2.2.imp id fun ⟨g, o, hA, hc⟩ => ⟨g, o, hA, fun j x hj => FdO.of_flat fun i u hu => by
    have hcell := (hc j x hj).flat i u hu
    have e0 : (⟨g, o + j * 6 + i, none⟩ : Addr) ≠ ⟨b, 0, none⟩ := fun e => by rw [e, h.c0] at hcell; exact cellF_not hu _ _ _ (Option.some.inj hcell).symm
    rw [World.cell?_setCell_other _ _ _ _ (by first | exact e0 | exact e0.symm)]
    exact hcell⟩⟩
structure PreF (M : List Fd) : Prop where
  ent : ∀ x ∈ M, rightF x = true
  rise : M.Pairwise fun x y => LtP x.p y.p
  apart : M.Pairwise fun x y => L4.apS y.p x.p = true
theorem PreF.nil : PreF [] := ⟨fun x hx => (by cases hx), .nil, .nil⟩
theorem PreF.step {L : List Fd} {t : Nat} {x : Fd} (hx : L[t]? = some x) (h : PreF (L.take t)) (h1 : rightF x = true) (h2 : ∀ k y, t = k + 1 → L[k]? = some y → LtP y.p x.p) (h3 : ∀ y ∈ L.take t, L4.apS x.p y.p = true) : PreF (L.take (t + 1)) := by
  rw [List.take_add_one, hx, Option.toList_some]
  have key : ∀ y ∈ L.take t, LtP y.p x.p := fun y hy => by
    cases t with
    | zero => simp at hy
    | succ k =>
      have hl := (List.getElem?_eq_some_iff.1 hx).1
      have hk : L[k]? = some L[k] := List.getElem?_eq_getElem (by omega)
      have hlast := h2 k _ rfl hk
      rw [List.take_add_one, hk, Option.toList_some, List.mem_append, List.mem_singleton] at hy
      rcases hy with hy | rfl
      · have hr := h.rise
        rw [List.take_add_one, hk, Option.toList_some, List.pairwise_append] at hr
        exact (hr.2.2 y hy L[k] (by simp)).trans hlast
      · exact hlast
  refine ⟨fun y hy => ?_, ?_, ?_⟩
  · rw [List.mem_append, List.mem_singleton] at hy
    rcases hy with hy | rfl
    · exact h.ent y hy
    · exact h1
  · rw [List.pairwise_append]
    exact ⟨h.rise, List.pairwise_singleton _ _, fun a ha b hb => by rw [List.mem_singleton] at hb; subst hb; exact key a ha⟩
  · rw [List.pairwise_append]
    exact ⟨h.apart, List.pairwise_singleton _ _, fun a ha b hb => by rw [List.mem_singleton] at hb; subst hb; exact h3 a ha⟩
theorem scOk_ent {L : List Fd} {t : Nat} {x : Fd} (hx : L[t]? = some x) (h : rightF x = false) : ¬ ScOk L := fun k => by
  have := k.ent x (List.mem_of_getElem? hx); rw [h] at this; cases this
theorem scOk_rise {L : List Fd} {k t : Nat} {y x : Fd} (hy : L[k]? = some y) (hx : L[t]? = some x) (hkt : k < t) (h : ¬ LtP y.p x.p) : ¬ ScOk L := fun s => by
  obtain ⟨h1, e1⟩ := List.getElem?_eq_some_iff.1 hy
  obtain ⟨h2, e2⟩ := List.getElem?_eq_some_iff.1 hx
  have := List.pairwise_iff_getElem.1 s.rise k t h1 h2 hkt
  rw [e1, e2] at this
  exact h this
theorem scOk_apart {L : List Fd} {k t : Nat} {y x : Fd} (hy : L[k]? = some y) (hx : L[t]? = some x) (hkt : k < t) (h : L4.apS x.p y.p = false) : ¬ ScOk L := fun s => by
  obtain ⟨h1, e1⟩ := List.getElem?_eq_some_iff.1 hy
  obtain ⟨h2, e2⟩ := List.getElem?_eq_some_iff.1 hx
  have := List.pairwise_iff_getElem.1 s.apart k t h1 h2 hkt
  rw [e1, e2, h] at this
  cases this
theorem fl_tailX {w : World} {g n c k : Nat} {L : List Fd} (h : Fl w (some ⟨g, 0, none⟩) n c L) (hk : k ≤ n) : Fl w (if c = k then some ⟨g, 0, none⟩ else some ⟨g, k * 6, none⟩) (n - k) (c - k) (L.drop k) := by
  obtain ⟨h1, h2, h3, h4, h5⟩ := h
  refine ⟨by rw [List.length_drop]; omega, by omega, by omega, fun he => ?_, ?_⟩
  · split at he <;> cases he
  · rcases h5 with h0 | ⟨b, o, hA, hc⟩
    · exact .inl (by omega)
    · by_cases hkn : k = n
      · exact .inl (by omega)
      · cases hA
        refine .inr ⟨g, k * 6, by rw [if_neg (by omega)], fun j x hj => ?_⟩
        rw [List.getElem?_drop] at hj
        have := hc _ x hj
        rw [show k * 6 + j * 6 = 0 + (k + j) * 6 by omega]
        exact this
theorem fr5 {L N : List Fd} {x : St} (q : x.k = 5) (h : FieldsR L x N) : ∃ A B, L = A ++ x.f :: B ∧ (∀ h ∈ A, h.p ≠ x.f.p) ∧ N = A ++ B := by
  rcases h with ⟨h, _⟩ | ⟨h, _⟩ | ⟨_, h⟩ | ⟨h, _⟩
  · rcases h with h | h | h <;> omega
  · omega
  · exact h
  · omega
theorem take_here {A B : List Fd} {f : Fd} {t : Nat} {y : Fd} {p : ByteArray} (ht : (A ++ f :: B)[t]? = some y) (hy : y.p = p) (hall : ∀ z ∈ (A ++ f :: B).take t, z.p ≠ p) (hA : ∀ h ∈ A, h.p ≠ p) (hf : f.p = p) : y = f ∧ t = A.length := by
  have h1 : ¬ t < A.length := fun hlt => by
    rw [List.getElem?_append_left hlt] at ht
    exact hA y (List.mem_of_getElem? ht) hy
  have h2 : ¬ A.length < t := fun hlt => hall f (by
    rw [List.mem_iff_getElem?]
    exact ⟨A.length, by rw [List.getElem?_take, if_pos hlt]; simp⟩) hf
  have e : t = A.length := by omega
  subst e
  simp at ht
  exact ⟨ht.symm, rfl⟩
theorem fr5_yes {L : List Fd} {x : St} {t : Nat} (q : x.k = 5) (ht : L[t]? = some x.f) (hall : ∀ z ∈ L.take t, z.p ≠ x.f.p) : FieldsR L x (L.take t ++ L.drop (t + 1)) := by
  have hl := (List.getElem?_eq_some_iff.1 ht)
  refine .inr (.inr (.inl ⟨q, L.take t, L.drop (t + 1), ?_, hall, rfl⟩))
  rw [← hl.2, List.getElem_cons_drop, List.take_append_drop]
theorem joi_len {k : Nat} : ∀ (l : List Sg), (∀ s ∈ l, s.length ≤ k) → (L4.joi l).length ≤ l.length * (k + 1)
  | [], _ => by rw [L4.joi_nil]; simp
  | [a], h => by rw [L4.joi_one]; have := h a (by simp); simp; omega
  | a :: b :: l, h => by
    have ih := joi_len (b :: l) (fun s hs => h s (List.mem_cons_of_mem _ hs))
    have := h a (by simp)
    rw [L4.joi_cons2, List.length_append, List.length_cons, List.length_cons, Nat.succ_mul]
    omega
theorem mv_t {x : St} (hm : Mv x) (h : ShapeR x) : toS x ≠ [] ∧ ∀ s ∈ toS x, ∀ c ∈ s, c ≠ 47 := by
  rcases hm with k | k | k
  · exact ⟨(turn_ren k h).1.ne, (turn_ren k h).1.no⟩
  · exact ⟨(turn_hoi k h).1.ne, (turn_hoi k h).1.no⟩
  · exact ⟨(turn_plu k h).1.ne, (turn_plu k h).1.no⟩
theorem mv_parts {x : St} (hm : Mv x) (h : ShapeR x) : L4.patS x.p = true ∧ (x.k = 2 ∨ L4.segS x.nm = true) := by
  rcases h with ⟨_, h1, h2, _⟩ | ⟨k, h1, _⟩ | ⟨_, h1, h2⟩ | ⟨k, _⟩ | ⟨k, _⟩ | ⟨k, _⟩
  · exact ⟨h1, .inr h2⟩
  · exact ⟨h1, .inl k⟩
  · exact ⟨h1, .inr h2⟩
  all_goals (exfalso; rcases hm with q | q | q <;> omega)
theorem preS_top {x : St} (hm : Mv x) (h : ShapeR x) (p : ByteArray) : preS p (moveS x x.p) ↔ toS x <+: sL p := by
  rw [moveS_self hm h]
  unfold preS
  rw [sL_paB (mv_t hm h).1 (mv_t hm h).2]
theorem frM {L N : List Fd} {x : St} (q : Mv x) (h : FieldsR L x N) : (∃ f ∈ L, preS f.p x.p) ∧ (∀ f ∈ L, ¬ preS f.p x.p → ¬ toS x <+: sL f.p) ∧ N = L.map (moveF x) := by
  rcases h with ⟨_, h⟩ | ⟨h, _⟩ | ⟨h, _⟩ | ⟨h, _⟩
  · exact h
  all_goals (exfalso; rcases q with q | q | q <;> omega)
theorem take_ex {L : List Fd} {P : Fd → Prop} {t : Nat} {f : Fd} (h : L[t]? = some f) : (∃ z ∈ L.take (t + 1), P z) ↔ (∃ z ∈ L.take t, P z) ∨ P f := by
  rw [List.take_add_one, h, Option.toList_some]
  constructor
  · rintro ⟨z, hz, hp⟩
    rcases List.mem_append.1 hz with hz | hz
    · exact .inl ⟨z, hz, hp⟩
    · rw [List.mem_singleton] at hz; subst hz; exact .inr hp
  · rintro (⟨z, hz, hp⟩ | hp)
    · exact ⟨z, by simp [hz], hp⟩
    · exact ⟨f, by simp, hp⟩
theorem take_all {L : List Fd} {P : Fd → Prop} {t : Nat} {f : Fd} (h : L[t]? = some f) (ha : ∀ z ∈ L.take t, P z) (hf : P f) : ∀ z ∈ L.take (t + 1), P z := by
  rw [List.take_add_one, h, Option.toList_some]
  intro z hz
  rcases List.mem_append.1 hz with hz | hz
  · exact ha z hz
  · rw [List.mem_singleton] at hz; subst hz; exact hf
theorem joi_snoc : ∀ (l : List Sg) (s : Sg), l ≠ [] → L4.joi (l ++ [s]) = L4.joi l ++ 47 :: s
  | [], _, h => absurd rfl h
  | [a], s, _ => by show L4.joi [a, s] = _; rw [L4.joi_cons2, L4.joi_one, L4.joi_one]
  | a :: b :: l, s, _ => by
    have ih := joi_snoc (b :: l) s (by simp)
    rw [List.cons_append] at ih
    rw [List.cons_append, List.cons_append, L4.joi_cons2, L4.joi_cons2, ih]; simp
theorem sL_under (p : ByteArray) : sL (underB p) = sL p ++ [[42]] := by
  have e : underB p = paB (sL p ++ [[42]]) := by
    unfold paB
    rw [joi_snoc _ _ (sL_ne p)]
    have : L4.joi (sL p) = p.data.toList := L4.joi_spl _
    rw [this]
    apply ba_ext
    unfold underB
    rw [ByteArray.data_append]
    simp [L4.ofL]
  rw [e, sL_paB (by simp)]
  intro s hs c hc
  rcases List.mem_append.1 hs with hs | hs
  · exact sL_no p s hs c hc
  · rw [List.mem_singleton] at hs; subst hs
    rw [List.mem_singleton] at hc; subst hc; decide
theorem swap_under (p : ByteArray) : L4.swapS (underB p) ((sL p).length : Int) [] = p := by
  rw [swapS_in _ _ _ (by rw [sL_under]; simp), sL_under, List.take_left' rfl, List.drop_of_length_le (by simp)]
  simp only [List.map_nil, List.append_nil]
  exact paB_sL p
theorem leafR_iff {x : St} {f g : Fd} (h6 : 6 ≤ x.k) (h10 : x.k ≤ 10) (hp : f.p = leafP x) : LeafR x f g ↔ LeafP x f ∧ g = leafG x f := by
  have hk : x.k = 6 ∨ x.k = 7 ∨ x.k = 8 ∨ x.k = 9 ∨ x.k = 10 := by omega
  unfold LeafR LeafP leafG movedS
  rcases hk with q | q | q | q | q
  · simp [q]
  · have e : leafP x = underB x.p := by unfold leafP; rw [if_pos q]
    rw [e] at hp
    simp [q, hp, swap_under]
  · simp [q, and_assoc]
  · simp [q]
  · simp only [q]
    by_cases h1 : f.k = 1
    · simp [h1, and_assoc]
    · simp [h1, and_assoc]
theorem fr6 {L N : List Fd} {x : St} (h6 : 6 ≤ x.k) (h : FieldsR L x N) : ∃ A f B g, L = A ++ f :: B ∧ (∀ h ∈ A, h.p ≠ leafP x) ∧ f.p = leafP x ∧ LeafR x f g ∧ N = A ++ g :: B := by
  rcases h with ⟨h, _⟩ | ⟨h, _⟩ | ⟨h, _⟩ | ⟨_, h⟩
  · rcases h with h | h | h <;> omega
  · omega
  · omega
  · exact h
theorem fr6_none {L : List Fd} {x : St} (h6 : 6 ≤ x.k) (h : ∀ y ∈ L, y.p ≠ leafP x) (N : List Fd) : ¬ FieldsR L x N := fun hf => by
  obtain ⟨A, f, B, g, rfl, _, hp, _⟩ := fr6 h6 hf
  exact h f (by simp) hp
theorem fr6_ne {L : List Fd} {x : St} {t : Nat} {y : Fd} (h6 : 6 ≤ x.k) (h10 : x.k ≤ 10) (ht : L[t]? = some y) (hp : y.p = leafP x) (hall : ∀ z ∈ L.take t, z.p ≠ leafP x) (hne : ¬ LeafP x y) (N : List Fd) : ¬ FieldsR L x N := fun hf => by
  obtain ⟨A, f, B, g, rfl, hA, hfp, hl, _⟩ := fr6 h6 hf
  obtain ⟨rfl, _⟩ := take_here ht hp hall hA hfp
  exact hne ((leafR_iff h6 h10 hp).1 hl).1
theorem fr6_yes {L : List Fd} {x : St} {t : Nat} {y : Fd} (h6 : 6 ≤ x.k) (h10 : x.k ≤ 10) (ht : L[t]? = some y) (hp : y.p = leafP x) (hall : ∀ z ∈ L.take t, z.p ≠ leafP x) (hy : LeafP x y) : FieldsR L x (L.set t (leafG x y)) := by
  have hl := (List.getElem?_eq_some_iff.1 ht)
  refine .inr (.inr (.inr ⟨h6, L.take t, y, L.drop (t + 1), leafG x y, ?_, hall, hp, (leafR_iff h6 h10 hp).2 ⟨hy, rfl⟩, ?_⟩))
  · rw [← hl.2, List.getElem_cons_drop, List.take_append_drop]
  · rw [List.set_eq_take_append_cons_drop, if_pos hl.1]
theorem pat_segs {p : ByteArray} (h : L4.patS p = true) : (sL p).length ≤ 6 ∧ ∀ s ∈ sL p, s.length ≤ 16 := by
  rw [patS_of] at h
  have hp2 := pat_of.1 h
  refine ⟨hp2.2, fun s hs => ?_⟩
  obtain ⟨i, hi⟩ := List.mem_iff_getElem?.1 hs
  rcases hp2.1 i s hi with h | ⟨_, h⟩
  · exact (L4.segL_len s h).1
  · rw [h]; decide
theorem toS_segs {x : St} (hm : Mv x) (h : ShapeR x) : (toS x).length ≤ 7 ∧ ∀ s ∈ toS x, s.length ≤ 16 := by
  obtain ⟨hp, hn⟩ := mv_parts hm h
  obtain ⟨h6, h16⟩ := pat_segs hp
  constructor
  · unfold toS topL
    split
    · rw [List.length_append, List.length_take]; simp; omega
    · split
      · rw [List.length_append, List.length_take, List.length_drop]; omega
      · rw [List.length_append, List.length_take, List.length_cons, List.length_drop]; omega
  · intro s hs
    have hseg : x.k ≠ 2 → x.nm.data.toList.length ≤ 16 := fun hk => by
      rcases hn with k | k
      · exact absurd k hk
      · exact (L4.segL_len _ k).1
    unfold toS topL at hs
    split at hs
    · rcases List.mem_append.1 hs with hs | hs
      · exact h16 s (List.take_subset _ _ hs)
      · rw [List.mem_singleton] at hs; subst hs; exact hseg (by omega)
    · split at hs
      · rcases List.mem_append.1 hs with hs | hs
        · exact h16 s (List.take_subset _ _ hs)
        · exact h16 s (List.drop_subset _ _ hs)
      · rcases List.mem_append.1 hs with hs | hs
        · exact h16 s (List.take_subset _ _ hs)
        · rcases List.mem_cons.1 hs with rfl | hs
          · exact hseg (by assumption)
          · exact h16 s (List.drop_subset _ _ hs)
theorem paB_size {l : List Sg} {n : Nat} (hl : l.length ≤ n) (hs : ∀ s ∈ l, s.length ≤ 16) : (paB l).size ≤ n * 17 := by
  have hj := joi_len (k := 16) l hs
  have e : (paB l).size = (L4.joi l).length := by unfold paB L4.ofL; simp [ByteArray.size]
  rw [e]
  have : l.length * (16 + 1) ≤ n * 17 := Nat.mul_le_mul hl (Nat.le_refl _)
  omega
theorem apply_sz {T : Tb} {v : Va} (hL : SzP T.L) (hd : T.d.t.size ≤ 1099511627776) (hb : T.b.t.size ≤ 1099511627776) (hv : v.t.size ≤ 1099511627776) : (applyT T v).t.size ≤ 1099511627776 := by
  unfold applyT
  split
  · unfold backT
    split
    · rename_i p hp; exact (hL p (List.mem_of_find?_eq_some hp)).1
    · split
      · exact hv
      · exact hb
  · unfold forthT
    split
    · rename_i p hp; exact (hL p (List.mem_of_find?_eq_some hp)).2
    · split
      · exact hv
      · exact hd
theorem leafR_one {x : St} {f g g' : Fd} (h : LeafR x f g) (h' : LeafR x f g') : g = g' := by
  rcases h with ⟨k, _, e⟩ | ⟨k, _, e⟩ | ⟨k, _, _, e⟩ | ⟨k, _, e⟩ | ⟨k, _, _, _, e⟩ <;> rcases h' with ⟨k', _, e'⟩ | ⟨k', _, e'⟩ | ⟨k', _, _, e'⟩ | ⟨k', _, e'⟩ | ⟨k', _, _, _, e'⟩ <;> first | (exfalso; omega) | (rw [e, e'])
theorem split_one {A B A' B' : List Fd} {f f' : Fd} {p : ByteArray} (h : A ++ f :: B = A' ++ f' :: B') (hA : ∀ h ∈ A, h.p ≠ p) (hf : f.p = p) (hA' : ∀ h ∈ A', h.p ≠ p) (hf' : f'.p = p) : A = A' ∧ f = f' ∧ B = B' := by
  have h1 := take_here (A := A') (B := B') (f := f') (t := A.length) (y := f) (by rw [← h]; simp) hf (fun z hz => by rw [← h, List.take_left' rfl] at hz; exact hA z hz) hA' hf'
  obtain ⟨rfl, hl⟩ := h1
  obtain ⟨rfl, h2⟩ := List.append_inj h hl
  exact ⟨rfl, rfl, (List.cons.inj h2).2⟩
theorem fields_one {L N N' : List Fd} {x : St} (h : FieldsR L x N) (h' : FieldsR L x N') : N' = N := by
  rcases h with ⟨hm, _, _, rfl⟩ | ⟨hk, rfl⟩ | ⟨hk, A, B, rfl, hA, rfl⟩ | ⟨hk, A, f, B, g, rfl, hA, hfp, hl, rfl⟩
  · exact (frM hm h').2.2
  · rcases h' with ⟨h, _⟩ | ⟨_, h⟩ | ⟨h, _⟩ | ⟨h, _⟩
    · exfalso; rcases h with h | h | h <;> omega
    · exact h
    all_goals (exfalso; omega)
  · obtain ⟨A', B', e, hA', rfl⟩ := fr5 hk h'
    obtain ⟨rfl, _, rfl⟩ := split_one e hA rfl hA' rfl
    rfl
  · obtain ⟨A', f', B', g', e, hA', hfp', hl', rfl⟩ := fr6 hk h'
    obtain ⟨rfl, rfl, rfl⟩ := split_one e hA hfp hA' hfp'
    rw [leafR_one hl hl']
theorem ttR_szH (s : ByteArray) (m : Int) : (ttR s m).size ≤ s.size := by
  by_cases h : ttE s m = 0
  · have := congrArg ByteArray.size (tt_aft s m h).1
    rw [ByteArray.size_append, ByteArray.size_append] at this
    omega
  · have : ttR s m = ⟨#[]⟩ := by
      unfold ttE ttL at h
      unfold ttR ttL
      by_cases h1 : tkE s ≠ 0
      · rw [if_pos h1]
      rw [if_neg h1] at h ⊢
      by_cases h2 : m < 0 ∨ m < (tkN s : Int)
      · rw [if_pos h2]
      rw [if_neg h2] at h ⊢
      by_cases h3 : (tkR s).size < tkN s
      · rw [if_pos h3]
      · rw [if_neg h3] at h; simp at h
    rw [this]
    exact Nat.zero_le _
theorem tvR_szH (s : ByteArray) : (tvR s).size ≤ s.size := by
  have h1 := tkR_size s
  have h2 := tkR_size (tkR s)
  have h3 := ttR_szH (tkR s) 200
  unfold tvR tvL
  by_cases e1 : tkE s ≠ 0
  · rw [if_pos e1]; exact Nat.zero_le _
  rw [if_neg e1]
  by_cases e2 : 3 < tkN s
  · rw [if_pos e2]; exact Nat.zero_le _
  rw [if_neg e2]
  by_cases e3 : tkN s = 0
  · rw [if_pos e3]; exact h1
  rw [if_neg e3]
  by_cases e4 : tkN s = 2
  · rw [if_pos e4]
    by_cases e5 : ttE (tkR s) 200 ≠ 0
    · rw [if_pos e5]; exact Nat.zero_le _
    · rw [if_neg e5]; exact Nat.le_trans h3 h1
  rw [if_neg e4]
  by_cases e5 : tkE (tkR s) ≠ 0
  · rw [if_pos e5]; exact Nat.zero_le _
  rw [if_neg e5]
  by_cases e6 : rightB (tkN s) (tiN (tkR s)) ⟨#[]⟩ = true
  · rw [if_pos e6]; exact Nat.le_trans h2 h1
  · rw [if_neg e6]; exact Nat.zero_le _
theorem two_e1 {s : ByteArray} (h : tvE s ≠ 0) : twoL s = (.none, ⟨#[]⟩, tvE s) := by unfold twoL; rw [if_pos h]
theorem two_e2 {s : ByteArray} (h : tvE s = 0) (h2 : tvE (tvR s) ≠ 0) : twoL s = (.none, ⟨#[]⟩, tvE (tvR s)) := by unfold twoL; rw [if_neg (by rw [h]; simp), if_pos h2]
theorem two_ok {s : ByteArray} (h : tvE s = 0) (h2 : tvE (tvR s) = 0) : twoL s = (⟨tVa s, tVa (tvR s)⟩, tvR (tvR s), 0) := by unfold twoL; rw [if_neg (by rw [h]; simp), if_neg (by rw [h2]; simp)]
structure TabZ (w : World) (b : Nat) (u : Value) (kp tu : Bool) : Prop where
  c0 : w.cell? ⟨b, 0, none⟩ = some u
  c1 : w.cell? ⟨b, 1, none⟩ = some (.bool kp)
  c2 : w.cell? ⟨b, 2, none⟩ = some (.int .i64 0)
  c3 : w.cell? ⟨b, 3, none⟩ = some (.int .i64 0)
  c4 : w.cell? ⟨b, 4, none⟩ = some (.string ⟨#[]⟩)
  c5 : w.cell? ⟨b, 5, none⟩ = some (.int .i64 0)
  c6 : w.cell? ⟨b, 6, none⟩ = some (.int .i64 0)
  c7 : w.cell? ⟨b, 7, none⟩ = some (.string ⟨#[]⟩)
  c8 : w.cell? ⟨b, 8, none⟩ = some (.bool tu)
  f : ∀ j, w.frozen? ⟨b, j, none⟩ = false
  lt : b < w.heap.size
theorem TabZ.kept {w w' : World} {b : Nat} {u : Value} {kp tu : Bool} (h : TabZ w b u kp tu) (hg : Kept w w') : TabZ w' b u kp tu :=
  ⟨hg.cell h.c0, hg.cell h.c1, hg.cell h.c2, hg.cell h.c3, hg.cell h.c4, hg.cell h.c5, hg.cell h.c6, hg.cell h.c7, hg.cell h.c8, fun j => (hg.2.1 ⟨b, j, none⟩ h.lt).trans (h.f j), Nat.lt_of_lt_of_le h.lt hg.2.2⟩
theorem TabZ.keptE {G : Nat} {w w' : World} {b : Nat} {u : Value} {kp tu : Bool} (h : TabZ w b u kp tu) (k : KeptE G w w') (hb : b ≠ G) : TabZ w' b u kp tu :=
  ⟨k.cell hb h.c0, k.cell hb h.c1, k.cell hb h.c2, k.cell hb h.c3, k.cell hb h.c4, k.cell hb h.c5, k.cell hb h.c6, k.cell hb h.c7, k.cell hb h.c8, fun j => by
    have := h.f j
    have e := k.blk b h.lt hb
    unfold World.frozen? at this ⊢
    rw [e]; exact this, Nat.lt_of_lt_of_le h.lt k.size⟩
theorem TabZ.new (w : World) (kp tu : Bool) (ty : TypeId) : TabZ (w.alloc (.cells #[.slice none 0 0, .bool kp, .int .i64 0, .int .i64 0, .string ⟨#[]⟩, .int .i64 0, .int .i64 0, .string ⟨#[]⟩, .bool tu] ty)) w.heap.size (.slice none 0 0) kp tu :=
  ⟨(Kept.refl _).box 0 _ rfl, (Kept.refl _).box 1 _ rfl, (Kept.refl _).box 2 _ rfl, (Kept.refl _).box 3 _ rfl, (Kept.refl _).box 4 _ rfl, (Kept.refl _).box 5 _ rfl, (Kept.refl _).box 6 _ rfl, (Kept.refl _).box 7 _ rfl, (Kept.refl _).box 8 _ rfl, fun j => by rw [frozen?_alloc_cells]; simp [World.frozen?], by simp⟩
theorem cell_beside {w : World} {b i j : Nat} {v u : Value} (hij : i ≠ j) (h : w.cell? ⟨b, j, none⟩ = some u) : (w.setCell ⟨b, i, none⟩ v).cell? ⟨b, j, none⟩ = some u := by
  rw [World.cell?_setCell_other _ _ _ _ (fun e => hij (by cases e; rfl))]; exact h
theorem TabZ.set0 {w : World} {b : Nat} {u : Value} {kp tu : Bool} (h : TabZ w b u kp tu) (v : Value) : TabZ (w.setCell ⟨b, 0, none⟩ v) b v kp tu :=
  ⟨World.cell?_setCell_same _ _ _ h.c0, cell_beside (by decide) h.c1, cell_beside (by decide) h.c2, cell_beside (by decide) h.c3, cell_beside (by decide) h.c4, cell_beside (by decide) h.c5, cell_beside (by decide) h.c6, cell_beside (by decide) h.c7, cell_beside (by decide) h.c8,
   fun j => by rw [World.frozen?_setCell]; exact h.f j, by have := h.lt; simpa [World.setCell] using this⟩
theorem Pal.setLow {w : World} {A : Option Addr} {n c B : Nat} {L : List Pa} (h : Pal w A n c L) (hA : ∀ ad, A = some ad → B ≤ ad.block) (b i : Nat) (hb : b < B) (v : Value) : Pal (w.setCell ⟨b, i, none⟩ v) A n c L :=
  ⟨h.1, h.2.1, h.2.2.1, h.2.2.2.1, h.2.2.2.2.imp id fun ⟨g, o, hg, hc⟩ => ⟨g, o, hg, fun j x hj => PaO.of_flat fun i2 u hu => by
    have hcell := (hc j x hj).flat i2 u hu
    have := hA _ hg
    rw [World.cell?_setCell_other _ _ _ _ (fun e => by cases e; simp only at this; omega)]
    exact hcell⟩⟩
def TakHB (s : ByteArray) (w : World) (e : Ending) (w' : World) : Prop :=
  ∃ A c, e = .returned (.tuple #[.agg #[.slice A (ttbL s).1.L.length c, .bool (ttbL s).1.keep, .int .i64 (ttbL s).1.d.k, .int .i64 (ttbL s).1.d.n, .string (ttbL s).1.d.t, .int .i64 (ttbL s).1.b.k, .int .i64 (ttbL s).1.b.n, .string (ttbL s).1.b.t, .bool (ttbL s).1.tu], .string (ttbL s).2.1, .int .i64 ((ttbL s).2.2 : Int)]) ∧ Pal w' A (ttbL s).1.L.length c (ttbL s).1.L ∧ Kept w w' ∧ ∀ ad, A = some ad → w.heap.size ≤ ad.block
theorem takHB_err {s : ByteArray} {z : Nat} (h : ttbL s = (.none, ⟨#[]⟩, z)) {w w' : World} (hk : Kept w w') : TakHB s w (.returned (.tuple #[.agg #[.slice none 0 0, .bool false, .int .i64 0, .int .i64 0, .string ⟨#[]⟩, .int .i64 0, .int .i64 0, .string ⟨#[]⟩, .bool false], .string ⟨#[]⟩, .int .i64 (z : Int)])) w' := by
  unfold TakHB
  rw [h]
  exact ⟨none, 0, rfl, Pal.nil _, hk, fun ad e => by cases e⟩
theorem takHB_ok {s r : ByteArray} {X : Tb} (h : ttbL s = (X, r, 0)) {w w' : World} {A : Option Addr} {c : Nat} (hf : Pal w' A X.L.length c X.L) (hk : Kept w w') (hA : ∀ ad, A = some ad → w.heap.size ≤ ad.block) : TakHB s w (.returned (.tuple #[.agg #[.slice A X.L.length c, .bool X.keep, .int .i64 X.d.k, .int .i64 X.d.n, .string X.d.t, .int .i64 X.b.k, .int .i64 X.b.n, .string X.b.t, .bool X.tu], .string r, .int .i64 0])) w' := by
  unfold TakHB
  rw [h]
  exact ⟨A, c, rfl, hf, hk, hA⟩
structure VaS (x : Va) : Prop where
  t : x.t.size ≤ 600
  lo : -9223372036854775808 ≤ x.n
  hi : x.n ≤ 9223372036854775807
structure TbS (T : Tb) : Prop where
  d : VaS T.d
  b : VaS T.b
  L : ∀ p ∈ T.L, VaS p.f ∧ VaS p.t
  few : T.L.length ≤ 20
theorem putVa_size (b : ByteArray) (x : Va) (h : VaS x) : (putVa b x).size ≤ b.size + 620 := by
  have := putV_size b x.k x.n x.t; have := h.t; unfold putVa; omega
structure SzT (T : Tb) : Prop where
  L : SzP T.L
  d : T.d.t.size ≤ 1099511627776
  b : T.b.t.size ≤ 1099511627776
  few : T.L.length ≤ 1000
theorem ShortT.szT {T : Tb} (h : ShortT T) : SzT T :=
  ⟨fun p hp => by have := h.L p hp; omega, by have := h.db; omega, by have := h.db; omega, by have := h.few; omega⟩
theorem SzT.turn {T : Tb} (h : SzT T) : SzT (turnT T) := ⟨h.L, h.d, h.b, h.few⟩
def builderRen : Go.Shelf.Ren := ⟨fun | 166 => 121 | 169 => 123 | 240 => 149 | 276 => 160 | n => n, fun | 0 => 0 | 3 => 3 | 4 => 4 | 5 => 5 | 9 => 9 | 20 => 20 | 37 => 129 | 70 => 131 | 72 => 133 | 75 => 135 | 80 => 139 | 127 => 151 | 164 => 156 | n => n, fun | n => n⟩
theorem lays166 : Go.Proofs.Lays.n166 Tryz.prog builderRen := {
  mixed := by kernel_rfl
  f166 := Tryz.func121.trans (congrArg some (by kernel_rfl))
  f240 := Tryz.func149.trans (congrArg some (by kernel_rfl))
  f276 := Tryz.func160.trans (congrArg some (by kernel_rfl))
  t0 := Tryz.underlying0
  a0 := Tryz.isAgg0
  z0 := Tryz.sizeOf0
  v0 := Tryz.zeroValue0
  t3 := Tryz.underlying3
  a3 := Tryz.isAgg3
  z3 := Tryz.sizeOf3
  v3 := Tryz.zeroValue3
  t4 := Tryz.underlying4
  a4 := Tryz.isAgg4
  z4 := Tryz.sizeOf4
  v4 := Tryz.zeroValue4
  t9 := Tryz.underlying9
  a9 := Tryz.isAgg9
  z9 := Tryz.sizeOf9
  v9 := Tryz.zeroValue9
  t20 := Tryz.underlying20
  a20 := Tryz.isAgg20
  z20 := Tryz.sizeOf20
  v20 := Tryz.zeroValue20
  t37 := Tryz.underlying129
  a37 := Tryz.isAgg129
  z37 := Tryz.sizeOf129
  v37 := Tryz.zeroValue129
  t70 := Tryz.underlying131
  a70 := Tryz.isAgg131
  z70 := Tryz.sizeOf131
  v70 := Tryz.zeroValue131
  t72 := Tryz.underlying133
  a72 := Tryz.isAgg133
  z72 := Tryz.sizeOf133
  v72 := Tryz.zeroValue133
  t75 := Tryz.underlying135
  a75 := Tryz.isAgg135
  z75 := Tryz.sizeOf135
  v75 := Tryz.zeroValue135
  t164 := Tryz.underlying156
  a164 := Tryz.isAgg156
  z164 := Tryz.sizeOf156
  v164 := Tryz.zeroValue156
}
theorem lays169 : Go.Proofs.Lays.n169 Tryz.prog builderRen := {
  mixed := by kernel_rfl
  f169 := Tryz.func123.trans (congrArg some (by kernel_rfl))
  t0 := Tryz.underlying0
  a0 := Tryz.isAgg0
  z0 := Tryz.sizeOf0
  v0 := Tryz.zeroValue0
  t3 := Tryz.underlying3
  a3 := Tryz.isAgg3
  z3 := Tryz.sizeOf3
  v3 := Tryz.zeroValue3
  t9 := Tryz.underlying9
  a9 := Tryz.isAgg9
  z9 := Tryz.sizeOf9
  v9 := Tryz.zeroValue9
  t37 := Tryz.underlying129
  a37 := Tryz.isAgg129
  z37 := Tryz.sizeOf129
  v37 := Tryz.zeroValue129
  t70 := Tryz.underlying131
  a70 := Tryz.isAgg131
  z70 := Tryz.sizeOf131
  v70 := Tryz.zeroValue131
  t72 := Tryz.underlying133
  a72 := Tryz.isAgg133
  z72 := Tryz.sizeOf133
  v72 := Tryz.zeroValue133
  t127 := Tryz.underlying151
  a127 := Tryz.isAgg151
  z127 := Tryz.sizeOf151
  v127 := Tryz.zeroValue151
}
theorem extraB : Go.Proofs.Builder.Extra Tryz.prog builderRen where
  sizeBuilder := by kernel_rfl
  liesBuilder := by kernel_rfl
  t5 := Tryz.underlying5
  a5 := Tryz.isAgg5
  z5 := Tryz.sizeOf5
  v5 := Tryz.zeroValue5
  infoByte := by kernel_rfl
  cellsByte := by kernel_rfl
  sizeByte := by kernel_rfl
  neB5 := by decide
structure Bld (U : World) (b : Nat) (w : World) (l : List UInt8) : Prop where
  is : Lib.IsBuilder 133 5 b b (Lib.byteCells l) w
  ke : Kept U w
  lo : U.heap.size ≤ b
theorem kept_below {U w w' : World} {B : Nat} (h : Kept U w) (hb : Below B w w') (hU : U.heap.size ≤ B) : Kept U w' := by
  obtain ⟨⟨h1, h2, h3⟩, hf, hs⟩ := h
  refine ⟨⟨hb.os.trans h1, hb.output.trans h2, fun i hi => ?_⟩, fun a ha => (hb.frozen (Nat.lt_of_lt_of_le ha hU)).trans (hf a ha), Nat.le_trans hs hb.size⟩
  rw [hb.block i (Nat.lt_of_lt_of_le hi hU)]
  exact h3 i hi
theorem bat_kept {w w' : World} {T e : TypeId} {B b : Nat} {p : Value} {bs : List Value} (h : Lib.BuilderAt T e B b p bs w) (hk : Kept w w') : Lib.BuilderAt T e B b p bs w' := by
  obtain ⟨hB, v, hb, hown, hne⟩ := h
  refine ⟨hB, v, ?_, own_kept hown hk, hne⟩
  rw [hk.blk (by
    rcases Nat.lt_or_ge b w.heap.size with h' | h'
    · exact h'
    · rw [Array.getElem?_eq_none h'] at hb; cases hb)]
  exact hb
theorem Bld.kept {U w w' : World} {b : Nat} {l : List UInt8} (h : Bld U b w l) (hk : Kept w w') : Bld U b w' l :=
  ⟨h.is.imp (bat_kept · hk) (bat_kept · hk), h.ke.trans hk, h.lo⟩
theorem Bld.start (U : World) : Bld U U.heap.size (U.alloc (.cells #[.pointer none, .slice none 0 0] 133)) [] :=
  ⟨Lib.fresh_isBuilder _ _ U, (Kept.refl U).alloc _ _, Nat.le_refl _⟩
theorem bld_lt {U w : World} {b : Nat} {l : List UInt8} (h : Bld U b w l) : b < w.heap.size := by
  rcases h.is with h | h
  · exact h.lt
  · exact h.lt
theorem write_any {U w : World} {b : Nat} {l : List UInt8} (h : Bld U b w l) (s : ByteArray) (hl : l.length + s.size ≤ 140737488355328) (r : List UInt8) (hr : l ++ s.data.toList = r) :
    Calls Tryz.prog 121 #[.pointer (some ⟨b, 0, none⟩), .string s] w fun e w' => e = .returned (.tuple #[.int .i64 s.size, .nilIface]) ∧ Bld U b w' r := by
  have hc := Go.Proofs.Any.Builder_WriteString lays166 extraB b b (Lib.byteCells l) s w h.is (by rw [Lib.byteCells_length]; exact hl) (Nat.le_of_lt (bld_lt h))
  refine hc.mono fun e w' ⟨he, hb, hbe⟩ => ⟨he, ⟨.inr ?_, kept_below h.ke hbe h.lo, h.lo⟩⟩
  rw [Lib.strCells_eq, ← Lib.byteCells_append, hr] at hb
  exact hb
theorem string_any {U w : World} {b : Nat} {l : List UInt8} (h : Bld U b w l) :
    Calls Tryz.prog 123 #[.pointer (some ⟨b, 0, none⟩)] w fun e w' => e = .returned (.string ⟨l.toArray⟩) ∧ Kept U w' := by
  have hc := Go.Proofs.Any.Builder_String_any lays169 extraB b b l w h.is (Nat.le_of_lt (bld_lt h))
  exact hc.mono fun e w' ⟨he, hbe⟩ => ⟨he, kept_below h.ke hbe h.lo⟩
end Go.Proofs.YtofnpifooaijcaaGreat
