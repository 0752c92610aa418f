/-
  What is proved: each step goes back (P14.8), as plain mathematics: where a step fits a schema that is right, and what comes is right, the step turned fits that and leads back, and turned again it does the same; no program is spoken of here.
  strings.Count at a text of one byte and strings.Join return what their documentation says: the library's contracts, laid at this program's numbers.
-/
import Derived.Test.YtofnpifooaijcaaGreatM7
import Derived.Shelf.Strings.OnBuilder
import Derived.Shelf.Strings.Count
import Derived.Test.YtofnpifooaijcaaGreatProg
namespace Go.Proofs.YtofnpifooaijcaaGreat
open Go.RowKit
set_option linter.unusedVariables false
def defV (f : Fd) : Va := ⟨f.vk, f.vn, f.vt⟩
def Fd.withP (f : Fd) (p : ByteArray) : Fd := ⟨p, f.k, f.t, f.vk, f.vn, f.vt⟩
def Fd.withD (f : Fd) (k t : Int) (d : Va) : Fd := ⟨f.p, k, t, d.k, d.n, d.t⟩
def topL (k : Int) (Q : List Sg) (nm : Sg) : List Sg :=
  if k = 1 then Q.take (Q.length - 1) ++ [nm] else if k = 2 then Q.take (Q.length - 2) ++ Q.drop (Q.length - 1) else Q.take (Q.length - 1) ++ nm :: Q.drop (Q.length - 1)
def lastS (Q : List Sg) : Sg := Q.getD (Q.length - 1) []
def midS (Q : List Sg) : Sg := Q.getD (Q.length - 2) []
theorem top_ren (Q0 : List Sg) (a nm : Sg) : topL 1 (Q0 ++ [a]) nm = Q0 ++ [nm] := by unfold topL; rw [if_pos rfl]; simp
theorem top_hoi (Q0 : List Sg) (m a nm : Sg) : topL 2 (Q0 ++ [m, a]) nm = Q0 ++ [a] := by
  unfold topL
  rw [if_neg (by decide), if_pos rfl]
  have h1 : (Q0 ++ [m, a]).length - 2 = Q0.length := by simp
  have h2 : (Q0 ++ [m, a]).length - 1 = Q0.length + 1 := by simp
  rw [h1, h2, List.take_left', List.drop_append]
  · simp
  · rfl
theorem top_plu (Q0 : List Sg) (a nm : Sg) : topL 3 (Q0 ++ [a]) nm = Q0 ++ [nm, a] := by unfold topL; rw [if_neg (by decide), if_neg (by decide)]; simp
theorem last_at (Q0 : List Sg) (a : Sg) : lastS (Q0 ++ [a]) = a := by unfold lastS; simp
theorem mid_at (Q0 : List Sg) (m a : Sg) : midS (Q0 ++ [m, a]) = m := by unfold midS; simp
theorem one_of {Q : List Sg} (h : Q ≠ []) : ∃ Q0 a, Q = Q0 ++ [a] := ⟨Q.dropLast, Q.getLast h, (List.dropLast_concat_getLast h).symm⟩
theorem two_of {Q : List Sg} (h : 2 ≤ Q.length) : ∃ Q0 m a, Q = Q0 ++ [m, a] := by
  obtain ⟨Q1, a, rfl⟩ := one_of (Q := Q) (by intro e; rw [e] at h; simp at h)
  obtain ⟨Q0, m, rfl⟩ := one_of (Q := Q1) (by intro e; rw [e] at h; simp at h)
  exact ⟨Q0, m, a, by simp⟩
def Mv (x : St) : Prop := x.k = 1 ∨ x.k = 2 ∨ x.k = 3
def toS (x : St) : List Sg := topL x.k (sL x.p) x.nm.data.toList
def ShapeR (x : St) : Prop :=
  (x.k = 1 ∧ L4.patS x.p = true ∧ L4.segS x.nm = true ∧ lastS (sL x.p) ≠ [42] ∧ lastS (sL x.p) ≠ x.nm.data.toList) ∨
  (x.k = 2 ∧ L4.patS x.p = true ∧ 2 ≤ (sL x.p).length ∧ midS (sL x.p) ≠ [42]) ∨
  (x.k = 3 ∧ L4.patS x.p = true ∧ L4.segS x.nm = true) ∨
  ((x.k = 4 ∨ x.k = 5) ∧ rightF x.f = true) ∨
  ((x.k = 6 ∨ x.k = 7 ∨ x.k = 8 ∨ x.k = 9) ∧ L4.patS x.p = true) ∨
  (x.k = 10 ∧ L4.patS x.p = true ∧ RightT x.T x.a x.b)
def underB (p : ByteArray) : ByteArray := p ++ ⟨#[47, 42]⟩
def leafP (x : St) : ByteArray := if x.k = 7 then underB x.p else x.p
def LeafR (x : St) (f g : Fd) : Prop :=
  (x.k = 6 ∧ f.k = 1 ∧ g = f.withP (underB f.p)) ∨ (x.k = 7 ∧ f.k = 1 ∧ g = f.withP x.p) ∨
  (x.k = 8 ∧ f.k = 1 ∧ defV f = x.d ∧ g = f.withD 2 f.t .zero) ∨ (x.k = 9 ∧ f.k = 2 ∧ g = f.withD 1 f.t x.d) ∨
  (x.k = 10 ∧ f.k ≠ 3 ∧ f.t = x.a ∧ (f.k = 1 → wayT x.T (applyT x.T (defV f)) = defV f) ∧ g = f.withD f.k x.b (if f.k = 1 then applyT x.T (defV f) else defV f))
def moveF (x : St) (f : Fd) : Fd := f.withP (paB (mvL (sL x.p) (toS x) (sL f.p)))
def FieldsR (L : List Fd) (x : St) (N : List Fd) : Prop :=
  (Mv x ∧ (∃ f ∈ L, sL x.p <+: sL f.p) ∧ (∀ f ∈ L, ¬ sL x.p <+: sL f.p → ¬ toS x <+: sL f.p) ∧ N = L.map (moveF x)) ∨
  (x.k = 4 ∧ N = L ++ [x.f]) ∨
  (x.k = 5 ∧ ∃ A B, L = A ++ x.f :: B ∧ (∀ h ∈ A, h.p ≠ x.f.p) ∧ N = A ++ B) ∨
  (6 ≤ x.k ∧ ∃ A f B g, L = A ++ f :: B ∧ (∀ h ∈ A, h.p ≠ leafP x) ∧ f.p = leafP x ∧ LeafR x f g ∧ N = A ++ g :: B)
def CheckR (L : List Fd) (x : St) (M : List Fd) : Prop := ShapeR x ∧ ScOk L ∧ (∃ N, FieldsR L x N ∧ M = ofF N) ∧ ScOk M
def turnSt (x : St) : St :=
  if x.k = 1 then { x with p := paB (toS x), nm := L4.ofL (lastS (sL x.p)) }
  else if x.k = 2 then (if 2 ≤ (sL x.p).length then { x with k := 3, p := paB (toS x), nm := L4.ofL (midS (sL x.p)) } else x)
  else if x.k = 3 then { x with k := 2, p := paB (toS x), nm := ⟨#[]⟩ }
  else if x.k = 4 then { x with k := 5 } else if x.k = 5 then { x with k := 4 } else if x.k = 6 then { x with k := 7 } else if x.k = 7 then { x with k := 6 }
  else if x.k = 8 then { x with k := 9 } else if x.k = 9 then { x with k := 8 } else if x.k = 10 then { x with a := x.b, b := x.a, T := turnT x.T } else x
theorem seg_no {s : ByteArray} (h : L4.segS s = true) : ∀ c ∈ s.data.toList, c ≠ 47 := L4.segL_no _ h
theorem toS_no {x : St} (h : ∀ c ∈ x.nm.data.toList, c ≠ 47) : ∀ s ∈ toS x, ∀ c ∈ s, c ≠ 47 := by
  have hn := sL_no x.p
  unfold toS topL
  intro s hs
  split at hs
  · rcases List.mem_append.1 hs with hs | hs
    · exact hn s (List.take_subset _ _ hs)
    · rw [List.mem_singleton] at hs; subst hs; exact h
  · split at hs
    · rcases List.mem_append.1 hs with hs | hs
      · exact hn s (List.take_subset _ _ hs)
      · exact hn s (List.drop_subset _ _ hs)
    · rcases List.mem_append.1 hs with hs | hs
      · exact hn s (List.take_subset _ _ hs)
      · rcases List.mem_cons.1 hs with rfl | hs
        · exact h
        · exact hn s (List.drop_subset _ _ hs)
theorem toS_no2 {x : St} (hk : x.k = 2) : ∀ s ∈ toS x, ∀ c ∈ s, c ≠ 47 := by
  have hn := sL_no x.p
  unfold toS topL
  rw [hk, if_neg (by decide), if_pos rfl]
  intro s hs
  rcases List.mem_append.1 hs with hs | hs
  · exact hn s (List.take_subset _ _ hs)
  · exact hn s (List.drop_subset _ _ hs)
theorem split_at {t : List Fd} (h : t.Pairwise fun x y => LtP x.p y.p) {g : Fd} (hg : g ∈ t) : ∃ A B, t = A ++ g :: B ∧ ∀ h ∈ A, h.p ≠ g.p := by
  obtain ⟨A, B, rfl⟩ := List.append_of_mem hg
  refine ⟨A, B, rfl, fun y hy e => ?_⟩
  have := (List.pairwise_append.1 h).2.2 y hy g (by simp)
  rw [e] at this
  exact LtP.irrefl _ this
theorem perm_out {A B C D : List Fd} {g : Fd} (h : (A ++ g :: B).Perm (C ++ g :: D)) : (A ++ B).Perm (C ++ D) :=
  List.Perm.cons_inv ((List.perm_middle.symm.trans h).trans List.perm_middle)
theorem set_zero {f : Fd} (h : rightF f = true) (hk : f.k = 2) : defV f = .zero := by
  rcases (rightF_of.1 h).2 with ⟨h1, _⟩ | ⟨_, h2⟩
  · omega
  · unfold defV Va.zero
    rw [h2.1, h2.2.1, h2.2.2]
theorem mv_fields {x : St} {s t N : List Fd} {y : St} (hs : ScOk s) (ht : ScOk t) (hN : FieldsR s x N) (hm : Mv x) (htN : t = ofF N) (hy : Mv y) (hyp : sL y.p = toS x) (hyt : toS y = sL x.p) (hne : toS x ≠ []) (hno : ∀ s ∈ toS x, ∀ c ∈ s, c ≠ 47) :
    ∃ N', FieldsR t y N' ∧ s = ofF N' := by
  rcases hN with ⟨_, hex, hall, rfl⟩ | ⟨h, _⟩ | ⟨h, _⟩ | ⟨h, _⟩
  case inr.inl => exact absurd h (by rcases hm with h | h | h <;> omega)
  case inr.inr.inl => exact absurd h (by rcases hm with h | h | h <;> omega)
  case inr.inr.inr => exact absurd h (by rcases hm with h | h | h <;> omega)
  have hp : t.Perm (s.map (moveF x)) := by rw [htN]; exact ofF_mem_perm _
  have hseg : ∀ f ∈ s, sL (moveF x f).p = mvL (sL x.p) (toS x) (sL f.p) := fun f hf => by
    show sL (paB _) = _
    exact sL_paB (mvL_ne hne (sL_ne _)) (mvL_mem (P := fun s => ∀ c ∈ s, c ≠ 47) hno (sL_no _))
  have hback : ∀ f ∈ s, moveF y (moveF x f) = f := fun f hf => by
    unfold moveF
    show (f.withP _) = f
    rw [hyp, hyt]
    have e : sL ((f.withP (paB (mvL (sL x.p) (toS x) (sL f.p)))).p) = mvL (sL x.p) (toS x) (sL f.p) := hseg f hf
    rw [e, mvL_back (hall f hf), paB_sL]
    rfl
  refine ⟨t.map (moveF y), .inl ⟨hy, ?_, ?_, rfl⟩, ?_⟩
  · obtain ⟨f, hf, hpf⟩ := hex
    refine ⟨moveF x f, (hp.mem_iff).2 (List.mem_map.2 ⟨f, hf, rfl⟩), ?_⟩
    rw [hyp, hseg f hf, mvL_pre (hall f hf)]
    exact hpf
  · intro g hg hng
    obtain ⟨f, hf, rfl⟩ := List.mem_map.1 ((hp.mem_iff).1 hg)
    rw [hyp, hseg f hf, mvL_pre (hall f hf)] at hng
    rw [hyt, hseg f hf, mvL_out hng]
    exact hng
  · refine (ofF_perm hs.rise ?_).symm
    refine (hp.map _).trans ?_
    rw [List.map_map]
    have : s.map (moveF y ∘ moveF x) = s := by
      conv => rhs; rw [← List.map_id s]
      exact List.map_congr_left fun f hf => hback f hf
    rw [this]
theorem pat_pre {l m : List Sg} (h : L4.patL m = true) (hl : l <+: m) : L4.patL l = true := by
  obtain ⟨r, rfl⟩ := hl
  rw [pat_of] at h ⊢
  refine ⟨fun i s hs => h.1 i s ?_, by have := h.2; rw [List.length_append] at this; omega⟩
  rw [List.getElem?_append_left (List.getElem?_eq_some_iff.1 hs).1]
  exact hs
theorem leaf_turn {x y : St} {f g : Fd} (hs : rightF f = true) (hf : f.p = leafP x) (h : LeafR x f g) (hy : y = turnSt x) : g.p = leafP y ∧ LeafR y g f ∧ 6 ≤ y.k := by
  subst hy
  rcases h with ⟨hk, h1, rfl⟩ | ⟨hk, h1, rfl⟩ | ⟨hk, h1, h2, rfl⟩ | ⟨hk, h1, rfl⟩ | ⟨hk, h1, h2, h3, rfl⟩
  · have e : turnSt x = { x with k := 7 } := by unfold turnSt; simp [hk]
    have e2 : f.p = x.p := by rw [hf]; unfold leafP; rw [if_neg (by omega)]
    rw [e]
    refine ⟨?_, .inr (.inl ⟨rfl, h1, ?_⟩), by simp⟩
    · show underB f.p = leafP _
      unfold leafP; rw [if_pos rfl, e2]
    · show f = (f.withP (underB f.p)).withP x.p
      rw [← e2]; rfl
  · have e : turnSt x = { x with k := 6 } := by unfold turnSt; simp [hk]
    have e2 : f.p = underB x.p := by rw [hf]; unfold leafP; rw [if_pos hk]
    rw [e]
    refine ⟨?_, .inl ⟨rfl, h1, ?_⟩, by simp⟩
    · show x.p = leafP _
      unfold leafP; rw [if_neg (by simp)]
    · show f = (f.withP x.p).withP (underB x.p)
      rw [← e2]; rfl
  · have e : turnSt x = { x with k := 9 } := by unfold turnSt; simp [hk]
    have e2 : f.p = x.p := by rw [hf]; unfold leafP; rw [if_neg (by omega)]
    rw [e]
    refine ⟨?_, .inr (.inr (.inr (.inl ⟨rfl, rfl, ?_⟩))), by simp⟩
    · show f.p = leafP _
      unfold leafP; rw [if_neg (by simp), e2]
    · show f = (f.withD 2 f.t .zero).withD 1 f.t x.d
      rw [← h2, ← h1]; rfl
  · have e : turnSt x = { x with k := 8 } := by unfold turnSt; simp [hk]
    have e2 : f.p = x.p := by rw [hf]; unfold leafP; rw [if_neg (by omega)]
    rw [e]
    refine ⟨?_, .inr (.inr (.inl ⟨rfl, rfl, rfl, ?_⟩)), by simp⟩
    · show f.p = leafP _
      unfold leafP; rw [if_neg (by simp), e2]
    · show f = (f.withD 1 f.t x.d).withD 2 f.t .zero
      rw [← set_zero hs h1, ← h1]; rfl
  · have e : turnSt x = { x with a := x.b, b := x.a, T := turnT x.T } := by unfold turnSt; simp [hk]
    have e2 : f.p = x.p := by rw [hf]; unfold leafP; rw [if_neg (by omega)]
    rw [e]
    refine ⟨?_, .inr (.inr (.inr (.inr ⟨hk, h1, rfl, ?_, ?_⟩))), by show 6 ≤ x.k; omega⟩
    · show f.p = leafP _
      unfold leafP; rw [if_neg (by show ¬ x.k = 7; omega), e2]
    · intro hr
      have hr1 : f.k = 1 := hr
      show wayT (turnT x.T) (applyT (turnT x.T) (defV (f.withD f.k x.b (if f.k = 1 then applyT x.T (defV f) else defV f)))) = defV (f.withD f.k x.b (if f.k = 1 then applyT x.T (defV f) else defV f))
      rw [if_pos hr1]
      show wayT (turnT x.T) (applyT (turnT x.T) (applyT x.T (defV f))) = applyT x.T (defV f)
      rw [(apply_turn x.T _).1, h3 hr1, (apply_turn x.T _).2]
    · by_cases hr1 : f.k = 1
      · show f = (f.withD f.k x.b (if f.k = 1 then applyT x.T (defV f) else defV f)).withD f.k x.a (if f.k = 1 then applyT (turnT x.T) (defV (f.withD f.k x.b (if f.k = 1 then applyT x.T (defV f) else defV f))) else _)
        rw [if_pos hr1, if_pos hr1]
        show f = (f.withD f.k x.b (applyT x.T (defV f))).withD f.k x.a (applyT (turnT x.T) (applyT x.T (defV f)))
        rw [(apply_turn x.T _).1, h3 hr1, ← h2]; rfl
      · show f = (f.withD f.k x.b (if f.k = 1 then applyT x.T (defV f) else defV f)).withD f.k x.a (if f.k = 1 then _ else defV (f.withD f.k x.b (if f.k = 1 then applyT x.T (defV f) else defV f)))
        rw [if_neg hr1, if_neg hr1, ← h2]; rfl
theorem St.ext' {x y : St} (h1 : x.k = y.k) (h2 : x.p = y.p) (h3 : x.nm = y.nm) (h4 : x.f = y.f) (h5 : x.d = y.d) (h6 : x.a = y.a) (h7 : x.b = y.b) (h8 : x.T = y.T) : x = y := by
  cases x; cases y; simp_all
structure MvT (x y : St) : Prop where
  mx : Mv x
  my : Mv y
  yp : sL y.p = toS x
  yt : toS y = sL x.p
  ne : toS x ≠ []
  no : ∀ s ∈ toS x, ∀ c ∈ s, c ≠ 47
  sh : L4.patL (toS x) = true → ShapeR y
theorem turn_ren {x : St} (hk : x.k = 1) (h : ShapeR x) : MvT x (turnSt x) ∧ turnSt (turnSt x) = x := by
  rcases h with ⟨_, h1, h2, h3, h4⟩ | ⟨h, _⟩ | ⟨h, _⟩ | ⟨h, _⟩ | ⟨h, _⟩ | ⟨h, _⟩
  rotate_left
  · omega
  · omega
  · omega
  · omega
  · omega
  obtain ⟨Q0, a, hQ⟩ := one_of (sL_ne x.p)
  have hno := toS_no (x := x) (seg_no h2)
  have htop : toS x = Q0 ++ [x.nm.data.toList] := by unfold toS; rw [hk, hQ]; exact top_ren _ _ _
  have hla : lastS (sL x.p) = a := by rw [hQ]; exact last_at _ _
  have hne : toS x ≠ [] := by rw [htop]; simp
  have hyp : sL (paB (toS x)) = toS x := sL_paB hne hno
  have e : turnSt x = { x with p := paB (toS x), nm := L4.ofL a } := by unfold turnSt; rw [if_pos hk, hla]
  have hpa : L4.segL a = true := by
    have := (pat_of.1 (by rw [patS_of] at h1; exact h1)).1 Q0.length a (by rw [hQ]; simp)
    rcases this with h | ⟨_, h⟩
    · exact h
    · rw [hla] at h3; exact absurd h h3
  have hyt : toS { x with p := paB (toS x), nm := L4.ofL a } = sL x.p := by
    show topL x.k (sL (paB (toS x))) a = _
    rw [hyp, htop, hk, top_ren, hQ]
  have d1 : lastS (sL (paB (toS x))) ≠ [42] := by
    rw [hyp, htop, last_at]
    intro h
    have : L4.segL x.nm.data.toList = true := h2
    rw [h, L4.segL_star] at this; cases this
  have d2 : lastS (sL (paB (toS x))) ≠ a := by
    rw [hyp, htop, last_at]
    rw [hla] at h4
    exact fun h => h4 h.symm
  refine ⟨by rw [e]; exact ⟨.inl hk, .inl hk, hyp, hyt, hne, hno, fun hp => .inl ⟨hk, by rw [patS_of]; show L4.patL (sL (paB (toS x))) = true; rw [hyp]; exact hp, hpa, d1, d2⟩⟩, ?_⟩
  · rw [e]
    unfold turnSt
    rw [if_pos (show (({ x with p := paB (toS x), nm := L4.ofL a } : St).k = 1) from hk)]
    refine St.ext' rfl ?_ ?_ rfl rfl rfl rfl rfl
    · show paB (toS { x with p := paB (toS x), nm := L4.ofL a }) = x.p
      rw [hyt, paB_sL]
    · show L4.ofL (lastS (sL (paB (toS x)))) = x.nm
      rw [hyp, htop, last_at]; rfl
theorem turn_plu {x : St} (hk : x.k = 3) (h : ShapeR x) : MvT x (turnSt x) ∧ turnSt (turnSt x) = x := by
  rcases h with ⟨h, _⟩ | ⟨h, _⟩ | ⟨_, h1, h2⟩ | ⟨h, _⟩ | ⟨h, _⟩ | ⟨h, _⟩
  case inr.inr.inl =>
    obtain ⟨Q0, a, hQ⟩ := one_of (sL_ne x.p)
    have hno := toS_no (x := x) (seg_no h2)
    have htop : toS x = Q0 ++ [x.nm.data.toList, a] := by unfold toS; rw [hk, hQ]; exact top_plu _ _ _
    have hne : toS x ≠ [] := by rw [htop]; simp
    have hyp : sL (paB (toS x)) = toS x := sL_paB hne hno
    have e : turnSt x = { x with k := 2, p := paB (toS x), nm := ⟨#[]⟩ } := by unfold turnSt; rw [if_neg (by omega), if_neg (by omega), if_pos hk]
    have hyt : toS { x with k := 2, p := paB (toS x), nm := ⟨#[]⟩ } = sL x.p := by
      show topL 2 (sL (paB (toS x))) _ = _
      rw [hyp, htop, top_hoi, hQ]
    have hlen : 2 ≤ (sL (paB (toS x))).length := by rw [hyp, htop]; simp
    have d1 : midS (sL (paB (toS x))) ≠ [42] := by
      rw [hyp, htop, mid_at]
      intro h
      have : L4.segL x.nm.data.toList = true := h2
      rw [h, L4.segL_star] at this; cases this
    refine ⟨by rw [e]; exact ⟨.inr (.inr hk), .inr (.inl rfl), hyp, hyt, hne, hno, fun hp => .inr (.inl ⟨rfl, by rw [patS_of]; show L4.patL (sL (paB (toS x))) = true; rw [hyp]; exact hp, hlen, d1⟩)⟩, ?_⟩
    · rw [e]
      unfold turnSt
      rw [if_neg (by simp), if_pos rfl, if_pos hlen]
      refine St.ext' hk.symm ?_ ?_ rfl rfl rfl rfl rfl
      · show paB (toS { x with k := 2, p := paB (toS x), nm := ⟨#[]⟩ }) = x.p
        rw [hyt, paB_sL]
      · show L4.ofL (midS (sL (paB (toS x)))) = x.nm
        rw [hyp, htop, mid_at]; rfl
  all_goals omega
theorem turn_hoi {x : St} (hk : x.k = 2) (h : ShapeR x) : MvT x (turnSt x) ∧ turnSt (turnSt x) = { x with nm := ⟨#[]⟩ } := by
  rcases h with ⟨h, _⟩ | ⟨_, h1, h2, h3⟩ | ⟨h, _⟩ | ⟨h, _⟩ | ⟨h, _⟩ | ⟨h, _⟩
  case inr.inl =>
    obtain ⟨Q0, m, a, hQ⟩ := two_of h2
    have hno := toS_no2 hk
    have htop : toS x = Q0 ++ [a] := by unfold toS; rw [hk, hQ]; exact top_hoi _ _ _ _
    have hne : toS x ≠ [] := by rw [htop]; simp
    have hmi : midS (sL x.p) = m := by rw [hQ]; exact mid_at _ _ _
    have hyp : sL (paB (toS x)) = toS x := sL_paB hne hno
    have e : turnSt x = { x with k := 3, p := paB (toS x), nm := L4.ofL m } := by unfold turnSt; rw [if_neg (by omega), if_pos hk, if_pos h2, hmi]
    have hpm : L4.segL m = true := by
      have := (pat_of.1 (by rw [patS_of] at h1; exact h1)).1 Q0.length m (by rw [hQ]; simp)
      rcases this with h | ⟨_, h⟩
      · exact h
      · rw [hmi] at h3; exact absurd h h3
    have hyt : toS { x with k := 3, p := paB (toS x), nm := L4.ofL m } = sL x.p := by
      show topL 3 (sL (paB (toS x))) m = _
      rw [hyp, htop, top_plu, hQ]
    refine ⟨by rw [e]; exact ⟨.inr (.inl hk), .inr (.inr rfl), hyp, hyt, hne, hno, fun hp => .inr (.inr (.inl ⟨rfl, by rw [patS_of]; show L4.patL (sL (paB (toS x))) = true; rw [hyp]; exact hp, hpm⟩))⟩, ?_⟩
    rw [e]
    unfold turnSt
    rw [if_neg (by simp), if_neg (by simp), if_pos rfl]
    refine St.ext' hk.symm ?_ rfl rfl rfl rfl rfl rfl
    show paB (toS { x with k := 3, p := paB (toS x), nm := L4.ofL m }) = x.p
    rw [hyt, paB_sL]
  all_goals omega
theorem check_mv {s t : List Fd} {x y : St} (h : CheckR s x t) (m : MvT x y) : CheckR t y s := by
  obtain ⟨h1, h2, ⟨N, hN, hM⟩, h4⟩ := h
  obtain ⟨N', k1, k2⟩ := mv_fields h2 h4 hN m.mx hM m.my m.yp m.yt m.ne m.no
  refine ⟨m.sh ?_, h4, ⟨N', k1, k2⟩, h2⟩
  rcases k1 with ⟨_, ⟨f, hf, hpf⟩, _⟩ | ⟨k, _⟩ | ⟨k, _⟩ | ⟨k, _⟩
  · rw [m.yp] at hpf
    exact pat_pre (by have := (rightF_of.1 (h4.ent f hf)).1; rw [patS_of] at this; exact this) hpf
  · exact absurd k (by rcases m.my with h | h | h <;> omega)
  · exact absurd k (by rcases m.my with h | h | h <;> omega)
  · exact absurd k (by rcases m.my with h | h | h <;> omega)
theorem check_nm {s t : List Fd} {x : St} (hk : x.k = 2) (h : CheckR s x t) : CheckR s { x with nm := ⟨#[]⟩ } t := by
  have e : toS { x with nm := ⟨#[]⟩ } = toS x := by unfold toS topL; simp [hk]
  have em : ∀ f, moveF { x with nm := ⟨#[]⟩ } f = moveF x f := fun f => by unfold moveF; rw [e]
  obtain ⟨h1, h2, ⟨N, hN, hM⟩, h4⟩ := h
  refine ⟨?_, h2, ⟨N, ?_, hM⟩, h4⟩
  · rcases h1 with ⟨h, _⟩ | ⟨_, k1, k2, k3⟩ | ⟨h, _⟩ | ⟨h, _⟩ | ⟨h, _⟩ | ⟨h, _⟩
    case inr.inl => exact .inr (.inl ⟨hk, k1, k2, k3⟩)
    all_goals omega
  · rcases hN with ⟨_, k1, k2, k3⟩ | ⟨h, _⟩ | ⟨h, _⟩ | ⟨h, _⟩
    · refine .inl ⟨.inr (.inl hk), k1, fun f hf hn => ?_, ?_⟩
      · rw [e]; exact k2 f hf hn
      · rw [k3]; exact List.map_congr_left fun f _ => (em f).symm
    all_goals omega
theorem step_back {s t : List Fd} {x : St} (h : CheckR s x t) : CheckR t (turnSt x) s ∧ CheckR s (turnSt (turnSt x)) t := by
  have h0 := h
  obtain ⟨h1, h2, ⟨N, hN, hM⟩, h4⟩ := h
  have hp : t.Perm N := by rw [hM]; exact ofF_mem_perm N
  rcases hN with ⟨hm, _⟩ | ⟨hk, rfl⟩ | ⟨hk, A, B, rfl, hA, rfl⟩ | ⟨hk, A, f, B, g, rfl, hA, hfp, hl, rfl⟩
  · rcases hm with hk | hk | hk
    · obtain ⟨m, e⟩ := turn_ren hk h1
      exact ⟨check_mv h0 m, by rw [e]; exact h0⟩
    · obtain ⟨m, e⟩ := turn_hoi hk h1
      exact ⟨check_mv h0 m, by rw [e]; exact check_nm hk h0⟩
    · obtain ⟨m, e⟩ := turn_plu hk h1
      exact ⟨check_mv h0 m, by rw [e]; exact h0⟩
  · have e : turnSt x = { x with k := 5 } := by unfold turnSt; simp [hk]
    have e2 : turnSt (turnSt x) = x := by rw [e]; unfold turnSt; simp; exact St.ext' hk.symm rfl rfl rfl rfl rfl rfl rfl
    have hr : rightF x.f = true := by
      rcases h1 with ⟨h, _⟩ | ⟨h, _⟩ | ⟨h, _⟩ | ⟨_, h⟩ | ⟨h, _⟩ | ⟨h, _⟩
      case inr.inr.inr.inl => exact h
      all_goals omega
    refine ⟨?_, by rw [e2]; exact h0⟩
    rw [e]
    obtain ⟨A, B, hAB, hA⟩ := split_at h4.rise (g := x.f) ((hp.mem_iff).2 (by simp))
    refine ⟨.inr (.inr (.inr (.inl ⟨.inr rfl, hr⟩))), h4, ⟨A ++ B, .inr (.inr (.inl ⟨rfl, A, B, hAB, hA, rfl⟩)), ?_⟩, h2⟩
    rw [hAB] at hp
    exact (ofF_perm h2.rise (by simpa using perm_out (C := s) (D := []) hp)).symm
  · have e : turnSt x = { x with k := 4 } := by unfold turnSt; simp [hk]
    have e2 : turnSt (turnSt x) = x := by rw [e]; unfold turnSt; simp; exact St.ext' hk.symm rfl rfl rfl rfl rfl rfl rfl
    refine ⟨?_, by rw [e2]; exact h0⟩
    rw [e]
    refine ⟨.inr (.inr (.inr (.inl ⟨.inl rfl, h2.ent _ (by simp)⟩))), h4, ⟨t ++ [x.f], .inr (.inl ⟨rfl, rfl⟩), ?_⟩, h2⟩
    refine (ofF_perm h2.rise ?_).symm
    refine (hp.append_right [x.f]).trans ?_
    rw [List.append_assoc]
    exact List.Perm.append_left A (List.perm_append_comm)
  · have hrf : rightF f = true := h2.ent f (by simp)
    obtain ⟨g1, g2, g3⟩ := leaf_turn hrf hfp hl rfl
    have e2 : turnSt (turnSt x) = x := by
      rcases hl with ⟨k, _⟩ | ⟨k, _⟩ | ⟨k, _⟩ | ⟨k, _⟩ | ⟨k, _⟩ <;> (unfold turnSt; simp [k]; try exact St.ext' (by simp [k]) rfl rfl rfl rfl rfl rfl (by simp [turn_turn]))
    have hsh : ShapeR (turnSt x) := by
      rcases h1 with ⟨k, _⟩ | ⟨k, _⟩ | ⟨k, _⟩ | ⟨k, _⟩ | ⟨k, hpat⟩ | ⟨k, hpat, hR⟩
      · omega
      · omega
      · omega
      · omega
      · rcases k with k | k | k | k
        · have : turnSt x = { x with k := 7 } := by unfold turnSt; simp [k]
          rw [this]; exact .inr (.inr (.inr (.inr (.inl ⟨.inr (.inl rfl), hpat⟩))))
        · have : turnSt x = { x with k := 6 } := by unfold turnSt; simp [k]
          rw [this]; exact .inr (.inr (.inr (.inr (.inl ⟨.inl rfl, hpat⟩))))
        · have : turnSt x = { x with k := 9 } := by unfold turnSt; simp [k]
          rw [this]; exact .inr (.inr (.inr (.inr (.inl ⟨.inr (.inr (.inr rfl)), hpat⟩))))
        · have : turnSt x = { x with k := 8 } := by unfold turnSt; simp [k]
          rw [this]; exact .inr (.inr (.inr (.inr (.inl ⟨.inr (.inr (.inl rfl)), hpat⟩))))
      · have : turnSt x = { x with a := x.b, b := x.a, T := turnT x.T } := by unfold turnSt; simp [k]
        rw [this]; exact .inr (.inr (.inr (.inr (.inr ⟨k, hpat, hR.turn⟩))))
    refine ⟨?_, by rw [e2]; exact h0⟩
    obtain ⟨A', B', hAB, hA'⟩ := split_at h4.rise (g := g) ((hp.mem_iff).2 (by simp))
    refine ⟨hsh, h4, ⟨A' ++ f :: B', .inr (.inr (.inr ⟨g3, A', g, B', f, hAB, ?_, g1, g2, rfl⟩)), ?_⟩, h2⟩
    · intro h hh; rw [← g1]; exact hA' h hh
    · rw [hAB] at hp
      have := perm_out hp
      refine (ofF_perm h2.rise ?_).symm
      exact (List.perm_middle.trans (this.cons f)).trans List.perm_middle.symm
end Go.Proofs.YtofnpifooaijcaaGreat
namespace Go.Proofs
open Go.Shelf
def Tryz.lays156_ren : Go.Shelf.Ren := ⟨fun | 156 => 146 | 165 => 159 | 166 => 121 | 169 => 123 | 240 => 149 | 241 => 170 | 276 => 160 | 277 => 179 | n => n, fun | 31 => 78 | 9 => 9 | 3 => 3 | 4 => 4 | 0 => 0 | 20 => 20 | 72 => 133 | 76 => 136 | 70 => 131 | 37 => 129 | 75 => 135 | 127 => 151 | 164 => 156 | 5 => 5 | 80 => 139 | n => n, fun | n => n⟩
theorem Tryz.lays156 : Go.Proofs.Lays.n156 Tryz.prog Tryz.lays156_ren := {
  mixed := by kernel_rfl
  f156 := Tryz.func146.trans (congrArg some (by kernel_rfl))
  f165 := Tryz.func159.trans (congrArg some (by kernel_rfl))
  f166 := Tryz.func121.trans (congrArg some (by kernel_rfl))
  f169 := Tryz.func123.trans (congrArg some (by kernel_rfl))
  f240 := Tryz.func149.trans (congrArg some (by kernel_rfl))
  f241 := Tryz.func170.trans (congrArg some (by kernel_rfl))
  f276 := Tryz.func160.trans (congrArg some (by kernel_rfl))
  f277 := Tryz.func179.trans (congrArg some (by kernel_rfl))
  t0 := Tryz.underlying0
  a0 := Tryz.isAgg0
  z0 := Tryz.sizeOf0
  v0 := Tryz.zeroValue0
  t3 := Tryz.underlying3
  a3 := Tryz.isAgg3
  z3 := Tryz.sizeOf3
  v3 := Tryz.zeroValue3
  t4 := Tryz.underlying4
  a4 := Tryz.isAgg4
  z4 := Tryz.sizeOf4
  v4 := Tryz.zeroValue4
  t9 := Tryz.underlying9
  a9 := Tryz.isAgg9
  z9 := Tryz.sizeOf9
  v9 := Tryz.zeroValue9
  t20 := Tryz.underlying20
  a20 := Tryz.isAgg20
  z20 := Tryz.sizeOf20
  v20 := Tryz.zeroValue20
  t31 := Tryz.underlying78
  a31 := Tryz.isAgg78
  z31 := Tryz.sizeOf78
  v31 := Tryz.zeroValue78
  t37 := Tryz.underlying129
  a37 := Tryz.isAgg129
  z37 := Tryz.sizeOf129
  v37 := Tryz.zeroValue129
  t70 := Tryz.underlying131
  a70 := Tryz.isAgg131
  z70 := Tryz.sizeOf131
  v70 := Tryz.zeroValue131
  t72 := Tryz.underlying133
  a72 := Tryz.isAgg133
  z72 := Tryz.sizeOf133
  v72 := Tryz.zeroValue133
  t75 := Tryz.underlying135
  a75 := Tryz.isAgg135
  z75 := Tryz.sizeOf135
  v75 := Tryz.zeroValue135
  t76 := Tryz.underlying136
  a76 := Tryz.isAgg136
  z76 := Tryz.sizeOf136
  v76 := Tryz.zeroValue136
  t127 := Tryz.underlying151
  a127 := Tryz.isAgg151
  z127 := Tryz.sizeOf151
  v127 := Tryz.zeroValue151
  t164 := Tryz.underlying156
  a164 := Tryz.isAgg156
  z164 := Tryz.sizeOf156
  v164 := Tryz.zeroValue156 }
theorem Tryz.Builder_Extra_156 : Builder.Extra Tryz.prog Tryz.lays156_ren := {
  sizeBuilder := by kernel_rfl
  liesBuilder := by kernel_rfl
  t5 := Tryz.underlying5
  a5 := Tryz.isAgg5
  z5 := Tryz.sizeOf5
  v5 := Tryz.zeroValue5
  infoByte := by kernel_rfl
  cellsByte := by kernel_rfl
  sizeByte := by kernel_rfl
  neB5 := by decide }
open Go.RowKit in
theorem Tryz.strings_Join_none (a : Option Addr) (c : Nat) (sep : ByteArray) (w : World) :
    Calls Tryz.prog 146 #[.slice a 0 c, .string sep] w fun e w' => e = .returned (.string ⟨#[]⟩) ∧ w' = w := Any.strings_Join_none Tryz.lays156 Tryz.Builder_Extra_156 a c sep w
open Go.RowKit in
theorem Tryz.strings_Join (bk o c : Nat) (xs : List ByteArray) (sep : ByteArray) (w : World) (hcells : ∀ (j : Nat) x, xs[j]? = some x → w.cell? ⟨bk, o + j, none⟩ = some (.string x)) (hbk : bk < w.heap.size) (hN : xs.length ≤ 140737488355328) (hcap : xs.length ≤ c) (hlen : (Lib.join (xs.map (·.data.toList)) sep.data.toList).length ≤ 140737488355328) :
    Calls Tryz.prog 146 #[.slice (some ⟨bk, o, none⟩) xs.length c, .string sep] w fun e w' => e = .returned (.string ⟨(Lib.join (xs.map (·.data.toList)) sep.data.toList).toArray⟩) ∧ Below w.heap.size w w' := Any.strings_Join Tryz.lays156 Tryz.Builder_Extra_156 bk o c xs sep w hcells hbk hN hcap hlen
def Tryz.lays138_ren : Go.Shelf.Ren := ⟨fun | 138 => 145 | 195 => 156 | 218 => 157 | 143 => 158 | 219 => 169 | 217 => 175 | 225 => 176 | 224 => 177 | 267 => 178 | 266 => 184 | 314 => 185 | n => n, fun | 9 => 9 | 3 => 3 | 4 => 4 | 5 => 5 | 0 => 0 | 46 => 128 | 146 => 167 | 51 => 166 | n => n, fun | 1 => 0 | n => n⟩
theorem Tryz.lays138 : Go.Proofs.Lays.n138 Tryz.prog Tryz.lays138_ren := {
  mixed := by kernel_rfl
  f138 := Tryz.func145.trans (congrArg some (by kernel_rfl))
  f143 := Tryz.func158.trans (congrArg some (by kernel_rfl))
  f195 := Tryz.func156.trans (congrArg some (by kernel_rfl))
  f217 := Tryz.func175.trans (congrArg some (by kernel_rfl))
  f218 := Tryz.func157.trans (congrArg some (by kernel_rfl))
  f219 := Tryz.func169.trans (congrArg some (by kernel_rfl))
  f224 := Tryz.func177.trans (congrArg some (by kernel_rfl))
  f225 := Tryz.func176.trans (congrArg some (by kernel_rfl))
  f266 := Tryz.func184.trans (congrArg some (by kernel_rfl))
  f267 := Tryz.func178.trans (congrArg some (by kernel_rfl))
  f314 := Tryz.func185.trans (congrArg some (by kernel_rfl))
  t0 := Tryz.underlying0
  a0 := Tryz.isAgg0
  z0 := Tryz.sizeOf0
  v0 := Tryz.zeroValue0
  t3 := Tryz.underlying3
  a3 := Tryz.isAgg3
  z3 := Tryz.sizeOf3
  v3 := Tryz.zeroValue3
  t4 := Tryz.underlying4
  a4 := Tryz.isAgg4
  z4 := Tryz.sizeOf4
  v4 := Tryz.zeroValue4
  t5 := Tryz.underlying5
  a5 := Tryz.isAgg5
  z5 := Tryz.sizeOf5
  v5 := Tryz.zeroValue5
  t9 := Tryz.underlying9
  a9 := Tryz.isAgg9
  z9 := Tryz.sizeOf9
  v9 := Tryz.zeroValue9
  t46 := Tryz.underlying128
  a46 := Tryz.isAgg128
  z46 := Tryz.sizeOf128
  v46 := Tryz.zeroValue128
  t51 := Tryz.underlying166
  a51 := Tryz.isAgg166
  z51 := Tryz.sizeOf166
  v51 := Tryz.zeroValue166
  t146 := Tryz.underlying167
  a146 := Tryz.isAgg167
  z146 := Tryz.sizeOf167
  v146 := Tryz.zeroValue167
  g1 := by kernel_rfl }
open Go.RowKit Go.Lib in
theorem Tryz.strings_Count_one (s : ByteArray) (c : UInt8) (w : World) :
    Calls Tryz.prog 145 #[.string s, .string ⟨#[c]⟩] w fun e w' => e = .returned (.int .i64 (Lib.countByte s.data.toList c)) ∧ w' = w := Any.strings_Count_one Tryz.lays138 s c w
end Go.Proofs
