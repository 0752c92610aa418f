/-
  What is proved: plain facts on what values become (P13.1 to P13.5, P13.9, P13.10): forth, back and forth is forth, and the other way round; what loses nothing has ways that are each other's opposite; what is not told to lose nothing loses something; no program is spoken of here.
  of worlds that have all that another one has, unchanged, and new blocks of whatever kind ('Kept'): cells and variables read on; a region that draws its order, whose callees leave such worlds and hand back values that hang on no world, is walked once, in the text's order; the row's last step for a call whose arguments lie in no memory.
  a region that draws its order, in which the calls wait for one another and all else only reads what no call changes, is walked in one order: its reading operations hold in every world of a class, its calls are carried out in the world at hand, one by one, and may hand back values that hang on the world.
  plain facts on dots (P5.2, P5.5, P5.6, P5.10): their order, lists that rise, and that such a list is told by what is in it; no program is spoken of here.
-/
import Derived.Test.YtjcnjmlgedmmoaaDoorM4
import Derived.Test.YtjcnjmlgedmmoaaDoorM1
import Derived.Sort.Grow
import Derived.ChangeSame
import Derived.OrdersHeld
import Derived.Deep.Quiet
import Derived.Test.YtjcnjmlgedmmoaaDoorM2
namespace Go.Proofs.YtjcnjmlgedmmoaaDoor
open Go.RowKit

/-- A value. -/
structure Va where
  k : Int
  n : Int
  t : ByteArray
deriving DecidableEq
def Va.zero : Va := ⟨0, 0, ⟨#[]⟩⟩
def rightVa (v : Va) : Bool := rightB v.k v.n v.t
/-- A pair: what stands on its left, and on its right. -/
structure Pa where
  f : Va
  t : Va
deriving DecidableEq
/-- A table. -/
structure Tb where
  L : List Pa
  keep : Bool
  d : Va
  b : Va
  tu : Bool
def fstF (L : List Pa) (v : Va) : Option Pa := L.find? fun p => decide (p.f = v)
def fstT (L : List Pa) (v : Va) : Option Pa := L.find? fun p => decide (p.t = v)
def forthT (T : Tb) (v : Va) : Va := match fstF T.L v with
  | some p => p.t
  | none => if T.keep then v else T.d
def backT (T : Tb) (v : Va) : Va := match fstT T.L v with
  | some p => p.f
  | none => if T.keep then v else T.b
/-- P13.1, P13.2, P13.3. -/
def applyT (T : Tb) (v : Va) : Va := if T.tu then backT T v else forthT T v
def wayT (T : Tb) (v : Va) : Va := if T.tu then forthT T v else backT T v
def turnT (T : Tb) : Tb := ⟨T.L, T.keep, T.d, T.b, !T.tu⟩
/-- P13.4, of one that is not turned. -/
structure RightU (T : Tb) (a b : Int) : Prop where
  ka : 1 ≤ a ∧ a ≤ 3
  kb : 1 ≤ b ∧ b ≤ 3
  few : T.L.length ≤ 8
  ok : ∀ p ∈ T.L, rightVa p.f = true ∧ rightVa p.t = true ∧ p.f.k = a ∧ p.t.k = b
  once : T.L.Pairwise fun p q => p.f ≠ q.f
  nk : T.keep = false → rightVa T.d = true ∧ T.d.k = b ∧ rightVa T.b = true ∧ T.b.k = a ∧ forthT T (backT T T.d) = T.d ∧ backT T (forthT T T.b) = T.b
  kp : T.keep = true → a = b ∧ T.d = .zero ∧ T.b = .zero ∧ ∀ p ∈ T.L, fstT T.L p.f = none → backT T p.t = p.f
def RightT (T : Tb) (a b : Int) : Prop := if T.tu then RightU T b a else RightU T a b
/-- P13.5. -/
def noV : Va := ⟨3, 0, ⟨#[]⟩⟩
def yesV : Va := ⟨3, 1, ⟨#[]⟩⟩
def LossT (T : Tb) (a b : Int) : Prop := RightT T a b ∧
  (T.keep = true → (∀ p ∈ T.L, ∃ q ∈ T.L, q.f = p.t) ∧ T.L.Pairwise fun p q => p.t ≠ q.t) ∧
  (T.keep = false → a = 3 ∧ b = 3 ∧ applyT T noV ≠ applyT T yesV ∧ wayT T (applyT T noV) = noV ∧ wayT T (applyT T yesV) = yesV)

theorem fstF_some {L : List Pa} {v : Va} {p : Pa} (h : fstF L v = some p) : p ∈ L ∧ p.f = v := by
  unfold fstF at h
  exact ⟨List.mem_of_find?_eq_some h, by simpa using List.find?_some h⟩
theorem fstT_some {L : List Pa} {v : Va} {p : Pa} (h : fstT L v = some p) : p ∈ L ∧ p.t = v := by
  unfold fstT at h
  exact ⟨List.mem_of_find?_eq_some h, by simpa using List.find?_some h⟩
theorem fstF_none {L : List Pa} {v : Va} : fstF L v = none ↔ ∀ p ∈ L, p.f ≠ v := by
  unfold fstF
  rw [List.find?_eq_none]
  simp
theorem fstT_none {L : List Pa} {v : Va} : fstT L v = none ↔ ∀ p ∈ L, p.t ≠ v := by
  unfold fstT
  rw [List.find?_eq_none]
  simp
/-- Of lefts that stand once each, a pair is the first with its left. -/
theorem fstF_mem {L : List Pa} (h : L.Pairwise fun p q => p.f ≠ q.f) {p : Pa} (hp : p ∈ L) : fstF L p.f = some p := by
  induction L with
  | nil => cases hp
  | cons x L ih =>
    obtain ⟨h1, h2⟩ := List.pairwise_cons.1 h
    unfold fstF
    rw [List.find?_cons]
    by_cases e : x.f = p.f
    · rcases List.mem_cons.1 hp with e2 | e2
      · subst e2; simp
      · exact absurd e (h1 p e2)
    · rw [decide_eq_false e]
      rcases List.mem_cons.1 hp with e2 | e2
      · exact absurd (by rw [e2]) e
      · exact ih h2 e2
theorem fstT_mem {L : List Pa} (h : L.Pairwise fun p q => p.t ≠ q.t) {p : Pa} (hp : p ∈ L) : fstT L p.t = some p := by
  induction L with
  | nil => cases hp
  | cons x L ih =>
    obtain ⟨h1, h2⟩ := List.pairwise_cons.1 h
    unfold fstT
    rw [List.find?_cons]
    by_cases e : x.t = p.t
    · rcases List.mem_cons.1 hp with e2 | e2
      · subst e2; simp
      · exact absurd e (h1 p e2)
    · rw [decide_eq_false e]
      rcases List.mem_cons.1 hp with e2 | e2
      · exact absurd (by rw [e2]) e
      · exact ih h2 e2
theorem forth_left {T : Tb} (h : T.L.Pairwise fun p q => p.f ≠ q.f) {p : Pa} (hp : p ∈ T.L) : forthT T p.f = p.t := by
  unfold forthT; rw [fstF_mem h hp]
theorem forth_not {T : Tb} {v : Va} (h : ∀ p ∈ T.L, p.f ≠ v) : forthT T v = if T.keep then v else T.d := by
  unfold forthT; rw [fstF_none.2 h]
theorem back_not {T : Tb} {v : Va} (h : ∀ p ∈ T.L, p.t ≠ v) : backT T v = if T.keep then v else T.b := by
  unfold backT; rw [fstT_none.2 h]
/-- What a right value comes back to. -/
theorem back_at {T : Tb} {v : Va} (h : ∃ p ∈ T.L, p.t = v) : ∃ q ∈ T.L, q.t = v ∧ backT T v = q.f := by
  cases hq : fstT T.L v with
  | none => obtain ⟨p, hp, e⟩ := h; exact absurd e (fstT_none.1 hq p hp)
  | some q => exact ⟨q, (fstT_some hq).1, (fstT_some hq).2, by unfold backT; rw [hq]⟩
/-- P13.9: forth, back and forth is forth. -/
theorem RightU.thrice {T : Tb} {a b : Int} (h : RightU T a b) (v : Va) : forthT T (backT T (forthT T v)) = forthT T v := by
  by_cases hl : ∃ p ∈ T.L, p.f = v
  · obtain ⟨p, hp, rfl⟩ := hl
    rw [forth_left h.once hp]
    obtain ⟨q, hq, e1, e2⟩ := back_at ⟨p, hp, rfl⟩
    rw [e2, forth_left h.once hq, e1]
  · have hn : ∀ p ∈ T.L, p.f ≠ v := fun p hp e => hl ⟨p, hp, e⟩
    cases hk : T.keep with
    | false =>
      have e : forthT T v = T.d := by rw [forth_not hn, hk]; rfl
      rw [e]
      exact (h.nk hk).2.2.2.2.1
    | true =>
      have e : forthT T v = v := by rw [forth_not hn, hk]; rfl
      rw [e]
      by_cases hr : ∃ p ∈ T.L, p.t = v
      · obtain ⟨q, hq, e1, e2⟩ := back_at hr
        rw [e2, forth_left h.once hq, e1]
      · have e3 : backT T v = v := by rw [back_not fun p hp e => hr ⟨p, hp, e⟩, hk]; rfl
        rw [e3, e]
/-- P13.9: back, forth and back is back. -/
theorem RightU.back3 {T : Tb} {a b : Int} (h : RightU T a b) (v : Va) : backT T (forthT T (backT T v)) = backT T v := by
  by_cases hr : ∃ p ∈ T.L, p.t = v
  · obtain ⟨q, hq, e1, e2⟩ := back_at hr
    rw [e2, forth_left h.once hq, e1, e2]
  · have hn : ∀ p ∈ T.L, p.t ≠ v := fun p hp e => hr ⟨p, hp, e⟩
    cases hk : T.keep with
    | false =>
      have e : backT T v = T.b := by rw [back_not hn, hk]; rfl
      rw [e]
      exact (h.nk hk).2.2.2.2.2
    | true =>
      have e : backT T v = v := by rw [back_not hn, hk]; rfl
      rw [e]
      by_cases hl : ∃ p ∈ T.L, p.f = v
      · obtain ⟨p, hp, rfl⟩ := hl
        rw [forth_left h.once hp]
        exact (h.kp hk).2.2.2 p hp (fstT_none.2 hn)
      · have e3 : forthT T v = v := by rw [forth_not fun p hp e => hl ⟨p, hp, e⟩, hk]; rfl
        rw [e3, e]
/-- What comes has the other kind, and is right. -/
theorem RightU.forth {T : Tb} {a b : Int} (h : RightU T a b) {v : Va} (hv : rightVa v = true) (hk : v.k = a) : rightVa (forthT T v) = true ∧ (forthT T v).k = b := by
  unfold forthT
  split
  · rename_i p hp
    have := h.ok p (fstF_some hp).1
    exact ⟨this.2.1, this.2.2.2⟩
  · cases hkp : T.keep with
    | true => exact ⟨hv, hk.trans (h.kp hkp).1⟩
    | false => exact ⟨(h.nk hkp).1, (h.nk hkp).2.1⟩
theorem RightU.back {T : Tb} {a b : Int} (h : RightU T a b) {v : Va} (hv : rightVa v = true) (hk : v.k = b) : rightVa (backT T v) = true ∧ (backT T v).k = a := by
  unfold backT
  split
  · rename_i p hp
    have := h.ok p (fstT_some hp).1
    exact ⟨this.1, this.2.2.1⟩
  · cases hkp : T.keep with
    | true => exact ⟨hv, hk.trans (h.kp hkp).1.symm⟩
    | false => exact ⟨(h.nk hkp).2.2.1, (h.nk hkp).2.2.2.1⟩
theorem RightT.turn {T : Tb} {a b : Int} (h : RightT T a b) : RightT (turnT T) b a := by
  have e1 : ∀ v, forthT (turnT T) v = forthT T v := fun v => rfl
  have e2 : ∀ v, backT (turnT T) v = backT T v := fun v => rfl
  unfold RightT at h ⊢
  cases hu : T.tu with
  | true =>
    rw [hu, if_pos rfl] at h
    rw [show (turnT T).tu = false by simp [turnT, hu], if_neg (by simp)]
    exact ⟨h.ka, h.kb, h.few, h.ok, h.once, h.nk, h.kp⟩
  | false =>
    rw [hu, if_neg (by simp)] at h
    rw [show (turnT T).tu = true by simp [turnT, hu], if_pos rfl]
    exact ⟨h.ka, h.kb, h.few, h.ok, h.once, h.nk, h.kp⟩
theorem turn_turn (T : Tb) : turnT (turnT T) = T := by
  cases T; simp [turnT]
theorem apply_turn (T : Tb) (v : Va) : applyT (turnT T) v = wayT T v ∧ wayT (turnT T) v = applyT T v := by
  unfold applyT wayT turnT
  cases T.tu <;> exact ⟨rfl, rfl⟩
theorem RightT.thrice {T : Tb} {a b : Int} (h : RightT T a b) (v : Va) : applyT T (wayT T (applyT T v)) = applyT T v := by
  unfold RightT at h
  unfold applyT wayT
  cases hu : T.tu with
  | true => rw [hu, if_pos rfl] at h; simpa using h.back3 v
  | false => rw [hu, if_neg (by simp)] at h; simpa using h.thrice v
theorem RightT.back3 {T : Tb} {a b : Int} (h : RightT T a b) (v : Va) : wayT T (applyT T (wayT T v)) = wayT T v := by
  have := h.turn.thrice v
  rwa [(apply_turn T v).1, (apply_turn T _).2, (apply_turn T _).1] at this
theorem RightT.apply {T : Tb} {a b : Int} (h : RightT T a b) {v : Va} (hv : rightVa v = true) (hk : v.k = a) : rightVa (applyT T v) = true ∧ (applyT T v).k = b := by
  unfold RightT at h
  unfold applyT
  cases hu : T.tu with
  | true => rw [hu, if_pos rfl] at h; simpa using h.back hv hk
  | false => rw [hu, if_neg (by simp)] at h; simpa using h.forth hv hk
theorem RightT.way {T : Tb} {a b : Int} (h : RightT T a b) {v : Va} (hv : rightVa v = true) (hk : v.k = b) : rightVa (wayT T v) = true ∧ (wayT T v).k = a := by
  have := h.turn.apply hv hk
  rwa [(apply_turn T v).1] at this
end Go.Proofs.YtjcnjmlgedmmoaaDoor

namespace Go.Proofs.YtjcnjmlgedmmoaaDoor
open Go.RowKit Go.WideShapes Go.ChangeShapes

def Kept (W w : World) : Prop := W.keptBut w (fun _ => False) ∧ (∀ a : Addr, a.block < W.heap.size → w.frozen? a = W.frozen? a) ∧ W.heap.size ≤ w.heap.size
theorem Kept.refl (W : World) : Kept W W := ⟨World.keptBut_refl _ _, fun _ _ => rfl, Nat.le_refl _⟩
theorem Kept.trans {a b c : World} (h1 : Kept a b) (h2 : Kept b c) : Kept a c :=
  ⟨World.keptBut_trans h1.1 h2.1, fun x hx => (h2.2.1 x (Nat.lt_of_lt_of_le hx h1.2.2)).trans (h1.2.1 x hx), Nat.le_trans h1.2.2 h2.2.2⟩
theorem kept_of {a b : World} (h : Grown a b) : Kept a b := ⟨h.1, fun x _ => h.2.1 x, h.2.2⟩
theorem Kept.alloc {W w : World} (h : Kept W w) (c : Array Value) (t : TypeId) : Kept W (w.alloc (.cells c t)) := h.trans (kept_of ((Grown.refl _).alloc _ _))
theorem Kept.drew {W w : World} (h : Kept W w) : Kept W w.drew := h
theorem Kept.frame {W w : World} (h : Kept W w) (may : MemPlace → Prop) : W.keptBut w may := World.keptBut_mono (fun _ f => f.elim) h.1
theorem Kept.cell {w w1 : World} (hg : Kept w w1) {b o : Nat} {v : Value} (hc : w.cell? ⟨b, o, none⟩ = some v) : w1.cell? ⟨b, o, none⟩ = some v := by
  rw [hg.1.cell (World.block_lt_of_cell? w _ hc) (by simp)]
  exact hc
theorem Kept.box {w w1 : World} {c : Array Value} {t : TypeId} (hg : Kept (w.alloc (.cells c t)) w1) (i : Nat) (v : Value) (hv : c[i]? = some v) : w1.cell? ⟨w.heap.size, i, none⟩ = some v := by
  rw [hg.1.cell (by simp) (by simp), World.cell?_alloc_new]
  exact hv
theorem kept_grow (w : World) (k : Nat) (os : Array Obj) : Kept w (Sort.grow (w.drewN k) os) := by
  refine ⟨⟨rfl, rfl, fun i hi => ?_⟩, fun a ha => Sort.frozen?_grow (w.drewN k) os a ha, by rw [Sort.size_grow]; exact Nat.le_add_right _ _⟩
  have e : (Sort.grow (w.drewN k) os).heap[i]? = w.heap[i]? := Sort.heap_grow_old (w.drewN k) os hi
  have := (World.keptBut_refl w (fun _ => False)).2.2 i hi
  rw [e]
  exact this

theorem Kept.var {P : Program} {w w' : World} {n : String} {cs : Array Value} (h : w.var? P n = some cs) (hg : Kept w w') : w'.var? P n = some cs := by
  unfold World.var? at h ⊢
  cases hn : P.globalNamed n with
  | none => rw [hn] at h; cases h
  | some g =>
    rw [hn] at h
    simp only [Option.bind_some] at h ⊢
    have hlt : g < w.heap.size := by
      rcases Nat.lt_or_ge g w.heap.size with h' | h'
      · exact h'
      · rw [Array.getElem?_eq_none h'] at h; cases h
    have hk := hg.1.2.2 g hlt
    cases h1 : w.heap[g]? with
    | none => rw [h1] at h; cases h
    | some o =>
      rw [h1] at h hk
      cases o with
      | cells c t fr =>
        simp only [Option.some.injEq] at h
        subst h
        cases h2 : w'.heap[g]? with
        | none => rw [h2] at hk; simp at hk
        | some o' =>
          rw [h2] at hk
          cases o' with
          | cells c' t' fr' =>
            obtain ⟨_, _, hs, hc⟩ := hk
            simp only [Option.some.injEq]
            apply Array.ext hs
            intro i h3 h4
            have := hc i (fun f => f)
            rw [Array.getElem?_eq_getElem h3, Array.getElem?_eq_getElem h4] at this
            exact Option.some.inj this
          | _ => simp at hk
      | _ => simp at h

/-- A world that has all that W has, unchanged. -/
structure KExt (W : World) where
  w : World
  g : Kept W w
instance (W : World) : Nonempty (KExt W) := ⟨⟨W, Kept.refl W⟩⟩
theorem KExt.cell {W : World} {b o : Nat} {v : Value} (hc : W.cell? ⟨b, o, none⟩ = some v) (g : KExt W) : g.w.cell? ⟨b, o, none⟩ = some v := g.g.cell hc

theorem region_kept {P : Program} (W : World) {id : Nat} {Q : Exit → Act → World → Prop} {a : Act} {w : World} {l : List Oper} (hm : P.follows .mixedOrders = true) (hB : Region.lexB .any l.toArray = true) (h0 : Kept W w)
    (h : wpQuiet P l.toArray (fun w' => ∃ g : KExt W, w' = g.w) (fun a' => ∀ g : KExt W, Q .normal a' g.w) l a) : (Code.region id l.toArray true).wp P Q a w := by
  refine wp_region_quiet (C := fun w' => ∃ g : KExt W, w' = g.w) hm hB ⟨⟨w.drew, h0⟩, rfl⟩ ?_
  have e : (fun a' => ∀ w', (∃ g : KExt W, w' = g.w) → Q .normal a' w') = (fun a' => ∀ g : KExt W, Q .normal a' g.w) := by
    funext a'
    exact propext ⟨fun h g => h _ ⟨g, rfl⟩, fun h w' ⟨g, hg⟩ => hg ▸ h g⟩
  rw [e, List.toList_toArray]
  exact h
theorem KExt.calls {P : Program} {f : FuncId} {args : Array Value} {W : World} {g : KExt W} {v : Value} (h : Calls P f args g.w fun e w' => e = .returned v ∧ Grown g.w w') :
    Calls P f args g.w fun e w' => e = .returned v ∧ ∃ g' : KExt W, w' = g'.w :=
  h.mono fun _ _ ⟨he, hg⟩ => ⟨he, ⟨_, g.g.trans (kept_of hg)⟩, rfl⟩
theorem KExt.callsK {P : Program} {f : FuncId} {args : Array Value} {W : World} {g : KExt W} {v : Value} (h : Calls P f args g.w fun e w' => e = .returned v ∧ Kept g.w w') :
    Calls P f args g.w fun e w' => e = .returned v ∧ ∃ g' : KExt W, w' = g'.w :=
  h.mono fun _ _ ⟨he, hg⟩ => ⟨he, ⟨_, g.g.trans hg⟩, rfl⟩
theorem KExt.same {P : Program} {f : FuncId} {args : Array Value} {W : World} {g : KExt W} {v : Value} (h : Calls P f args g.w fun e w' => e = .returned v ∧ g.w = w') :
    Calls P f args g.w fun e w' => e = .returned v ∧ ∃ g' : KExt W, w' = g'.w :=
  h.mono fun _ _ ⟨he, hw⟩ => ⟨he, g, hw.symm⟩

/-- The row's last step: the arguments lie in no memory, no variable is told of. -/
theorem post_kept {H : Type} {enc : TypeId × Value → H} {P : Program} {f : Func} {s : ChangeSpec} {apart fresh handsOn again : Bool} {W W' : World} {args : Array Value} {v : Value} {ds gs : List (DataW H)}
    (hW : DataW.Whole enc P f.params.toList s.vars apart W args.toList ds gs [])
    (hres : ∀ (b : Nat) (sp : Nat → Bool) (hd : Bool), DataW.TrodAll enc P W' b sp hd f.resultTypes.toList (v.resultList f.resultTypes.size) (s.fn H (ds ++ gs)).results [])
    (hargs : ∀ sp : Nat → Bool, DataW.TrodAll enc P W' 0 sp true f.params.toList args.toList (s.fn H (ds ++ gs)).args [])
    (hvars : ∀ sp : Nat → Bool, DataW.TrodVars enc P W' sp s.vars (s.fn H (ds ++ gs)).vars [])
    (hk : Kept W W')
    (hok : ∀ (j : Nat) (t : TypeId) (r : Value), f.resultTypes[j]? = some t → (v.resultList f.resultTypes.size)[j]? = some r → Value.okWide P W' .any 0 t r) :
    s.post enc P f apart fresh handsOn again W args v W' := by
  refine ⟨ds, gs, [], [], [], [], hW, hres _ _ _, hargs _, hvars _, hk.frame _, fun _ => ?_⟩
  exact ⟨hok, _, _, [] ++ [] ++ [], ⟨[] ++ [], [], trodAll_append (hargs _) (hres _ _ _), hvars _, rfl, fun b off hp => by simp at hp, fun _ => by simp⟩, fun p hp _ => by simp at hp⟩
end Go.Proofs.YtjcnjmlgedmmoaaDoor

namespace Go.Proofs.YtjcnjmlgedmmoaaDoor
open Go.RowKit

def soloQ (K : Act → World → Prop) : Exit → Act → World → Prop
  | .normal, a, w => K a w
  | _, _, _ => False
theorem soloQ_mk {K : Act → World → Prop} {a : Act} {w : World} (h : K a w) : soloQ K .normal a w := h
theorem wp_of_solo {P : Program} {o : Oper} {a : Act} {w : World} {K K' : Act → World → Prop} {Q : Exit → Act → World → Prop} (h : o.wp P a w K (soloQ K')) : o.wp P a w K Q := by
  unfold Oper.wp at *
  generalize (execOp a.eval o).run P w = r at *
  cases r with
  | ok n w' =>
    cases n <;> simp only [Oper.upon] at h ⊢ <;>
      first
        | exact h
        | exact Calls.mono h (fun e w'' he => by
            cases e with
            | returned v => exact he
            | panicked c => exact (he : False).elim
            | outgrown => obtain ⟨_, _, hf⟩ := he; exact (hf : False).elim)
  | halt x w' =>
    cases x <;> simp only [Oper.upon] at h ⊢
    case panic v => exact (h : False).elim

/-- Operations that yield a value, and enter no function. -/
def plainOp : Op → Bool
  | .move _ | .assign _ | .pick _ _ _ | .build _ _ | .load _ _ | .binOp _ _ _ _ _ | .unOp _ _ _ | .extract _ _ | .fieldAddr _ _ _ | .indexAddr _ _ _ | .slice _ _ _ _ _ | .convert _ _ _ | .index _ _ _ | .field _ _ _ => true
  | .call { callee := .builtin .len, .. } => true
  | _ => false

theorem run_bind_value {P : Program} {s : Sem Value} {w w' : World} {n : Next} (h : (do pure (Next.value (← s)) : Sem Next).run P w = .ok n w') : ∃ u, n = .value u := by
  rw [Sem.run_bind] at h
  cases hs : s.run P w with
  | ok v w1 =>
    rw [hs] at h
    simp only [Result.andThen, Sem.run_pure] at h
    cases h; exact ⟨_, rfl⟩
  | halt x w1 => rw [hs] at h; simp only [Result.andThen] at h; cases h
theorem plain_value {P : Program} {o : Oper} {ev : Operand → Value} {w w' : World} {n : Next} (hp : plainOp o.op = true) (h : (execOp ev o).run P w = .ok n w') : ∃ u, n = .value u := by
  unfold execOp at h
  cases ho : o.op with
  | move x => rw [ho] at h; cases h; exact ⟨_, rfl⟩
  | assign x => rw [ho] at h; cases h; exact ⟨_, rfl⟩
  | pick c a b =>
    rw [ho] at h
    simp only [Sem.run_bind] at h
    cases hs : (asBool (ev c)).run P w with
    | ok v w1 => rw [hs] at h; simp only [Result.andThen, Sem.run_pure] at h; cases h; exact ⟨_, rfl⟩
    | halt x w1 => rw [hs] at h; simp only [Result.andThen] at h; cases h
  | build t p => rw [ho] at h; exact run_bind_value h
  | load t x => rw [ho] at h; exact run_bind_value h
  | binOp a b c d e => rw [ho] at h; exact run_bind_value h
  | unOp a b c => rw [ho] at h; exact run_bind_value h
  | extract a b => rw [ho] at h; exact run_bind_value h
  | fieldAddr a b c => rw [ho] at h; exact run_bind_value h
  | indexAddr a b c => rw [ho] at h; exact run_bind_value h
  | slice a b c d e => rw [ho] at h; exact run_bind_value h
  | convert a b c => rw [ho] at h; exact run_bind_value h
  | index a b c => rw [ho] at h; exact run_bind_value h
  | field a b c => rw [ho] at h; exact run_bind_value h
  | call c =>
    rw [ho] at h hp
    obtain ⟨callee, args, argTypes⟩ := c
    cases callee with
    | builtin b =>
      cases b <;> simp only [plainOp, Bool.false_eq_true] at hp
      simp only [resolve, invoke, builtin, Sem.run_bind, Sem.run_pure, Result.andThen] at h
      cases hs : (Builtin.len_ argTypes o.type (args.map ev)).run P w with
      | ok v w1 => rw [hs] at h; cases h; exact ⟨_, rfl⟩
      | halt x w1 => rw [hs] at h; cases h
    | _ => simp [plainOp] at hp
  | _ => rw [ho] at hp; simp [plainOp] at hp

section
variable {P : Program} {ops : Array Oper} {Q : Exit → Act → World → Prop} {C : World → Prop}

def consO : Option Oper → List Oper → List Oper
  | some o, r => o :: r
  | none, r => r
theorem consO_some (o : Oper) (r : List Oper) : consO (some o) r = o :: r := rfl
def pickOps (L : List Oper) : List Nat → List Oper
  | [] => []
  | i :: r => consO L[i]? (pickOps L r)
theorem pickOps_nil (L : List Oper) : pickOps L [] = [] := rfl
theorem pickOps_cons (L : List Oper) (i : Nat) (r : List Nat) : pickOps L (i :: r) = consO L[i]? (pickOps L r) := rfl
def okAt (ops : Array Oper) (listed : Array Bool) (i : Nat) : Bool := (Region.ready .any ops listed).contains i && (Region.free .any ops listed i && match ops[i]? with | some o => plainOp o.op | none => false)
def quietB (ops : Array Oper) : List Nat → Array Bool → Option (Array Bool)
  | [], listed => some listed
  | i :: r, listed => if okAt ops listed i = true then quietB ops r (listed.setIfInBounds i true) else none
def mixB (ops : Array Oper) : List (List Nat × Option Nat) → Array Bool → Bool
  | [], listed => (Region.ready .any ops listed).isEmpty
  | (l, x) :: r, listed => match quietB ops l listed with
    | none => false
    | some y => match x with
      | none => mixB ops r y
      | some i => Region.ready .any ops y == [i] && (ops[i]?).isSome && mixB ops r (y.setIfInBounds i true)
def mixN : List (List Nat × Option Nat) → Nat
  | [] => 0
  | (l, none) :: r => mixN r + l.length
  | (l, some _) :: r => mixN r + 1 + l.length

/-- The walk: a part that only reads, then a call. -/
def wpMix (P : Program) (ops : Array Oper) (C : World → Prop) (Q : Exit → Act → World → Prop) : List (List Nat × Option Nat) → Act → World → Prop
  | [], a, w => Q .normal a w
  | (l, none) :: r, a, w => wpQuiet P ops C (fun a' => wpMix P ops C Q r a' w) (pickOps ops.toList l) a
  | (l, some i) :: r, a, w => wpQuiet P ops C (fun a' => wpList P ops (soloQ fun a'' w'' => C w'' ∧ wpMix P ops C Q r a'' w'') (pickOps ops.toList [i]) a' w) (pickOps ops.toList l) a

theorem quiet_any (hs : Region.noSelect ops = true) (hQ : ∀ c d v a w, Q (.panic c) (Act.put a d v) w → Q (.panic c) a w) : ∀ (l : List Nat) (listed y : Array Bool) (fuel : Nat) (a : Act) (w : World) (K : Act → Prop),
    quietB ops l listed = some y → C w → wpQuiet P ops C K (pickOps ops.toList l) a → (∀ a', K a' → wpAnyH P .any ops Q C fuel y a' w) → wpAnyH P .any ops Q C (fuel + l.length) listed a w
  | [], listed, y, fuel, a, w, K, hB, hC, h, hK => by
    simp only [quietB, Option.some.injEq] at hB
    subst hB
    exact hK _ h
  | i :: r, listed, y, fuel, a, w, K, hB, hC, h, hK => by
    simp only [quietB] at hB
    split at hB
    · rename_i hc
      unfold okAt at hc
      rw [Bool.and_eq_true, Bool.and_eq_true] at hc
      obtain ⟨hr, hf, hp⟩ := hc
      cases ho : ops[i]? with
      | none => rw [ho] at hp; simp at hp
      | some o =>
        rw [ho] at hp
        have e : pickOps ops.toList (i :: r) = o :: pickOps ops.toList r := by
          rw [pickOps_cons, show ops.toList[i]? = some o by rw [Array.getElem?_toList]; exact ho, consO_some]
        rw [e] at h
        simp only [wpQuiet] at h
        have go : ∀ v, YieldsIf P ops C o v a → wpQuiet P ops C K (pickOps ops.toList r) (a.put o.dst v) → wpAnyH P .any ops Q C (fuel + (i :: r).length) listed a w := fun v hy hn =>
          wpAnyH_take (fuel := fuel + r.length) ho hs hf hr (fun c a w h => hQ c _ _ _ w h) hy hC (quiet_any hs hQ r _ y fuel _ w K hB hC hn hK)
        by_cases hw : Region.wanted o (yielded ops a.tmps) = true
        · rw [if_pos hw] at h
          obtain ⟨v, hv, hn⟩ := h
          refine go v (.inl ⟨hw, fun w' hC' => ?_⟩) hn
          have h3 := hv w' hC'
          unfold Oper.quietAt at h3
          cases hx : (execOp a.eval o).run P w' with
          | halt x w1 => rw [hx] at h3; exact (h3 : False).elim
          | ok n w1 =>
            obtain ⟨u, rfl⟩ := plain_value hp hx
            rw [hx] at h3
            obtain ⟨rfl, rfl⟩ := h3
            rfl
        · rw [if_neg hw] at h
          exact go undef (.inr ⟨by simpa using hw, rfl⟩) h
    · cases hB

theorem mix_any (hs : Region.noSelect ops = true) (hQ : ∀ c d v a w, Q (.panic c) (Act.put a d v) w → Q (.panic c) a w) : ∀ (S : List (List Nat × Option Nat)) (listed : Array Bool) (a : Act) (w : World),
    mixB ops S listed = true → C w → wpMix P ops C Q S a w → wpAnyH P .any ops Q C (mixN S) listed a w
  | [], listed, a, w, hB, hC, h => by
    simp only [mixB, List.isEmpty_iff] at hB
    exact wpAnyH_done hB h _
  | (l, x) :: r, listed, a, w, hB, hC, h => by
    simp only [mixB] at hB
    cases hq : quietB ops l listed with
    | none => rw [hq] at hB; simp at hB
    | some y =>
      rw [hq] at hB
      cases x with
      | none => exact quiet_any hs hQ l listed y (mixN r) a w _ hq hC h fun a' h' => mix_any hs hQ r y a' w hB hC h'
      | some i =>
        simp only [Bool.and_eq_true, beq_iff_eq] at hB
        obtain ⟨⟨hr, hi⟩, hB⟩ := hB
        obtain ⟨o, ho⟩ := Option.isSome_iff_exists.1 hi
        refine quiet_any hs hQ l listed y (mixN r + 1) a w _ hq hC h fun a' h' => ?_
        have e : pickOps ops.toList [i] = [o] := by
          rw [pickOps_cons, show ops.toList[i]? = some o by rw [Array.getElem?_toList]; exact ho, consO_some, pickOps_nil]
        rw [e] at h'
        refine wpAnyH_all hr (by simp) fun j hj => ?_
        obtain rfl : j = i := by simpa using hj
        unfold wpOp
        simp only [ho]
        simp only [wpList] at h'
        by_cases hw : Region.wanted o (yielded ops a'.tmps) = true
        · rw [if_pos hw] at h' ⊢
          rcases h' with h' | ⟨_, _, _, hf⟩
          · exact .inl (Oper.wp_mono (fun a2 w2 h2 => ⟨h2.1, mix_any hs hQ r _ a2 w2 hB h2.1 h2.2⟩) (wp_of_solo h'))
          · exact (hf : False).elim
        · rw [if_neg hw] at h' ⊢
          exact ⟨hC, mix_any hs hQ r _ _ w hB hC h'.2⟩
end

theorem wpMix_call {P : Program} {ops : Array Oper} {C : World → Prop} {Q : Exit → Act → World → Prop} {l : List Nat} {i : Nat} {r : List (List Nat × Option Nat)} {a : Act} {w : World} :
    wpMix P ops C Q ((l, some i) :: r) a w = wpQuiet P ops C (fun a' => wpList P ops (soloQ fun a'' w'' => C w'' ∧ wpMix P ops C Q r a'' w'') (pickOps ops.toList [i]) a' w) (pickOps ops.toList l) a := rfl
theorem wpMix_read {P : Program} {ops : Array Oper} {C : World → Prop} {Q : Exit → Act → World → Prop} {l : List Nat} {r : List (List Nat × Option Nat)} {a : Act} {w : World} :
    wpMix P ops C Q ((l, none) :: r) a w = wpQuiet P ops C (fun a' => wpMix P ops C Q r a' w) (pickOps ops.toList l) a := rfl
theorem wpMix_nil {P : Program} {ops : Array Oper} {C : World → Prop} {Q : Exit → Act → World → Prop} {a : Act} {w : World} (h : Q .normal a w) : wpMix P ops C Q [] a w := h
theorem soloQ_both {W : World} {P : Program} {ops : Array Oper} {Q : Exit → Act → World → Prop} {r : List (List Nat × Option Nat)} {a : Act} {w : World} (hk : Kept W w) (h : wpMix P ops (fun w' => ∃ g : KExt W, w' = g.w) Q r a w) :
    soloQ (fun a'' w'' => (∃ g : KExt W, w'' = g.w) ∧ wpMix P ops (fun w' => ∃ g : KExt W, w' = g.w) Q r a'' w'') .normal a w := ⟨⟨⟨w, hk⟩, rfl⟩, h⟩

/-- The region, walked in the order S. -/
theorem region_mix {P : Program} (W : World) {id : Nat} {Q : Exit → Act → World → Prop} {a : Act} {w : World} {l : List Oper} (S : List (List Nat × Option Nat)) (hm : P.follows .mixedOrders = true) (hs : Region.noSelect l.toArray = true) (hn : mixN S = l.length)
    (hB : mixB l.toArray S (Array.replicate l.length false) = true) (hQ : ∀ c d v a w, Q (.panic c) (Act.put a d v) w → Q (.panic c) a w) (h0 : Kept W w)
    (h : ∀ wd : World, Kept w wd → wpMix P l.toArray (fun w' => ∃ g : KExt W, w' = g.w) Q S a wd) : (Code.region id l.toArray true).wp P Q a w := by
  refine wp_region_held (S := fun w' => ∃ g : KExt W, w' = g.w) hm ?_
  have hk : Kept w { w with drawn := w.drawn + 1 } := (Kept.refl w).drew
  have := mix_any (Q := Q) (C := fun w' => ∃ g : KExt W, w' = g.w) hs hQ S (Array.replicate l.length false) a { w with drawn := w.drawn + 1 } hB ⟨⟨_, h0.trans hk⟩, rfl⟩ (h _ hk)
  rw [hn] at this
  rw [List.size_toArray]
  exact this
end Go.Proofs.YtjcnjmlgedmmoaaDoor

namespace Go.Proofs.YtjcnjmlgedmmoaaDoor

/-- P5.2. -/
def cmpD (a b : Int × Int) : Int := if cmpI a.1 b.1 ≠ 0 then cmpI a.1 b.1 else cmpI a.2 b.2
def LtD (a b : Int × Int) : Prop := a.1 < b.1 ∨ (a.1 = b.1 ∧ a.2 < b.2)
theorem cmpD_lt (a b : Int × Int) : cmpD a b < 0 ↔ LtD a b := by
  unfold cmpD LtD cmpI
  (repeat split) <;> constructor <;> intro h <;> omega
theorem cmpD_gt (a b : Int × Int) : 0 < cmpD a b ↔ LtD b a := by
  unfold cmpD LtD cmpI
  (repeat split) <;> constructor <;> intro h <;> omega
theorem cmpD_eq (a b : Int × Int) : cmpD a b = 0 ↔ a = b := by
  obtain ⟨a1, a2⟩ := a
  obtain ⟨b1, b2⟩ := b
  unfold cmpD cmpI
  simp only [Prod.mk.injEq]
  (repeat split) <;> constructor <;> intro h <;> omega
theorem cmpD_anti (a b : Int × Int) : cmpD b a = - cmpD a b := by
  unfold cmpD cmpI
  (repeat split) <;> omega
theorem cmpD_bd (a b : Int × Int) : cmpD a b = -1 ∨ cmpD a b = 0 ∨ cmpD a b = 1 := by
  unfold cmpD; repeat (first | exact cmpI_bd _ _ | split)
theorem LtD.trans {a b c : Int × Int} (h : LtD a b) (k : LtD b c) : LtD a c := by unfold LtD at *; omega
theorem LtD.irrefl (a : Int × Int) : ¬ LtD a a := by unfold LtD; omega
theorem LtD.asymm {a b : Int × Int} (h : LtD a b) : ¬ LtD b a := fun k => LtD.irrefl _ (h.trans k)
theorem LtD.tri (a b : Int × Int) : LtD a b ∨ a = b ∨ LtD b a := by
  obtain ⟨a1, a2⟩ := a
  obtain ⟨b1, b2⟩ := b
  unfold LtD
  simp only [Prod.mk.injEq]
  omega

/-- Lists that rise. -/
def Rise (L : List (Int × Int)) : Prop := L.Pairwise LtD
theorem rise_unique : ∀ (X Y : List (Int × Int)), Rise X → Rise Y → (∀ x, x ∈ X ↔ x ∈ Y) → X = Y
  | [], [], _, _, _ => rfl
  | [], y :: ys, _, _, h => absurd ((h y).2 (List.mem_cons_self ..)) (by simp)
  | x :: xs, [], _, _, h => absurd ((h x).1 (List.mem_cons_self ..)) (by simp)
  | x :: xs, y :: ys, hX, hY, h => by
    obtain ⟨x1, x2⟩ := List.pairwise_cons.1 hX
    obtain ⟨y1, y2⟩ := List.pairwise_cons.1 hY
    have e : x = y := by
      rcases List.mem_cons.1 ((h x).1 (List.mem_cons_self ..)) with e | e
      · exact e
      · rcases List.mem_cons.1 ((h y).2 (List.mem_cons_self ..)) with e2 | e2
        · exact e2.symm
        · exact absurd (y1 _ e) (LtD.asymm (x1 _ e2))
    subst e
    refine congrArg _ (rise_unique xs ys x2 y2 fun z => ⟨fun hz => ?_, fun hz => ?_⟩)
    · rcases List.mem_cons.1 ((h z).1 (List.mem_cons_of_mem _ hz)) with e | e
      · subst e; exact absurd (x1 _ hz) (LtD.irrefl _)
      · exact e
    · rcases List.mem_cons.1 ((h z).2 (List.mem_cons_of_mem _ hz)) with e | e
      · subst e; exact absurd (y1 _ hz) (LtD.irrefl _)
      · exact e
/-- Rising, with just what is in L and d. -/
structure WithD (L : List (Int × Int)) (d : Int × Int) (X : List (Int × Int)) : Prop where
  rise : Rise X
  mem : ∀ x, x ∈ X ↔ x ∈ L ∨ x = d
/-- P5.6: rising, with just what is in L. -/
structure SortD (L X : List (Int × Int)) : Prop where
  rise : Rise X
  mem : ∀ x, x ∈ X ↔ x ∈ L
theorem SortD.same {L X Y : List (Int × Int)} (h : SortD L X) (k : SortD L Y) : X = Y := rise_unique X Y h.rise k.rise fun x => (h.mem x).trans (k.mem x).symm
theorem WithD.same {L X Y : List (Int × Int)} {d : Int × Int} (h : WithD L d X) (k : WithD L d Y) : X = Y := rise_unique X Y h.rise k.rise fun x => (h.mem x).trans (k.mem x).symm
theorem WithD.self {L : List (Int × Int)} {d : Int × Int} (h : Rise L) (hd : d ∈ L) : WithD L d L := ⟨h, fun _ => ⟨.inl, fun h => h.elim id fun e => e ▸ hd⟩⟩
/-- d put in at place k. -/
theorem WithD.put {L : List (Int × Int)} {d : Int × Int} (h : Rise L) (k : Nat) (h1 : ∀ x ∈ L.take k, LtD x d) (h2 : ∀ x ∈ L.drop k, LtD d x) : WithD L d (L.take k ++ d :: L.drop k) := by
  have e : L.take k ++ L.drop k = L := List.take_append_drop k L
  have hp := h
  unfold Rise at hp
  rw [← e, List.pairwise_append] at hp
  obtain ⟨p1, p2, p3⟩ := hp
  refine ⟨?_, fun x => ?_⟩
  · unfold Rise
    rw [List.pairwise_append]
    refine ⟨p1, List.pairwise_cons.2 ⟨h2, p2⟩, fun x hx y hy => ?_⟩
    rcases List.mem_cons.1 hy with rfl | hy
    · exact h1 x hx
    · exact p3 x hx y hy
  · conv => rhs; rw [← e]
    simp only [List.mem_append, List.mem_cons]
    constructor
    · rintro (h | h | h)
      · exact .inl (.inl h)
      · exact .inr h
      · exact .inl (.inr h)
    · rintro ((h | h) | h)
      · exact .inl h
      · exact .inr (.inr h)
      · exact .inr (.inl h)
theorem WithD.len {L X : List (Int × Int)} {d : Int × Int} (hL : Rise L) (h : WithD L d X) : (X.length = L.length) ↔ d ∈ L := by
  by_cases hd : d ∈ L
  · rw [(h.same (WithD.self hL hd))]
    simp [hd]
  · have hk : ∃ k, (∀ x ∈ L.take k, LtD x d) ∧ (∀ x ∈ L.drop k, LtD d x) := by
      clear h
      induction L with
      | nil => exact ⟨0, by simp, by simp⟩
      | cons a r ih =>
        obtain ⟨a1, a2⟩ := List.pairwise_cons.1 hL
        rcases LtD.tri a d with h | h | h
        · obtain ⟨k, k1, k2⟩ := ih a2 (fun hm => hd (List.mem_cons_of_mem _ hm))
          refine ⟨k + 1, fun x hx => ?_, fun x hx => k2 x (by simpa using hx)⟩
          rw [List.take_succ_cons] at hx
          rcases List.mem_cons.1 hx with rfl | hx
          · exact h
          · exact k1 x hx
        · exact absurd (h ▸ List.mem_cons_self ..) hd
        · refine ⟨0, by simp, fun x hx => ?_⟩
          rw [List.drop_zero] at hx
          rcases List.mem_cons.1 hx with rfl | hx
          · exact h
          · exact h.trans (a1 x hx)
    obtain ⟨k, k1, k2⟩ := hk
    rw [h.same (WithD.put hL k k1 k2)]
    have e : (L.take k ++ L.drop k).length = L.length := by rw [List.take_append_drop]
    simp only [List.length_append, List.length_cons] at e ⊢
    constructor
    · intro h; omega
    · intro h; exact absurd h hd
theorem rise_nil : Rise [] := List.Pairwise.nil
/-- The document's Sort: one put in behind the other. -/
theorem SortD.step {L X Y : List (Int × Int)} {d : Int × Int} (h : SortD L X) (k : WithD X d Y) : SortD (L ++ [d]) Y :=
  ⟨k.rise, fun x => by rw [k.mem, h.mem]; simp⟩
end Go.Proofs.YtjcnjmlgedmmoaaDoor

