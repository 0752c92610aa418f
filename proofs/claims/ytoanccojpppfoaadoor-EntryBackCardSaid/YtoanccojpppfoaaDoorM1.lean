/-
  What is proved: a region that draws its order, whose operations read and whose callees make memory at most and hand back values that hang on no world, is walked once, in the text's order (by the library's wp_region_quiet at the class of all worlds grown out of one world).
  What is proved: of worlds that have all that another one has, unchanged, and new blocks of whatever kind ('Kept'): cells and variables read on; a region that draws its order, whose callees leave such worlds and hand back values that hang on no world, is walked once, in the text's order; the row's last step for a call whose arguments lie in no memory.
  What is proved: a region that draws its order, in which the calls wait for one another and all else only reads what no call changes, is walked in one order: its reading operations hold in every world of a class, its calls are carried out in the world at hand, one by one, and may hand back values that hang on the world.
  What is proved: plain facts on the document's numbers as bytes (P1.1 to P1.8), on lists and natural numbers alone; no program is spoken of here.
  What is proved: plain facts on values (P3.1 to P3.7): what is right, the order, on integers and lists of bytes alone; no program is spoken of here.
  What is proved: plain facts on dots (P5.2, P5.5, P5.6, P5.10): their order, lists that rise, and that such a list is told by what is in it; no program is spoken of here.
  What is proved: words for memory that layer 5's contracts use: a slice of dots that lies in memory ('Dl'), and what a world that has all that another one has keeps of it.
-/
import Derived.WalkKit
import Derived.RowKit3
import Derived.Deep.QuietTactic
import Derived.BigQuiet
import Derived.Sort.Grow
import Derived.ChangeSame
import Derived.OrdersHeld
import Derived.Deep.Quiet
import Derived.Test.YtoanccojpppfoaaDoorProg
import Derived.Laws.StructEq
import Derived.WalkSmall
import Derived.OwnWalk
import Derived.Lib.Hide
import Derived.Below
import Derived.Shelf.GgSortFunc.RowK
namespace Go.Proofs.YtoanccojpppfoaaDoor
open Go.RowKit

theorem grown_trans {a b c : World} (h1 : Grown a b) (h2 : Grown b c) : Grown a c :=
  ⟨World.keptBut_trans h1.1 h2.1, fun x => (h2.2.1 x).trans (h1.2.1 x), Nat.le_trans h1.2.2 h2.2.2⟩
theorem grown_cell {w w1 : World} (hg : Grown w w1) {b o : Nat} {v : Value} (hc : w.cell? ⟨b, o, none⟩ = some v) : w1.cell? ⟨b, o, none⟩ = some v := by
  rw [hg.1.cell (World.block_lt_of_cell? w _ hc) (by simp)]
  exact hc

theorem grown_box {w w1 : World} {c : Array Value} {t : TypeId} (hg : Grown (w.alloc (.cells c t)) w1) (i : Nat) (v : Value) (hv : c[i]? = some v) : w1.cell? ⟨w.heap.size, i, none⟩ = some v := by
  rw [hg.1.cell (by simp) (by simp), World.cell?_alloc_new]
  exact hv
/-- A world grown out of W: nothing of W has changed. -/
structure Ext (W : World) where
  w : World
  g : Grown W w
instance (W : World) : Nonempty (Ext W) := ⟨⟨W, Grown.refl W⟩⟩

theorem Ext.cell {W : World} {b o : Nat} {v : Value} (hc : W.cell? ⟨b, o, none⟩ = some v) (g : Ext W) : g.w.cell? ⟨b, o, none⟩ = some v := grown_cell g.g hc

theorem region_ext {P : Program} (W : World) {id : Nat} {Q : Exit → Act → World → Prop} {a : Act} {w : World} {l : List Oper} (hm : P.follows .mixedOrders = true) (hB : Region.lexB .any l.toArray = true) (h0 : Grown W w)
    (h : wpQuiet P l.toArray (fun w' => ∃ g : Ext W, w' = g.w) (fun a' => ∀ g : Ext W, Q .normal a' g.w) l a) : (Code.region id l.toArray true).wp P Q a w := by
  refine wp_region_quiet (C := fun w' => ∃ g : Ext W, w' = g.w) hm hB ⟨⟨w.drew, h0⟩, rfl⟩ ?_
  have e : (fun a' => ∀ w', (∃ g : Ext W, w' = g.w) → Q .normal a' w') = (fun a' => ∀ g : Ext W, Q .normal a' g.w) := by
    funext a'
    exact propext ⟨fun h g => h _ ⟨g, rfl⟩, fun h w' ⟨g, hg⟩ => hg ▸ h g⟩
  rw [e, List.toList_toArray]
  exact h

/-- A callee that makes memory at most. -/
theorem Ext.calls {P : Program} {f : FuncId} {args : Array Value} {W : World} {g : Ext W} {v : Value} (h : Calls P f args g.w fun e w' => e = .returned v ∧ Grown g.w w') :
    Calls P f args g.w fun e w' => e = .returned v ∧ ∃ g' : Ext W, w' = g'.w :=
  h.mono fun _ _ ⟨he, hg⟩ => ⟨he, ⟨_, grown_trans g.g hg⟩, rfl⟩
/-- A callee that leaves the world alone. -/
theorem Ext.same {P : Program} {f : FuncId} {args : Array Value} {W : World} {g : Ext W} {v : Value} (h : Calls P f args g.w fun e w' => e = .returned v ∧ g.w = w') :
    Calls P f args g.w fun e w' => e = .returned v ∧ ∃ g' : Ext W, w' = g'.w :=
  h.mono fun _ _ ⟨he, hw⟩ => ⟨he, g, hw.symm⟩
end Go.Proofs.YtoanccojpppfoaaDoor

namespace Go.Proofs.YtoanccojpppfoaaDoor
open Go.RowKit Go.WideShapes Go.ChangeShapes

def Kept (W w : World) : Prop := W.keptBut w (fun _ => False) ∧ (∀ a : Addr, a.block < W.heap.size → w.frozen? a = W.frozen? a) ∧ W.heap.size ≤ w.heap.size
theorem Kept.refl (W : World) : Kept W W := ⟨World.keptBut_refl _ _, fun _ _ => rfl, Nat.le_refl _⟩
theorem Kept.trans {a b c : World} (h1 : Kept a b) (h2 : Kept b c) : Kept a c :=
  ⟨World.keptBut_trans h1.1 h2.1, fun x hx => (h2.2.1 x (Nat.lt_of_lt_of_le hx h1.2.2)).trans (h1.2.1 x hx), Nat.le_trans h1.2.2 h2.2.2⟩
theorem kept_of {a b : World} (h : Grown a b) : Kept a b := ⟨h.1, fun x _ => h.2.1 x, h.2.2⟩
theorem Kept.alloc {W w : World} (h : Kept W w) (c : Array Value) (t : TypeId) : Kept W (w.alloc (.cells c t)) := h.trans (kept_of ((Grown.refl _).alloc _ _))
theorem Kept.drew {W w : World} (h : Kept W w) : Kept W w.drew := h
theorem Kept.frame {W w : World} (h : Kept W w) (may : MemPlace → Prop) : W.keptBut w may := World.keptBut_mono (fun _ f => f.elim) h.1
theorem Kept.cell {w w1 : World} (hg : Kept w w1) {b o : Nat} {v : Value} (hc : w.cell? ⟨b, o, none⟩ = some v) : w1.cell? ⟨b, o, none⟩ = some v := by
  rw [hg.1.cell (World.block_lt_of_cell? w _ hc) (by simp)]
  exact hc
theorem Kept.box {w w1 : World} {c : Array Value} {t : TypeId} (hg : Kept (w.alloc (.cells c t)) w1) (i : Nat) (v : Value) (hv : c[i]? = some v) : w1.cell? ⟨w.heap.size, i, none⟩ = some v := by
  rw [hg.1.cell (by simp) (by simp), World.cell?_alloc_new]
  exact hv
theorem kept_grow (w : World) (k : Nat) (os : Array Obj) : Kept w (Sort.grow (w.drewN k) os) := by
  refine ⟨⟨rfl, rfl, fun i hi => ?_⟩, fun a ha => Sort.frozen?_grow (w.drewN k) os a ha, by rw [Sort.size_grow]; exact Nat.le_add_right _ _⟩
  have e : (Sort.grow (w.drewN k) os).heap[i]? = w.heap[i]? := Sort.heap_grow_old (w.drewN k) os hi
  have := (World.keptBut_refl w (fun _ => False)).2.2 i hi
  rw [e]
  exact this

theorem Kept.var {P : Program} {w w' : World} {n : String} {cs : Array Value} (h : w.var? P n = some cs) (hg : Kept w w') : w'.var? P n = some cs := by
  unfold World.var? at h ⊢
  cases hn : P.globalNamed n with
  | none => rw [hn] at h; cases h
  | some g =>
    rw [hn] at h
    simp only [Option.bind_some] at h ⊢
    have hlt : g < w.heap.size := by
      rcases Nat.lt_or_ge g w.heap.size with h' | h'
      · exact h'
      · rw [Array.getElem?_eq_none h'] at h; cases h
    have hk := hg.1.2.2 g hlt
    cases h1 : w.heap[g]? with
    | none => rw [h1] at h; cases h
    | some o =>
      rw [h1] at h hk
      cases o with
      | cells c t fr =>
        simp only [Option.some.injEq] at h
        subst h
        cases h2 : w'.heap[g]? with
        | none => rw [h2] at hk; simp at hk
        | some o' =>
          rw [h2] at hk
          cases o' with
          | cells c' t' fr' =>
            obtain ⟨_, _, hs, hc⟩ := hk
            simp only [Option.some.injEq]
            apply Array.ext hs
            intro i h3 h4
            have := hc i (fun f => f)
            rw [Array.getElem?_eq_getElem h3, Array.getElem?_eq_getElem h4] at this
            exact Option.some.inj this
          | _ => simp at hk
      | _ => simp at h

/-- A world that has all that W has, unchanged. -/
structure KExt (W : World) where
  w : World
  g : Kept W w
instance (W : World) : Nonempty (KExt W) := ⟨⟨W, Kept.refl W⟩⟩
theorem KExt.cell {W : World} {b o : Nat} {v : Value} (hc : W.cell? ⟨b, o, none⟩ = some v) (g : KExt W) : g.w.cell? ⟨b, o, none⟩ = some v := g.g.cell hc

theorem region_kept {P : Program} (W : World) {id : Nat} {Q : Exit → Act → World → Prop} {a : Act} {w : World} {l : List Oper} (hm : P.follows .mixedOrders = true) (hB : Region.lexB .any l.toArray = true) (h0 : Kept W w)
    (h : wpQuiet P l.toArray (fun w' => ∃ g : KExt W, w' = g.w) (fun a' => ∀ g : KExt W, Q .normal a' g.w) l a) : (Code.region id l.toArray true).wp P Q a w := by
  refine wp_region_quiet (C := fun w' => ∃ g : KExt W, w' = g.w) hm hB ⟨⟨w.drew, h0⟩, rfl⟩ ?_
  have e : (fun a' => ∀ w', (∃ g : KExt W, w' = g.w) → Q .normal a' w') = (fun a' => ∀ g : KExt W, Q .normal a' g.w) := by
    funext a'
    exact propext ⟨fun h g => h _ ⟨g, rfl⟩, fun h w' ⟨g, hg⟩ => hg ▸ h g⟩
  rw [e, List.toList_toArray]
  exact h
theorem KExt.calls {P : Program} {f : FuncId} {args : Array Value} {W : World} {g : KExt W} {v : Value} (h : Calls P f args g.w fun e w' => e = .returned v ∧ Grown g.w w') :
    Calls P f args g.w fun e w' => e = .returned v ∧ ∃ g' : KExt W, w' = g'.w :=
  h.mono fun _ _ ⟨he, hg⟩ => ⟨he, ⟨_, g.g.trans (kept_of hg)⟩, rfl⟩
theorem KExt.callsK {P : Program} {f : FuncId} {args : Array Value} {W : World} {g : KExt W} {v : Value} (h : Calls P f args g.w fun e w' => e = .returned v ∧ Kept g.w w') :
    Calls P f args g.w fun e w' => e = .returned v ∧ ∃ g' : KExt W, w' = g'.w :=
  h.mono fun _ _ ⟨he, hg⟩ => ⟨he, ⟨_, g.g.trans hg⟩, rfl⟩
theorem KExt.same {P : Program} {f : FuncId} {args : Array Value} {W : World} {g : KExt W} {v : Value} (h : Calls P f args g.w fun e w' => e = .returned v ∧ g.w = w') :
    Calls P f args g.w fun e w' => e = .returned v ∧ ∃ g' : KExt W, w' = g'.w :=
  h.mono fun _ _ ⟨he, hw⟩ => ⟨he, g, hw.symm⟩

/-- The row's last step: the arguments lie in no memory, no variable is told of. -/
theorem post_kept {H : Type} {enc : TypeId × Value → H} {P : Program} {f : Func} {s : ChangeSpec} {apart fresh handsOn again : Bool} {W W' : World} {args : Array Value} {v : Value} {ds gs : List (DataW H)}
    (hW : DataW.Whole enc P f.params.toList s.vars apart W args.toList ds gs [])
    (hres : ∀ (b : Nat) (sp : Nat → Bool) (hd : Bool), DataW.TrodAll enc P W' b sp hd f.resultTypes.toList (v.resultList f.resultTypes.size) (s.fn H (ds ++ gs)).results [])
    (hargs : ∀ sp : Nat → Bool, DataW.TrodAll enc P W' 0 sp true f.params.toList args.toList (s.fn H (ds ++ gs)).args [])
    (hvars : ∀ sp : Nat → Bool, DataW.TrodVars enc P W' sp s.vars (s.fn H (ds ++ gs)).vars [])
    (hk : Kept W W')
    (hok : ∀ (j : Nat) (t : TypeId) (r : Value), f.resultTypes[j]? = some t → (v.resultList f.resultTypes.size)[j]? = some r → Value.okWide P W' .any 0 t r) :
    s.post enc P f apart fresh handsOn again W args v W' := by
  refine ⟨ds, gs, [], [], [], [], hW, hres _ _ _, hargs _, hvars _, hk.frame _, fun _ => ?_⟩
  exact ⟨hok, _, _, [] ++ [] ++ [], ⟨[] ++ [], [], trodAll_append (hargs _) (hres _ _ _), hvars _, rfl, fun b off hp => by simp at hp, fun _ => by simp⟩, fun p hp _ => by simp at hp⟩
end Go.Proofs.YtoanccojpppfoaaDoor

namespace Go.Proofs.YtoanccojpppfoaaDoor
open Go.RowKit

def soloQ (K : Act → World → Prop) : Exit → Act → World → Prop
  | .normal, a, w => K a w
  | _, _, _ => False
theorem soloQ_mk {K : Act → World → Prop} {a : Act} {w : World} (h : K a w) : soloQ K .normal a w := h
theorem wp_of_solo {P : Program} {o : Oper} {a : Act} {w : World} {K K' : Act → World → Prop} {Q : Exit → Act → World → Prop} (h : o.wp P a w K (soloQ K')) : o.wp P a w K Q := by
  unfold Oper.wp at *
  generalize (execOp a.eval o).run P w = r at *
  cases r with
  | ok n w' =>
    cases n <;> simp only [Oper.upon] at h ⊢ <;>
      first
        | exact h
        | exact Calls.mono h (fun e w'' he => by
            cases e with
            | returned v => exact he
            | panicked c => exact (he : False).elim
            | outgrown => obtain ⟨_, _, hf⟩ := he; exact (hf : False).elim)
  | halt x w' =>
    cases x <;> simp only [Oper.upon] at h ⊢
    case panic v => exact (h : False).elim

/-- Operations that yield a value, and enter no function. -/
def plainOp : Op → Bool
  | .move _ | .assign _ | .pick _ _ _ | .build _ _ | .load _ _ | .binOp _ _ _ _ _ | .unOp _ _ _ | .extract _ _ | .fieldAddr _ _ _ | .indexAddr _ _ _ | .slice _ _ _ _ _ | .convert _ _ _ | .index _ _ _ | .field _ _ _ => true
  | .call { callee := .builtin .len, .. } => true
  | _ => false

theorem run_bind_value {P : Program} {s : Sem Value} {w w' : World} {n : Next} (h : (do pure (Next.value (← s)) : Sem Next).run P w = .ok n w') : ∃ u, n = .value u := by
  rw [Sem.run_bind] at h
  cases hs : s.run P w with
  | ok v w1 =>
    rw [hs] at h
    simp only [Result.andThen, Sem.run_pure] at h
    cases h; exact ⟨_, rfl⟩
  | halt x w1 => rw [hs] at h; simp only [Result.andThen] at h; cases h
theorem plain_value {P : Program} {o : Oper} {ev : Operand → Value} {w w' : World} {n : Next} (hp : plainOp o.op = true) (h : (execOp ev o).run P w = .ok n w') : ∃ u, n = .value u := by
  unfold execOp at h
  cases ho : o.op with
  | move x => rw [ho] at h; cases h; exact ⟨_, rfl⟩
  | assign x => rw [ho] at h; cases h; exact ⟨_, rfl⟩
  | pick c a b =>
    rw [ho] at h
    simp only [Sem.run_bind] at h
    cases hs : (asBool (ev c)).run P w with
    | ok v w1 => rw [hs] at h; simp only [Result.andThen, Sem.run_pure] at h; cases h; exact ⟨_, rfl⟩
    | halt x w1 => rw [hs] at h; simp only [Result.andThen] at h; cases h
  | build t p => rw [ho] at h; exact run_bind_value h
  | load t x => rw [ho] at h; exact run_bind_value h
  | binOp a b c d e => rw [ho] at h; exact run_bind_value h
  | unOp a b c => rw [ho] at h; exact run_bind_value h
  | extract a b => rw [ho] at h; exact run_bind_value h
  | fieldAddr a b c => rw [ho] at h; exact run_bind_value h
  | indexAddr a b c => rw [ho] at h; exact run_bind_value h
  | slice a b c d e => rw [ho] at h; exact run_bind_value h
  | convert a b c => rw [ho] at h; exact run_bind_value h
  | index a b c => rw [ho] at h; exact run_bind_value h
  | field a b c => rw [ho] at h; exact run_bind_value h
  | call c =>
    rw [ho] at h hp
    obtain ⟨callee, args, argTypes⟩ := c
    cases callee with
    | builtin b =>
      cases b <;> simp only [plainOp, Bool.false_eq_true] at hp
      simp only [resolve, invoke, builtin, Sem.run_bind, Sem.run_pure, Result.andThen] at h
      cases hs : (Builtin.len_ argTypes o.type (args.map ev)).run P w with
      | ok v w1 => rw [hs] at h; cases h; exact ⟨_, rfl⟩
      | halt x w1 => rw [hs] at h; cases h
    | _ => simp [plainOp] at hp
  | _ => rw [ho] at hp; simp [plainOp] at hp

section
variable {P : Program} {ops : Array Oper} {Q : Exit → Act → World → Prop} {C : World → Prop}

def consO : Option Oper → List Oper → List Oper
  | some o, r => o :: r
  | none, r => r
theorem consO_some (o : Oper) (r : List Oper) : consO (some o) r = o :: r := rfl
def pickOps (L : List Oper) : List Nat → List Oper
  | [] => []
  | i :: r => consO L[i]? (pickOps L r)
theorem pickOps_nil (L : List Oper) : pickOps L [] = [] := rfl
theorem pickOps_cons (L : List Oper) (i : Nat) (r : List Nat) : pickOps L (i :: r) = consO L[i]? (pickOps L r) := rfl
def okAt (ops : Array Oper) (listed : Array Bool) (i : Nat) : Bool := (Region.ready .any ops listed).contains i && (Region.free .any ops listed i && match ops[i]? with | some o => plainOp o.op | none => false)
def quietB (ops : Array Oper) : List Nat → Array Bool → Option (Array Bool)
  | [], listed => some listed
  | i :: r, listed => if okAt ops listed i = true then quietB ops r (listed.setIfInBounds i true) else none
def mixB (ops : Array Oper) : List (List Nat × Option Nat) → Array Bool → Bool
  | [], listed => (Region.ready .any ops listed).isEmpty
  | (l, x) :: r, listed => match quietB ops l listed with
    | none => false
    | some y => match x with
      | none => mixB ops r y
      | some i => Region.ready .any ops y == [i] && (ops[i]?).isSome && mixB ops r (y.setIfInBounds i true)
def mixN : List (List Nat × Option Nat) → Nat
  | [] => 0
  | (l, none) :: r => mixN r + l.length
  | (l, some _) :: r => mixN r + 1 + l.length

/-- The walk: a part that only reads, then a call. -/
def wpMix (P : Program) (ops : Array Oper) (C : World → Prop) (Q : Exit → Act → World → Prop) : List (List Nat × Option Nat) → Act → World → Prop
  | [], a, w => Q .normal a w
  | (l, none) :: r, a, w => wpQuiet P ops C (fun a' => wpMix P ops C Q r a' w) (pickOps ops.toList l) a
  | (l, some i) :: r, a, w => wpQuiet P ops C (fun a' => wpList P ops (soloQ fun a'' w'' => C w'' ∧ wpMix P ops C Q r a'' w'') (pickOps ops.toList [i]) a' w) (pickOps ops.toList l) a

theorem quiet_any (hs : Region.noSelect ops = true) (hQ : ∀ c d v a w, Q (.panic c) (Act.put a d v) w → Q (.panic c) a w) : ∀ (l : List Nat) (listed y : Array Bool) (fuel : Nat) (a : Act) (w : World) (K : Act → Prop),
    quietB ops l listed = some y → C w → wpQuiet P ops C K (pickOps ops.toList l) a → (∀ a', K a' → wpAnyH P .any ops Q C fuel y a' w) → wpAnyH P .any ops Q C (fuel + l.length) listed a w
  | [], listed, y, fuel, a, w, K, hB, hC, h, hK => by
    simp only [quietB, Option.some.injEq] at hB
    subst hB
    exact hK _ h
  | i :: r, listed, y, fuel, a, w, K, hB, hC, h, hK => by
    simp only [quietB] at hB
    split at hB
    · rename_i hc
      unfold okAt at hc
      rw [Bool.and_eq_true, Bool.and_eq_true] at hc
      obtain ⟨hr, hf, hp⟩ := hc
      cases ho : ops[i]? with
      | none => rw [ho] at hp; simp at hp
      | some o =>
        rw [ho] at hp
        have e : pickOps ops.toList (i :: r) = o :: pickOps ops.toList r := by
          rw [pickOps_cons, show ops.toList[i]? = some o by rw [Array.getElem?_toList]; exact ho, consO_some]
        rw [e] at h
        simp only [wpQuiet] at h
        have go : ∀ v, YieldsIf P ops C o v a → wpQuiet P ops C K (pickOps ops.toList r) (a.put o.dst v) → wpAnyH P .any ops Q C (fuel + (i :: r).length) listed a w := fun v hy hn =>
          wpAnyH_take (fuel := fuel + r.length) ho hs hf hr (fun c a w h => hQ c _ _ _ w h) hy hC (quiet_any hs hQ r _ y fuel _ w K hB hC hn hK)
        by_cases hw : Region.wanted o (yielded ops a.tmps) = true
        · rw [if_pos hw] at h
          obtain ⟨v, hv, hn⟩ := h
          refine go v (.inl ⟨hw, fun w' hC' => ?_⟩) hn
          have h3 := hv w' hC'
          unfold Oper.quietAt at h3
          cases hx : (execOp a.eval o).run P w' with
          | halt x w1 => rw [hx] at h3; exact (h3 : False).elim
          | ok n w1 =>
            obtain ⟨u, rfl⟩ := plain_value hp hx
            rw [hx] at h3
            obtain ⟨rfl, rfl⟩ := h3
            rfl
        · rw [if_neg hw] at h
          exact go undef (.inr ⟨by simpa using hw, rfl⟩) h
    · cases hB

theorem mix_any (hs : Region.noSelect ops = true) (hQ : ∀ c d v a w, Q (.panic c) (Act.put a d v) w → Q (.panic c) a w) : ∀ (S : List (List Nat × Option Nat)) (listed : Array Bool) (a : Act) (w : World),
    mixB ops S listed = true → C w → wpMix P ops C Q S a w → wpAnyH P .any ops Q C (mixN S) listed a w
  | [], listed, a, w, hB, hC, h => by
    simp only [mixB, List.isEmpty_iff] at hB
    exact wpAnyH_done hB h _
  | (l, x) :: r, listed, a, w, hB, hC, h => by
    simp only [mixB] at hB
    cases hq : quietB ops l listed with
    | none => rw [hq] at hB; simp at hB
    | some y =>
      rw [hq] at hB
      cases x with
      | none => exact quiet_any hs hQ l listed y (mixN r) a w _ hq hC h fun a' h' => mix_any hs hQ r y a' w hB hC h'
      | some i =>
        simp only [Bool.and_eq_true, beq_iff_eq] at hB
        obtain ⟨⟨hr, hi⟩, hB⟩ := hB
        obtain ⟨o, ho⟩ := Option.isSome_iff_exists.1 hi
        refine quiet_any hs hQ l listed y (mixN r + 1) a w _ hq hC h fun a' h' => ?_
        have e : pickOps ops.toList [i] = [o] := by
          rw [pickOps_cons, show ops.toList[i]? = some o by rw [Array.getElem?_toList]; exact ho, consO_some, pickOps_nil]
        rw [e] at h'
        refine wpAnyH_all hr (by simp) fun j hj => ?_
        obtain rfl : j = i := by simpa using hj
        unfold wpOp
        simp only [ho]
        simp only [wpList] at h'
        by_cases hw : Region.wanted o (yielded ops a'.tmps) = true
        · rw [if_pos hw] at h' ⊢
          rcases h' with h' | ⟨_, _, _, hf⟩
          · exact .inl (Oper.wp_mono (fun a2 w2 h2 => ⟨h2.1, mix_any hs hQ r _ a2 w2 hB h2.1 h2.2⟩) (wp_of_solo h'))
          · exact (hf : False).elim
        · rw [if_neg hw] at h' ⊢
          exact ⟨hC, mix_any hs hQ r _ _ w hB hC h'.2⟩
end

theorem wpMix_call {P : Program} {ops : Array Oper} {C : World → Prop} {Q : Exit → Act → World → Prop} {l : List Nat} {i : Nat} {r : List (List Nat × Option Nat)} {a : Act} {w : World} :
    wpMix P ops C Q ((l, some i) :: r) a w = wpQuiet P ops C (fun a' => wpList P ops (soloQ fun a'' w'' => C w'' ∧ wpMix P ops C Q r a'' w'') (pickOps ops.toList [i]) a' w) (pickOps ops.toList l) a := rfl
theorem wpMix_read {P : Program} {ops : Array Oper} {C : World → Prop} {Q : Exit → Act → World → Prop} {l : List Nat} {r : List (List Nat × Option Nat)} {a : Act} {w : World} :
    wpMix P ops C Q ((l, none) :: r) a w = wpQuiet P ops C (fun a' => wpMix P ops C Q r a' w) (pickOps ops.toList l) a := rfl
theorem wpMix_nil {P : Program} {ops : Array Oper} {C : World → Prop} {Q : Exit → Act → World → Prop} {a : Act} {w : World} (h : Q .normal a w) : wpMix P ops C Q [] a w := h
theorem soloQ_both {W : World} {P : Program} {ops : Array Oper} {Q : Exit → Act → World → Prop} {r : List (List Nat × Option Nat)} {a : Act} {w : World} (hk : Kept W w) (h : wpMix P ops (fun w' => ∃ g : KExt W, w' = g.w) Q r a w) :
    soloQ (fun a'' w'' => (∃ g : KExt W, w'' = g.w) ∧ wpMix P ops (fun w' => ∃ g : KExt W, w' = g.w) Q r a'' w'') .normal a w := ⟨⟨⟨w, hk⟩, rfl⟩, h⟩

/-- The region, walked in the order S. -/
theorem region_mix {P : Program} (W : World) {id : Nat} {Q : Exit → Act → World → Prop} {a : Act} {w : World} {l : List Oper} (S : List (List Nat × Option Nat)) (hm : P.follows .mixedOrders = true) (hs : Region.noSelect l.toArray = true) (hn : mixN S = l.length)
    (hB : mixB l.toArray S (Array.replicate l.length false) = true) (hQ : ∀ c d v a w, Q (.panic c) (Act.put a d v) w → Q (.panic c) a w) (h0 : Kept W w)
    (h : ∀ wd : World, Kept w wd → wpMix P l.toArray (fun w' => ∃ g : KExt W, w' = g.w) Q S a wd) : (Code.region id l.toArray true).wp P Q a w := by
  refine wp_region_held (S := fun w' => ∃ g : KExt W, w' = g.w) hm ?_
  have hk : Kept w { w with drawn := w.drawn + 1 } := (Kept.refl w).drew
  have := mix_any (Q := Q) (C := fun w' => ∃ g : KExt W, w' = g.w) hs hQ S (Array.replicate l.length false) a { w with drawn := w.drawn + 1 } hB ⟨⟨_, h0.trans hk⟩, rfl⟩ (h _ hk)
  rw [hn] at this
  rw [List.size_toArray]
  exact this
end Go.Proofs.YtoanccojpppfoaaDoor

namespace Go.Proofs.YtoanccojpppfoaaDoor

/-- P1.3 over integers. -/
def zigI (n : Int) : Int := if n < 0 then -2 * n - 1 else 2 * n
def zagI (u : Int) : Int := if u % 2 = 1 then -(u / 2) - 1 else u / 2
theorem zag_zig (n : Int) : zagI (zigI n) = n := by unfold zagI zigI; split <;> split <;> omega
theorem zig_zag (u : Int) (h : 0 ≤ u) : zigI (zagI u) = u := by unfold zagI zigI; split <;> split <;> omega
theorem zig_bd (n : Int) (h1 : -9223372036854775808 ≤ n) (h2 : n ≤ 9223372036854775807) : 0 ≤ zigI n ∧ zigI n < 18446744073709551616 := by
  unfold zigI; split <;> omega
theorem zag_bd (u : Int) (h1 : 0 ≤ u) (h2 : u < 18446744073709551616) : -9223372036854775808 ≤ zagI u ∧ zagI u ≤ 9223372036854775807 := by
  unfold zagI; split <;> omega

/-- P1.1: at most f bytes ahead of the last one. -/
def putF : Nat → Nat → List UInt8
  | 0, n => [UInt8.ofNat n]
  | f + 1, n => if n < 128 then [UInt8.ofNat n] else UInt8.ofNat (128 + n % 128) :: putF f (n / 128)
def putL (n : Nat) : List UInt8 := putF 9 n

/-- P1.2, from place k on. -/
def tk : Nat → Nat → List UInt8 → Nat × List UInt8 × Nat
  | _, _, [] => (0, [], 2)
  | k, acc, c :: r =>
    if k = 9 ∧ 1 < c.toNat then (0, [], 4)
    else if 0 < k ∧ c.toNat = 0 then (0, [], 3)
    else if c.toNat < 128 then (acc + c.toNat * 128 ^ k, r, 0)
    else tk (k + 1) (acc + (c.toNat - 128) * 128 ^ k) r
def takeL (l : List UInt8) : Nat × List UInt8 × Nat := tk 0 0 l

theorem toNat_small (n : Nat) (h : n < 256) : (UInt8.ofNat n).toNat = n := by
  rw [UInt8.toNat_ofNat']; exact Nat.mod_eq_of_lt h

theorem pow_step (k : Nat) (h : k ≤ 8) : 2 ^ (64 - 7 * k) = 128 * 2 ^ (64 - 7 * (k + 1)) := by
  have e : 64 - 7 * k = 7 + (64 - 7 * (k + 1)) := by omega
  rw [e, Nat.pow_add]

theorem div_step (n k : Nat) (h : k ≤ 8) (hn : n < 2 ^ (64 - 7 * k)) : n / 128 < 2 ^ (64 - 7 * (k + 1)) := by
  rw [pow_step k h] at hn
  exact Nat.div_lt_of_lt_mul hn

theorem split_mul (n acc k : Nat) : acc + n % 128 * 128 ^ k + n / 128 * 128 ^ (k + 1) = acc + n * 128 ^ k := by
  have e : n / 128 * 128 ^ (k + 1) = 128 * (n / 128) * 128 ^ k := by
    rw [Nat.pow_succ, Nat.mul_comm (128 ^ k) 128, ← Nat.mul_assoc, Nat.mul_comm (n / 128) 128]
  rw [e, Nat.add_assoc, ← Nat.add_mul, Nat.mod_add_div]

theorem take_put (f : Nat) : ∀ (n k acc : Nat) (s : List UInt8), f + k = 9 → n < 2 ^ (64 - 7 * k) → (0 < k → 0 < n) →
    tk k acc (putF f n ++ s) = (acc + n * 128 ^ k, s, 0) := by
  induction f with
  | zero =>
    intro n k acc s hf hn hp
    obtain rfl : k = 9 := by omega
    have hn2 : n < 2 := by simpa using hn
    have h := toNat_small n (by omega)
    have := hp (by omega)
    simp only [putF, List.cons_append, List.nil_append, tk, h]
    rw [if_neg (by omega), if_neg (by omega), if_pos (by omega)]
  | succ f ih =>
    intro n k acc s hf hn hp
    by_cases h : n < 128
    · have e := toNat_small n (by omega)
      simp only [putF, if_pos h, List.cons_append, List.nil_append, tk, e]
      rw [if_neg (by omega), if_neg (by omega)]
    · have e := toNat_small (128 + n % 128) (by omega)
      simp only [putF, if_neg h, List.cons_append, tk, e]
      rw [if_neg (by omega), if_neg (by omega), if_neg (by omega), ih (n / 128) (k + 1) _ s (by omega) (div_step n k (by omega) hn) (by omega)]
      rw [show 128 + n % 128 - 128 = n % 128 by omega, split_mul]

theorem take_putL (n : Nat) (s : List UInt8) (h : n < 18446744073709551616) : takeL (putL n ++ s) = (n, s, 0) := by
  have := take_put 9 n 0 0 s rfl (by simpa using h) (by omega)
  simpa [takeL, putL] using this

theorem ofNat_toNat (c : UInt8) : UInt8.ofNat c.toNat = c := by simp

theorem put_take : ∀ (l : List UInt8) (k acc x : Nat) (r : List UInt8), k ≤ 9 → tk k acc l = (x, r, 0) →
    ∃ n, x = acc + n * 128 ^ k ∧ putF (9 - k) n ++ r = l ∧ n < 2 ^ (64 - 7 * k) ∧ (0 < k → 0 < n) := by
  intro l
  induction l with
  | nil => intro k acc x r hk h; simp [tk] at h
  | cons c l ih =>
    intro k acc x r hk h
    have hc : c.toNat < 256 := UInt8.toNat_lt c
    unfold tk at h
    by_cases h1 : k = 9 ∧ 1 < c.toNat
    · rw [if_pos h1] at h; simp at h
    rw [if_neg h1] at h
    by_cases h2 : 0 < k ∧ c.toNat = 0
    · rw [if_pos h2] at h; simp at h
    rw [if_neg h2] at h
    by_cases h3 : c.toNat < 128
    · rw [if_pos h3] at h
      simp only [Prod.mk.injEq, and_true] at h
      obtain ⟨rfl, rfl⟩ := h
      refine ⟨c.toNat, rfl, ?_, ?_, by omega⟩
      · by_cases h9 : k = 9
        · subst h9; simp [putF]
        · have : 9 - k = (8 - k) + 1 := by omega
          rw [this]; simp [putF, h3]
      · by_cases h9 : k = 9
        · subst h9; simp; omega
        · rw [pow_step k (by omega)]
          have : 0 < 2 ^ (64 - 7 * (k + 1)) := Nat.pow_pos (by omega)
          omega
    · rw [if_neg h3] at h
      have h9 : k ≠ 9 := by omega
      obtain ⟨n, e, hp, hn, hpos⟩ := ih (k + 1) _ x r (by omega) h
      have hpos' := hpos (by omega)
      have ek : 9 - k = (9 - (k + 1)) + 1 := by omega
      have q1 : (128 * n + (c.toNat - 128)) / 128 = n := by omega
      have q2 : (128 * n + (c.toNat - 128)) % 128 = c.toNat - 128 := by omega
      refine ⟨128 * n + (c.toNat - 128), ?_, ?_, ?_, by omega⟩
      · have s := split_mul (128 * n + (c.toNat - 128)) acc k
        rw [q1, q2] at s
        rw [e, s]
      · rw [ek]
        simp only [putF]
        rw [if_neg (by omega), q1, q2, show 128 + (c.toNat - 128) = c.toNat by omega, ofNat_toNat, List.cons_append, hp]
      · rw [pow_step k (by omega)]; omega

theorem put_takeL (l r : List UInt8) (x : Nat) (h : takeL l = (x, r, 0)) : putL x ++ r = l ∧ x < 18446744073709551616 := by
  obtain ⟨n, e, hp, hn, _⟩ := put_take l 0 0 x r (by omega) h
  obtain rfl : x = n := by simpa using e
  exact ⟨hp, by simpa using hn⟩

/-- Beside an error nothing. -/
theorem take_err : ∀ (l : List UInt8) (k acc x e : Nat) (r : List UInt8), tk k acc l = (x, r, e) → (e = 0 ∨ e = 2 ∨ e = 3 ∨ e = 4) ∧ (e ≠ 0 → x = 0 ∧ r = []) := by
  intro l
  induction l with
  | nil => intro k acc x e r h; simp [tk] at h; obtain ⟨rfl, rfl, rfl⟩ := h; simp
  | cons c l ih =>
    intro k acc x e r h
    unfold tk at h
    by_cases h1 : k = 9 ∧ 1 < c.toNat
    · rw [if_pos h1] at h; simp at h; obtain ⟨rfl, rfl, rfl⟩ := h; simp
    rw [if_neg h1] at h
    by_cases h2 : 0 < k ∧ c.toNat = 0
    · rw [if_pos h2] at h; simp at h; obtain ⟨rfl, rfl, rfl⟩ := h; simp
    rw [if_neg h2] at h
    by_cases h3 : c.toNat < 128
    · rw [if_pos h3] at h; simp at h; obtain ⟨_, _, rfl⟩ := h; simp
    · rw [if_neg h3] at h; exact ih _ _ _ _ _ h

theorem takeL_err (l : List UInt8) : ((takeL l).2.2 = 0 ∨ (takeL l).2.2 = 2 ∨ (takeL l).2.2 = 3 ∨ (takeL l).2.2 = 4) ∧ ((takeL l).2.2 ≠ 0 → (takeL l).1 = 0 ∧ (takeL l).2.1 = []) :=
  take_err l 0 0 _ _ _ rfl
theorem takeL_bd (l : List UInt8) : (takeL l).1 < 18446744073709551616 := by
  by_cases h : (takeL l).2.2 = 0
  · exact (put_takeL l (takeL l).2.1 (takeL l).1 (by rw [← h])).2
  · rw [((takeL_err l).2 h).1]; omega
theorem tk_len : ∀ (l : List UInt8) (k acc : Nat), (tk k acc l).2.1.length ≤ l.length := by
  intro l
  induction l with
  | nil => intro k acc; simp [tk]
  | cons c l ih =>
    intro k acc
    unfold tk
    split
    · simp
    split
    · simp
    split
    · simp
    · have := ih (k + 1) (acc + (c.toNat - 128) * 128 ^ k); simp; omega

/-- P1.8. -/
theorem put_len (f : Nat) : ∀ (n w : Nat), 1 ≤ w → ((putF f n).length ≤ w ↔ (f + 1 ≤ w ∨ n < 128 ^ w)) := by
  induction f with
  | zero => intro n w hw; simp [putF]; omega
  | succ f ih =>
    intro n w hw
    obtain ⟨v, rfl⟩ : ∃ v, w = v + 1 := ⟨w - 1, by omega⟩
    have hp : 0 < 128 ^ v := Nat.pow_pos (by omega)
    by_cases h : n < 128
    · simp only [putF, if_pos h, List.length_singleton]
      have : 128 ^ (v + 1) = 128 * 128 ^ v := by rw [Nat.pow_succ, Nat.mul_comm]
      omega
    · simp only [putF, if_neg h, List.length_cons]
      have e : 128 ^ (v + 1) = 128 * 128 ^ v := by rw [Nat.pow_succ, Nat.mul_comm]
      by_cases hv : v = 0
      · subst hv
        have : 0 < (putF f (n / 128)).length := by cases f <;> simp [putF]; split <;> simp
        rw [e, Nat.pow_zero]; omega
      · have := ih (n / 128) v (by omega)
        rw [e]
        constructor
        · intro hh
          rcases this.1 (by omega) with h1 | h1
          · left; omega
          · right; omega
        · intro hh
          have : (putF f (n / 128)).length ≤ v := this.2 (by
            rcases hh with h1 | h1
            · left; omega
            · right; omega)
          omega
theorem putF_pos (f n : Nat) : 0 < (putF f n).length := by cases f <;> simp [putF]; split <;> simp
theorem putL_le (n : Nat) : (putL n).length ≤ 10 := (put_len 9 n 10 (by omega)).2 (Or.inl (by omega))
end Go.Proofs.YtoanccojpppfoaaDoor

namespace Go.Proofs.YtoanccojpppfoaaDoor

/-- P3.2. -/
def cmpI (a b : Int) : Int := if a < b then -1 else if b < a then 1 else 0
def cmpL (a b : List UInt8) : Int := if a < b then -1 else if b < a then 1 else 0
def cmpV (k1 n1 : Int) (t1 : List UInt8) (k2 n2 : Int) (t2 : List UInt8) : Int :=
  if cmpI k1 k2 ≠ 0 then cmpI k1 k2 else if cmpI n1 n2 ≠ 0 then cmpI n1 n2 else cmpL t1 t2

theorem list_tri (a b : List UInt8) : a < b ∨ a = b ∨ b < a := by
  by_cases h1 : a < b
  · exact .inl h1
  by_cases h2 : b < a
  · exact .inr (.inr h2)
  exact .inr (.inl (List.le_antisymm (List.not_lt.1 h2) (List.not_lt.1 h1)))
theorem cmpI_bd (a b : Int) : cmpI a b = -1 ∨ cmpI a b = 0 ∨ cmpI a b = 1 := by unfold cmpI; repeat (first | exact .inl rfl | exact .inr (.inl rfl) | exact .inr (.inr rfl) | split)
theorem cmpL_bd (a b : List UInt8) : cmpL a b = -1 ∨ cmpL a b = 0 ∨ cmpL a b = 1 := by unfold cmpL; repeat (first | exact .inl rfl | exact .inr (.inl rfl) | exact .inr (.inr rfl) | split)
theorem cmpV_bd (k1 n1 : Int) (t1 : List UInt8) (k2 n2 : Int) (t2 : List UInt8) : cmpV k1 n1 t1 k2 n2 t2 = -1 ∨ cmpV k1 n1 t1 k2 n2 t2 = 0 ∨ cmpV k1 n1 t1 k2 n2 t2 = 1 := by
  unfold cmpV; repeat (first | exact cmpI_bd _ _ | exact cmpL_bd _ _ | split)
theorem cmpI_zero (a b : Int) : cmpI a b = 0 ↔ a = b := by unfold cmpI; (repeat split) <;> constructor <;> intro h <;> omega
theorem cmpI_anti (a b : Int) : cmpI b a = - cmpI a b := by
  unfold cmpI
  by_cases h1 : a < b
  · rw [if_pos h1, if_neg (by omega), if_pos h1]; rfl
  · by_cases h2 : b < a
    · rw [if_pos h2, if_neg h1, if_pos h2]
    · rw [if_neg h2, if_neg h1, if_neg h1, if_neg h2]; rfl
theorem cmpL_zero (a b : List UInt8) : cmpL a b = 0 ↔ a = b := by
  unfold cmpL
  rcases list_tri a b with h | h | h
  · rw [if_pos h]; constructor
    · intro x; omega
    · intro x; subst x; exact absurd h (List.lt_irrefl _)
  · subst h; rw [if_neg (List.lt_irrefl _), if_neg (List.lt_irrefl _)]; simp
  · rw [if_neg (List.lt_asymm h), if_pos h]; constructor
    · intro x; omega
    · intro x; subst x; exact absurd h (List.lt_irrefl _)
theorem cmpL_anti (a b : List UInt8) : cmpL b a = - cmpL a b := by
  unfold cmpL
  rcases list_tri a b with h | h | h
  · rw [if_pos h, if_neg (List.lt_asymm h), if_pos h]; rfl
  · subst h; rw [if_neg (List.lt_irrefl _), if_neg (List.lt_irrefl _)]; rfl
  · rw [if_pos h, if_neg (List.lt_asymm h), if_pos h]
theorem cmpV_anti (k1 n1 : Int) (t1 : List UInt8) (k2 n2 : Int) (t2 : List UInt8) : cmpV k2 n2 t2 k1 n1 t1 = - cmpV k1 n1 t1 k2 n2 t2 := by
  unfold cmpV
  rw [cmpI_anti k1 k2, cmpI_anti n1 n2, cmpL_anti t1 t2]
  by_cases h1 : cmpI k1 k2 = 0
  · by_cases h2 : cmpI n1 n2 = 0
    · simp [h1, h2]
    · simp [h1, h2]
  · simp [h1]
theorem cmpV_zero (k1 n1 : Int) (t1 : List UInt8) (k2 n2 : Int) (t2 : List UInt8) : cmpV k1 n1 t1 k2 n2 t2 = 0 ↔ k1 = k2 ∧ n1 = n2 ∧ t1 = t2 := by
  unfold cmpV
  rw [← cmpI_zero k1, ← cmpI_zero n1, ← cmpL_zero t1]
  by_cases h1 : cmpI k1 k2 = 0
  · by_cases h2 : cmpI n1 n2 = 0
    · simp [h1, h2]
    · simp [h1, h2]
  · simp [h1]
theorem cmpI_le (a b : Int) : cmpI a b ≤ 0 ↔ a ≤ b := by unfold cmpI; (repeat split) <;> constructor <;> intro h <;> omega
theorem cmpL_le (a b : List UInt8) : cmpL a b ≤ 0 ↔ a ≤ b := by
  unfold cmpL
  rcases list_tri a b with h | h | h
  · rw [if_pos h]; constructor
    · intro _; exact List.le_of_lt h
    · intro _; omega
  · subst h; rw [if_neg (List.lt_irrefl _), if_neg (List.lt_irrefl _)]; constructor
    · intro _; exact List.le_refl _
    · intro _; omega
  · rw [if_neg (List.lt_asymm h), if_pos h]; constructor
    · intro x; omega
    · intro x; exact absurd h (List.not_lt.2 x)
theorem cmpV_le (k1 n1 : Int) (t1 : List UInt8) (k2 n2 : Int) (t2 : List UInt8) : cmpV k1 n1 t1 k2 n2 t2 ≤ 0 ↔ k1 < k2 ∨ k1 = k2 ∧ (n1 < n2 ∨ n1 = n2 ∧ t1 ≤ t2) := by
  unfold cmpV
  have a1 := cmpI_zero k1 k2
  have a2 := cmpI_le k1 k2
  have b1 := cmpI_zero n1 n2
  have b2 := cmpI_le n1 n2
  have c2 := cmpL_le t1 t2
  by_cases h1 : cmpI k1 k2 = 0
  · by_cases h2 : cmpI n1 n2 = 0
    · rw [if_neg (by simp [h1]), if_neg (by simp [h2]), c2]
      have := a1.1 h1; have := b1.1 h2
      constructor
      · intro h; exact .inr ⟨by omega, .inr ⟨by omega, h⟩⟩
      · rintro (h | ⟨_, h | ⟨_, h⟩⟩)
        · omega
        · omega
        · exact h
    · rw [if_neg (by simp [h1]), if_pos h2, b2]
      have := a1.1 h1
      have hb : n1 ≠ n2 := fun e => h2 (b1.2 e)
      constructor
      · intro h; exact .inr ⟨by omega, .inl (by omega)⟩
      · rintro (h | ⟨_, h | ⟨h, _⟩⟩) <;> omega
  · rw [if_pos h1, a2]
    have hb : k1 ≠ k2 := fun e => h1 (a1.2 e)
    constructor
    · intro h; exact .inl (by omega)
    · rintro (h | ⟨h, _⟩) <;> omega
theorem cmpV_trans (k1 n1 : Int) (t1 : List UInt8) (k2 n2 : Int) (t2 : List UInt8) (k3 n3 : Int) (t3 : List UInt8) (h1 : cmpV k1 n1 t1 k2 n2 t2 ≤ 0) (h2 : cmpV k2 n2 t2 k3 n3 t3 ≤ 0) : cmpV k1 n1 t1 k3 n3 t3 ≤ 0 := by
  rw [cmpV_le] at h1 h2 ⊢
  rcases h1 with h1 | ⟨rfl, h1 | ⟨rfl, h1⟩⟩
  · left
    rcases h2 with h2 | ⟨rfl, _⟩ <;> omega
  · rcases h2 with h2 | ⟨rfl, h2 | ⟨rfl, _⟩⟩
    · left; omega
    · right; exact ⟨rfl, .inl (by omega)⟩
    · right; exact ⟨rfl, .inl (by omega)⟩
  · rcases h2 with h2 | ⟨rfl, h2 | ⟨rfl, h2⟩⟩
    · left; omega
    · right; exact ⟨rfl, .inl (by omega)⟩
    · right; exact ⟨rfl, .inr ⟨rfl, List.le_trans h1 h2⟩⟩
end Go.Proofs.YtoanccojpppfoaaDoor

namespace Go.Proofs.YtoanccojpppfoaaDoor

/-- P5.2. -/
def cmpD (a b : Int × Int) : Int := if cmpI a.1 b.1 ≠ 0 then cmpI a.1 b.1 else cmpI a.2 b.2
def LtD (a b : Int × Int) : Prop := a.1 < b.1 ∨ (a.1 = b.1 ∧ a.2 < b.2)
theorem cmpD_lt (a b : Int × Int) : cmpD a b < 0 ↔ LtD a b := by
  unfold cmpD LtD cmpI
  (repeat split) <;> constructor <;> intro h <;> omega
theorem cmpD_gt (a b : Int × Int) : 0 < cmpD a b ↔ LtD b a := by
  unfold cmpD LtD cmpI
  (repeat split) <;> constructor <;> intro h <;> omega
theorem cmpD_eq (a b : Int × Int) : cmpD a b = 0 ↔ a = b := by
  obtain ⟨a1, a2⟩ := a
  obtain ⟨b1, b2⟩ := b
  unfold cmpD cmpI
  simp only [Prod.mk.injEq]
  (repeat split) <;> constructor <;> intro h <;> omega
theorem cmpD_anti (a b : Int × Int) : cmpD b a = - cmpD a b := by
  unfold cmpD cmpI
  (repeat split) <;> omega
theorem cmpD_bd (a b : Int × Int) : cmpD a b = -1 ∨ cmpD a b = 0 ∨ cmpD a b = 1 := by
  unfold cmpD; repeat (first | exact cmpI_bd _ _ | split)
theorem LtD.trans {a b c : Int × Int} (h : LtD a b) (k : LtD b c) : LtD a c := by unfold LtD at *; omega
theorem LtD.irrefl (a : Int × Int) : ¬ LtD a a := by unfold LtD; omega
theorem LtD.asymm {a b : Int × Int} (h : LtD a b) : ¬ LtD b a := fun k => LtD.irrefl _ (h.trans k)
theorem LtD.tri (a b : Int × Int) : LtD a b ∨ a = b ∨ LtD b a := by
  obtain ⟨a1, a2⟩ := a
  obtain ⟨b1, b2⟩ := b
  unfold LtD
  simp only [Prod.mk.injEq]
  omega

/-- Lists that rise. -/
def Rise (L : List (Int × Int)) : Prop := L.Pairwise LtD
theorem rise_unique : ∀ (X Y : List (Int × Int)), Rise X → Rise Y → (∀ x, x ∈ X ↔ x ∈ Y) → X = Y
  | [], [], _, _, _ => rfl
  | [], y :: ys, _, _, h => absurd ((h y).2 (List.mem_cons_self ..)) (by simp)
  | x :: xs, [], _, _, h => absurd ((h x).1 (List.mem_cons_self ..)) (by simp)
  | x :: xs, y :: ys, hX, hY, h => by
    obtain ⟨x1, x2⟩ := List.pairwise_cons.1 hX
    obtain ⟨y1, y2⟩ := List.pairwise_cons.1 hY
    have e : x = y := by
      rcases List.mem_cons.1 ((h x).1 (List.mem_cons_self ..)) with e | e
      · exact e
      · rcases List.mem_cons.1 ((h y).2 (List.mem_cons_self ..)) with e2 | e2
        · exact e2.symm
        · exact absurd (y1 _ e) (LtD.asymm (x1 _ e2))
    subst e
    refine congrArg _ (rise_unique xs ys x2 y2 fun z => ⟨fun hz => ?_, fun hz => ?_⟩)
    · rcases List.mem_cons.1 ((h z).1 (List.mem_cons_of_mem _ hz)) with e | e
      · subst e; exact absurd (x1 _ hz) (LtD.irrefl _)
      · exact e
    · rcases List.mem_cons.1 ((h z).2 (List.mem_cons_of_mem _ hz)) with e | e
      · subst e; exact absurd (y1 _ hz) (LtD.irrefl _)
      · exact e
/-- Rising, with just what is in L and d. -/
structure WithD (L : List (Int × Int)) (d : Int × Int) (X : List (Int × Int)) : Prop where
  rise : Rise X
  mem : ∀ x, x ∈ X ↔ x ∈ L ∨ x = d
/-- P5.6: rising, with just what is in L. -/
structure SortD (L X : List (Int × Int)) : Prop where
  rise : Rise X
  mem : ∀ x, x ∈ X ↔ x ∈ L
theorem SortD.same {L X Y : List (Int × Int)} (h : SortD L X) (k : SortD L Y) : X = Y := rise_unique X Y h.rise k.rise fun x => (h.mem x).trans (k.mem x).symm
theorem WithD.same {L X Y : List (Int × Int)} {d : Int × Int} (h : WithD L d X) (k : WithD L d Y) : X = Y := rise_unique X Y h.rise k.rise fun x => (h.mem x).trans (k.mem x).symm
theorem WithD.self {L : List (Int × Int)} {d : Int × Int} (h : Rise L) (hd : d ∈ L) : WithD L d L := ⟨h, fun _ => ⟨.inl, fun h => h.elim id fun e => e ▸ hd⟩⟩
/-- d put in at place k. -/
theorem WithD.put {L : List (Int × Int)} {d : Int × Int} (h : Rise L) (k : Nat) (h1 : ∀ x ∈ L.take k, LtD x d) (h2 : ∀ x ∈ L.drop k, LtD d x) : WithD L d (L.take k ++ d :: L.drop k) := by
  have e : L.take k ++ L.drop k = L := List.take_append_drop k L
  have hp := h
  unfold Rise at hp
  rw [← e, List.pairwise_append] at hp
  obtain ⟨p1, p2, p3⟩ := hp
  refine ⟨?_, fun x => ?_⟩
  · unfold Rise
    rw [List.pairwise_append]
    refine ⟨p1, List.pairwise_cons.2 ⟨h2, p2⟩, fun x hx y hy => ?_⟩
    rcases List.mem_cons.1 hy with rfl | hy
    · exact h1 x hx
    · exact p3 x hx y hy
  · conv => rhs; rw [← e]
    simp only [List.mem_append, List.mem_cons]
    constructor
    · rintro (h | h | h)
      · exact .inl (.inl h)
      · exact .inr h
      · exact .inl (.inr h)
    · rintro ((h | h) | h)
      · exact .inl h
      · exact .inr (.inr h)
      · exact .inr (.inl h)
theorem WithD.len {L X : List (Int × Int)} {d : Int × Int} (hL : Rise L) (h : WithD L d X) : (X.length = L.length) ↔ d ∈ L := by
  by_cases hd : d ∈ L
  · rw [(h.same (WithD.self hL hd))]
    simp [hd]
  · have hk : ∃ k, (∀ x ∈ L.take k, LtD x d) ∧ (∀ x ∈ L.drop k, LtD d x) := by
      clear h
      induction L with
      | nil => exact ⟨0, by simp, by simp⟩
      | cons a r ih =>
        obtain ⟨a1, a2⟩ := List.pairwise_cons.1 hL
        rcases LtD.tri a d with h | h | h
        · obtain ⟨k, k1, k2⟩ := ih a2 (fun hm => hd (List.mem_cons_of_mem _ hm))
          refine ⟨k + 1, fun x hx => ?_, fun x hx => k2 x (by simpa using hx)⟩
          rw [List.take_succ_cons] at hx
          rcases List.mem_cons.1 hx with rfl | hx
          · exact h
          · exact k1 x hx
        · exact absurd (h ▸ List.mem_cons_self ..) hd
        · refine ⟨0, by simp, fun x hx => ?_⟩
          rw [List.drop_zero] at hx
          rcases List.mem_cons.1 hx with rfl | hx
          · exact h
          · exact h.trans (a1 x hx)
    obtain ⟨k, k1, k2⟩ := hk
    rw [h.same (WithD.put hL k k1 k2)]
    have e : (L.take k ++ L.drop k).length = L.length := by rw [List.take_append_drop]
    simp only [List.length_append, List.length_cons] at e ⊢
    constructor
    · intro h; omega
    · intro h; exact absurd h hd
theorem rise_nil : Rise [] := List.Pairwise.nil
/-- The document's Sort: one put in behind the other. -/
theorem SortD.step {L X Y : List (Int × Int)} {d : Int × Int} (h : SortD L X) (k : WithD X d Y) : SortD (L ++ [d]) Y :=
  ⟨k.rise, fun x => by rw [k.mem, h.mem]; simp⟩
end Go.Proofs.YtoanccojpppfoaaDoor

namespace Go.Proofs.YtoanccojpppfoaaDoor
open Go.RowKit

/-- A dot, as a value. -/
def dotV (x : Int × Int) : Value := .agg #[.int .i64 x.1, .int .i64 x.2]
def Dl (w : World) (A : Option Addr) (n c : Nat) (L : List (Int × Int)) : Prop :=
  n = L.length ∧ n ≤ c ∧ c ≤ maxLen ∧ (A = none → c = 0) ∧ (n = 0 ∨ ∃ b o, A = some ⟨b, o, none⟩ ∧ ∀ j x, L[j]? = some x → w.cell? ⟨b, o + j * 2, none⟩ = some (.int .i64 x.1) ∧ w.cell? ⟨b, o + j * 2 + 1, none⟩ = some (.int .i64 x.2))
theorem Dl.kept {w w' : World} {A : Option Addr} {n c : Nat} {L : List (Int × Int)} (h : Dl w A n c L) (hk : Kept w w') : Dl w' A n c L :=
  ⟨h.1, h.2.1, h.2.2.1, h.2.2.2.1, h.2.2.2.2.imp id fun ⟨b, o, hA, hc⟩ => ⟨b, o, hA, fun j x hj => ⟨hk.cell (hc j x hj).1, hk.cell (hc j x hj).2⟩⟩⟩
theorem Dl.nil (w : World) : Dl w none 0 0 [] := ⟨rfl, Nat.le_refl _, Nat.zero_le _, fun _ => rfl, .inl rfl⟩
theorem Dl.len {w : World} {A : Option Addr} {n c : Nat} {L : List (Int × Int)} (h : Dl w A n c L) : L.length = n := h.1.symm
theorem Dl.cap {w : World} {A : Option Addr} {n c : Nat} {L : List (Int × Int)} (h : Dl w A n c L) : n ≤ c ∧ c ≤ 9223372036854775807 := ⟨h.2.1, h.2.2.1⟩
theorem Dl.get {w : World} {A : Option Addr} {n c : Nat} {L : List (Int × Int)} (h : Dl w A n c L) {k : Nat} (hk : k < n) :
    ∃ b o x, A = some ⟨b, o, none⟩ ∧ L[k]? = some x ∧ w.cell? ⟨b, o + k * 2, none⟩ = some (.int .i64 x.1) ∧ w.cell? ⟨b, o + k * 2 + 1, none⟩ = some (.int .i64 x.2) := by
  have hl : k < L.length := by rw [← h.1]; exact hk
  rcases h.2.2.2.2 with h0 | ⟨b, o, hA, hc⟩
  · omega
  · have := hc k L[k] (List.getElem?_eq_getElem hl)
    exact ⟨b, o, L[k], hA, List.getElem?_eq_getElem hl, this.1, this.2⟩

/-- The cells of dots. -/
def flatD (L : List (Int × Int)) : List Value := L.flatMap fun x => [.int .i64 x.1, .int .i64 x.2]
theorem flatD_nil : flatD [] = [] := rfl
theorem flatD_cons (x : Int × Int) (L : List (Int × Int)) : flatD (x :: L) = .int .i64 x.1 :: .int .i64 x.2 :: flatD L := rfl
theorem flatD_app (L M : List (Int × Int)) : flatD (L ++ M) = flatD L ++ flatD M := List.flatMap_append
theorem flatD_len (L : List (Int × Int)) : (flatD L).length = L.length * 2 := by
  induction L with
  | nil => rfl
  | cons x L ih => rw [flatD_cons, List.length_cons, List.length_cons, List.length_cons, ih]; omega
theorem flatD_one (L : List (Int × Int)) : ∀ u ∈ flatD L, u.oneCell' = true := by
  intro u hu
  obtain ⟨x, _, hx⟩ := List.mem_flatMap.1 hu
  simp only [List.mem_cons, List.not_mem_nil, or_false] at hx
  rcases hx with rfl | rfl <;> rfl
theorem flatD_get : ∀ (L : List (Int × Int)) (j : Nat) (x : Int × Int), L[j]? = some x → (flatD L)[j * 2]? = some (.int .i64 x.1) ∧ (flatD L)[j * 2 + 1]? = some (.int .i64 x.2)
  | [], j, x, h => by simp at h
  | y :: L, 0, x, h => by
    obtain rfl : y = x := by simpa using h
    exact ⟨rfl, rfl⟩
  | y :: L, j + 1, x, h => by
    have ih := flatD_get L j x (by simpa using h)
    rw [flatD_cons, show (j + 1) * 2 = (j * 2) + 1 + 1 by omega]
    simpa using ih
theorem flatD_at : ∀ (L : List (Int × Int)) (i : Nat) (u : Value), (flatD L)[i]? = some u → ∃ j x, L[j]? = some x ∧ ((i = j * 2 ∧ u = .int .i64 x.1) ∨ (i = j * 2 + 1 ∧ u = .int .i64 x.2))
  | [], i, u, h => by simp [flatD_nil] at h
  | y :: L, 0, u, h => ⟨0, y, rfl, .inl ⟨rfl, by simpa [flatD_cons] using h.symm⟩⟩
  | y :: L, 1, u, h => ⟨0, y, rfl, .inr ⟨rfl, by simpa [flatD_cons] using h.symm⟩⟩
  | y :: L, i + 2, u, h => by
    obtain ⟨j, x, hj, hc⟩ := flatD_at L i u (by simpa [flatD_cons] using h)
    refine ⟨j + 1, x, by simpa using hj, ?_⟩
    rcases hc with ⟨h1, h2⟩ | ⟨h1, h2⟩
    · exact .inl ⟨by omega, h2⟩
    · exact .inr ⟨by omega, h2⟩
theorem Dl.of_own {w : World} {base n : Nat} {e : TypeId} {v : Value} {L : List (Int × Int)} (h : w.ownsRow base e 2 v n (flatD L)) : ∃ A c, v = .slice A n c ∧ Dl w A n c L := by
  have hl : n = L.length := by have := h.1; rw [flatD_len] at this; omega
  have hc := fun g (hg : v.ownBlock = some g) => h.cells (g := g) hg
  rcases h.2 with ⟨rfl, h0⟩ | ⟨g, cap, cur, rfl, hb, hg, h1, h2, _⟩
  · subst h0
    exact ⟨none, 0, rfl, hl, Nat.le_refl _, Nat.zero_le _, fun _ => rfl, .inl rfl⟩
  · refine ⟨some ⟨g, 0, none⟩, cap, rfl, hl, h1, h2, fun h => by simp at h, .inr ⟨g, 0, rfl, fun j x hj => ?_⟩⟩
    have hx := flatD_get L j x hj
    have c0 := hc g rfl _ _ hx.1
    have c1 := hc g rfl _ _ hx.2
    rw [Addr.add_lit, Nat.zero_add] at c0 c1
    rw [Nat.zero_add]
    exact ⟨c0, c1⟩

theorem Dl.of_own' {w : World} {base n : Nat} {e : TypeId} {v : Value} {L : List (Int × Int)} (h : w.ownsRow base e 2 v n (flatD L)) : ∃ A c, v = .slice A n c ∧ Dl w A n c L ∧ ∀ ad, A = some ad → base ≤ ad.block := by
  obtain ⟨A, c, rfl, hd⟩ := Dl.of_own h
  refine ⟨A, c, rfl, hd, fun ad e => ?_⟩
  subst e
  exact (h.lt ad.block rfl).1
theorem kept_of_below {w w' : World} (h : Below w.heap.size w w') : Kept w w' :=
  ⟨h.frame _, fun _ ha => h.frozen ha, h.size⟩
theorem Kept.drewN {W w : World} (h : Kept W w) (n : Nat) : Kept W (w.drewN n) := h
theorem Kept.setCell {W w : World} (h : Kept W w) {a : Addr} (ha : W.heap.size ≤ a.block) (v : Value) : Kept W (w.setCell a v) := by
  obtain ⟨⟨h1, h2, h3⟩, hf, hs⟩ := h
  refine ⟨⟨h1, h2, fun i hi => ?_⟩, fun x hx => (World.frozen?_setCell _ _ _ _).trans (hf x hx), by simpa [World.setCell] using hs⟩
  rw [Below.heap_setCell _ _ _ _ (by omega)]
  exact h3 i hi
theorem Kept.box0 {w : World} {W : World} {x0 x1 : Value} {t : TypeId} (hg : Kept (w.alloc (.cells #[x0, x1] t)) W) : W.cell? ⟨w.heap.size, 0, none⟩ = some x0 := hg.box 0 _ rfl
theorem Kept.box1 {w : World} {W : World} {x0 x1 : Value} {t : TypeId} (hg : Kept (w.alloc (.cells #[x0, x1] t)) W) : W.cell? ⟨w.heap.size, 1, none⟩ = some x1 := hg.box 1 _ rfl
theorem lt_of_kept {w w1 : World} {c : Array Value} {t : TypeId} (hg : Kept (w.alloc (.cells c t)) w1) : w.heap.size < w1.heap.size := by
  have := hg.2.2; simp at this; omega
end Go.Proofs.YtoanccojpppfoaaDoor

