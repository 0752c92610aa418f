/-
  What is proved: of worlds that have all that another one has, unchanged, and new blocks of whatever kind ('Kept'): cells and variables read on; a region that draws its order, whose callees leave such worlds and hand back values that hang on no world, is walked once, in the text's order; the row's last step for a call whose arguments lie in no memory.
-/
import Derived.Test.YtnfchfldpdnjoaaDoorExt
import Derived.Sort.Grow
import Derived.ChangeSame
namespace Go.Proofs.YtnfchfldpdnjoaaDoor
open Go.RowKit Go.WideShapes Go.ChangeShapes

def Kept (W w : World) : Prop := W.keptBut w (fun _ => False) ∧ (∀ a : Addr, a.block < W.heap.size → w.frozen? a = W.frozen? a) ∧ W.heap.size ≤ w.heap.size
theorem Kept.refl (W : World) : Kept W W := ⟨World.keptBut_refl _ _, fun _ _ => rfl, Nat.le_refl _⟩
theorem Kept.trans {a b c : World} (h1 : Kept a b) (h2 : Kept b c) : Kept a c :=
  ⟨World.keptBut_trans h1.1 h2.1, fun x hx => (h2.2.1 x (Nat.lt_of_lt_of_le hx h1.2.2)).trans (h1.2.1 x hx), Nat.le_trans h1.2.2 h2.2.2⟩
theorem kept_of {a b : World} (h : Grown a b) : Kept a b := ⟨h.1, fun x _ => h.2.1 x, h.2.2⟩
theorem Kept.alloc {W w : World} (h : Kept W w) (c : Array Value) (t : TypeId) : Kept W (w.alloc (.cells c t)) := h.trans (kept_of ((Grown.refl _).alloc _ _))
theorem Kept.drew {W w : World} (h : Kept W w) : Kept W w.drew := h
theorem Kept.frame {W w : World} (h : Kept W w) (may : MemPlace → Prop) : W.keptBut w may := World.keptBut_mono (fun _ f => f.elim) h.1
theorem Kept.cell {w w1 : World} (hg : Kept w w1) {b o : Nat} {v : Value} (hc : w.cell? ⟨b, o, none⟩ = some v) : w1.cell? ⟨b, o, none⟩ = some v := by
  rw [hg.1.cell (World.block_lt_of_cell? w _ hc) (by simp)]
  exact hc
theorem Kept.box {w w1 : World} {c : Array Value} {t : TypeId} (hg : Kept (w.alloc (.cells c t)) w1) (i : Nat) (v : Value) (hv : c[i]? = some v) : w1.cell? ⟨w.heap.size, i, none⟩ = some v := by
  rw [hg.1.cell (by simp) (by simp), World.cell?_alloc_new]
  exact hv
theorem kept_grow (w : World) (k : Nat) (os : Array Obj) : Kept w (Sort.grow (w.drewN k) os) := by
  refine ⟨⟨rfl, rfl, fun i hi => ?_⟩, fun a ha => Sort.frozen?_grow (w.drewN k) os a ha, by rw [Sort.size_grow]; exact Nat.le_add_right _ _⟩
  have e : (Sort.grow (w.drewN k) os).heap[i]? = w.heap[i]? := Sort.heap_grow_old (w.drewN k) os hi
  have := (World.keptBut_refl w (fun _ => False)).2.2 i hi
  rw [e]
  exact this

theorem Kept.var {P : Program} {w w' : World} {n : String} {cs : Array Value} (h : w.var? P n = some cs) (hg : Kept w w') : w'.var? P n = some cs := by
  unfold World.var? at h ⊢
  cases hn : P.globalNamed n with
  | none => rw [hn] at h; cases h
  | some g =>
    rw [hn] at h
    simp only [Option.bind_some] at h ⊢
    have hlt : g < w.heap.size := by
      rcases Nat.lt_or_ge g w.heap.size with h' | h'
      · exact h'
      · rw [Array.getElem?_eq_none h'] at h; cases h
    have hk := hg.1.2.2 g hlt
    cases h1 : w.heap[g]? with
    | none => rw [h1] at h; cases h
    | some o =>
      rw [h1] at h hk
      cases o with
      | cells c t fr =>
        simp only [Option.some.injEq] at h
        subst h
        cases h2 : w'.heap[g]? with
        | none => rw [h2] at hk; simp at hk
        | some o' =>
          rw [h2] at hk
          cases o' with
          | cells c' t' fr' =>
            obtain ⟨_, _, hs, hc⟩ := hk
            simp only [Option.some.injEq]
            apply Array.ext hs
            intro i h3 h4
            have := hc i (fun f => f)
            rw [Array.getElem?_eq_getElem h3, Array.getElem?_eq_getElem h4] at this
            exact Option.some.inj this
          | _ => simp at hk
      | _ => simp at h

/-- A world that has all that W has, unchanged. -/
structure KExt (W : World) where
  w : World
  g : Kept W w
instance (W : World) : Nonempty (KExt W) := ⟨⟨W, Kept.refl W⟩⟩
theorem KExt.cell {W : World} {b o : Nat} {v : Value} (hc : W.cell? ⟨b, o, none⟩ = some v) (g : KExt W) : g.w.cell? ⟨b, o, none⟩ = some v := g.g.cell hc

theorem region_kept {P : Program} (W : World) {id : Nat} {Q : Exit → Act → World → Prop} {a : Act} {w : World} {l : List Oper} (hm : P.follows .mixedOrders = true) (hB : Region.lexB .any l.toArray = true) (h0 : Kept W w)
    (h : wpQuiet P l.toArray (fun w' => ∃ g : KExt W, w' = g.w) (fun a' => ∀ g : KExt W, Q .normal a' g.w) l a) : (Code.region id l.toArray true).wp P Q a w := by
  refine wp_region_quiet (C := fun w' => ∃ g : KExt W, w' = g.w) hm hB ⟨⟨w.drew, h0⟩, rfl⟩ ?_
  have e : (fun a' => ∀ w', (∃ g : KExt W, w' = g.w) → Q .normal a' w') = (fun a' => ∀ g : KExt W, Q .normal a' g.w) := by
    funext a'
    exact propext ⟨fun h g => h _ ⟨g, rfl⟩, fun h w' ⟨g, hg⟩ => hg ▸ h g⟩
  rw [e, List.toList_toArray]
  exact h
theorem KExt.calls {P : Program} {f : FuncId} {args : Array Value} {W : World} {g : KExt W} {v : Value} (h : Calls P f args g.w fun e w' => e = .returned v ∧ Grown g.w w') :
    Calls P f args g.w fun e w' => e = .returned v ∧ ∃ g' : KExt W, w' = g'.w :=
  h.mono fun _ _ ⟨he, hg⟩ => ⟨he, ⟨_, g.g.trans (kept_of hg)⟩, rfl⟩
theorem KExt.callsK {P : Program} {f : FuncId} {args : Array Value} {W : World} {g : KExt W} {v : Value} (h : Calls P f args g.w fun e w' => e = .returned v ∧ Kept g.w w') :
    Calls P f args g.w fun e w' => e = .returned v ∧ ∃ g' : KExt W, w' = g'.w :=
  h.mono fun _ _ ⟨he, hg⟩ => ⟨he, ⟨_, g.g.trans hg⟩, rfl⟩
theorem KExt.same {P : Program} {f : FuncId} {args : Array Value} {W : World} {g : KExt W} {v : Value} (h : Calls P f args g.w fun e w' => e = .returned v ∧ g.w = w') :
    Calls P f args g.w fun e w' => e = .returned v ∧ ∃ g' : KExt W, w' = g'.w :=
  h.mono fun _ _ ⟨he, hw⟩ => ⟨he, g, hw.symm⟩

/-- The row's last step: the arguments lie in no memory, no variable is told of. -/
theorem post_kept {H : Type} {enc : TypeId × Value → H} {P : Program} {f : Func} {s : ChangeSpec} {apart fresh handsOn again : Bool} {W W' : World} {args : Array Value} {v : Value} {ds gs : List (DataW H)}
    (hW : DataW.Whole enc P f.params.toList s.vars apart W args.toList ds gs [])
    (hres : ∀ (b : Nat) (sp : Nat → Bool) (hd : Bool), DataW.TrodAll enc P W' b sp hd f.resultTypes.toList (v.resultList f.resultTypes.size) (s.fn H (ds ++ gs)).results [])
    (hargs : ∀ sp : Nat → Bool, DataW.TrodAll enc P W' 0 sp true f.params.toList args.toList (s.fn H (ds ++ gs)).args [])
    (hvars : ∀ sp : Nat → Bool, DataW.TrodVars enc P W' sp s.vars (s.fn H (ds ++ gs)).vars [])
    (hk : Kept W W')
    (hok : ∀ (j : Nat) (t : TypeId) (r : Value), f.resultTypes[j]? = some t → (v.resultList f.resultTypes.size)[j]? = some r → Value.okWide P W' .any 0 t r) :
    s.post enc P f apart fresh handsOn again W args v W' := by
  refine ⟨ds, gs, [], [], [], [], hW, hres _ _ _, hargs _, hvars _, hk.frame _, fun _ => ?_⟩
  exact ⟨hok, _, _, [] ++ [] ++ [], ⟨[] ++ [], [], trodAll_append (hargs _) (hres _ _ _), hvars _, rfl, fun b off hp => by simp at hp, fun _ => by simp⟩, fun p hp _ => by simp at hp⟩
end Go.Proofs.YtnfchfldpdnjoaaDoor
