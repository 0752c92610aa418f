/-
  What is proved: a region that draws its order, whose operations read and whose callees make memory at most and hand back values that hang on no world, is walked once, in the text's order (by the library's wp_region_quiet at the class of all worlds grown out of one world).
-/
import Derived.WalkKit
import Derived.RowKit3
import Derived.Deep.QuietTactic
import Derived.BigQuiet
namespace Go.Proofs.YtnfchfldpdnjoaaDoor
open Go.RowKit

theorem grown_trans {a b c : World} (h1 : Grown a b) (h2 : Grown b c) : Grown a c :=
  ⟨World.keptBut_trans h1.1 h2.1, fun x => (h2.2.1 x).trans (h1.2.1 x), Nat.le_trans h1.2.2 h2.2.2⟩
theorem grown_cell {w w1 : World} (hg : Grown w w1) {b o : Nat} {v : Value} (hc : w.cell? ⟨b, o, none⟩ = some v) : w1.cell? ⟨b, o, none⟩ = some v := by
  rw [hg.1.cell (World.block_lt_of_cell? w _ hc) (by simp)]
  exact hc

theorem grown_box {w w1 : World} {c : Array Value} {t : TypeId} (hg : Grown (w.alloc (.cells c t)) w1) (i : Nat) (v : Value) (hv : c[i]? = some v) : w1.cell? ⟨w.heap.size, i, none⟩ = some v := by
  rw [hg.1.cell (by simp) (by simp), World.cell?_alloc_new]
  exact hv
/-- A world grown out of W: nothing of W has changed. -/
structure Ext (W : World) where
  w : World
  g : Grown W w
instance (W : World) : Nonempty (Ext W) := ⟨⟨W, Grown.refl W⟩⟩

theorem Ext.cell {W : World} {b o : Nat} {v : Value} (hc : W.cell? ⟨b, o, none⟩ = some v) (g : Ext W) : g.w.cell? ⟨b, o, none⟩ = some v := grown_cell g.g hc

theorem region_ext {P : Program} (W : World) {id : Nat} {Q : Exit → Act → World → Prop} {a : Act} {w : World} {l : List Oper} (hm : P.follows .mixedOrders = true) (hB : Region.lexB .any l.toArray = true) (h0 : Grown W w)
    (h : wpQuiet P l.toArray (fun w' => ∃ g : Ext W, w' = g.w) (fun a' => ∀ g : Ext W, Q .normal a' g.w) l a) : (Code.region id l.toArray true).wp P Q a w := by
  refine wp_region_quiet (C := fun w' => ∃ g : Ext W, w' = g.w) hm hB ⟨⟨w.drew, h0⟩, rfl⟩ ?_
  have e : (fun a' => ∀ w', (∃ g : Ext W, w' = g.w) → Q .normal a' w') = (fun a' => ∀ g : Ext W, Q .normal a' g.w) := by
    funext a'
    exact propext ⟨fun h g => h _ ⟨g, rfl⟩, fun h w' ⟨g, hg⟩ => hg ▸ h g⟩
  rw [e, List.toList_toArray]
  exact h

/-- A callee that makes memory at most. -/
theorem Ext.calls {P : Program} {f : FuncId} {args : Array Value} {W : World} {g : Ext W} {v : Value} (h : Calls P f args g.w fun e w' => e = .returned v ∧ Grown g.w w') :
    Calls P f args g.w fun e w' => e = .returned v ∧ ∃ g' : Ext W, w' = g'.w :=
  h.mono fun _ _ ⟨he, hg⟩ => ⟨he, ⟨_, grown_trans g.g hg⟩, rfl⟩
/-- A callee that leaves the world alone. -/
theorem Ext.same {P : Program} {f : FuncId} {args : Array Value} {W : World} {g : Ext W} {v : Value} (h : Calls P f args g.w fun e w' => e = .returned v ∧ g.w = w') :
    Calls P f args g.w fun e w' => e = .returned v ∧ ∃ g' : Ext W, w' = g'.w :=
  h.mono fun _ _ ⟨he, hw⟩ => ⟨he, g, hw.symm⟩
end Go.Proofs.YtnfchfldpdnjoaaDoor
