/-
  What is proved: as region_plan (XPlan), where one block of the beginning's world may be written by the region itself.
-/
import Derived.Test.YtgofecnpmohmgaaPlan
import Derived.Test.YtgofecnpmohmgaaRow
namespace Go.Proofs.Ytgofecnpmohmgaa
open Go.RowKit

/-- A world that has all that W has, but for block b. -/
structure KExtE (b : Nat) (W : World) where
  w : World
  g : KeptE b W w
instance (b : Nat) (W : World) : Nonempty (KExtE b W) := ⟨⟨W, .refl b W⟩⟩
theorem KExtE.cell {b : Nat} {W : World} {b' o : Nat} {v : Value} (hb : b' ≠ b) (hc : W.cell? ⟨b', o, none⟩ = some v) (g : KExtE b W) : g.w.cell? ⟨b', o, none⟩ = some v := g.g.cell hb hc
theorem soloE {b : Nat} {W : World} {P : Program} {ops : Array Oper} {Q : Exit → Act → World → Prop} {p : Plan} {a : Act} {w : World} (hk : KeptE b W w) (h : wpPlan P ops (fun w' => ∃ g : KExtE b W, w' = g.w) Q p a w) :
    soloQ (fun a' w' => (∃ g : KExtE b W, w' = g.w) ∧ wpPlan P ops (fun w' => ∃ g : KExtE b W, w' = g.w) Q p a' w') .normal a w := ⟨⟨⟨w, hk⟩, rfl⟩, h⟩
theorem region_planE {P : Program} (b : Nat) (W : World) {id : Nat} {Q : Exit → Act → World → Prop} {a : Act} {w : World} {l : List Oper} (n : Nat) (p : Plan) (hm : P.follows .mixedOrders = true) (hs : Region.noSelect l.toArray = true) (hl : l.length = n) (hn : planN p = n)
    (hB : planF l.toArray n p 0 = true) (hQ : ∀ c d v a w, Q (.panic c) (Act.put a d v) w → Q (.panic c) a w) (h0 : Kept W w)
    (h : ∀ wd : World, Kept w wd → wpPlan P l.toArray (fun w' => ∃ g : KExtE b W, w' = g.w) Q p a wd) : (Code.region id l.toArray true).wp P Q a w := by
  subst hl
  refine wp_region_held (S := fun w' => ∃ g : KExtE b W, w' = g.w) hm ?_
  have hk : Kept w { w with drawn := w.drawn + 1 } := (Kept.refl w).drew
  have hB2 := planF_B l.toArray p 0 (by rw [List.size_toArray]; exact hB)
  rw [List.size_toArray, ← bits_none] at hB2
  have := plan_any (Q := Q) (C := fun w' => ∃ g : KExtE b W, w' = g.w) hs hQ p (Array.replicate l.length false) a { w with drawn := w.drawn + 1 } hB2 ⟨⟨_, .of (h0.trans hk)⟩, rfl⟩ (h _ hk)
  rw [hn] at this
  rw [List.size_toArray]
  exact this
end Go.Proofs.Ytgofecnpmohmgaa
