/-
  What is proved: val.Cmp, called with any two values, returns their order (P3.2); the world has new blocks at most.
-/
import Derived.Test.YtoanccojpppfoaaDoorCmp
import Derived.StillTailTactics
namespace Go.Proofs.YtoanccojpppfoaaDoor
open Go.RowKit

theorem cmpInt_st (a b : Int) (w : World) : Calls Tryd.prog 59 #[.int .i64 a, .int .i64 b] w fun e w' => e = .returned (.int .i64 (cmpI a b)) ∧ w' = w :=
  (cmpInt_any a b w).mono fun _ _ ⟨he, hw⟩ => ⟨he, hw.symm⟩
/-- A region whose first n operations only read, in whatever order, and whose others have one order: the world behind the draw under a name of its own. -/
theorem region_tail {P : Program} {id : Nat} {Q : Exit → Act → World → Prop} {a : Act} {w : World} {l : List Oper} (n : Nat) (hm : P.follows .mixedOrders = true) (hB : Region.lexTailB .any l.toArray n = true)
    (h : ∀ wd : World, wd = w.drew → wpStill P l.toArray wd (fun a' => wpList P l.toArray Q (l.drop n) a' wd) (l.take n) a) : (Code.region id l.toArray true).wp P Q a w :=
  wp_region_still_tail n hm hB (h _ rfl)

end Go.Proofs.YtoanccojpppfoaaDoor
