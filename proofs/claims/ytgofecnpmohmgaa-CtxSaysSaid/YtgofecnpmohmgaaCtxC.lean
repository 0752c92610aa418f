/-
  What is meant: all that layer 6's laws ask of package ctx, as one bundle of contracts: to be proved of the landed code; the laws' walks take it as a premise.
-/
import Derived.Test.YtgofecnpmohmgaaCOf
import Derived.Test.YtgofecnpmohmgaaCTake
import Derived.Test.YtgofecnpmohmgaaCPut
import Derived.Test.YtgofecnpmohmgaaCDots
namespace Go.Proofs.Ytgofecnpmohmgaa
open Go.RowKit

/-- A call that answers a Bool, or an int, or a text, and lays blocks alone. -/
def Says (v : Value) (w : World) (e : Ending) (w' : World) : Prop := e = .returned v ∧ Kept w w'
structure CtxC : Prop where
  right : ∀ (A : Option Addr) (n c : Nat) (V : List Int) (B : Option Addr) (m k : Nat) (C : List (Int × Int)) (w : World), Il w A n c V → Dl w B m k C → n ≤ 1000 → m ≤ 1000 → ∀ r : Bool, (r = true ↔ RightC V C) →
    Calls Try.prog 8 #[.agg #[.slice A n c, .slice B m k]] w (Says (.bool r) w)
  has : ∀ (A : Option Addr) (n c : Nat) (V : List Int) (B : Option Addr) (m k : Nat) (C : List (Int × Int)) (x1 x2 : Int) (w : World), Il w A n c V → Dl w B m k C → RightC V C → ∀ r : Bool, decide (hasC V C (x1, x2)) = r →
    Calls Try.prog 16 #[.agg #[.slice A n c, .slice B m k], .agg #[.int .i64 x1, .int .i64 x2]] w (Says (.bool r) w)
  add : ∀ (A : Option Addr) (n c : Nat) (V : List Int) (B : Option Addr) (m k : Nat) (C : List (Int × Int)) (x1 x2 : Int) (w : World), Il w A n c V → Dl w B m k C → RightC V C → m ≤ 10000 →
    Calls Try.prog 18 #[.agg #[.slice A n c, .slice B m k], .agg #[.int .i64 x1, .int .i64 x2]] w (Sets (fun d => hasC V C d ∨ (rightD d = true ∧ d = (x1, x2))) (m + 1) w)
  of_ : ∀ (A : Option Addr) (n c : Nat) (L : List (Int × Int)) (w : World), Dl w A n c L → n ≤ 10000 →
    Calls Try.prog 11 #[.slice A n c] w (Sets (fun d => rightD d = true ∧ d ∈ L) n w)
  join : ∀ (A : Option Addr) (n c : Nat) (V : List Int) (B : Option Addr) (m k : Nat) (C : List (Int × Int)) (A' : Option Addr) (n' c' : Nat) (V' : List Int) (B' : Option Addr) (m' k' : Nat) (C' : List (Int × Int)) (w : World), Il w A n c V → Dl w B m k C → RightC V C → Il w A' n' c' V' → Dl w B' m' k' C' → RightC V' C' → m + m' ≤ 10000 →
    Calls Try.prog 24 #[.agg #[.slice A n c, .slice B m k], .agg #[.slice A' n' c', .slice B' m' k']] w (Sets (fun d => hasC V C d ∨ hasC V' C' d) (m + m') w)
  compact : ∀ (A : Option Addr) (n c : Nat) (V : List Int) (B : Option Addr) (m k : Nat) (L : List (Int × Int)) (w : World), Il w A n c V → Dl w B m k L → RightC V [] → m ≤ 10000 →
    Calls Try.prog 22 #[.agg #[.slice A n c, .slice B m k]] w (Sets (CompS V L) m w)
  dots : ∀ (A : Option Addr) (n c : Nat) (V : List Int) (B : Option Addr) (m k : Nat) (C : List (Int × Int)) (most : Int) (w : World), Il w A n c V → Dl w B m k C → RightC V C → most ≤ 100000 →
    Calls Try.prog 30 #[.agg #[.slice A n c, .slice B m k], .int .i64 most] w fun e w' => ∃ A' c', e = .returned (.slice A' ((dotsC V C).take most.toNat).length c') ∧ Dl w' A' ((dotsC V C).take most.toNat).length c' ((dotsC V C).take most.toNat) ∧ Kept w w'
  most : ∀ (A : Option Addr) (n c : Nat) (V : List Int) (B : Option Addr) (m k : Nat) (C : List (Int × Int)) (r : Int) (w : World), Il w A n c V → Dl w B m k C → RightC V C →
    Calls Try.prog 20 #[.agg #[.slice A n c, .slice B m k], .int .i64 r] w (Says (.int .i64 (mostC V C r)) w)
  put : ∀ (b : ByteArray) (A : Option Addr) (n c : Nat) (V : List Int) (B : Option Addr) (m k : Nat) (C : List (Int × Int)) (w : World), Il w A n c V → Dl w B m k C → RightC V C → b.size ≤ 10000 → m ≤ 1000 →
    Calls Try.prog 32 #[.string b, .agg #[.slice A n c, .slice B m k]] w (Says (.string (putC b V C)) w)
  take : ∀ (s : ByteArray) (w : World), s.size ≤ 50000 → Calls Try.prog 13 #[.string s] w (TakeC s w)
  same : ∀ (A : Option Addr) (n c : Nat) (V : List Int) (B : Option Addr) (m k : Nat) (C : List (Int × Int)) (A' : Option Addr) (n' c' : Nat) (V' : List Int) (B' : Option Addr) (m' k' : Nat) (C' : List (Int × Int)) (w : World), Il w A n c V → Dl w B m k C → Il w A' n' c' V' → Dl w B' m' k' C' → ∀ r : Bool, decide (V = V' ∧ C = C') = r →
    Calls Try.prog 28 #[.agg #[.slice A n c, .slice B m k], .agg #[.slice A' n' c', .slice B' m' k']] w (Says (.bool r) w)
  within : ∀ (A : Option Addr) (n c : Nat) (V : List Int) (B : Option Addr) (m k : Nat) (C : List (Int × Int)) (A' : Option Addr) (n' c' : Nat) (V' : List Int) (B' : Option Addr) (m' k' : Nat) (C' : List (Int × Int)) (w : World), Il w A n c V → Dl w B m k C → RightC V C → Il w A' n' c' V' → Dl w B' m' k' C' → RightC V' C' → m + m' ≤ 10000 → ∀ r : Bool, (r = true ↔ ∀ d, hasC V C d → hasC V' C' d) →
    Calls Try.prog 26 #[.agg #[.slice A n c, .slice B m k], .agg #[.slice A' n' c', .slice B' m' k']] w (Says (.bool r) w)
def AwakeC : Prop := ∀ w : World, Calls Try.prog 7 #[] w (Says (.bool true) w)
end Go.Proofs.Ytgofecnpmohmgaa
