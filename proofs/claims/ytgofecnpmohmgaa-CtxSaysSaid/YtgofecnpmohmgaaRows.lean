/-
  No cell of these rows narrows 'for every input' (looked for: loops, veiled, ifaces, maps, wideKeys, modest, calm, conditions, laid).
  DERIVED. THE GIVEN ROWS OF THIS SEAT. 4 by the template 'for every input the law returns true; each argument reads behind the call as it read before'; 0 by the template 'total and deterministic' (their statements: YtgofecnpmohmgaaTotals.lean).
  GIVEN WITH THE SEED: the statements are not yours to turn. If you find one false, say at which input.
  Laid BY PROGRAM, IN A SANDBOX (cutbox-rows.mjs): the forced cells as the released guide's own fill.sh prints them over the translation 869ce3f2ef7eefde… (all of the seat's roots in one cut). By AI agents, Wed Nov 11 2026. No macro, syntax, notation, axiom, sorry.
-/
import Derived.Test.YtgofecnpmohmgaaChecked
import GoSem.Claim
import GoSem.ClaimJoined
import GoSem.ClaimMapViews
import Derived.JoinedTies
import Derived.KernelRfl
namespace Go.Proofs.Ytgofecnpmohmgaa
/- THE CELL 'sum', in the pinned program and in every row, IS THE sha256 OF THE DUMP (.gsa) THAT YtgofecnpmohmgaaProg.lean LOADS. Nothing in Lean hashes anything: it is a label: what it is worth is what the hold of that sum in a sandbox is worth. -/
noncomputable def Try.pinned : Pinned := { name := "ytgofecnpmohmgaa", sum := "869ce3f2ef7eefde37bdb538ab535bb2dc353b531e591daca618cb6d16c3de1a", checked := Try.checked }
namespace Rows
def none {H : Type} : Left H := { results := [], args := [] }

/-- 'lorgnettelaw06.CtxSays': WHATEVER THE INPUT: true; the input reads as it did. -/
def ctxSaysSpec : ChangeSpec := { name := "ctxSays", fn := fun _ => fun
  | [d1, d2, d3] => { results := [.lit (.bool true)], args := [d1, d2, d3] }
  | _ => none }
def ctxSaysRow : OpenClaim := { program := "ytgofecnpmohmgaa", sum := "869ce3f2ef7eefde37bdb538ab535bb2dc353b531e591daca618cb6d16c3de1a", func := "lorgnette/lorgnettelaw06.CtxSays", spec := "ctxSays", inPlace := ["internal/abi.NoEscape"], unfollowed := true, recurses := true, apart := false }
def CtxSaysSaid : Prop := ctxSaysRow.holds Try.pinned (OpenSpec.ofChange ctxSaysSpec)

/-- ITS FALSE NEIGHBOUR: 'it returns false'. Refute it at one input. -/
def ctxSaysWrong : ChangeSpec := { name := "ctxSays", fn := fun _ => fun
  | [d1, d2, d3] => { results := [.lit (.bool false)], args := [d1, d2, d3] }
  | _ => none }
def CtxSaysWrongFalsely : Prop := ctxSaysRow.holds Try.pinned (OpenSpec.ofChange ctxSaysWrong)

/-- 'lorgnettelaw06.CtxSets': WHATEVER THE INPUT: true; the input reads as it did. -/
def ctxSetsSpec : ChangeSpec := { name := "ctxSets", fn := fun _ => fun
  | [d1, d2, d3] => { results := [.lit (.bool true)], args := [d1, d2, d3] }
  | _ => none }
def ctxSetsRow : OpenClaim := { program := "ytgofecnpmohmgaa", sum := "869ce3f2ef7eefde37bdb538ab535bb2dc353b531e591daca618cb6d16c3de1a", func := "lorgnette/lorgnettelaw06.CtxSets", spec := "ctxSets", inPlace := ["internal/abi.NoEscape"], unfollowed := true, recurses := true, apart := false }
def CtxSetsSaid : Prop := ctxSetsRow.holds Try.pinned (OpenSpec.ofChange ctxSetsSpec)

/-- ITS FALSE NEIGHBOUR: 'it returns false'. Refute it at one input. -/
def ctxSetsWrong : ChangeSpec := { name := "ctxSets", fn := fun _ => fun
  | [d1, d2, d3] => { results := [.lit (.bool false)], args := [d1, d2, d3] }
  | _ => none }
def CtxSetsWrongFalsely : Prop := ctxSetsRow.holds Try.pinned (OpenSpec.ofChange ctxSetsWrong)

/-- 'lorgnettelaw06.CtxBack': WHATEVER THE INPUT: true; the input reads as it did. -/
def ctxBackSpec : ChangeSpec := { name := "ctxBack", fn := fun _ => fun
  | [d1, d2] => { results := [.lit (.bool true)], args := [d1, d2] }
  | _ => none }
def ctxBackRow : OpenClaim := { program := "ytgofecnpmohmgaa", sum := "869ce3f2ef7eefde37bdb538ab535bb2dc353b531e591daca618cb6d16c3de1a", func := "lorgnette/lorgnettelaw06.CtxBack", spec := "ctxBack", inPlace := ["internal/abi.NoEscape"], unfollowed := true, recurses := true, apart := false }
def CtxBackSaid : Prop := ctxBackRow.holds Try.pinned (OpenSpec.ofChange ctxBackSpec)

/-- ITS FALSE NEIGHBOUR: 'it returns false'. Refute it at one input. -/
def ctxBackWrong : ChangeSpec := { name := "ctxBack", fn := fun _ => fun
  | [d1, d2] => { results := [.lit (.bool false)], args := [d1, d2] }
  | _ => none }
def CtxBackWrongFalsely : Prop := ctxBackRow.holds Try.pinned (OpenSpec.ofChange ctxBackWrong)

/-- 'lorgnettelaw06.CtxDots': WHATEVER THE INPUT: true; the input reads as it did. -/
def ctxDotsSpec : ChangeSpec := { name := "ctxDots", fn := fun _ => fun
  | [d1, d2] => { results := [.lit (.bool true)], args := [d1, d2] }
  | _ => none }
def ctxDotsRow : OpenClaim := { program := "ytgofecnpmohmgaa", sum := "869ce3f2ef7eefde37bdb538ab535bb2dc353b531e591daca618cb6d16c3de1a", func := "lorgnette/lorgnettelaw06.CtxDots", spec := "ctxDots", inPlace := ["internal/abi.NoEscape"], unfollowed := true, recurses := true, apart := false }
def CtxDotsSaid : Prop := ctxDotsRow.holds Try.pinned (OpenSpec.ofChange ctxDotsSpec)

/-- ITS FALSE NEIGHBOUR: 'it returns false'. Refute it at one input. -/
def ctxDotsWrong : ChangeSpec := { name := "ctxDots", fn := fun _ => fun
  | [d1, d2] => { results := [.lit (.bool false)], args := [d1, d2] }
  | _ => none }
def CtxDotsWrongFalsely : Prop := ctxDotsRow.holds Try.pinned (OpenSpec.ofChange ctxDotsWrong)

/- THE SECOND FORM. 'bulk': how many values and letters a reading holds, each counted each time it is reached (what is shared counts as often as it is met; a slice's spare places count too). A statement '..UptoSaid' is the law's where the arguments, and the package variables that the reading takes, are together of bulk at most 1048576: NARROWER than '..Said'. Prove '..Said' where nothing that the law and all that it calls make is longer than what came in: it says more and counts as full. Else prove '..UptoSaid'. A law counts once. -/
mutual
def uptoBulk {H : Type} : DataW H → Nat
  | .lit (.string bytes) => bytes.length + 1
  | .lit _ => 1
  | .nil => 1
  | .ptr d => uptoBulk d + 1
  | .slice elems spare => uptoBulkAll elems + uptoBulkAll spare + 1
  | .agg parts => uptoBulkAll parts + 1
  | .iface _ d => uptoBulk d + 1
  | .map entries => uptoBulkEntries entries + 1
  | .held _ => 1
def uptoBulkAll {H : Type} : List (DataW H) → Nat
  | [] => 0
  | d :: r => uptoBulk d + uptoBulkAll r
def uptoBulkEntries {H : Type} : List (Lit × DataW H) → Nat
  | [] => 0
  | x :: r => uptoBulkEntry x + uptoBulkEntries r
def uptoBulkEntry {H : Type} : Lit × DataW H → Nat
  | (.string bytes, d) => bytes.length + uptoBulk d + 1
  | (_, d) => uptoBulk d + 1
 end
def uptoSmall : (H : Type) → List (DataW H) → Bool := fun _ ds => decide (uptoBulkAll ds ≤ 1048576)
def OpenSpec.upto (s : _root_.Go.ChangeSpec) : _root_.Go.OpenSpec := { _root_.Go.OpenSpec.ofChange s with cond := some uptoSmall }

/-- 'lorgnettelaw06.CtxSays', WHERE WHAT IT READS IS OF BULK AT MOST 1048576: true; the input reads as it did. -/
def ctxSaysUptoRow : OpenClaim := { program := "ytgofecnpmohmgaa", sum := "869ce3f2ef7eefde37bdb538ab535bb2dc353b531e591daca618cb6d16c3de1a", func := "lorgnette/lorgnettelaw06.CtxSays", spec := "ctxSays", inPlace := ["internal/abi.NoEscape"], unfollowed := true, recurses := true, apart := false, narrowed := true }
def CtxSaysUptoSaid : Prop := ctxSaysUptoRow.holds Try.pinned (OpenSpec.upto ctxSaysSpec)

/-- 'lorgnettelaw06.CtxSets', WHERE WHAT IT READS IS OF BULK AT MOST 1048576: true; the input reads as it did. -/
def ctxSetsUptoRow : OpenClaim := { program := "ytgofecnpmohmgaa", sum := "869ce3f2ef7eefde37bdb538ab535bb2dc353b531e591daca618cb6d16c3de1a", func := "lorgnette/lorgnettelaw06.CtxSets", spec := "ctxSets", inPlace := ["internal/abi.NoEscape"], unfollowed := true, recurses := true, apart := false, narrowed := true }
def CtxSetsUptoSaid : Prop := ctxSetsUptoRow.holds Try.pinned (OpenSpec.upto ctxSetsSpec)

/-- 'lorgnettelaw06.CtxBack', WHERE WHAT IT READS IS OF BULK AT MOST 1048576: true; the input reads as it did. -/
def ctxBackUptoRow : OpenClaim := { program := "ytgofecnpmohmgaa", sum := "869ce3f2ef7eefde37bdb538ab535bb2dc353b531e591daca618cb6d16c3de1a", func := "lorgnette/lorgnettelaw06.CtxBack", spec := "ctxBack", inPlace := ["internal/abi.NoEscape"], unfollowed := true, recurses := true, apart := false, narrowed := true }
def CtxBackUptoSaid : Prop := ctxBackUptoRow.holds Try.pinned (OpenSpec.upto ctxBackSpec)

/-- 'lorgnettelaw06.CtxDots', WHERE WHAT IT READS IS OF BULK AT MOST 1048576: true; the input reads as it did. -/
def ctxDotsUptoRow : OpenClaim := { program := "ytgofecnpmohmgaa", sum := "869ce3f2ef7eefde37bdb538ab535bb2dc353b531e591daca618cb6d16c3de1a", func := "lorgnette/lorgnettelaw06.CtxDots", spec := "ctxDots", inPlace := ["internal/abi.NoEscape"], unfollowed := true, recurses := true, apart := false, narrowed := true }
def CtxDotsUptoSaid : Prop := ctxDotsUptoRow.holds Try.pinned (OpenSpec.upto ctxDotsSpec)

end Rows
end Go.Proofs.Ytgofecnpmohmgaa
