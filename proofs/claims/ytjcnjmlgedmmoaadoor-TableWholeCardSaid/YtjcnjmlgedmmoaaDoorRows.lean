/-
  NARROWER THAN 'FOR EVERY INPUT', by the rows' own cells (each row's printed sentence says how): TableSays: laid · TableThrice: laid · TableWhole: laid · TableSharp: laid.
  DERIVED. THE GIVEN ROWS OF THIS SEAT. 4 by the template 'for every input the law returns true; each argument reads behind the call as it read before'; 0 by the template 'total and deterministic' (their statements: YtjcnjmlgedmmoaaDoorTotals.lean).
  GIVEN WITH THE SEED: the statements are not yours to turn. If you find one false, say at which input.
  Laid BY PROGRAM, IN A SANDBOX (cutbox-rows.mjs): the forced cells as the released guide's own fill.sh prints them over the translation 9cc30e9fc95ae7ef… (all of the seat's roots in one cut). By AI agents, Wed Nov 11 2026. No macro, syntax, notation, axiom, sorry.
-/
import Derived.Test.YtjcnjmlgedmmoaaDoorChecked
import GoSem.Claim
import GoSem.ClaimJoined
import GoSem.ClaimMapViews
import Derived.JoinedTies
import Derived.KernelRfl
namespace Go.Proofs.YtjcnjmlgedmmoaaDoor
/- THE CELL 'sum', in the pinned program and in every row, IS THE sha256 OF THE DUMP (.gsa) THAT YtjcnjmlgedmmoaaDoorProg.lean LOADS. Nothing in Lean hashes anything: it is a label: what it is worth is what the hold of that sum in a sandbox is worth. -/
noncomputable def Tryd.pinned : Pinned := { name := "ytjcnjmlgedmmoaadoor", sum := "9cc30e9fc95ae7ef01e512ef99d2933bd0e8f5079606a0221c7616c9b0f4fa2f", checked := Tryd.checked }
namespace Rows
def none {H : Type} : Left H := { results := [], args := [] }

/- WHAT THE LISTED PACKAGE-LEVEL VARIABLES READ AS WHEN THE CALL BEGINS. Each datum BY PROGRAM (the guide's laid-datum.mjs) off the statement by which the dump's own 'gosem.cut.vars' lays the variable. In a bare row this is a premise. The card (YtjcnjmlgedmmoaaDoorCards.lean) ties it to the program's text. -/
def laid_lorgnette_table_truths {H : Type} : DataW H := .agg [.agg [.lit (.int .i64 3), .lit (.int .i64 0), .lit (.string [])], .agg [.lit (.int .i64 3), .lit (.int .i64 1), .lit (.string [])]]

/-- 'lorgnettelaw13.TableSays': WHATEVER THE INPUT: true; the input reads as it did. -/
def tableSaysSpec : ChangeSpec := { name := "tableSays", fn := fun _ => fun
  | [d1, d2, d3] => { results := [.lit (.bool true)], args := [d1, d2, d3] }
  | _ => none }
def tableSaysRow : OpenClaim := { program := "ytjcnjmlgedmmoaadoor", sum := "9cc30e9fc95ae7ef01e512ef99d2933bd0e8f5079606a0221c7616c9b0f4fa2f", func := "lorgnette/lorgnettelaw13.TableSays", spec := "tableSays", inPlace := ["internal/abi.NoEscape"], unfollowed := true, recurses := true, named := ["lorgnette/table.truths"], apart := false, laid := [("lorgnette/table.truths", laid_lorgnette_table_truths)] }
def TableSaysSaid : Prop := tableSaysRow.holds Tryd.pinned (OpenSpec.ofChange tableSaysSpec)

/-- ITS FALSE NEIGHBOUR: 'it returns false'. Refute it at one input. -/
def tableSaysWrong : ChangeSpec := { name := "tableSays", fn := fun _ => fun
  | [d1, d2, d3] => { results := [.lit (.bool false)], args := [d1, d2, d3] }
  | _ => none }
def TableSaysWrongFalsely : Prop := tableSaysRow.holds Tryd.pinned (OpenSpec.ofChange tableSaysWrong)

/-- 'lorgnettelaw13.TableThrice': WHATEVER THE INPUT: true; the input reads as it did. -/
def tableThriceSpec : ChangeSpec := { name := "tableThrice", fn := fun _ => fun
  | [d1, d2, d3] => { results := [.lit (.bool true)], args := [d1, d2, d3] }
  | _ => none }
def tableThriceRow : OpenClaim := { program := "ytjcnjmlgedmmoaadoor", sum := "9cc30e9fc95ae7ef01e512ef99d2933bd0e8f5079606a0221c7616c9b0f4fa2f", func := "lorgnette/lorgnettelaw13.TableThrice", spec := "tableThrice", inPlace := ["internal/abi.NoEscape"], unfollowed := true, recurses := true, named := ["lorgnette/table.truths"], apart := false, laid := [("lorgnette/table.truths", laid_lorgnette_table_truths)] }
def TableThriceSaid : Prop := tableThriceRow.holds Tryd.pinned (OpenSpec.ofChange tableThriceSpec)

/-- ITS FALSE NEIGHBOUR: 'it returns false'. Refute it at one input. -/
def tableThriceWrong : ChangeSpec := { name := "tableThrice", fn := fun _ => fun
  | [d1, d2, d3] => { results := [.lit (.bool false)], args := [d1, d2, d3] }
  | _ => none }
def TableThriceWrongFalsely : Prop := tableThriceRow.holds Tryd.pinned (OpenSpec.ofChange tableThriceWrong)

/-- 'lorgnettelaw13.TableWhole': WHATEVER THE INPUT: true; the input reads as it did. -/
def tableWholeSpec : ChangeSpec := { name := "tableWhole", fn := fun _ => fun
  | [d1, d2, d3] => { results := [.lit (.bool true)], args := [d1, d2, d3] }
  | _ => none }
def tableWholeRow : OpenClaim := { program := "ytjcnjmlgedmmoaadoor", sum := "9cc30e9fc95ae7ef01e512ef99d2933bd0e8f5079606a0221c7616c9b0f4fa2f", func := "lorgnette/lorgnettelaw13.TableWhole", spec := "tableWhole", inPlace := ["internal/abi.NoEscape"], unfollowed := true, recurses := true, named := ["lorgnette/table.truths"], apart := false, laid := [("lorgnette/table.truths", laid_lorgnette_table_truths)] }
def TableWholeSaid : Prop := tableWholeRow.holds Tryd.pinned (OpenSpec.ofChange tableWholeSpec)

/-- ITS FALSE NEIGHBOUR: 'it returns false'. Refute it at one input. -/
def tableWholeWrong : ChangeSpec := { name := "tableWhole", fn := fun _ => fun
  | [d1, d2, d3] => { results := [.lit (.bool false)], args := [d1, d2, d3] }
  | _ => none }
def TableWholeWrongFalsely : Prop := tableWholeRow.holds Tryd.pinned (OpenSpec.ofChange tableWholeWrong)

/-- 'lorgnettelaw13.TableSharp': WHATEVER THE INPUT: true; the input reads as it did. -/
def tableSharpSpec : ChangeSpec := { name := "tableSharp", fn := fun _ => fun
  | [d1, d2] => { results := [.lit (.bool true)], args := [d1, d2] }
  | _ => none }
def tableSharpRow : OpenClaim := { program := "ytjcnjmlgedmmoaadoor", sum := "9cc30e9fc95ae7ef01e512ef99d2933bd0e8f5079606a0221c7616c9b0f4fa2f", func := "lorgnette/lorgnettelaw13.TableSharp", spec := "tableSharp", inPlace := ["internal/abi.NoEscape"], unfollowed := true, recurses := true, named := ["lorgnette/table.truths"], apart := false, laid := [("lorgnette/table.truths", laid_lorgnette_table_truths)] }
def TableSharpSaid : Prop := tableSharpRow.holds Tryd.pinned (OpenSpec.ofChange tableSharpSpec)

/-- ITS FALSE NEIGHBOUR: 'it returns false'. Refute it at one input. -/
def tableSharpWrong : ChangeSpec := { name := "tableSharp", fn := fun _ => fun
  | [d1, d2] => { results := [.lit (.bool false)], args := [d1, d2] }
  | _ => none }
def TableSharpWrongFalsely : Prop := tableSharpRow.holds Tryd.pinned (OpenSpec.ofChange tableSharpWrong)

/- THE SECOND FORM. 'bulk': how many values and letters a reading holds, each counted each time it is reached (what is shared counts as often as it is met; a slice's spare places count too). A statement '..UptoSaid' is the law's where the arguments, and the package variables that the reading takes, are together of bulk at most 1048576: NARROWER than '..Said'. Prove '..Said' where nothing that the law and all that it calls make is longer than what came in: it says more and counts as full. Else prove '..UptoSaid'. A law counts once. -/
mutual
def uptoBulk {H : Type} : DataW H → Nat
  | .lit (.string bytes) => bytes.length + 1
  | .lit _ => 1
  | .nil => 1
  | .ptr d => uptoBulk d + 1
  | .slice elems spare => uptoBulkAll elems + uptoBulkAll spare + 1
  | .agg parts => uptoBulkAll parts + 1
  | .iface _ d => uptoBulk d + 1
  | .map entries => uptoBulkEntries entries + 1
  | .held _ => 1
def uptoBulkAll {H : Type} : List (DataW H) → Nat
  | [] => 0
  | d :: r => uptoBulk d + uptoBulkAll r
def uptoBulkEntries {H : Type} : List (Lit × DataW H) → Nat
  | [] => 0
  | x :: r => uptoBulkEntry x + uptoBulkEntries r
def uptoBulkEntry {H : Type} : Lit × DataW H → Nat
  | (.string bytes, d) => bytes.length + uptoBulk d + 1
  | (_, d) => uptoBulk d + 1
 end
def uptoSmall : (H : Type) → List (DataW H) → Bool := fun _ ds => decide (uptoBulkAll ds ≤ 1048576)
def OpenSpec.upto (s : _root_.Go.ChangeSpec) : _root_.Go.OpenSpec := { _root_.Go.OpenSpec.ofChange s with cond := some uptoSmall }

/-- 'lorgnettelaw13.TableSays', WHERE WHAT IT READS IS OF BULK AT MOST 1048576: true; the input reads as it did. -/
def tableSaysUptoRow : OpenClaim := { program := "ytjcnjmlgedmmoaadoor", sum := "9cc30e9fc95ae7ef01e512ef99d2933bd0e8f5079606a0221c7616c9b0f4fa2f", func := "lorgnette/lorgnettelaw13.TableSays", spec := "tableSays", inPlace := ["internal/abi.NoEscape"], unfollowed := true, recurses := true, named := ["lorgnette/table.truths"], apart := false, laid := [("lorgnette/table.truths", laid_lorgnette_table_truths)], narrowed := true }
def TableSaysUptoSaid : Prop := tableSaysUptoRow.holds Tryd.pinned (OpenSpec.upto tableSaysSpec)

/-- 'lorgnettelaw13.TableThrice', WHERE WHAT IT READS IS OF BULK AT MOST 1048576: true; the input reads as it did. -/
def tableThriceUptoRow : OpenClaim := { program := "ytjcnjmlgedmmoaadoor", sum := "9cc30e9fc95ae7ef01e512ef99d2933bd0e8f5079606a0221c7616c9b0f4fa2f", func := "lorgnette/lorgnettelaw13.TableThrice", spec := "tableThrice", inPlace := ["internal/abi.NoEscape"], unfollowed := true, recurses := true, named := ["lorgnette/table.truths"], apart := false, laid := [("lorgnette/table.truths", laid_lorgnette_table_truths)], narrowed := true }
def TableThriceUptoSaid : Prop := tableThriceUptoRow.holds Tryd.pinned (OpenSpec.upto tableThriceSpec)

/-- 'lorgnettelaw13.TableWhole', WHERE WHAT IT READS IS OF BULK AT MOST 1048576: true; the input reads as it did. -/
def tableWholeUptoRow : OpenClaim := { program := "ytjcnjmlgedmmoaadoor", sum := "9cc30e9fc95ae7ef01e512ef99d2933bd0e8f5079606a0221c7616c9b0f4fa2f", func := "lorgnette/lorgnettelaw13.TableWhole", spec := "tableWhole", inPlace := ["internal/abi.NoEscape"], unfollowed := true, recurses := true, named := ["lorgnette/table.truths"], apart := false, laid := [("lorgnette/table.truths", laid_lorgnette_table_truths)], narrowed := true }
def TableWholeUptoSaid : Prop := tableWholeUptoRow.holds Tryd.pinned (OpenSpec.upto tableWholeSpec)

/-- 'lorgnettelaw13.TableSharp', WHERE WHAT IT READS IS OF BULK AT MOST 1048576: true; the input reads as it did. -/
def tableSharpUptoRow : OpenClaim := { program := "ytjcnjmlgedmmoaadoor", sum := "9cc30e9fc95ae7ef01e512ef99d2933bd0e8f5079606a0221c7616c9b0f4fa2f", func := "lorgnette/lorgnettelaw13.TableSharp", spec := "tableSharp", inPlace := ["internal/abi.NoEscape"], unfollowed := true, recurses := true, named := ["lorgnette/table.truths"], apart := false, laid := [("lorgnette/table.truths", laid_lorgnette_table_truths)], narrowed := true }
def TableSharpUptoSaid : Prop := tableSharpUptoRow.holds Tryd.pinned (OpenSpec.upto tableSharpSpec)

end Rows
end Go.Proofs.YtjcnjmlgedmmoaaDoor
