/-
  DERIVED. GIVEN WITH THE SEED: THE CARDS: each row of YtjcnjmlgedmmoaaDoorRows.lean that lists a variable, with what it lists TIED to the program's text (the seventh form; the later family's looks); each row that meets fmt, with fmt's text TOLD by the authors' own Lean function (tested against real Go, not proved from fmt's source: count such statements apart). THE CARD IS WHAT COUNTS. Prove the row's statement (the work); the ties are given (YtjcnjmlgedmmoaaDoorTie.lean); close each card by the builder's one call (the guide's Derived/Test/ToyasCard.lean, 'card_holds'). Laid BY PROGRAM, IN A SANDBOX (cutbox-door.mjs). By AI agents, Wed Nov 11 2026. No macro, syntax, notation, axiom, sorry.
-/
import Derived.Test.YtjcnjmlgedmmoaaDoorRows
import GoSem.ClaimSeven
namespace Go.Proofs.YtjcnjmlgedmmoaaDoor
namespace Rows

/-- THE TIED CARD OF 'lorgnettelaw13.TableSays'. -/
def tableSaysCard : Claim7 := { stood := { row := tableSaysRow, standIns := [], harness := (true, "7855749a35b470fa1b2783d18ae4ed2d73050c5ce57143b23c8db3140427bba1"), looks := false }, kinds := [], alts := [], laidByText := true, laidKinds := [.data], laidTests := true, laidLooks := .later }
def TableSaysCardSaid : Prop := Claim7.holds Tryd.pinned (.plain (OpenSpec.ofChange tableSaysSpec)) tableSaysCard

/-- THE TIED CARD OF 'lorgnettelaw13.TableThrice'. -/
def tableThriceCard : Claim7 := { stood := { row := tableThriceRow, standIns := [], harness := (true, "7855749a35b470fa1b2783d18ae4ed2d73050c5ce57143b23c8db3140427bba1"), looks := false }, kinds := [], alts := [], laidByText := true, laidKinds := [.data], laidTests := true, laidLooks := .later }
def TableThriceCardSaid : Prop := Claim7.holds Tryd.pinned (.plain (OpenSpec.ofChange tableThriceSpec)) tableThriceCard

/-- THE TIED CARD OF 'lorgnettelaw13.TableWhole'. -/
def tableWholeCard : Claim7 := { stood := { row := tableWholeRow, standIns := [], harness := (true, "7855749a35b470fa1b2783d18ae4ed2d73050c5ce57143b23c8db3140427bba1"), looks := false }, kinds := [], alts := [], laidByText := true, laidKinds := [.data], laidTests := true, laidLooks := .later }
def TableWholeCardSaid : Prop := Claim7.holds Tryd.pinned (.plain (OpenSpec.ofChange tableWholeSpec)) tableWholeCard

/-- THE TIED CARD OF 'lorgnettelaw13.TableSharp'. -/
def tableSharpCard : Claim7 := { stood := { row := tableSharpRow, standIns := [], harness := (true, "7855749a35b470fa1b2783d18ae4ed2d73050c5ce57143b23c8db3140427bba1"), looks := false }, kinds := [], alts := [], laidByText := true, laidKinds := [.data], laidTests := true, laidLooks := .later }
def TableSharpCardSaid : Prop := Claim7.holds Tryd.pinned (.plain (OpenSpec.ofChange tableSharpSpec)) tableSharpCard

/-- THE SECOND FORM's CARD OF 'lorgnettelaw13.TableSays'. -/
def tableSaysUptoCard : Claim7 := { stood := { row := tableSaysUptoRow, standIns := [], harness := (true, "7855749a35b470fa1b2783d18ae4ed2d73050c5ce57143b23c8db3140427bba1"), looks := false }, kinds := [], alts := [], laidByText := true, laidKinds := [.data], laidTests := true, laidLooks := .later }
def TableSaysUptoCardSaid : Prop := Claim7.holds Tryd.pinned (.plain (OpenSpec.upto tableSaysSpec)) tableSaysUptoCard

/-- THE SECOND FORM's CARD OF 'lorgnettelaw13.TableThrice'. -/
def tableThriceUptoCard : Claim7 := { stood := { row := tableThriceUptoRow, standIns := [], harness := (true, "7855749a35b470fa1b2783d18ae4ed2d73050c5ce57143b23c8db3140427bba1"), looks := false }, kinds := [], alts := [], laidByText := true, laidKinds := [.data], laidTests := true, laidLooks := .later }
def TableThriceUptoCardSaid : Prop := Claim7.holds Tryd.pinned (.plain (OpenSpec.upto tableThriceSpec)) tableThriceUptoCard

/-- THE SECOND FORM's CARD OF 'lorgnettelaw13.TableWhole'. -/
def tableWholeUptoCard : Claim7 := { stood := { row := tableWholeUptoRow, standIns := [], harness := (true, "7855749a35b470fa1b2783d18ae4ed2d73050c5ce57143b23c8db3140427bba1"), looks := false }, kinds := [], alts := [], laidByText := true, laidKinds := [.data], laidTests := true, laidLooks := .later }
def TableWholeUptoCardSaid : Prop := Claim7.holds Tryd.pinned (.plain (OpenSpec.upto tableWholeSpec)) tableWholeUptoCard

/-- THE SECOND FORM's CARD OF 'lorgnettelaw13.TableSharp'. -/
def tableSharpUptoCard : Claim7 := { stood := { row := tableSharpUptoRow, standIns := [], harness := (true, "7855749a35b470fa1b2783d18ae4ed2d73050c5ce57143b23c8db3140427bba1"), looks := false }, kinds := [], alts := [], laidByText := true, laidKinds := [.data], laidTests := true, laidLooks := .later }
def TableSharpUptoCardSaid : Prop := Claim7.holds Tryd.pinned (.plain (OpenSpec.upto tableSharpSpec)) tableSharpUptoCard
end Rows
end Go.Proofs.YtjcnjmlgedmmoaaDoor
