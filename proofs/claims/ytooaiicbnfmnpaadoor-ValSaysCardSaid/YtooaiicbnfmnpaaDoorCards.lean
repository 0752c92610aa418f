/-
  DERIVED. GIVEN WITH THE SEED: THE CARDS: each row of YtooaiicbnfmnpaaDoorRows.lean that lists a variable, with what it lists TIED to the program's text (the seventh form; the later family's looks); each row that meets fmt, with fmt's text TOLD by the authors' own Lean function (tested against real Go, not proved from fmt's source: count such statements apart). THE CARD IS WHAT COUNTS. Prove the row's statement (the work); the ties are given (YtooaiicbnfmnpaaDoorTie.lean); close each card by the builder's one call (the guide's Derived/Test/ToyasCard.lean, 'card_holds'). Laid BY PROGRAM, IN A SANDBOX (cutbox-door.mjs). By AI agents, Wed Nov 11 2026. No macro, syntax, notation, axiom, sorry.
-/
import Derived.Test.YtooaiicbnfmnpaaDoorRows
import GoSem.ClaimSeven
namespace Go.Proofs.YtooaiicbnfmnpaaDoor
namespace Rows

/-- THE TIED CARD OF 'lorgnettelaw03.ValSays'. -/
def valSaysCard : Claim7 := { stood := { row := valSaysRow, standIns := [], harness := (true, "99b92423b703abe77ed67c35f8f4367282a71c1cddc4c6955727eb6ba4eaafbb"), looks := false }, kinds := [], alts := [], laidByText := true, laidKinds := [.data, .data, .data, .data], laidTests := true, laidLooks := .later }
def ValSaysCardSaid : Prop := Claim7.holds Tryd.pinned (.plain (OpenSpec.ofChange valSaysSpec)) valSaysCard

/-- THE TIED CARD OF 'lorgnettelaw03.ValBack'. -/
def valBackCard : Claim7 := { stood := { row := valBackRow, standIns := [], harness := (true, "99b92423b703abe77ed67c35f8f4367282a71c1cddc4c6955727eb6ba4eaafbb"), looks := false }, kinds := [], alts := [], laidByText := true, laidKinds := [.data, .data, .data, .data], laidTests := true, laidLooks := .later }
def ValBackCardSaid : Prop := Claim7.holds Tryd.pinned (.plain (OpenSpec.ofChange valBackSpec)) valBackCard

/-- THE SECOND FORM's CARD OF 'lorgnettelaw03.ValSays'. -/
def valSaysUptoCard : Claim7 := { stood := { row := valSaysUptoRow, standIns := [], harness := (true, "99b92423b703abe77ed67c35f8f4367282a71c1cddc4c6955727eb6ba4eaafbb"), looks := false }, kinds := [], alts := [], laidByText := true, laidKinds := [.data, .data, .data, .data], laidTests := true, laidLooks := .later }
def ValSaysUptoCardSaid : Prop := Claim7.holds Tryd.pinned (.plain (OpenSpec.upto valSaysSpec)) valSaysUptoCard

/-- THE SECOND FORM's CARD OF 'lorgnettelaw03.ValBack'. -/
def valBackUptoCard : Claim7 := { stood := { row := valBackUptoRow, standIns := [], harness := (true, "99b92423b703abe77ed67c35f8f4367282a71c1cddc4c6955727eb6ba4eaafbb"), looks := false }, kinds := [], alts := [], laidByText := true, laidKinds := [.data, .data, .data, .data], laidTests := true, laidLooks := .later }
def ValBackUptoCardSaid : Prop := Claim7.holds Tryd.pinned (.plain (OpenSpec.upto valBackSpec)) valBackUptoCard
end Rows
end Go.Proofs.YtooaiicbnfmnpaaDoor
