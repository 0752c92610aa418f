/-
  DERIVED. GIVEN WITH THE SEED: THE CARDS: each row of YtjieofiaoepccaaGreatDoorRows.lean that lists a variable, with what it lists TIED to the program's text (the seventh form; the later family's looks); each row that meets fmt, with fmt's text TOLD by the authors' own Lean function (tested against real Go, not proved from fmt's source: count such statements apart). THE CARD IS WHAT COUNTS. Prove the row's statement (the work); the ties are given (YtjieofiaoepccaaGreatDoorTie.lean); close each card by the builder's one call (the guide's Derived/Test/ToyasCard.lean, 'card_holds'). Laid BY PROGRAM, IN A SANDBOX (cutbox-door.mjs). By AI agents, Wed Nov 11 2026. No macro, syntax, notation, axiom, sorry.
-/
import Derived.Test.YtjieofiaoepccaaGreatDoorRows
import GoSem.ClaimSeven
namespace Go.Proofs.YtjieofiaoepccaaGreatDoor
namespace Rows

/-- THE TIED CARD OF 'lorgnettelaw11.SchemaSays'. -/
def schemaSaysCard : Claim7 := { stood := { row := schemaSaysRow, standIns := [], harness := (true, "5c0c3e4702bba00df74c6822718c3d7c3105652dd9dea8543070b8c4481ef113"), looks := false }, kinds := [], alts := [], laidByText := true, laidKinds := [.data, .data, .data, .data, .data, .data], laidTests := true, laidLooks := .later }
def SchemaSaysCardSaid : Prop := Claim7.holds Tryz.pinned (.plain (OpenSpec.ofChange schemaSaysSpec)) schemaSaysCard

/-- THE SECOND FORM's CARD OF 'lorgnettelaw11.SchemaSays'. -/
def schemaSaysUptoCard : Claim7 := { stood := { row := schemaSaysUptoRow, standIns := [], harness := (true, "5c0c3e4702bba00df74c6822718c3d7c3105652dd9dea8543070b8c4481ef113"), looks := false }, kinds := [], alts := [], laidByText := true, laidKinds := [.data, .data, .data, .data, .data, .data], laidTests := true, laidLooks := .later }
def SchemaSaysUptoCardSaid : Prop := Claim7.holds Tryz.pinned (.plain (OpenSpec.upto schemaSaysSpec)) schemaSaysUptoCard
end Rows
end Go.Proofs.YtjieofiaoepccaaGreatDoor
