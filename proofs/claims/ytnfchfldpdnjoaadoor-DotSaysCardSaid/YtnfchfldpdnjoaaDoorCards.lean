/-
  DERIVED. GIVEN WITH THE SEED: THE CARDS: each row of YtnfchfldpdnjoaaDoorRows.lean that lists a variable, with what it lists TIED to the program's text (the seventh form; the later family's looks); each row that meets fmt, with fmt's text TOLD by the authors' own Lean function (tested against real Go, not proved from fmt's source: count such statements apart). THE CARD IS WHAT COUNTS. Prove the row's statement (the work); the ties are given (YtnfchfldpdnjoaaDoorTie.lean); close each card by the builder's one call (the guide's Derived/Test/ToyasCard.lean, 'card_holds'). Laid BY PROGRAM, IN A SANDBOX (cutbox-door.mjs). By AI agents, Wed Nov 11 2026. No macro, syntax, notation, axiom, sorry.
-/
import Derived.Test.YtnfchfldpdnjoaaDoorRows
import GoSem.ClaimSeven
namespace Go.Proofs.YtnfchfldpdnjoaaDoor
namespace Rows

/-- THE TIED CARD OF 'lorgnettelaw05.DotSays'. -/
def dotSaysCard : Claim7 := { stood := { row := dotSaysRow, standIns := [], harness := (true, "ef17a3efd622813494b01a17ee6834d7f2b089a81b5f10a6d128b5265a7f086a"), looks := false }, kinds := [], alts := [], laidByText := true, laidKinds := [.data, .data, .data, .data], laidTests := true, laidLooks := .later }
def DotSaysCardSaid : Prop := Claim7.holds Tryd.pinned (.plain (OpenSpec.ofChange dotSaysSpec)) dotSaysCard

/-- THE TIED CARD OF 'lorgnettelaw05.DotSorts'. -/
def dotSortsCard : Claim7 := { stood := { row := dotSortsRow, standIns := [], harness := (true, "ef17a3efd622813494b01a17ee6834d7f2b089a81b5f10a6d128b5265a7f086a"), looks := false }, kinds := [], alts := [], laidByText := true, laidKinds := [.data, .data, .data, .data], laidTests := true, laidLooks := .later }
def DotSortsCardSaid : Prop := Claim7.holds Tryd.pinned (.plain (OpenSpec.ofChange dotSortsSpec)) dotSortsCard

/-- THE TIED CARD OF 'lorgnettelaw05.DotOrder'. -/
def dotOrderCard : Claim7 := { stood := { row := dotOrderRow, standIns := [], harness := (true, "ef17a3efd622813494b01a17ee6834d7f2b089a81b5f10a6d128b5265a7f086a"), looks := false }, kinds := [], alts := [], laidByText := true, laidKinds := [.data, .data, .data, .data], laidTests := true, laidLooks := .later }
def DotOrderCardSaid : Prop := Claim7.holds Tryd.pinned (.plain (OpenSpec.ofChange dotOrderSpec)) dotOrderCard

/-- THE SECOND FORM's CARD OF 'lorgnettelaw05.DotSays'. -/
def dotSaysUptoCard : Claim7 := { stood := { row := dotSaysUptoRow, standIns := [], harness := (true, "ef17a3efd622813494b01a17ee6834d7f2b089a81b5f10a6d128b5265a7f086a"), looks := false }, kinds := [], alts := [], laidByText := true, laidKinds := [.data, .data, .data, .data], laidTests := true, laidLooks := .later }
def DotSaysUptoCardSaid : Prop := Claim7.holds Tryd.pinned (.plain (OpenSpec.upto dotSaysSpec)) dotSaysUptoCard

/-- THE SECOND FORM's CARD OF 'lorgnettelaw05.DotSorts'. -/
def dotSortsUptoCard : Claim7 := { stood := { row := dotSortsUptoRow, standIns := [], harness := (true, "ef17a3efd622813494b01a17ee6834d7f2b089a81b5f10a6d128b5265a7f086a"), looks := false }, kinds := [], alts := [], laidByText := true, laidKinds := [.data, .data, .data, .data], laidTests := true, laidLooks := .later }
def DotSortsUptoCardSaid : Prop := Claim7.holds Tryd.pinned (.plain (OpenSpec.upto dotSortsSpec)) dotSortsUptoCard

/-- THE SECOND FORM's CARD OF 'lorgnettelaw05.DotOrder'. -/
def dotOrderUptoCard : Claim7 := { stood := { row := dotOrderUptoRow, standIns := [], harness := (true, "ef17a3efd622813494b01a17ee6834d7f2b089a81b5f10a6d128b5265a7f086a"), looks := false }, kinds := [], alts := [], laidByText := true, laidKinds := [.data, .data, .data, .data], laidTests := true, laidLooks := .later }
def DotOrderUptoCardSaid : Prop := Claim7.holds Tryd.pinned (.plain (OpenSpec.upto dotOrderSpec)) dotOrderUptoCard
end Rows
end Go.Proofs.YtnfchfldpdnjoaaDoor
