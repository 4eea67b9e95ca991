/-
  DERIVED. GIVEN WITH THE SEED: THE CARDS: each row of YtmbolgalgidleaaGreatDoorRows.lean that lists a variable, with what it lists TIED to the program's text (the seventh form; the later family's looks); each row that meets fmt, with fmt's text TOLD by the authors' own Lean function (tested against real Go, not proved from fmt's source: count such statements apart). THE CARD IS WHAT COUNTS. Prove the row's statement (the work); the ties are given (YtmbolgalgidleaaGreatDoorTie.lean); close each card by the builder's one call (the guide's Derived/Test/ToyasCard.lean, 'card_holds'). Laid BY PROGRAM, IN A SANDBOX (cutbox-door.mjs). By AI agents, Wed Nov 11 2026. No macro, syntax, notation, axiom, sorry.
-/
import Derived.Test.YtmbolgalgidleaaGreatDoorRows
import GoSem.ClaimSeven
namespace Go.Proofs.YtmbolgalgidleaaGreatDoor
namespace Rows

/-- THE TIED CARD OF 'handlebodylaw1.CellsFaces'. -/
def cellsFacesCard : Claim7 := { stood := { row := cellsFacesRow, standIns := [], harness := (true, "5d3c09b18dad583e502d591ff184dd95efa896e0954cfebd38397dda19c69c94"), looks := true }, kinds := [], alts := [], laidByText := true, laidKinds := [.handle, .sentinel, .sentinel, .sentinel, .sentinel, .sentinel, .sentinel, .sentinel, .sentinel], laidTests := true, laidLooks := .later }
def CellsFacesCardSaid : Prop := Claim7.holds Tryz.pinned (.plain (OpenSpec.ofChange cellsFacesSpec)) cellsFacesCard

/-- THE TIED CARD OF 'handlebodylaw1.CellsParts'. -/
def cellsPartsCard : Claim7 := { stood := { row := cellsPartsRow, standIns := [], harness := (true, "5d3c09b18dad583e502d591ff184dd95efa896e0954cfebd38397dda19c69c94"), looks := true }, kinds := [], alts := [], laidByText := true, laidKinds := [.handle, .sentinel, .sentinel, .sentinel, .sentinel, .sentinel, .sentinel, .sentinel, .sentinel], laidTests := true, laidLooks := .later }
def CellsPartsCardSaid : Prop := Claim7.holds Tryz.pinned (.plain (OpenSpec.ofChange cellsPartsSpec)) cellsPartsCard

/-- THE TIED CARD OF 'handlebodylaw1.CellsJoins'. -/
def cellsJoinsCard : Claim7 := { stood := { row := cellsJoinsRow, standIns := [], harness := (true, "5d3c09b18dad583e502d591ff184dd95efa896e0954cfebd38397dda19c69c94"), looks := true }, kinds := [], alts := [], laidByText := true, laidKinds := [.handle, .sentinel, .sentinel, .sentinel, .sentinel, .sentinel, .sentinel, .sentinel, .sentinel], laidTests := true, laidLooks := .later }
def CellsJoinsCardSaid : Prop := Claim7.holds Tryz.pinned (.plain (OpenSpec.ofChange cellsJoinsSpec)) cellsJoinsCard

/-- THE SECOND FORM's CARD OF 'handlebodylaw1.CellsFaces'. -/
def cellsFacesUptoCard : Claim7 := { stood := { row := cellsFacesUptoRow, standIns := [], harness := (true, "5d3c09b18dad583e502d591ff184dd95efa896e0954cfebd38397dda19c69c94"), looks := true }, kinds := [], alts := [], laidByText := true, laidKinds := [.handle, .sentinel, .sentinel, .sentinel, .sentinel, .sentinel, .sentinel, .sentinel, .sentinel], laidTests := true, laidLooks := .later }
def CellsFacesUptoCardSaid : Prop := Claim7.holds Tryz.pinned (.plain (OpenSpec.upto cellsFacesSpec)) cellsFacesUptoCard

/-- THE SECOND FORM's CARD OF 'handlebodylaw1.CellsParts'. -/
def cellsPartsUptoCard : Claim7 := { stood := { row := cellsPartsUptoRow, standIns := [], harness := (true, "5d3c09b18dad583e502d591ff184dd95efa896e0954cfebd38397dda19c69c94"), looks := true }, kinds := [], alts := [], laidByText := true, laidKinds := [.handle, .sentinel, .sentinel, .sentinel, .sentinel, .sentinel, .sentinel, .sentinel, .sentinel], laidTests := true, laidLooks := .later }
def CellsPartsUptoCardSaid : Prop := Claim7.holds Tryz.pinned (.plain (OpenSpec.upto cellsPartsSpec)) cellsPartsUptoCard

/-- THE SECOND FORM's CARD OF 'handlebodylaw1.CellsJoins'. -/
def cellsJoinsUptoCard : Claim7 := { stood := { row := cellsJoinsUptoRow, standIns := [], harness := (true, "5d3c09b18dad583e502d591ff184dd95efa896e0954cfebd38397dda19c69c94"), looks := true }, kinds := [], alts := [], laidByText := true, laidKinds := [.handle, .sentinel, .sentinel, .sentinel, .sentinel, .sentinel, .sentinel, .sentinel, .sentinel], laidTests := true, laidLooks := .later }
def CellsJoinsUptoCardSaid : Prop := Claim7.holds Tryz.pinned (.plain (OpenSpec.upto cellsJoinsSpec)) cellsJoinsUptoCard
end Rows
end Go.Proofs.YtmbolgalgidleaaGreatDoor
