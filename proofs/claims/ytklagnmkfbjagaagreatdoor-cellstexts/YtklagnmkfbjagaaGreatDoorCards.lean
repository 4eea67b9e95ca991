/-
  DERIVED. GIVEN WITH THE SEED: THE CARDS: each row of YtklagnmkfbjagaaGreatDoorRows.lean that lists a variable, with what it lists TIED to the program's text (the seventh form; the later family's looks); each row that meets fmt, with fmt's text TOLD by the authors' own Lean function (tested against real Go, not proved from fmt's source: count such statements apart). THE CARD IS WHAT COUNTS. Prove the row's statement (the work); the ties are given (YtklagnmkfbjagaaGreatDoorTie.lean); close each card by the builder's one call (the guide's Derived/Test/ToyasCard.lean, 'card_holds'). Laid BY PROGRAM, IN A SANDBOX (cutbox-door.mjs). By AI agents, Wed Nov 11 2026. No macro, syntax, notation, axiom, sorry.
-/
import Derived.Test.YtklagnmkfbjagaaGreatDoorRows
import GoSem.ClaimSeven
namespace Go.Proofs.YtklagnmkfbjagaaGreatDoor
namespace Rows

/-- THE TIED CARD OF 'handlebodylaw1.CellsTexts'. -/
def cellsTextsCard : Claim7 := { stood := { row := cellsTextsRow, standIns := [], harness := (true, "15ef63ccd3885d61b4f2dd9ca3644be7f072960ec2e89d19db10fd0b5217373c"), looks := true }, kinds := [], alts := [], laidByText := true, laidKinds := [.data, .data, .data, .handle, .sentinel, .sentinel, .sentinel, .sentinel, .sentinel, .sentinel, .sentinel, .sentinel], laidTests := true, laidLooks := .later }
def CellsTextsCardSaid : Prop := Claim7.holds Tryz.pinned (.plain (OpenSpec.ofChange cellsTextsSpec)) cellsTextsCard

/-- THE SECOND FORM's CARD OF 'handlebodylaw1.CellsTexts'. -/
def cellsTextsUptoCard : Claim7 := { stood := { row := cellsTextsUptoRow, standIns := [], harness := (true, "15ef63ccd3885d61b4f2dd9ca3644be7f072960ec2e89d19db10fd0b5217373c"), looks := true }, kinds := [], alts := [], laidByText := true, laidKinds := [.data, .data, .data, .handle, .sentinel, .sentinel, .sentinel, .sentinel, .sentinel, .sentinel, .sentinel, .sentinel], laidTests := true, laidLooks := .later }
def CellsTextsUptoCardSaid : Prop := Claim7.holds Tryz.pinned (.plain (OpenSpec.upto cellsTextsSpec)) cellsTextsUptoCard
end Rows
end Go.Proofs.YtklagnmkfbjagaaGreatDoor
