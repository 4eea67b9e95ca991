/-
  DERIVED. GIVEN WITH THE SEED: THE CARDS: each row of YthdmfeidcldafaaGreatDoorRows.lean that lists a variable, with what it lists TIED to the program's text (the seventh form; the later family's looks); each row that meets fmt, with fmt's text TOLD by the authors' own Lean function (tested against real Go, not proved from fmt's source: count such statements apart). THE CARD IS WHAT COUNTS. Prove the row's statement (the work); the ties are given (YthdmfeidcldafaaGreatDoorTie.lean); close each card by the builder's one call (the guide's Derived/Test/ToyasCard.lean, 'card_holds'). Laid BY PROGRAM, IN A SANDBOX (cutbox-door.mjs). By AI agents, Wed Nov 11 2026. No macro, syntax, notation, axiom, sorry.
-/
import Derived.Test.YthdmfeidcldafaaGreatDoorRows
import GoSem.ClaimSeven
namespace Go.Proofs.YthdmfeidcldafaaGreatDoor
namespace Rows

/-- THE TIED CARD OF 'handlebodylaw2.MorseFree'. -/
def morseFreeCard : Claim7 := { stood := { row := morseFreeRow, standIns := [], harness := (true, "a60c9b30d33676f4729802e1feef052f51da4e6bfa673119358675e60c0b6a0d"), looks := true }, kinds := [], alts := [], laidByText := true, laidKinds := [.handle, .sentinel, .sentinel, .sentinel, .sentinel, .sentinel, .sentinel, .sentinel, .sentinel], laidTests := true, laidLooks := .later }
def MorseFreeCardSaid : Prop := Claim7.holds Tryz.pinned (.plain (OpenSpec.ofChange morseFreeSpec)) morseFreeCard

/-- THE SECOND FORM's CARD OF 'handlebodylaw2.MorseFree'. -/
def morseFreeUptoCard : Claim7 := { stood := { row := morseFreeUptoRow, standIns := [], harness := (true, "a60c9b30d33676f4729802e1feef052f51da4e6bfa673119358675e60c0b6a0d"), looks := true }, kinds := [], alts := [], laidByText := true, laidKinds := [.handle, .sentinel, .sentinel, .sentinel, .sentinel, .sentinel, .sentinel, .sentinel, .sentinel], laidTests := true, laidLooks := .later }
def MorseFreeUptoCardSaid : Prop := Claim7.holds Tryz.pinned (.plain (OpenSpec.upto morseFreeSpec)) morseFreeUptoCard
end Rows
end Go.Proofs.YthdmfeidcldafaaGreatDoor
