/-
  DERIVED. GIVEN WITH THE SEED: THE CARDS: each row of YtiblgnkjjbbmaaaGreatDoorRows.lean that lists a variable, with what it lists TIED to the program's text (the seventh form; the later family's looks); each row that meets fmt, with fmt's text TOLD by the authors' own Lean function (tested against real Go, not proved from fmt's source: count such statements apart). THE CARD IS WHAT COUNTS. Prove the row's statement (the work); the ties are given (YtiblgnkjjbbmaaaGreatDoorTie.lean); close each card by the builder's one call (the guide's Derived/Test/ToyasCard.lean, 'card_holds'). Laid BY PROGRAM, IN A SANDBOX (cutbox-door.mjs). By AI agents, Wed Nov 11 2026. No macro, syntax, notation, axiom, sorry.
-/
import Derived.Test.YtiblgnkjjbbmaaaGreatDoorRows
import GoSem.ClaimSeven
namespace Go.Proofs.YtiblgnkjjbbmaaaGreatDoor
namespace Rows

/-- THE TIED CARD OF 'handlebodylaw2.CupSays'. -/
def cupSaysCard : Claim7 := { stood := { row := cupSaysRow, standIns := [], harness := (true, "4eb50af7b9a56969970dae521b49a578f54e95f359448da852ad7c6526e5d2a7"), looks := true }, kinds := [], alts := [], laidByText := true, laidKinds := [.data, .handle, .sentinel, .sentinel, .sentinel, .sentinel, .sentinel, .sentinel, .sentinel, .sentinel], laidTests := true, laidLooks := .later }
def CupSaysCardSaid : Prop := Claim7.holds Tryz.pinned (.plain (OpenSpec.ofChange cupSaysSpec)) cupSaysCard

/-- THE SECOND FORM's CARD OF 'handlebodylaw2.CupSays'. -/
def cupSaysUptoCard : Claim7 := { stood := { row := cupSaysUptoRow, standIns := [], harness := (true, "4eb50af7b9a56969970dae521b49a578f54e95f359448da852ad7c6526e5d2a7"), looks := true }, kinds := [], alts := [], laidByText := true, laidKinds := [.data, .handle, .sentinel, .sentinel, .sentinel, .sentinel, .sentinel, .sentinel, .sentinel, .sentinel], laidTests := true, laidLooks := .later }
def CupSaysUptoCardSaid : Prop := Claim7.holds Tryz.pinned (.plain (OpenSpec.upto cupSaysSpec)) cupSaysUptoCard
end Rows
end Go.Proofs.YtiblgnkjjbbmaaaGreatDoor
