/-
  DERIVED. GIVEN WITH THE SEED: THE CARDS: each row of YthcgabghkbgccaaDoorRows.lean that lists a variable, with what it lists TIED to the program's text (the seventh form; the later family's looks); each row that meets fmt, with fmt's text TOLD by the authors' own Lean function (tested against real Go, not proved from fmt's source: count such statements apart). THE CARD IS WHAT COUNTS. Prove the row's statement (the work); the ties are given (YthcgabghkbgccaaDoorTie.lean); close each card by the builder's one call (the guide's Derived/Test/ToyasCard.lean, 'card_holds'). Laid BY PROGRAM, IN A SANDBOX (cutbox-door.mjs). By AI agents, Wed Nov 11 2026. No macro, syntax, notation, axiom, sorry.
-/
import Derived.Test.YthcgabghkbgccaaDoorRows
import GoSem.ClaimSeven
namespace Go.Proofs.YthcgabghkbgccaaDoor
namespace Rows

/-- THE TIED CARD OF 'handlebodylaw3.GroupCosets'. -/
def groupCosetsCard : Claim7 := { stood := { row := groupCosetsRow, standIns := [], harness := (true, "bf30000474f5b7064ad941c012873928bf11dc6f3ef68aa6e1cc7b55e35994d5"), looks := true }, kinds := [], alts := [], laidByText := true, laidKinds := [.handle, .sentinel, .sentinel, .sentinel, .sentinel, .sentinel, .sentinel, .sentinel, .sentinel], laidTests := true, laidLooks := .later }
def GroupCosetsCardSaid : Prop := Claim7.holds Tryd.pinned (.plain (OpenSpec.ofChange groupCosetsSpec)) groupCosetsCard

/-- THE SECOND FORM's CARD OF 'handlebodylaw3.GroupCosets'. -/
def groupCosetsUptoCard : Claim7 := { stood := { row := groupCosetsUptoRow, standIns := [], harness := (true, "bf30000474f5b7064ad941c012873928bf11dc6f3ef68aa6e1cc7b55e35994d5"), looks := true }, kinds := [], alts := [], laidByText := true, laidKinds := [.handle, .sentinel, .sentinel, .sentinel, .sentinel, .sentinel, .sentinel, .sentinel, .sentinel], laidTests := true, laidLooks := .later }
def GroupCosetsUptoCardSaid : Prop := Claim7.holds Tryd.pinned (.plain (OpenSpec.upto groupCosetsSpec)) groupCosetsUptoCard
end Rows
end Go.Proofs.YthcgabghkbgccaaDoor
