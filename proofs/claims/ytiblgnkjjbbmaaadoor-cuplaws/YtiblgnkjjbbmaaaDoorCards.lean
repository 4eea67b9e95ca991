/-
  DERIVED. GIVEN WITH THE SEED: THE CARDS: each row of YtiblgnkjjbbmaaaDoorRows.lean that lists a variable, with what it lists TIED to the program's text (the seventh form; the later family's looks); each row that meets fmt, with fmt's text TOLD by the authors' own Lean function (tested against real Go, not proved from fmt's source: count such statements apart). THE CARD IS WHAT COUNTS. Prove the row's statement (the work); the ties are given (YtiblgnkjjbbmaaaDoorTie.lean); close each card by the builder's one call (the guide's Derived/Test/ToyasCard.lean, 'card_holds'). Laid BY PROGRAM, IN A SANDBOX (cutbox-door.mjs). By AI agents, Wed Nov 11 2026. No macro, syntax, notation, axiom, sorry.
-/
import Derived.Test.YtiblgnkjjbbmaaaDoorRows
import GoSem.ClaimSeven
namespace Go.Proofs.YtiblgnkjjbbmaaaDoor
namespace Rows

/-- THE TIED CARD OF 'handlebodylaw2.CupLaws'. -/
def cupLawsCard : Claim7 := { stood := { row := cupLawsRow, standIns := [], harness := (true, "f7ecb2489e3844aa427e6fb6a6c5d779d5045e9d7fcd08003ccdf93b3c249b48"), looks := false }, kinds := [], alts := [], laidByText := true, laidKinds := [.data, .sentinel, .sentinel, .sentinel], laidTests := true, laidLooks := .later }
def CupLawsCardSaid : Prop := Claim7.holds Tryd.pinned (.plain (OpenSpec.ofChange cupLawsSpec)) cupLawsCard

/-- THE SECOND FORM's CARD OF 'handlebodylaw2.CupLaws'. -/
def cupLawsUptoCard : Claim7 := { stood := { row := cupLawsUptoRow, standIns := [], harness := (true, "f7ecb2489e3844aa427e6fb6a6c5d779d5045e9d7fcd08003ccdf93b3c249b48"), looks := false }, kinds := [], alts := [], laidByText := true, laidKinds := [.data, .sentinel, .sentinel, .sentinel], laidTests := true, laidLooks := .later }
def CupLawsUptoCardSaid : Prop := Claim7.holds Tryd.pinned (.plain (OpenSpec.upto cupLawsSpec)) cupLawsUptoCard
end Rows
end Go.Proofs.YtiblgnkjjbbmaaaDoor
