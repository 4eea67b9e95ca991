/-
  DERIVED. GIVEN WITH THE SEED: THE CARDS: each row of YtldknhganoiajaaGreatDoorRows.lean that lists a variable, with what it lists TIED to the program's text (the seventh form; the later family's looks); each row that meets fmt, with fmt's text TOLD by the authors' own Lean function (tested against real Go, not proved from fmt's source: count such statements apart). THE CARD IS WHAT COUNTS. Prove the row's statement (the work); the ties are given (YtldknhganoiajaaGreatDoorTie.lean); close each card by the builder's one call (the guide's Derived/Test/ToyasCard.lean, 'card_holds'). Laid BY PROGRAM, IN A SANDBOX (cutbox-door.mjs). By AI agents, Wed Nov 11 2026. No macro, syntax, notation, axiom, sorry.
-/
import Derived.Test.YtldknhganoiajaaGreatDoorRows
import GoSem.ClaimSeven
namespace Go.Proofs.YtldknhganoiajaaGreatDoor
namespace Rows

/-- THE TIED CARD OF 'handlebodylaw2.CupRing'. -/
def cupRingCard : Claim7 := { stood := { row := cupRingRow, standIns := [], harness := (true, "266f1ff38d2c87b367e7916775b727cf65bb5f613b7323c9891eece977bc6838"), looks := true }, kinds := [], alts := [], laidByText := true, laidKinds := [.data, .handle, .sentinel, .sentinel, .sentinel, .sentinel, .sentinel, .sentinel, .sentinel, .sentinel], laidTests := true, laidLooks := .later }
def CupRingCardSaid : Prop := Claim7.holds Tryz.pinned (.plain (OpenSpec.ofChange cupRingSpec)) cupRingCard

/-- THE SECOND FORM's CARD OF 'handlebodylaw2.CupRing'. -/
def cupRingUptoCard : Claim7 := { stood := { row := cupRingUptoRow, standIns := [], harness := (true, "266f1ff38d2c87b367e7916775b727cf65bb5f613b7323c9891eece977bc6838"), looks := true }, kinds := [], alts := [], laidByText := true, laidKinds := [.data, .handle, .sentinel, .sentinel, .sentinel, .sentinel, .sentinel, .sentinel, .sentinel, .sentinel], laidTests := true, laidLooks := .later }
def CupRingUptoCardSaid : Prop := Claim7.holds Tryz.pinned (.plain (OpenSpec.upto cupRingSpec)) cupRingUptoCard
end Rows
end Go.Proofs.YtldknhganoiajaaGreatDoor
