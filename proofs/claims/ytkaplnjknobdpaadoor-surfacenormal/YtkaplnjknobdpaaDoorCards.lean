/-
  DERIVED. GIVEN WITH THE SEED: THE CARDS: each row of YtkaplnjknobdpaaDoorRows.lean that lists a variable, with what it lists TIED to the program's text (the seventh form; the later family's looks); each row that meets fmt, with fmt's text TOLD by the authors' own Lean function (tested against real Go, not proved from fmt's source: count such statements apart). THE CARD IS WHAT COUNTS. Prove the row's statement (the work); the ties are given (YtkaplnjknobdpaaDoorTie.lean); close each card by the builder's one call (the guide's Derived/Test/ToyasCard.lean, 'card_holds'). Laid BY PROGRAM, IN A SANDBOX (cutbox-door.mjs). By AI agents, Wed Nov 11 2026. No macro, syntax, notation, axiom, sorry.
-/
import Derived.Test.YtkaplnjknobdpaaDoorRows
import GoSem.ClaimSeven
namespace Go.Proofs.YtkaplnjknobdpaaDoor
namespace Rows

/-- THE TIED CARD OF 'handlebodylaw3.SurfaceNormal'. -/
def surfaceNormalCard : Claim7 := { stood := { row := surfaceNormalRow, standIns := [], harness := (true, "d97ed0b6c62ec2e32a51cf8b440f4e9223898183d35f5c47165606d033b7ff3b"), looks := true }, kinds := [], alts := [], laidByText := true, laidKinds := [.handle, .sentinel, .sentinel, .sentinel, .sentinel, .sentinel, .sentinel, .sentinel, .sentinel], laidTests := true, laidLooks := .later }
def SurfaceNormalCardSaid : Prop := Claim7.holds Tryd.pinned (.plain (OpenSpec.ofChange surfaceNormalSpec)) surfaceNormalCard

/-- THE SECOND FORM's CARD OF 'handlebodylaw3.SurfaceNormal'. -/
def surfaceNormalUptoCard : Claim7 := { stood := { row := surfaceNormalUptoRow, standIns := [], harness := (true, "d97ed0b6c62ec2e32a51cf8b440f4e9223898183d35f5c47165606d033b7ff3b"), looks := true }, kinds := [], alts := [], laidByText := true, laidKinds := [.handle, .sentinel, .sentinel, .sentinel, .sentinel, .sentinel, .sentinel, .sentinel, .sentinel], laidTests := true, laidLooks := .later }
def SurfaceNormalUptoCardSaid : Prop := Claim7.holds Tryd.pinned (.plain (OpenSpec.upto surfaceNormalSpec)) surfaceNormalUptoCard
end Rows
end Go.Proofs.YtkaplnjknobdpaaDoor
