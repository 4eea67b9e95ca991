/-
  DERIVED. GIVEN WITH THE SEED: THE CARDS: each row of YtbmojlnkjeapkaaGreatDoorRows.lean that lists a variable, with what it lists TIED to the program's text (the seventh form; the later family's looks); each row that meets fmt, with fmt's text TOLD by the authors' own Lean function (tested against real Go, not proved from fmt's source: count such statements apart). THE CARD IS WHAT COUNTS. Prove the row's statement (the work); the ties are given (YtbmojlnkjeapkaaGreatDoorTie.lean); close each card by the builder's one call (the guide's Derived/Test/ToyasCard.lean, 'card_holds'). Laid BY PROGRAM, IN A SANDBOX (cutbox-door.mjs). By AI agents, Wed Nov 11 2026. No macro, syntax, notation, axiom, sorry.
-/
import Derived.Test.YtbmojlnkjeapkaaGreatDoorRows
import GoSem.ClaimSeven
namespace Go.Proofs.YtbmojlnkjeapkaaGreatDoor
namespace Rows

/-- THE TIED CARD OF 'handlebodylaw2.CubesBorders'. -/
def cubesBordersCard : Claim7 := { stood := { row := cubesBordersRow, standIns := [], harness := (true, "df66a90490449845d28a881c86d99d004fd865604fa3db5279b53d55a6e8ff19"), looks := true }, kinds := [], alts := [], laidByText := true, laidKinds := [.handle, .sentinel, .sentinel, .sentinel, .sentinel, .sentinel, .sentinel, .sentinel, .sentinel], laidTests := true, laidLooks := .later }
def CubesBordersCardSaid : Prop := Claim7.holds Tryz.pinned (.plain (OpenSpec.ofChange cubesBordersSpec)) cubesBordersCard

/-- THE SECOND FORM's CARD OF 'handlebodylaw2.CubesBorders'. -/
def cubesBordersUptoCard : Claim7 := { stood := { row := cubesBordersUptoRow, standIns := [], harness := (true, "df66a90490449845d28a881c86d99d004fd865604fa3db5279b53d55a6e8ff19"), looks := true }, kinds := [], alts := [], laidByText := true, laidKinds := [.handle, .sentinel, .sentinel, .sentinel, .sentinel, .sentinel, .sentinel, .sentinel, .sentinel], laidTests := true, laidLooks := .later }
def CubesBordersUptoCardSaid : Prop := Claim7.holds Tryz.pinned (.plain (OpenSpec.upto cubesBordersSpec)) cubesBordersUptoCard
end Rows
end Go.Proofs.YtbmojlnkjeapkaaGreatDoor
