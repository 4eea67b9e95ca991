/-
  DERIVED. GIVEN WITH THE SEED: THE CARDS: each row of YtkmecdgnoemimaaDoorRows.lean that lists a variable, with what it lists TIED to the program's text (the seventh form; the later family's looks); each row that meets fmt, with fmt's text TOLD by the authors' own Lean function (tested against real Go, not proved from fmt's source: count such statements apart). THE CARD IS WHAT COUNTS. Prove the row's statement (the work); the ties are given (YtkmecdgnoemimaaDoorTie.lean); close each card by the builder's one call (the guide's Derived/Test/ToyasCard.lean, 'card_holds'). Laid BY PROGRAM, IN A SANDBOX (cutbox-door.mjs). By AI agents, Wed Nov 11 2026. No macro, syntax, notation, axiom, sorry.
-/
import Derived.Test.YtkmecdgnoemimaaDoorRows
import GoSem.ClaimSeven
namespace Go.Proofs.YtkmecdgnoemimaaDoor
namespace Rows

/-- THE TIED CARD OF 'handlebodylaw1.CellsProducts'. -/
def cellsProductsCard : Claim7 := { stood := { row := cellsProductsRow, standIns := [], harness := (true, "84c98a1ce0475cd64e0027017739244ff8d9e45a7e110756746b3d26ed3444c5"), looks := true }, kinds := [], alts := [], laidByText := true, laidKinds := [.handle, .sentinel, .sentinel, .sentinel, .sentinel, .sentinel, .sentinel, .sentinel, .sentinel], laidTests := true, laidLooks := .later }
def CellsProductsCardSaid : Prop := Claim7.holds Tryd.pinned (.plain (OpenSpec.ofChange cellsProductsSpec)) cellsProductsCard

/-- THE TIED CARD OF 'handlebodylaw1.CellsEuler'. -/
def cellsEulerCard : Claim7 := { stood := { row := cellsEulerRow, standIns := [], harness := (true, "84c98a1ce0475cd64e0027017739244ff8d9e45a7e110756746b3d26ed3444c5"), looks := true }, kinds := [], alts := [], laidByText := true, laidKinds := [.sentinel, .sentinel, .sentinel], laidTests := true, laidLooks := .later }
def CellsEulerCardSaid : Prop := Claim7.holds Tryd.pinned (.plain (OpenSpec.ofChange cellsEulerSpec)) cellsEulerCard

/-- THE SECOND FORM's CARD OF 'handlebodylaw1.CellsProducts'. -/
def cellsProductsUptoCard : Claim7 := { stood := { row := cellsProductsUptoRow, standIns := [], harness := (true, "84c98a1ce0475cd64e0027017739244ff8d9e45a7e110756746b3d26ed3444c5"), looks := true }, kinds := [], alts := [], laidByText := true, laidKinds := [.handle, .sentinel, .sentinel, .sentinel, .sentinel, .sentinel, .sentinel, .sentinel, .sentinel], laidTests := true, laidLooks := .later }
def CellsProductsUptoCardSaid : Prop := Claim7.holds Tryd.pinned (.plain (OpenSpec.upto cellsProductsSpec)) cellsProductsUptoCard

/-- THE SECOND FORM's CARD OF 'handlebodylaw1.CellsEuler'. -/
def cellsEulerUptoCard : Claim7 := { stood := { row := cellsEulerUptoRow, standIns := [], harness := (true, "84c98a1ce0475cd64e0027017739244ff8d9e45a7e110756746b3d26ed3444c5"), looks := true }, kinds := [], alts := [], laidByText := true, laidKinds := [.sentinel, .sentinel, .sentinel], laidTests := true, laidLooks := .later }
def CellsEulerUptoCardSaid : Prop := Claim7.holds Tryd.pinned (.plain (OpenSpec.upto cellsEulerSpec)) cellsEulerUptoCard
end Rows
end Go.Proofs.YtkmecdgnoemimaaDoor
