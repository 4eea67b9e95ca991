/-
  DERIVED. GIVEN WITH THE SEED: THE CARDS: each row of YtgaikmkonjblfaaDoorRows.lean that lists a variable, with what it lists TIED to the program's text (the seventh form; the later family's looks); each row that meets fmt, with fmt's text TOLD by the authors' own Lean function (tested against real Go, not proved from fmt's source: count such statements apart). THE CARD IS WHAT COUNTS. Prove the row's statement (the work); the ties are given (YtgaikmkonjblfaaDoorTie.lean); close each card by the builder's one call (the guide's Derived/Test/ToyasCard.lean, 'card_holds'). Laid BY PROGRAM, IN A SANDBOX (cutbox-door.mjs). By AI agents, Wed Nov 11 2026. No macro, syntax, notation, axiom, sorry.
-/
import Derived.Test.YtgaikmkonjblfaaDoorRows
import GoSem.ClaimSeven
namespace Go.Proofs.YtgaikmkonjblfaaDoor
namespace Rows

/-- THE TIED CARD OF 'handlebodylaw1.CellsMakes'. -/
def cellsMakesCard : Claim7 := { stood := { row := cellsMakesRow, standIns := [], harness := (true, "72536365598994e5ec0de0c4b806ea00d40d29cf19a10cf081af8b3b4e7b36c2"), looks := true }, kinds := [], alts := [], laidByText := true, laidKinds := [.handle, .sentinel, .sentinel, .sentinel, .sentinel, .sentinel, .sentinel, .sentinel, .sentinel], laidTests := true, laidLooks := .later }
def CellsMakesCardSaid : Prop := Claim7.holds Tryd.pinned (.plain (OpenSpec.ofChange cellsMakesSpec)) cellsMakesCard

/-- THE TIED CARD OF 'handlebodylaw1.CellsProducts'. -/
def cellsProductsCard : Claim7 := { stood := { row := cellsProductsRow, standIns := [], harness := (true, "72536365598994e5ec0de0c4b806ea00d40d29cf19a10cf081af8b3b4e7b36c2"), looks := true }, kinds := [], alts := [], laidByText := true, laidKinds := [.handle, .sentinel, .sentinel, .sentinel, .sentinel, .sentinel, .sentinel, .sentinel, .sentinel], laidTests := true, laidLooks := .later }
def CellsProductsCardSaid : Prop := Claim7.holds Tryd.pinned (.plain (OpenSpec.ofChange cellsProductsSpec)) cellsProductsCard

/-- THE TIED CARD OF 'handlebodylaw1.CellsBorders'. -/
def cellsBordersCard : Claim7 := { stood := { row := cellsBordersRow, standIns := [], harness := (true, "72536365598994e5ec0de0c4b806ea00d40d29cf19a10cf081af8b3b4e7b36c2"), looks := true }, kinds := [], alts := [], laidByText := true, laidKinds := [.handle, .sentinel, .sentinel, .sentinel, .sentinel, .sentinel, .sentinel, .sentinel, .sentinel], laidTests := true, laidLooks := .later }
def CellsBordersCardSaid : Prop := Claim7.holds Tryd.pinned (.plain (OpenSpec.ofChange cellsBordersSpec)) cellsBordersCard

/-- THE SECOND FORM's CARD OF 'handlebodylaw1.CellsMakes'. -/
def cellsMakesUptoCard : Claim7 := { stood := { row := cellsMakesUptoRow, standIns := [], harness := (true, "72536365598994e5ec0de0c4b806ea00d40d29cf19a10cf081af8b3b4e7b36c2"), looks := true }, kinds := [], alts := [], laidByText := true, laidKinds := [.handle, .sentinel, .sentinel, .sentinel, .sentinel, .sentinel, .sentinel, .sentinel, .sentinel], laidTests := true, laidLooks := .later }
def CellsMakesUptoCardSaid : Prop := Claim7.holds Tryd.pinned (.plain (OpenSpec.upto cellsMakesSpec)) cellsMakesUptoCard

/-- THE SECOND FORM's CARD OF 'handlebodylaw1.CellsProducts'. -/
def cellsProductsUptoCard : Claim7 := { stood := { row := cellsProductsUptoRow, standIns := [], harness := (true, "72536365598994e5ec0de0c4b806ea00d40d29cf19a10cf081af8b3b4e7b36c2"), looks := true }, kinds := [], alts := [], laidByText := true, laidKinds := [.handle, .sentinel, .sentinel, .sentinel, .sentinel, .sentinel, .sentinel, .sentinel, .sentinel], laidTests := true, laidLooks := .later }
def CellsProductsUptoCardSaid : Prop := Claim7.holds Tryd.pinned (.plain (OpenSpec.upto cellsProductsSpec)) cellsProductsUptoCard

/-- THE SECOND FORM's CARD OF 'handlebodylaw1.CellsBorders'. -/
def cellsBordersUptoCard : Claim7 := { stood := { row := cellsBordersUptoRow, standIns := [], harness := (true, "72536365598994e5ec0de0c4b806ea00d40d29cf19a10cf081af8b3b4e7b36c2"), looks := true }, kinds := [], alts := [], laidByText := true, laidKinds := [.handle, .sentinel, .sentinel, .sentinel, .sentinel, .sentinel, .sentinel, .sentinel, .sentinel], laidTests := true, laidLooks := .later }
def CellsBordersUptoCardSaid : Prop := Claim7.holds Tryd.pinned (.plain (OpenSpec.upto cellsBordersSpec)) cellsBordersUptoCard
end Rows
end Go.Proofs.YtgaikmkonjblfaaDoor
