/-
  DERIVED. GIVEN WITH THE SEED: THE CARDS: each row of YtopopbhpclhinaaDoorRows.lean that lists a variable, with what it lists TIED to the program's text (the seventh form; the later family's looks); each row that meets fmt, with fmt's text TOLD by the authors' own Lean function (tested against real Go, not proved from fmt's source: count such statements apart). THE CARD IS WHAT COUNTS. Prove the row's statement (the work); the ties are given (YtopopbhpclhinaaDoorTie.lean); close each card by the builder's one call (the guide's Derived/Test/ToyasCard.lean, 'card_holds'). Laid BY PROGRAM, IN A SANDBOX (cutbox-door.mjs). By AI agents, Wed Nov 11 2026. No macro, syntax, notation, axiom, sorry.
-/
import Derived.Test.YtopopbhpclhinaaDoorRows
import GoSem.ClaimSeven
namespace Go.Proofs.YtopopbhpclhinaaDoor
namespace Rows

/-- THE TIED CARD OF 'handlebodylaw1.CellsProducts'. -/
def cellsProductsCard : Claim7 := { stood := { row := cellsProductsRow, standIns := [], harness := (true, "7665f5e721b23103cf5554a6d8b422c151e02530194de380dcd6f6eaf369a469"), looks := true }, kinds := [], alts := [], laidByText := true, laidKinds := [.handle, .sentinel, .sentinel, .sentinel, .sentinel, .sentinel, .sentinel, .sentinel, .sentinel], laidTests := true, laidLooks := .later }
def CellsProductsCardSaid : Prop := Claim7.holds Tryd.pinned (.plain (OpenSpec.ofChange cellsProductsSpec)) cellsProductsCard

/-- THE TIED CARD OF 'handlebodylaw1.CellsBorders'. -/
def cellsBordersCard : Claim7 := { stood := { row := cellsBordersRow, standIns := [], harness := (true, "7665f5e721b23103cf5554a6d8b422c151e02530194de380dcd6f6eaf369a469"), looks := true }, kinds := [], alts := [], laidByText := true, laidKinds := [.handle, .sentinel, .sentinel, .sentinel, .sentinel, .sentinel, .sentinel, .sentinel, .sentinel], laidTests := true, laidLooks := .later }
def CellsBordersCardSaid : Prop := Claim7.holds Tryd.pinned (.plain (OpenSpec.ofChange cellsBordersSpec)) cellsBordersCard

/-- THE TIED CARD OF 'handlebodylaw1.CellsEuler'. -/
def cellsEulerCard : Claim7 := { stood := { row := cellsEulerRow, standIns := [], harness := (true, "7665f5e721b23103cf5554a6d8b422c151e02530194de380dcd6f6eaf369a469"), looks := true }, kinds := [], alts := [], laidByText := true, laidKinds := [.sentinel, .sentinel, .sentinel], laidTests := true, laidLooks := .later }
def CellsEulerCardSaid : Prop := Claim7.holds Tryd.pinned (.plain (OpenSpec.ofChange cellsEulerSpec)) cellsEulerCard

/-- THE SECOND FORM's CARD OF 'handlebodylaw1.CellsProducts'. -/
def cellsProductsUptoCard : Claim7 := { stood := { row := cellsProductsUptoRow, standIns := [], harness := (true, "7665f5e721b23103cf5554a6d8b422c151e02530194de380dcd6f6eaf369a469"), looks := true }, kinds := [], alts := [], laidByText := true, laidKinds := [.handle, .sentinel, .sentinel, .sentinel, .sentinel, .sentinel, .sentinel, .sentinel, .sentinel], laidTests := true, laidLooks := .later }
def CellsProductsUptoCardSaid : Prop := Claim7.holds Tryd.pinned (.plain (OpenSpec.upto cellsProductsSpec)) cellsProductsUptoCard

/-- THE SECOND FORM's CARD OF 'handlebodylaw1.CellsBorders'. -/
def cellsBordersUptoCard : Claim7 := { stood := { row := cellsBordersUptoRow, standIns := [], harness := (true, "7665f5e721b23103cf5554a6d8b422c151e02530194de380dcd6f6eaf369a469"), looks := true }, kinds := [], alts := [], laidByText := true, laidKinds := [.handle, .sentinel, .sentinel, .sentinel, .sentinel, .sentinel, .sentinel, .sentinel, .sentinel], laidTests := true, laidLooks := .later }
def CellsBordersUptoCardSaid : Prop := Claim7.holds Tryd.pinned (.plain (OpenSpec.upto cellsBordersSpec)) cellsBordersUptoCard

/-- THE SECOND FORM's CARD OF 'handlebodylaw1.CellsEuler'. -/
def cellsEulerUptoCard : Claim7 := { stood := { row := cellsEulerUptoRow, standIns := [], harness := (true, "7665f5e721b23103cf5554a6d8b422c151e02530194de380dcd6f6eaf369a469"), looks := true }, kinds := [], alts := [], laidByText := true, laidKinds := [.sentinel, .sentinel, .sentinel], laidTests := true, laidLooks := .later }
def CellsEulerUptoCardSaid : Prop := Claim7.holds Tryd.pinned (.plain (OpenSpec.upto cellsEulerSpec)) cellsEulerUptoCard
end Rows
end Go.Proofs.YtopopbhpclhinaaDoor
