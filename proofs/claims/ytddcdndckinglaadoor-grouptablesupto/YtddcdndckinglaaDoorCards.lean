/-
  DERIVED. GIVEN WITH THE SEED: THE CARDS: each row of YtddcdndckinglaaDoorRows.lean that lists a variable, with what it lists TIED to the program's text (the seventh form; the later family's looks); each row that meets fmt, with fmt's text TOLD by the authors' own Lean function (tested against real Go, not proved from fmt's source: count such statements apart). THE CARD IS WHAT COUNTS. Prove the row's statement (the work); the ties are given (YtddcdndckinglaaDoorTie.lean); close each card by the builder's one call (the guide's Derived/Test/ToyasCard.lean, 'card_holds'). Laid BY PROGRAM, IN A SANDBOX (cutbox-door.mjs). By AI agents, Wed Nov 11 2026. No macro, syntax, notation, axiom, sorry.
-/
import Derived.Test.YtddcdndckinglaaDoorRows
import GoSem.ClaimSeven
namespace Go.Proofs.YtddcdndckinglaaDoor
namespace Rows

/-- THE TIED CARD OF 'handlebodylaw3.GroupTables'. -/
def groupTablesCard : Claim7 := { stood := { row := groupTablesRow, standIns := [], harness := (true, "cc6e08a6f624249ff9958ae3de0a89d275e1c94c710994ff01dcb417ac89c0a0"), looks := false }, kinds := [], alts := [], laidByText := true, laidKinds := [.sentinel, .sentinel], laidTests := true, laidLooks := .later }
def GroupTablesCardSaid : Prop := Claim7.holds Tryd.pinned (.plain (OpenSpec.ofChange groupTablesSpec)) groupTablesCard

/-- THE SECOND FORM's CARD OF 'handlebodylaw3.GroupTables'. -/
def groupTablesUptoCard : Claim7 := { stood := { row := groupTablesUptoRow, standIns := [], harness := (true, "cc6e08a6f624249ff9958ae3de0a89d275e1c94c710994ff01dcb417ac89c0a0"), looks := false }, kinds := [], alts := [], laidByText := true, laidKinds := [.sentinel, .sentinel], laidTests := true, laidLooks := .later }
def GroupTablesUptoCardSaid : Prop := Claim7.holds Tryd.pinned (.plain (OpenSpec.upto groupTablesSpec)) groupTablesUptoCard
end Rows
end Go.Proofs.YtddcdndckinglaaDoor
