/-
  DERIVED. GIVEN WITH THE SEED: THE CARDS: each row of YtmaopnbnbiediaaDoorRows.lean that lists a variable, with what it lists TIED to the program's text (the seventh form; the later family's looks); each row that meets fmt, with fmt's text TOLD by the authors' own Lean function (tested against real Go, not proved from fmt's source: count such statements apart). THE CARD IS WHAT COUNTS. Prove the row's statement (the work); the ties are given (YtmaopnbnbiediaaDoorTie.lean); close each card by the builder's one call (the guide's Derived/Test/ToyasCard.lean, 'card_holds'). Laid BY PROGRAM, IN A SANDBOX (cutbox-door.mjs). By AI agents, Wed Nov 11 2026. No macro, syntax, notation, axiom, sorry.
-/
import Derived.Test.YtmaopnbnbiediaaDoorRows
import GoSem.ClaimSeven
namespace Go.Proofs.YtmaopnbnbiediaaDoor
namespace Rows

/-- THE TIED CARD OF 'handlebodylaw3.GroupSubgroups'. -/
def groupSubgroupsCard : Claim7 := { stood := { row := groupSubgroupsRow, standIns := [], harness := (true, "ddbeee94ad1de4b608c498b7abca65aee155cb279af28a9b8002d13f7b0d517c"), looks := true }, kinds := [], alts := [], laidByText := true, laidKinds := [.handle, .sentinel, .sentinel, .sentinel, .sentinel, .sentinel, .sentinel, .sentinel, .sentinel], laidTests := true, laidLooks := .later }
def GroupSubgroupsCardSaid : Prop := Claim7.holds Tryd.pinned (.plain (OpenSpec.ofChange groupSubgroupsSpec)) groupSubgroupsCard

/-- THE SECOND FORM's CARD OF 'handlebodylaw3.GroupSubgroups'. -/
def groupSubgroupsUptoCard : Claim7 := { stood := { row := groupSubgroupsUptoRow, standIns := [], harness := (true, "ddbeee94ad1de4b608c498b7abca65aee155cb279af28a9b8002d13f7b0d517c"), looks := true }, kinds := [], alts := [], laidByText := true, laidKinds := [.handle, .sentinel, .sentinel, .sentinel, .sentinel, .sentinel, .sentinel, .sentinel, .sentinel], laidTests := true, laidLooks := .later }
def GroupSubgroupsUptoCardSaid : Prop := Claim7.holds Tryd.pinned (.plain (OpenSpec.upto groupSubgroupsSpec)) groupSubgroupsUptoCard
end Rows
end Go.Proofs.YtmaopnbnbiediaaDoor
