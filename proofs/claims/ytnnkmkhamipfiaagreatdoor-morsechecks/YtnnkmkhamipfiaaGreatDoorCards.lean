/-
  DERIVED. GIVEN WITH THE SEED: THE CARDS: each row of YtnnkmkhamipfiaaGreatDoorRows.lean that lists a variable, with what it lists TIED to the program's text (the seventh form; the later family's looks); each row that meets fmt, with fmt's text TOLD by the authors' own Lean function (tested against real Go, not proved from fmt's source: count such statements apart). THE CARD IS WHAT COUNTS. Prove the row's statement (the work); the ties are given (YtnnkmkhamipfiaaGreatDoorTie.lean); close each card by the builder's one call (the guide's Derived/Test/ToyasCard.lean, 'card_holds'). Laid BY PROGRAM, IN A SANDBOX (cutbox-door.mjs). By AI agents, Wed Nov 11 2026. No macro, syntax, notation, axiom, sorry.
-/
import Derived.Test.YtnnkmkhamipfiaaGreatDoorRows
import GoSem.ClaimSeven
namespace Go.Proofs.YtnnkmkhamipfiaaGreatDoor
namespace Rows

/-- THE TIED CARD OF 'handlebodylaw2.MorseChecks'. -/
def morseChecksCard : Claim7 := { stood := { row := morseChecksRow, standIns := [], harness := (true, "d153d5b8f120742aa49b8be1f66e0fe1ec87d1c2f0834e9c93289f5c61e17bc4"), looks := true }, kinds := [], alts := [], laidByText := true, laidKinds := [.handle, .sentinel, .sentinel, .sentinel, .sentinel, .sentinel, .sentinel, .sentinel, .sentinel], laidTests := true, laidLooks := .later }
def MorseChecksCardSaid : Prop := Claim7.holds Tryz.pinned (.plain (OpenSpec.ofChange morseChecksSpec)) morseChecksCard

/-- THE TIED CARD OF 'handlebodylaw2.MorseFinds'. -/
def morseFindsCard : Claim7 := { stood := { row := morseFindsRow, standIns := [], harness := (true, "d153d5b8f120742aa49b8be1f66e0fe1ec87d1c2f0834e9c93289f5c61e17bc4"), looks := true }, kinds := [], alts := [], laidByText := true, laidKinds := [.handle, .sentinel, .sentinel, .sentinel, .sentinel, .sentinel, .sentinel, .sentinel, .sentinel], laidTests := true, laidLooks := .later }
def MorseFindsCardSaid : Prop := Claim7.holds Tryz.pinned (.plain (OpenSpec.ofChange morseFindsSpec)) morseFindsCard

/-- THE SECOND FORM's CARD OF 'handlebodylaw2.MorseChecks'. -/
def morseChecksUptoCard : Claim7 := { stood := { row := morseChecksUptoRow, standIns := [], harness := (true, "d153d5b8f120742aa49b8be1f66e0fe1ec87d1c2f0834e9c93289f5c61e17bc4"), looks := true }, kinds := [], alts := [], laidByText := true, laidKinds := [.handle, .sentinel, .sentinel, .sentinel, .sentinel, .sentinel, .sentinel, .sentinel, .sentinel], laidTests := true, laidLooks := .later }
def MorseChecksUptoCardSaid : Prop := Claim7.holds Tryz.pinned (.plain (OpenSpec.upto morseChecksSpec)) morseChecksUptoCard

/-- THE SECOND FORM's CARD OF 'handlebodylaw2.MorseFinds'. -/
def morseFindsUptoCard : Claim7 := { stood := { row := morseFindsUptoRow, standIns := [], harness := (true, "d153d5b8f120742aa49b8be1f66e0fe1ec87d1c2f0834e9c93289f5c61e17bc4"), looks := true }, kinds := [], alts := [], laidByText := true, laidKinds := [.handle, .sentinel, .sentinel, .sentinel, .sentinel, .sentinel, .sentinel, .sentinel, .sentinel], laidTests := true, laidLooks := .later }
def MorseFindsUptoCardSaid : Prop := Claim7.holds Tryz.pinned (.plain (OpenSpec.upto morseFindsSpec)) morseFindsUptoCard
end Rows
end Go.Proofs.YtnnkmkhamipfiaaGreatDoor
