/-
  DERIVED. GIVEN WITH THE SEED: THE CARDS: each row of YthbhfhagbaommaaGreatDoorRows.lean that lists a variable, with what it lists TIED to the program's text (the seventh form; the later family's looks); each row that meets fmt, with fmt's text TOLD by the authors' own Lean function (tested against real Go, not proved from fmt's source: count such statements apart). THE CARD IS WHAT COUNTS. Prove the row's statement (the work); the ties are given (YthbhfhagbaommaaGreatDoorTie.lean); close each card by the builder's one call (the guide's Derived/Test/ToyasCard.lean, 'card_holds'). Laid BY PROGRAM, IN A SANDBOX (cutbox-door.mjs). By AI agents, Wed Nov 11 2026. No macro, syntax, notation, axiom, sorry.
-/
import Derived.Test.YthbhfhagbaommaaGreatDoorRows
import GoSem.ClaimSeven
namespace Go.Proofs.YthbhfhagbaommaaGreatDoor
namespace Rows

/-- THE TIED CARD OF 'conveyorkeep.LogCompacts'. -/
def logCompactsCard : Claim7 := { stood := { row := logCompactsRow, standIns := [], harness := (true, "d04a6a1ffea3658a7ddf6b1afec215b72004c33cf0311bdf763e8b68b9fcaaa1"), looks := true }, kinds := [], alts := [], laidByText := true, laidKinds := [.data, .data, .data, .handle, .sentinel, .sentinel], laidTests := true, laidLooks := .later }
def LogCompactsCardSaid : Prop := Claim7.holds Tryz.pinned (.plain (OpenSpec.ofChange logCompactsSpec)) logCompactsCard

/-- THE TIED CARD OF 'conveyorkeep.LogCrashes'. -/
def logCrashesCard : Claim7 := { stood := { row := logCrashesRow, standIns := [], harness := (true, "d04a6a1ffea3658a7ddf6b1afec215b72004c33cf0311bdf763e8b68b9fcaaa1"), looks := true }, kinds := [], alts := [], laidByText := true, laidKinds := [.data, .data, .data, .handle, .sentinel, .sentinel], laidTests := true, laidLooks := .later }
def LogCrashesCardSaid : Prop := Claim7.holds Tryz.pinned (.plain (OpenSpec.ofChange logCrashesSpec)) logCrashesCard

/-- THE SECOND FORM's CARD OF 'conveyorkeep.LogCompacts'. -/
def logCompactsUptoCard : Claim7 := { stood := { row := logCompactsUptoRow, standIns := [], harness := (true, "d04a6a1ffea3658a7ddf6b1afec215b72004c33cf0311bdf763e8b68b9fcaaa1"), looks := true }, kinds := [], alts := [], laidByText := true, laidKinds := [.data, .data, .data, .handle, .sentinel, .sentinel], laidTests := true, laidLooks := .later }
def LogCompactsUptoCardSaid : Prop := Claim7.holds Tryz.pinned (.plain (OpenSpec.upto logCompactsSpec)) logCompactsUptoCard

/-- THE SECOND FORM's CARD OF 'conveyorkeep.LogCrashes'. -/
def logCrashesUptoCard : Claim7 := { stood := { row := logCrashesUptoRow, standIns := [], harness := (true, "d04a6a1ffea3658a7ddf6b1afec215b72004c33cf0311bdf763e8b68b9fcaaa1"), looks := true }, kinds := [], alts := [], laidByText := true, laidKinds := [.data, .data, .data, .handle, .sentinel, .sentinel], laidTests := true, laidLooks := .later }
def LogCrashesUptoCardSaid : Prop := Claim7.holds Tryz.pinned (.plain (OpenSpec.upto logCrashesSpec)) logCrashesUptoCard
end Rows
end Go.Proofs.YthbhfhagbaommaaGreatDoor
