/-
  DERIVED. GIVEN WITH THE SEED: THE CARDS: each row of YtjbpladooohpdaaGreatDoorRows.lean that lists a variable, with what it lists TIED to the program's text (the seventh form; the later family's looks); each row that meets fmt, with fmt's text TOLD by the authors' own Lean function (tested against real Go, not proved from fmt's source: count such statements apart). THE CARD IS WHAT COUNTS. Prove the row's statement (the work); the ties are given (YtjbpladooohpdaaGreatDoorTie.lean); close each card by the builder's one call (the guide's Derived/Test/ToyasCard.lean, 'card_holds'). Laid BY PROGRAM, IN A SANDBOX (cutbox-door.mjs). By AI agents, Wed Nov 11 2026. No macro, syntax, notation, axiom, sorry.
-/
import Derived.Test.YtjbpladooohpdaaGreatDoorRows
import GoSem.ClaimSeven
namespace Go.Proofs.YtjbpladooohpdaaGreatDoor
namespace Rows

/-- THE TIED CARD OF 'conveyorkeep.SegmentTears'. -/
def segmentTearsCard : Claim7 := { stood := { row := segmentTearsRow, standIns := [], harness := (true, "203f45f86a417b2a6b723b4d76b5993d56efcb256c49cfcf5de056a9bb4efc26"), looks := true }, kinds := [], alts := [], laidByText := true, laidKinds := [.data, .data, .data, .sentinel, .sentinel], laidTests := true, laidLooks := .later }
def SegmentTearsCardSaid : Prop := Claim7.holds Tryz.pinned (.plain (OpenSpec.ofChange segmentTearsSpec)) segmentTearsCard

/-- THE SECOND FORM's CARD OF 'conveyorkeep.SegmentTears'. -/
def segmentTearsUptoCard : Claim7 := { stood := { row := segmentTearsUptoRow, standIns := [], harness := (true, "203f45f86a417b2a6b723b4d76b5993d56efcb256c49cfcf5de056a9bb4efc26"), looks := true }, kinds := [], alts := [], laidByText := true, laidKinds := [.data, .data, .data, .sentinel, .sentinel], laidTests := true, laidLooks := .later }
def SegmentTearsUptoCardSaid : Prop := Claim7.holds Tryz.pinned (.plain (OpenSpec.upto segmentTearsSpec)) segmentTearsUptoCard
end Rows
end Go.Proofs.YtjbpladooohpdaaGreatDoor
