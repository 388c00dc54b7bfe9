/-
  DERIVED. GIVEN WITH THE SEED: THE CARDS: each row of YtmjpdhpmjmgmaaaGreatDoorRows.lean that lists a variable, with what it lists TIED to the program's text (the seventh form; the later family's looks); each row that meets fmt, with fmt's text TOLD by the authors' own Lean function (tested against real Go, not proved from fmt's source: count such statements apart). THE CARD IS WHAT COUNTS. Prove the row's statement (the work); the ties are given (YtmjpdhpmjmgmaaaGreatDoorTie.lean); close each card by the builder's one call (the guide's Derived/Test/ToyasCard.lean, 'card_holds'). Laid BY PROGRAM, IN A SANDBOX (cutbox-door.mjs). By AI agents, Wed Nov 11 2026. No macro, syntax, notation, axiom, sorry.
-/
import Derived.Test.YtmjpdhpmjmgmaaaGreatDoorRows
import GoSem.ClaimSeven
namespace Go.Proofs.YtmjpdhpmjmgmaaaGreatDoor
namespace Rows

/-- THE TIED CARD OF 'conveyorkeep.BrokerWaits'. -/
def brokerWaitsCard : Claim7 := { stood := { row := brokerWaitsRow, standIns := [], harness := (true, "21880abb31a5f9ca8be833e4416f4b64fdb5a5d5e4b8f1a11d8768bc4e66a3e6"), looks := true }, kinds := [], alts := [], laidByText := true, laidKinds := [.data, .data, .data, .data, .handle, .sentinel, .sentinel, .pinned], laidTests := true, laidLooks := .later }
def BrokerWaitsCardSaid : Prop := Claim7.holds Tryz.pinned (.plain (OpenSpec.ofChange brokerWaitsSpec)) brokerWaitsCard

/-- THE SECOND FORM's CARD OF 'conveyorkeep.BrokerWaits'. -/
def brokerWaitsUptoCard : Claim7 := { stood := { row := brokerWaitsUptoRow, standIns := [], harness := (true, "21880abb31a5f9ca8be833e4416f4b64fdb5a5d5e4b8f1a11d8768bc4e66a3e6"), looks := true }, kinds := [], alts := [], laidByText := true, laidKinds := [.data, .data, .data, .data, .handle, .sentinel, .sentinel, .pinned], laidTests := true, laidLooks := .later }
def BrokerWaitsUptoCardSaid : Prop := Claim7.holds Tryz.pinned (.plain (OpenSpec.upto brokerWaitsSpec)) brokerWaitsUptoCard
end Rows
end Go.Proofs.YtmjpdhpmjmgmaaaGreatDoor
