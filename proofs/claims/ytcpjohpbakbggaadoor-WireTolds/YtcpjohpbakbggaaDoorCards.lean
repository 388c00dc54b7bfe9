/-
  DERIVED. GIVEN WITH THE SEED: THE CARDS: each row of YtcpjohpbakbggaaDoorRows.lean that lists a variable, with what it lists TIED to the program's text (the seventh form; the later family's looks); each row that meets fmt, with fmt's text TOLD by the authors' own Lean function (tested against real Go, not proved from fmt's source: count such statements apart). THE CARD IS WHAT COUNTS. Prove the row's statement (the work); the ties are given (YtcpjohpbakbggaaDoorTie.lean); close each card by the builder's one call (the guide's Derived/Test/ToyasCard.lean, 'card_holds'). Laid BY PROGRAM, IN A SANDBOX (cutbox-door.mjs). By AI agents, Wed Nov 11 2026. No macro, syntax, notation, axiom, sorry.
-/
import Derived.Test.YtcpjohpbakbggaaDoorRows
import GoSem.ClaimSeven
namespace Go.Proofs.YtcpjohpbakbggaaDoor
namespace Rows

/-- THE TIED CARD OF 'conveyorlaw.WireAskeds'. -/
def wireAskedsCard : Claim7 := { stood := { row := wireAskedsRow, standIns := [], harness := (true, "8737b74441da73ca38dabd0f6325c6c697b07034e078c138002e9586e5d7f7f3"), looks := true }, kinds := [], alts := [], laidByText := true, laidKinds := [.handle], laidTests := true, laidLooks := .later }
def WireAskedsCardSaid : Prop := Claim7.holds Tryd.pinned (.plain (OpenSpec.ofChange wireAskedsSpec)) wireAskedsCard

/-- THE TIED CARD OF 'conveyorlaw.WireTolds'. -/
def wireToldsCard : Claim7 := { stood := { row := wireToldsRow, standIns := [], harness := (true, "8737b74441da73ca38dabd0f6325c6c697b07034e078c138002e9586e5d7f7f3"), looks := true }, kinds := [], alts := [], laidByText := true, laidKinds := [.handle], laidTests := true, laidLooks := .later }
def WireToldsCardSaid : Prop := Claim7.holds Tryd.pinned (.plain (OpenSpec.ofChange wireToldsSpec)) wireToldsCard

/-- THE SECOND FORM's CARD OF 'conveyorlaw.WireAskeds'. -/
def wireAskedsUptoCard : Claim7 := { stood := { row := wireAskedsUptoRow, standIns := [], harness := (true, "8737b74441da73ca38dabd0f6325c6c697b07034e078c138002e9586e5d7f7f3"), looks := true }, kinds := [], alts := [], laidByText := true, laidKinds := [.handle], laidTests := true, laidLooks := .later }
def WireAskedsUptoCardSaid : Prop := Claim7.holds Tryd.pinned (.plain (OpenSpec.upto wireAskedsSpec)) wireAskedsUptoCard

/-- THE SECOND FORM's CARD OF 'conveyorlaw.WireTolds'. -/
def wireToldsUptoCard : Claim7 := { stood := { row := wireToldsUptoRow, standIns := [], harness := (true, "8737b74441da73ca38dabd0f6325c6c697b07034e078c138002e9586e5d7f7f3"), looks := true }, kinds := [], alts := [], laidByText := true, laidKinds := [.handle], laidTests := true, laidLooks := .later }
def WireToldsUptoCardSaid : Prop := Claim7.holds Tryd.pinned (.plain (OpenSpec.upto wireToldsSpec)) wireToldsUptoCard
end Rows
end Go.Proofs.YtcpjohpbakbggaaDoor
