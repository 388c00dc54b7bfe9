/-
  DERIVED. GIVEN WITH THE SEED: THE CARDS: each row of YtodadoaindfecaaDoorRows.lean that lists a variable, with what it lists TIED to the program's text (the seventh form; the later family's looks); each row that meets fmt, with fmt's text TOLD by the authors' own Lean function (tested against real Go, not proved from fmt's source: count such statements apart). THE CARD IS WHAT COUNTS. Prove the row's statement (the work); the ties are given (YtodadoaindfecaaDoorTie.lean); close each card by the builder's one call (the guide's Derived/Test/ToyasCard.lean, 'card_holds'). Laid BY PROGRAM, IN A SANDBOX (cutbox-door.mjs). By AI agents, Wed Nov 11 2026. No macro, syntax, notation, axiom, sorry.
-/
import Derived.Test.YtodadoaindfecaaDoorRows
import GoSem.ClaimSeven
namespace Go.Proofs.YtodadoaindfecaaDoor
namespace Rows

/-- THE TIED CARD OF 'conveyorlaw.WheelPlays'. -/
def wheelPlaysCard : Claim7 := { stood := { row := wheelPlaysRow, standIns := [], harness := (true, "0537f0b81eb9868a35f988d8b1e3d9a7f0ecc1faee84093b8ad32c7c141403ca"), looks := true }, kinds := [], alts := [], laidByText := true, laidKinds := [.handle], laidTests := true, laidLooks := .later }
def WheelPlaysCardSaid : Prop := Claim7.holds Tryd.pinned (.plain (OpenSpec.ofChange wheelPlaysSpec)) wheelPlaysCard

/-- THE TIED CARD OF 'conveyorlaw.WireAsks'. -/
def wireAsksCard : Claim7 := { stood := { row := wireAsksRow, standIns := [], harness := (true, "0537f0b81eb9868a35f988d8b1e3d9a7f0ecc1faee84093b8ad32c7c141403ca"), looks := true }, kinds := [], alts := [], laidByText := true, laidKinds := [.handle], laidTests := true, laidLooks := .later }
def WireAsksCardSaid : Prop := Claim7.holds Tryd.pinned (.plain (OpenSpec.ofChange wireAsksSpec)) wireAsksCard

/-- THE TIED CARD OF 'conveyorlaw.WireTells'. -/
def wireTellsCard : Claim7 := { stood := { row := wireTellsRow, standIns := [], harness := (true, "0537f0b81eb9868a35f988d8b1e3d9a7f0ecc1faee84093b8ad32c7c141403ca"), looks := true }, kinds := [], alts := [], laidByText := true, laidKinds := [.handle], laidTests := true, laidLooks := .later }
def WireTellsCardSaid : Prop := Claim7.holds Tryd.pinned (.plain (OpenSpec.ofChange wireTellsSpec)) wireTellsCard

/-- THE TIED CARD OF 'conveyorlaw.WireAskeds'. -/
def wireAskedsCard : Claim7 := { stood := { row := wireAskedsRow, standIns := [], harness := (true, "0537f0b81eb9868a35f988d8b1e3d9a7f0ecc1faee84093b8ad32c7c141403ca"), looks := true }, kinds := [], alts := [], laidByText := true, laidKinds := [.handle], laidTests := true, laidLooks := .later }
def WireAskedsCardSaid : Prop := Claim7.holds Tryd.pinned (.plain (OpenSpec.ofChange wireAskedsSpec)) wireAskedsCard

/-- THE TIED CARD OF 'conveyorlaw.WireTolds'. -/
def wireToldsCard : Claim7 := { stood := { row := wireToldsRow, standIns := [], harness := (true, "0537f0b81eb9868a35f988d8b1e3d9a7f0ecc1faee84093b8ad32c7c141403ca"), looks := true }, kinds := [], alts := [], laidByText := true, laidKinds := [.handle], laidTests := true, laidLooks := .later }
def WireToldsCardSaid : Prop := Claim7.holds Tryd.pinned (.plain (OpenSpec.ofChange wireToldsSpec)) wireToldsCard

/-- THE TIED CARD OF 'conveyorkeep.WireBack'. -/
def wireBackCard : Claim7 := { stood := { row := wireBackRow, standIns := [], harness := (true, "0537f0b81eb9868a35f988d8b1e3d9a7f0ecc1faee84093b8ad32c7c141403ca"), looks := true }, kinds := [], alts := [], laidByText := true, laidKinds := [.handle], laidTests := true, laidLooks := .later }
def WireBackCardSaid : Prop := Claim7.holds Tryd.pinned (.plain (OpenSpec.ofChange wireBackSpec)) wireBackCard

/-- THE TIED CARD OF 'conveyorkeep.WireAnswers'. -/
def wireAnswersCard : Claim7 := { stood := { row := wireAnswersRow, standIns := [], harness := (true, "0537f0b81eb9868a35f988d8b1e3d9a7f0ecc1faee84093b8ad32c7c141403ca"), looks := true }, kinds := [], alts := [], laidByText := true, laidKinds := [.handle], laidTests := true, laidLooks := .later }
def WireAnswersCardSaid : Prop := Claim7.holds Tryd.pinned (.plain (OpenSpec.ofChange wireAnswersSpec)) wireAnswersCard

/-- THE SECOND FORM's CARD OF 'conveyorlaw.WheelPlays'. -/
def wheelPlaysUptoCard : Claim7 := { stood := { row := wheelPlaysUptoRow, standIns := [], harness := (true, "0537f0b81eb9868a35f988d8b1e3d9a7f0ecc1faee84093b8ad32c7c141403ca"), looks := true }, kinds := [], alts := [], laidByText := true, laidKinds := [.handle], laidTests := true, laidLooks := .later }
def WheelPlaysUptoCardSaid : Prop := Claim7.holds Tryd.pinned (.plain (OpenSpec.upto wheelPlaysSpec)) wheelPlaysUptoCard

/-- THE SECOND FORM's CARD OF 'conveyorlaw.WireAsks'. -/
def wireAsksUptoCard : Claim7 := { stood := { row := wireAsksUptoRow, standIns := [], harness := (true, "0537f0b81eb9868a35f988d8b1e3d9a7f0ecc1faee84093b8ad32c7c141403ca"), looks := true }, kinds := [], alts := [], laidByText := true, laidKinds := [.handle], laidTests := true, laidLooks := .later }
def WireAsksUptoCardSaid : Prop := Claim7.holds Tryd.pinned (.plain (OpenSpec.upto wireAsksSpec)) wireAsksUptoCard

/-- THE SECOND FORM's CARD OF 'conveyorlaw.WireTells'. -/
def wireTellsUptoCard : Claim7 := { stood := { row := wireTellsUptoRow, standIns := [], harness := (true, "0537f0b81eb9868a35f988d8b1e3d9a7f0ecc1faee84093b8ad32c7c141403ca"), looks := true }, kinds := [], alts := [], laidByText := true, laidKinds := [.handle], laidTests := true, laidLooks := .later }
def WireTellsUptoCardSaid : Prop := Claim7.holds Tryd.pinned (.plain (OpenSpec.upto wireTellsSpec)) wireTellsUptoCard

/-- THE SECOND FORM's CARD OF 'conveyorlaw.WireAskeds'. -/
def wireAskedsUptoCard : Claim7 := { stood := { row := wireAskedsUptoRow, standIns := [], harness := (true, "0537f0b81eb9868a35f988d8b1e3d9a7f0ecc1faee84093b8ad32c7c141403ca"), looks := true }, kinds := [], alts := [], laidByText := true, laidKinds := [.handle], laidTests := true, laidLooks := .later }
def WireAskedsUptoCardSaid : Prop := Claim7.holds Tryd.pinned (.plain (OpenSpec.upto wireAskedsSpec)) wireAskedsUptoCard

/-- THE SECOND FORM's CARD OF 'conveyorlaw.WireTolds'. -/
def wireToldsUptoCard : Claim7 := { stood := { row := wireToldsUptoRow, standIns := [], harness := (true, "0537f0b81eb9868a35f988d8b1e3d9a7f0ecc1faee84093b8ad32c7c141403ca"), looks := true }, kinds := [], alts := [], laidByText := true, laidKinds := [.handle], laidTests := true, laidLooks := .later }
def WireToldsUptoCardSaid : Prop := Claim7.holds Tryd.pinned (.plain (OpenSpec.upto wireToldsSpec)) wireToldsUptoCard

/-- THE SECOND FORM's CARD OF 'conveyorkeep.WireBack'. -/
def wireBackUptoCard : Claim7 := { stood := { row := wireBackUptoRow, standIns := [], harness := (true, "0537f0b81eb9868a35f988d8b1e3d9a7f0ecc1faee84093b8ad32c7c141403ca"), looks := true }, kinds := [], alts := [], laidByText := true, laidKinds := [.handle], laidTests := true, laidLooks := .later }
def WireBackUptoCardSaid : Prop := Claim7.holds Tryd.pinned (.plain (OpenSpec.upto wireBackSpec)) wireBackUptoCard

/-- THE SECOND FORM's CARD OF 'conveyorkeep.WireAnswers'. -/
def wireAnswersUptoCard : Claim7 := { stood := { row := wireAnswersUptoRow, standIns := [], harness := (true, "0537f0b81eb9868a35f988d8b1e3d9a7f0ecc1faee84093b8ad32c7c141403ca"), looks := true }, kinds := [], alts := [], laidByText := true, laidKinds := [.handle], laidTests := true, laidLooks := .later }
def WireAnswersUptoCardSaid : Prop := Claim7.holds Tryd.pinned (.plain (OpenSpec.upto wireAnswersSpec)) wireAnswersUptoCard
end Rows
end Go.Proofs.YtodadoaindfecaaDoor
