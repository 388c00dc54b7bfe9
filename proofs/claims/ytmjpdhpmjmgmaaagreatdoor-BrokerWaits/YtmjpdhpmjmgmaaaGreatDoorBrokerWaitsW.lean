/- A part of the law's claim. -/
import Derived.Test.YtmjpdhpmjmgmaaaGreatDoorCards
import Derived.Test.YtmjpdhpmjmgmaaaGreatDoorTie
import Derived.SevenTiedAt
import Derived.LaidMore
import Derived.MakeChecks
import Derived.ChangeSame
import Derived.ChangeVars
import Derived.JoinedOf
import Derived.RowKit
import Derived.RowKitTokens
import Derived.LaidLaws
import Derived.LaidHandle
import Derived.Stop.Joined
import Derived.ProofKit
import Derived.OpenShut
import Derived.Below
import Derived.Carry
import Derived.Lay
import Derived.ChangeMaps5
import Derived.SizedLaws
namespace Go.Proofs.YtmjpdhpmjmgmaaaGreatDoor.brokerWaits
open Go.ChangeShapes Go.WideShapes Go.ChangeAt Go.RowKit
set_option linter.unusedVariables false
set_option linter.unusedSimpArgs false
set_option maxHeartbeats 4000000
set_option maxRecDepth 100000
theorem named : Tryz.pinned.checked.prog.funcNamed Rows.brokerWaitsRow.func = some 3 := by kernel_rfl
end Go.Proofs.YtmjpdhpmjmgmaaaGreatDoor.brokerWaits
