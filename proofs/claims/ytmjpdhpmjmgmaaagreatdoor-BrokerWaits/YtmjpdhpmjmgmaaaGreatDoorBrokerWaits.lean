/- For every list of fetches, puts and times (at most 60; others are not asked; a put of more than 500 bytes ends it), the law BrokerWaits answers true: who waits is answered once, when there is enough or the time is up, and not ahead of that; who was answered waits no more; and when 1000 units have gone by, nobody waits. The library's tables and sentinels that are read, and errors.errorType, start as the program's text lays them (the card ties them). -/
import Derived.Test.YtmjpdhpmjmgmaaaGreatDoorCards
import Derived.Test.YtmjpdhpmjmgmaaaGreatDoorTie
import Derived.SevenTiedAt
import Derived.LaidMore
import Derived.MakeChecks
import Derived.ChangeSame
import Derived.ChangeVars
import Derived.JoinedOf
import Derived.RowKit
import Derived.RowKitTokens
import Derived.LaidLaws
import Derived.LaidHandle
import Derived.Stop.Joined
import Derived.ProofKit
import Derived.OpenShut
import Derived.Below
import Derived.Carry
import Derived.Lay
import Derived.ChangeMaps5
import Derived.SizedLaws
import Derived.Test.YtmjpdhpmjmgmaaaGreatDoorBrokerWaitsV
import Derived.Test.YtmjpdhpmjmgmaaaGreatDoorBrokerWaitsW
import Derived.Test.YtmjpdhpmjmgmaaaGreatDoorBrokerWaits0
namespace Go.Proofs.YtmjpdhpmjmgmaaaGreatDoor.brokerWaits
open Go.ChangeShapes Go.WideShapes Go.ChangeAt Go.RowKit
set_option linter.unusedVariables false
set_option linter.unusedSimpArgs false
set_option maxHeartbeats 4000000
set_option maxRecDepth 100000
theorem over : Rows.BrokerWaitsSaid :=
  OpenClaim.holds_of_wide 3 Tryz.f3 rfl rfl rfl rfl rfl rfl rfl ⟨rfl, rfl, rfl, rfl, rfl⟩ rfl rfl rfl rfl rfl named Tryz.func3 facts
    (of_decide_eq_true (by kernel_rfl)) (by unfold Func.isWrapper; rw [if_neg (of_decide_eq_false (by kernel_rfl))]; exact ⟨rfl, rfl⟩)
    (fun os started H enc _ => lifted os started H enc)
theorem proved : Rows.BrokerWaitsCardSaid :=
  Claim7.holds_tied_plain_at .later [] [.data, .data, .data, .data, .handle, .sentinel, .sentinel, .pinned] true (true, "21880abb31a5f9ca8be833e4416f4b64fdb5a5d5e4b8f1a11d8768bc4e66a3e6") true
    over (fun _ h => by cases h) (by kernel_rfl) (fun _ h => by cases h) brokerWaits_row_tie rfl ⟨rfl, rfl⟩ (by kernel_rfl) rfl
    (fun f fn hf hfn => by
      obtain rfl : f = 3 := Option.some.inj ((show Tryz.prog.funcNamed "conveyor/conveyorkeep.BrokerWaits" = some 3 by kernel_rfl).symm.trans hf) |>.symm
      obtain rfl : fn = Tryz.f3 := (Option.some.inj (Tryz.func3.symm.trans hfn)).symm
      refine ⟨by kernel_rfl, fun j t ht => ?_⟩
      rw [Tryz.params3] at ht
      have hin : t ∈ ([22] : List Nat) := List.mem_of_getElem? (by simpa using ht)
      exact (List.all_eq_true.1 (show ([22] : List Nat).all (fun t => Tryz.prog.wantsStandIn t == false) = true by kernel_rfl) t hin) |> beq_iff_eq.1)
    (by kernel_rfl)
end Go.Proofs.YtmjpdhpmjmgmaaaGreatDoor.brokerWaits
namespace Go.Proofs.YtmjpdhpmjmgmaaaGreatDoor
theorem brokerWaits_holds : Rows.BrokerWaitsCardSaid := brokerWaits.proved
end Go.Proofs.YtmjpdhpmjmgmaaaGreatDoor
