/- record.Check. -/
import Derived.Test.YtodadoaindfecaaDoorBatA
import Derived.Test.YtodadoaindfecaaDoorErr
namespace Go.Proofs.YtodadoaindfecaaDoor
open Go.RowKit Go.Maps
set_option maxRecDepth 100000
set_option linter.unusedSimpArgs false
set_option linter.unusedVariables false

/-- How the check of records goes on behind some that were right. -/
theorem recsErr_step {rs : List Bt.Rec} {k : Nat} (hk : k < rs.length) (lo hi : Int) : Bt.recsErr (rs.drop k) lo hi = if Bt.recErr rs[k] lo hi = 0 then Bt.recsErr (rs.drop (k + 1)) (rs[k].off + 1) hi else Bt.recErr rs[k] lo hi := by
  rw [List.drop_eq_getElem_cons hk]
  rfl

end Go.Proofs.YtodadoaindfecaaDoor
