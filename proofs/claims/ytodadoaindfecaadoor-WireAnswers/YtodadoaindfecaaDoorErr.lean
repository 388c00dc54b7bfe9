/- An error's value. No program. -/
import Derived.Test.YtodadoaindfecaaDoorProg
namespace Go.Proofs.YtodadoaindfecaaDoor.As
def errN (n : Int) : Value := if n = 0 then .nilIface else .iface 34 (.int .i64 n)
end Go.Proofs.YtodadoaindfecaaDoor.As
