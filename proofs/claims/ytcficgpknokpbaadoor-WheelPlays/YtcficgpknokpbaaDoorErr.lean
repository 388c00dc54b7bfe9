/- An error's value. No program. -/
import Derived.Test.YtcficgpknokpbaaDoorProg
namespace Go.Proofs.YtcficgpknokpbaaDoor.As
def errN (n : Int) : Value := if n = 0 then .nilIface else .iface 34 (.int .i64 n)
end Go.Proofs.YtcficgpknokpbaaDoor.As
