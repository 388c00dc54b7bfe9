/- An error's value. No program. -/
import Derived.Test.YtlcgcckllecjpaaDoorRows
namespace Go.Proofs.YtlcgcckllecjpaaDoor.As
def errN (n : Int) : Value := if n = 0 then .nilIface else .iface 29 (.int .i64 n)
end Go.Proofs.YtlcgcckllecjpaaDoor.As
