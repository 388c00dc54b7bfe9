/- An error's value. No program. -/
import Derived.Test.YtlcgcckllecjpaaRows
namespace Go.Proofs.Ytlcgcckllecjpaa.As
def errN (n : Int) : Value := if n = 0 then .nilIface else .iface 54 (.int .i64 n)
end Go.Proofs.Ytlcgcckllecjpaa.As
