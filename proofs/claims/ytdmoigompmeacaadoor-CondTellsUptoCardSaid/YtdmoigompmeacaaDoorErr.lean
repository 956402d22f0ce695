/- An error of the program's, of its number. -/
import Derived.Test.YtdmoigompmeacaaDoorBase
namespace Go.Proofs.YtdmoigompmeacaaDoor.Vals
set_option linter.unusedVariables false
/-- an error of the program's, of its number -/
def errOf (f : Int) : Value := if f = 0 then .nilIface else .iface 25 (.int .i64 f)
theorem errOf_ok : errOf 0 = .nilIface := rfl
theorem errOf_no {f : Int} (h : ¬ f = 0) : errOf f = .iface 25 (.int .i64 f) := if_neg h
end Go.Proofs.YtdmoigompmeacaaDoor.Vals
