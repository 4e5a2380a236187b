/- The program's continuants: functions that call themselves. -/
import Derived.Test.YtaifgfmkkgndkaaContS
import Derived.Deep.QuietTactic
import Derived.BigQuiet
namespace Go.Proofs.Ytaifgfmkkgndkaa
set_option linter.unusedVariables false
open Go.RowKit

/-- a number is given back; the world has only drawn -/
def NumQ (v : Int) (w : World) (e : Ending) (w' : World) : Prop := e = .returned (.int .i64 v) ∧ ∃ k, w' = w.drewN k

end Go.Proofs.Ytaifgfmkkgndkaa
