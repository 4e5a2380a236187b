/- IsMatrix, InverseMatrix, NegateMatrix, TraceOf, FixedSign: the model's and the program's contracts, and the laws' walks. -/
import Derived.Test.YtaifgfmkkgndkaaMatL
import Derived.Test.YtaifgfmkkgndkaaAbs
namespace Go.Proofs.Ytaifgfmkkgndkaa
set_option linter.unusedVariables false
open Go.RowKit

/-- the sign of the square of the trace less 4 -/
def fxR (t : Int) : Int := if t < -2 ∨ 2 < t then 1 else if -2 < t ∧ t < 2 then -1 else 0
end Go.Proofs.Ytaifgfmkkgndkaa
