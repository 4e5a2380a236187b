/- The walks of the laws of TriangulationOf and IsQuiddity. -/
import Derived.Test.YtfffnkbjhbaceabTriOfS
import Derived.Test.YtfffnkbjhbaceabTriOfJ
namespace Go.Proofs.Ytfffnkbjhbaceab
set_option linter.unusedVariables false
open Go.RowKit

end Go.Proofs.Ytfffnkbjhbaceab
