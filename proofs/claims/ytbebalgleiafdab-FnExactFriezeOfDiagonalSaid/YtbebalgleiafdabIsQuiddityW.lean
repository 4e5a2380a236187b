/- The walks of the laws of TriangulationOf and IsQuiddity. -/
import Derived.Test.YtbebalgleiafdabTriOfS
import Derived.Test.YtbebalgleiafdabTriOfJ
namespace Go.Proofs.Ytbebalgleiafdab
set_option linter.unusedVariables false
open Go.RowKit

end Go.Proofs.Ytbebalgleiafdab
