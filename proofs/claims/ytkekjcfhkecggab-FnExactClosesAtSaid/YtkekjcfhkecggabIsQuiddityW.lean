/- The walks of the laws of TriangulationOf and IsQuiddity. -/
import Derived.Test.YtkekjcfhkecggabTriOfS
import Derived.Test.YtkekjcfhkecggabTriOfJ
namespace Go.Proofs.Ytkekjcfhkecggab
set_option linter.unusedVariables false
open Go.RowKit

end Go.Proofs.Ytkekjcfhkecggab
