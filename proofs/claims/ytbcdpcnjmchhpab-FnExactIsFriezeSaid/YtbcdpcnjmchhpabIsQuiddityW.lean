/- The walks of the laws of TriangulationOf and IsQuiddity. -/
import Derived.Test.YtbcdpcnjmchhpabTriOfS
import Derived.Test.YtbcdpcnjmchhpabTriOfJ
namespace Go.Proofs.Ytbcdpcnjmchhpab
set_option linter.unusedVariables false
open Go.RowKit

end Go.Proofs.Ytbcdpcnjmchhpab
