/- The walks of the laws of TriangulationOf and IsQuiddity. -/
import Derived.Test.YtbcdpcnjmchhpaaTriOfS
import Derived.Test.YtbcdpcnjmchhpaaTriOfJ
namespace Go.Proofs.Ytbcdpcnjmchhpaa
set_option linter.unusedVariables false
open Go.RowKit

end Go.Proofs.Ytbcdpcnjmchhpaa
