/- The walks of the laws of TriangulationOf and IsQuiddity. -/
import Derived.Test.YtbebalgleiafdaaTriOfS
import Derived.Test.YtbebalgleiafdaaTriOfJ
namespace Go.Proofs.Ytbebalgleiafdaa
set_option linter.unusedVariables false
open Go.RowKit

end Go.Proofs.Ytbebalgleiafdaa
