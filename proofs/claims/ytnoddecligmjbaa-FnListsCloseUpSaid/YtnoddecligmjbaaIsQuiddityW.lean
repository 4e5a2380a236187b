/- The walks of the laws of TriangulationOf and IsQuiddity. -/
import Derived.Test.YtnoddecligmjbaaTriOfS
import Derived.Test.YtnoddecligmjbaaTriOfJ
namespace Go.Proofs.Ytnoddecligmjbaa
set_option linter.unusedVariables false
open Go.RowKit

end Go.Proofs.Ytnoddecligmjbaa
