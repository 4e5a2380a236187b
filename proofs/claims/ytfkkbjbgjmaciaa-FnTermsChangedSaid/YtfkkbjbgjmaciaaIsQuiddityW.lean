/- The walks of the laws of TriangulationOf and IsQuiddity. -/
import Derived.Test.YtfkkbjbgjmaciaaTriOfS
import Derived.Test.YtfkkbjbgjmaciaaTriOfJ
namespace Go.Proofs.Ytfkkbjbgjmaciaa
set_option linter.unusedVariables false
open Go.RowKit

end Go.Proofs.Ytfkkbjbgjmaciaa
