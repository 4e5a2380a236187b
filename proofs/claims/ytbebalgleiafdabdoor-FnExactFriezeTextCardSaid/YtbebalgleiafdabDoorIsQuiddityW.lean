/- The walks of the laws of TriangulationOf and IsQuiddity. -/
import Derived.Test.YtbebalgleiafdabDoorTriOfS
import Derived.Test.YtbebalgleiafdabDoorTriOfJ
namespace Go.Proofs.YtbebalgleiafdabDoor
set_option linter.unusedVariables false
open Go.RowKit

end Go.Proofs.YtbebalgleiafdabDoor
