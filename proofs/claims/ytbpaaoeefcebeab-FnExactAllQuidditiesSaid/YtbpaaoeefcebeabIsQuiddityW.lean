/- The walks of the laws of TriangulationOf and IsQuiddity. -/
import Derived.Test.YtbpaaoeefcebeabTriOfS
import Derived.Test.YtbpaaoeefcebeabTriOfJ
namespace Go.Proofs.Ytbpaaoeefcebeab
set_option linter.unusedVariables false
open Go.RowKit

end Go.Proofs.Ytbpaaoeefcebeab
