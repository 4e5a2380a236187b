/- The walks of the laws of TriangulationOf and IsQuiddity. -/
import Derived.Test.YtaifgfmkkgndkabTriOfS
import Derived.Test.YtaifgfmkkgndkabTriOfJ
namespace Go.Proofs.Ytaifgfmkkgndkab
set_option linter.unusedVariables false
open Go.RowKit

end Go.Proofs.Ytaifgfmkkgndkab
