/- The walks of the laws of TriangulationOf and IsQuiddity. -/
import Derived.Test.YtdkjkdglilamgaaTriOfS
import Derived.Test.YtdkjkdglilamgaaTriOfJ
namespace Go.Proofs.Ytdkjkdglilamgaa
set_option linter.unusedVariables false
open Go.RowKit

end Go.Proofs.Ytdkjkdglilamgaa
