/- What laws of fractions share: the law's own copy. -/
import Derived.Test.YtbebalgleiafdabDoorLawD
namespace Go.Proofs.YtbebalgleiafdabDoor
set_option linter.unusedVariables false
open Go.RowKit
end Go.Proofs.YtbebalgleiafdabDoor
