/- The laws' own helpers over fractions and lists of them: copied, compared, marked, held, sized; how results of that kind are told. -/
import Derived.Test.YtbebalgleiafdabDoorLawM
import Derived.Test.YtbebalgleiafdabDoorNbB
import Derived.Test.YtbebalgleiafdabDoorMatF
namespace Go.Proofs.YtbebalgleiafdabDoor
set_option linter.unusedVariables false
open Go.RowKit










end Go.Proofs.YtbebalgleiafdabDoor
