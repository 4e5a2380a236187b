/- The laws' own helpers over fractions and lists of them: copied, compared, marked, held, sized; how results of that kind are told. -/
import Derived.Test.YtaifgfmkkgndkabDoorLawM
import Derived.Test.YtaifgfmkkgndkabDoorNbB
import Derived.Test.YtaifgfmkkgndkabDoorMatF
namespace Go.Proofs.YtaifgfmkkgndkabDoor
set_option linter.unusedVariables false
open Go.RowKit

theorem infoF : (Tryd.prog.info? 26).map (fun i => (i.zero, i.size, i.bytes)) = some (some (.agg #[.int .i64 0, .int .i64 0]), 2, 16) := by kernel_rfl






def RetF (w : World) (L : List (Int × Int)) (ok : Bool) (e : Ending) (w' : World) : Prop :=
  ∃ A c, e = .returned (.tuple #[.slice A L.length c, .bool ok]) ∧ w'.ownsRow w.heap.size 26 2 (.slice A L.length c) L.length (dcs L) ∧ Below w.heap.size w w'

def GivF (w : World) (L : List (Int × Int)) (e : Ending) (w' : World) : Prop :=
  ∃ A c, e = .returned (.slice A L.length c) ∧ w'.ownsRow w.heap.size 26 2 (.slice A L.length c) L.length (dcs L) ∧ Below w.heap.size w w'


end Go.Proofs.YtaifgfmkkgndkabDoor
