/- The model's fractions; the program's test of divisions by 0, least numbers. -/
import Derived.Test.YtaifgfmkkgndkaaContI
import Derived.Test.YtaifgfmkkgndkaaFracM
namespace Go.Proofs.Ytaifgfmkkgndkaa
set_option linter.unusedVariables false
open Go.RowKit

/-- three results -/
def FrEnd (r : Int × Int × Bool) (w : World) (e : Ending) (w' : World) : Prop := e = .returned (.tuple #[.int .i64 r.1, .int .i64 r.2.1, .bool r.2.2]) ∧ Below w.heap.size w w'
theorem frEnd_mk {r : Int × Int × Bool} {a b : Int} {c : Bool} {w w' : World} (h : r = (a, b, c)) (hb : Below w.heap.size w w') : FrEnd r w (.returned (.tuple #[.int .i64 a, .int .i64 b, .bool c])) w' := by
  subst h
  exact ⟨rfl, hb⟩

end Go.Proofs.Ytaifgfmkkgndkaa
