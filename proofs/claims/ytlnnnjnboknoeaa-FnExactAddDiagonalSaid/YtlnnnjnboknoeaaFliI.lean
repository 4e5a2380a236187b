/- The program's search for a diagonal in a list, its sides of triangles, the other diagonal of a quadrilateral. -/
import Derived.Test.YtlnnnjnboknoeaaFlipM
import Derived.Test.YtlnnnjnboknoeaaMove
import Derived.Test.YtlnnnjnboknoeaaLawM
import Derived.Deep.QuietTactic
import Derived.BigQuiet
namespace Go.Proofs.Ytlnnnjnboknoeaa
set_option linter.unusedVariables false
open Go.RowKit

/-- where a diagonal first stands in a list; -1: nowhere -/
def IdxD (l : List (Int × Int)) (d : Int × Int) (r : Int) : Prop := (∃ k : Nat, k < l.length ∧ r = (k : Int) ∧ l.getD k (0, 0) = d ∧ ∀ j, j < k → l.getD j (0, 0) ≠ d) ∨ (r = -1 ∧ d ∉ l)
theorem idx_none {l : List (Int × Int)} {d : Int × Int} (h : ∀ j, j < l.length → l.getD j (0, 0) ≠ d) : d ∉ l := fun hm => by
  obtain ⟨i, hi, rfl⟩ := List.getElem_of_mem hm
  exact h i hi (getD_at hi)
def IdxEnd (l : List (Int × Int)) (d : Int × Int) (w : World) (e : Ending) (w' : World) : Prop := ∃ r, e = .returned (.int .i64 r) ∧ IdxD l d r ∧ Below w.heap.size w w'

end Go.Proofs.Ytlnnnjnboknoeaa
