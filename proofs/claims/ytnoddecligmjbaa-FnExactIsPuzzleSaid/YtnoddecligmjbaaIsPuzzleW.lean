/- The walk of IsPuzzle's law. -/
import Derived.Test.YtnoddecligmjbaaPzB
import Derived.Test.YtnoddecligmjbaaIsPuzzleC
namespace Go.Proofs.Ytnoddecligmjbaa
set_option linter.unusedVariables false
open Go.RowKit

theorem WIsPuzzle.walk (w : World) (A : Option Addr) (c : Nat) (l : List Int) (h : SlI w w.heap.size A l)
    (hj : l.length ≤ c ∧ c ≤ maxLen ∧ ∀ x ∈ l, (Lit.int .i64 x).wf = true) :
    Calls Try.prog 3 #[.agg #[.slice A l.length c]] w fun e w' => e = .returned (.bool true) ∧ Below w.heap.size w w' :=
  WIsPuzzle.core w A c l h hj.1 hj.2.1 (pzB l)
    (Lib.hid fun A c w h hl hlc => spec_IsPuzzle A _ c _ l w rfl h (Nat.le_refl _) hl)
    (Lib.hid fun A c w h hl hlc => impl_IsPuzzle A _ c _ l w rfl h (Nat.le_refl _) hl)
end Go.Proofs.Ytnoddecligmjbaa
