/- The walk of CountGaps' law. -/
import Derived.Test.YtnoddecligmjbaaPzC
import Derived.Test.YtnoddecligmjbaaCountGapsC
namespace Go.Proofs.Ytnoddecligmjbaa
set_option linter.unusedVariables false
open Go.RowKit

theorem WCountGaps.walk (w : World) (A : Option Addr) (c : Nat) (l : List Int) (h : SlI w w.heap.size A l)
    (hj : l.length ≤ c ∧ c ≤ maxLen ∧ ∀ x ∈ l, (Lit.int .i64 x).wf = true) :
    Calls Try.prog 4 #[.agg #[.slice A l.length c]] w fun e w' => e = .returned (.bool true) ∧ Below w.heap.size w w' :=
  WCountGaps.core w A c l h hj.1 hj.2.1 (gapR l) (pzB l)
    (Lib.hid fun A c w h hl hlc => spec_CountGaps A c _ l w h (Nat.le_refl _) hl)
    (Lib.hid fun A c w h hl hlc => impl_CountGaps A c _ l w h (Nat.le_refl _) hl)
end Go.Proofs.Ytnoddecligmjbaa
