/- The walks of the laws of TriangulationOf and IsQuiddity. -/
import Derived.Test.YtjpcmkginfbkbaaTriOfS
import Derived.Test.YtjpcmkginfbkbaaTriOfJ
import Derived.Test.YtjpcmkginfbkbaaTriangulationOfC
import Derived.Test.YtjpcmkginfbkbaaIsQuiddityC
namespace Go.Proofs.Ytjpcmkginfbkbaa
set_option linter.unusedVariables false
open Go.RowKit

theorem WTriangulationOf.walk (w : World) (A : Option Addr) (c : Nat) (l : List Int) (h : SlI w w.heap.size A l)
    (hj : l.length ≤ c ∧ c ≤ maxLen ∧ ∀ x ∈ l, (Lit.int .i64 x).wf = true) :
    Calls Try.prog 3 #[.slice A l.length c] w fun e w' => e = .returned (.bool true) ∧ Below w.heap.size w w' :=
  WTriangulationOf.core w A c l h hj.1 hj.2.1 (triOf l).1 (triOf l).2 (triOf_length l)
    (Lib.hid fun A c w h hl hlc => spec_TriangulationOf A c _ l w h (Nat.le_refl _) hl hlc)
    (Lib.hid fun A c w h hl hlc => impl_TriangulationOf A c _ l w h (Nat.le_refl _) hl hlc)
theorem WIsQuiddity.walk (w : World) (A : Option Addr) (c : Nat) (l : List Int) (h : SlI w w.heap.size A l)
    (hj : l.length ≤ c ∧ c ≤ maxLen ∧ ∀ x ∈ l, (Lit.int .i64 x).wf = true) :
    Calls Try.prog 4 #[.slice A l.length c] w fun e w' => e = .returned (.bool true) ∧ Below w.heap.size w w' :=
  WIsQuiddity.core w A c l h hj.1 hj.2.1 (isQ l)
    (Lib.hid fun A c w h hl hlc => spec_IsQuiddity A c _ l w h (Nat.le_refl _) hl hlc)
    (Lib.hid fun A c w h hl hlc => impl_IsQuiddity A c _ l w h (Nat.le_refl _) hl hlc)
end Go.Proofs.Ytjpcmkginfbkbaa
