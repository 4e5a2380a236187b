/- The walk of IsFrieze's law. -/
import Derived.Test.YtbcdpcnjmchhpabQofI
import Derived.Test.YtbcdpcnjmchhpabIsFriezeC
namespace Go.Proofs.Ytbcdpcnjmchhpab
set_option linter.unusedVariables false
open Go.RowKit

theorem WIsFrieze.walk (w : World) (A : Option Addr) (c : Nat) (Ls : List (List Int)) (h : SlSS w w.heap.size A Ls) (hj : Ls.length ≤ c ∧ c ≤ maxLen ∧ ∀ j, j < Ls.length → (rowOf Ls j).length ≤ maxLen) :
    Calls Try.prog 9 #[.slice A Ls.length c] w fun e w' => e = .returned (.bool true) ∧ Below w.heap.size w w' :=
  WIsFrieze.core w A c Ls.length Ls rfl h hj.1 hj.2.1 hj.2.2 (friB Ls)
    (Lib.hid fun A c w h hc hl hr => spec_IsFrieze A c _ _ Ls w rfl h hc (Nat.le_refl _) hl hr)
    (Lib.hid fun A c w h _ hl hr => impl_IsFrieze A c _ _ Ls w rfl h (Nat.le_refl _) hl hr)
end Go.Proofs.Ytbcdpcnjmchhpab
