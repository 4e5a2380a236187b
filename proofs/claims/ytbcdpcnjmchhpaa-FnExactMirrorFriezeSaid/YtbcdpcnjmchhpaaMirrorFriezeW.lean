/- The walk of MirrorFrieze's law. -/
import Derived.Test.YtbcdpcnjmchhpaaMirI
import Derived.Test.YtbcdpcnjmchhpaaMirrorFriezeC
namespace Go.Proofs.Ytbcdpcnjmchhpaa
set_option linter.unusedVariables false
open Go.RowKit

theorem WMirrorFrieze.walk (w : World) (A : Option Addr) (c : Nat) (Ls : List (List Int)) (h : SlSS w w.heap.size A Ls) (hj : Ls.length ≤ c ∧ c ≤ maxLen ∧ ∀ j, j < Ls.length → (rowOf Ls j).length ≤ maxLen) :
    Calls Try.prog 14 #[.slice A Ls.length c] w fun e w' => e = .returned (.bool true) ∧ Below w.heap.size w w' :=
  WMirrorFrieze.core w A c Ls.length Ls rfl h hj.1 hj.2.1 hj.2.2 (frL (friQ Ls).reverse) (okF (friQ Ls).reverse) (by have := frL_length (friQ Ls).reverse; omega) (fun j hj => by have := frL_row _ j hj; omega) (frL_pre _)
    (Lib.hid fun A c w h hc hl hr => spec_MirrorFrieze A c _ _ Ls w rfl h hc (Nat.le_refl _) hl hr)
    (Lib.hid fun A c w h _ hl hr => impl_MirrorFrieze A c _ _ Ls w rfl h (Nat.le_refl _) hl hr)
end Go.Proofs.Ytbcdpcnjmchhpaa
