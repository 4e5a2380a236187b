/- The model's poMap, poTurn, poMirror. -/
import Derived.Test.YtfkkbjbgjmaciaaTurnM
import Derived.Test.YtfkkbjbgjmaciaaSortS
import Derived.Test.YtfkkbjbgjmaciaaApp
namespace Go.Proofs.Ytfkkbjbgjmaciaa
set_option linter.unusedVariables false
open Go.RowKit

theorem spec_l1Least (a b : Int) (w : World) : Calls Try.prog 111 #[.int .i64 a, .int .i64 b] w fun e w' => e = .returned (.int .i64 (min a b)) ∧ w = w' := by
  by_cases h : a < b
  · have e : min a b = a := by omega
    rw [e]
    clear e
    go_enter Try.func111, Try.ntmps111
    go_wp2
    go_ret
    exact ⟨rfl, rfl⟩
  · have e : min a b = b := by omega
    rw [e]
    clear e
    go_enter Try.func111, Try.ntmps111
    go_wp2
    go_ret
    exact ⟨rfl, rfl⟩
theorem spec_l1Most (a b : Int) (w : World) : Calls Try.prog 179 #[.int .i64 a, .int .i64 b] w fun e w' => e = .returned (.int .i64 (max a b)) ∧ w = w' := by
  by_cases h : b < a
  · have e : max a b = a := by omega
    rw [e]
    clear e
    go_enter Try.func179, Try.ntmps179
    go_wp2
    go_ret
    exact ⟨rfl, rfl⟩
  · have e : max a b = b := by omega
    rw [e]
    clear e
    go_enter Try.func179, Try.ntmps179
    go_wp2
    go_ret
    exact ⟨rfl, rfl⟩

theorem spec_poSorted_n (A : Option Addr) (n c B : Nat) (l : List (Int × Int)) (w : World) (hn : l.length = n) (h : SlD w B A l) (hB : B ≤ w.heap.size) (hl : n ≤ 1000) :
    Calls Try.prog 186 #[.slice A n c] w (GivD w (sortD l)) := by
  subst hn
  exact spec_poSorted A c B l w h hB hl

end Go.Proofs.Ytfkkbjbgjmaciaa
