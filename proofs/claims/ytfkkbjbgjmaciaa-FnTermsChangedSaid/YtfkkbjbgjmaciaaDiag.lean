/- Contracts of the functions of chapter 1 that only compute with numbers: corners, diagonals, crossings; no conditions. -/
import Derived.Test.YtfkkbjbgjmaciaaRows
import Derived.Test.YtfkkbjbgjmaciaaMem
import Derived.Test.YtfkkbjbgjmaciaaRows
import Derived.WalkKit
import Derived.Outline
import Derived.WalkLawsBesides
namespace Go.Proofs.Ytfkkbjbgjmaciaa
set_option linter.unusedVariables false
open Go.RowKit

theorem ret_bool {a b : Bool} (h : a = b) : Ending.returned (.bool a) = .returned (.bool b) := by rw [h]
theorem ret_int {k : IntKind} {a b : Int} (h : a = b) : Ending.returned (.int k a) = .returned (.int k b) := by rw [h]

/-- a number of corners -/
def poB (n : Int) : Bool := decide (3 ≤ n ∧ n ≤ 12)
/-- within bounds -/
def inB (n lo hi : Int) : Bool := decide (lo ≤ n ∧ n ≤ hi)
/-- a diagonal of a polygon of n corners -/
def dgB (n lo hi : Int) : Bool := decide (3 ≤ n ∧ n ≤ 12 ∧ 0 ≤ lo ∧ hi < n ∧ 2 ≤ hi - lo ∧ hi - lo ≤ n - 2)
/-- two diagonals that cross -/
def crB (a b c d : Int) : Bool := decide ((a < c ∧ c < b ∧ b < d) ∨ (c < a ∧ a < d ∧ d < b))
/-- one diagonal comes before another one -/
def ltB (a b c d : Int) : Bool := decide (a < c ∨ (a = c ∧ b < d))

theorem dgB_iff {n lo hi : Int} : dgB n lo hi = true ↔ (3 ≤ n ∧ n ≤ 12 ∧ 0 ≤ lo ∧ hi < n ∧ 2 ≤ hi - lo ∧ hi - lo ≤ n - 2) := by unfold dgB; simp


theorem impl_isPolygon (n : Int) (b : Bool) (w : World) (h : poB n = b) :
    Calls Try.prog 206 #[.int .i64 n] w fun e w' => e = .returned (.bool b) ∧ w = w' := by
  subst h
  go_enter Try.func206, Try.ntmps206
  go_wp2
  all_goals go_ret
  all_goals refine ⟨ret_bool ?_, rfl⟩
  all_goals (unfold poB; rw [Bool.eq_iff_iff]; simp; try omega)






end Go.Proofs.Ytfkkbjbgjmaciaa
