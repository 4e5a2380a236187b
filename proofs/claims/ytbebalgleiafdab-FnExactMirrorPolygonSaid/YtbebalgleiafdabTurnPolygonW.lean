/- TurnPolygon: the model's and the program's contract, and the law's walk. -/
import Derived.Test.YtbebalgleiafdabTurnS
import Derived.Test.YtbebalgleiafdabMove
import Derived.Test.YtbebalgleiafdabTriS
import Derived.Test.YtbebalgleiafdabLawM
import Derived.OpenShut
namespace Go.Proofs.Ytbebalgleiafdab
set_option linter.unusedVariables false
open Go.RowKit

theorem spec_l1In (n lo hi : Int) (w : World) : Calls Try.prog 59 #[.int .i64 n, .int .i64 lo, .int .i64 hi] w fun e w' => e = .returned (.bool (inB n lo hi)) ∧ w = w' := by
  go_enter Try.func59, Try.ntmps59
  go_wp2
  all_goals go_ret
  all_goals refine ⟨ret_bool ?_, rfl⟩
  all_goals (unfold inB; rw [Bool.eq_iff_iff]; simp; try omega)

theorem turnL_no {n k : Int} {l : List (Int × Int)} (h : (triB n l && inB k 0 (n - 1)) = false) : turnL n l k = [] := by simp [turnL, h]
theorem turnL_yes {n k : Int} {l : List (Int × Int)} (h : (triB n l && inB k 0 (n - 1)) = true) : turnL n l k = sortD (mvL (turnF n k) l) := by simp [turnL, h]
theorem retD_nil {w w' : World} (hb : Below w.heap.size w w') : RetD w [] false (.returned (.tuple #[.slice none 0 0, .bool false])) w' := ⟨none, 0, rfl, World.ownsRow_nil _ _ _ _, hb⟩
theorem inB_iff {n lo hi : Int} : inB n lo hi = true ↔ lo ≤ n ∧ n ≤ hi := by unfold inB; simp

end Go.Proofs.Ytbebalgleiafdab
