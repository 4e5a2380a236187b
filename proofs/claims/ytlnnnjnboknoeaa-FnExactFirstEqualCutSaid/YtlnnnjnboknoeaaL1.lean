/- Contracts of the model's small helpers over lists of numbers. -/
import Derived.Test.YtlnnnjnboknoeaaAppI
import Derived.Test.YtlnnnjnboknoeaaOfM
namespace Go.Proofs.Ytlnnnjnboknoeaa
set_option linter.unusedVariables false
open Go.RowKit

theorem spec_l1In' (n lo hi : Int) (w : World) : Calls Try.prog 78 #[.int .i64 n, .int .i64 lo, .int .i64 hi] w fun e w' => e = .returned (.bool (inB n lo hi)) ∧ w = w' := by
  go_enter Try.func78, Try.ntmps78
  go_wp2
  all_goals go_ret
  all_goals refine ⟨ret_bool ?_, rfl⟩
  all_goals (unfold inB; rw [Bool.eq_iff_iff]; simp; try omega)


theorem allB_take (l : List Int) (lo hi : Int) (k : Nat) (h : k < l.length) : allB (l.take (k + 1)) lo hi = (allB (l.take k) lo hi && decide (lo ≤ l.getD k 0 ∧ l.getD k 0 ≤ hi)) := by
  unfold allB
  rw [List.take_succ_eq_append_getElem h, List.all_append]
  simp [h]
theorem allB_bad (l : List Int) (lo hi : Int) (k : Nat) (h : k < l.length) (hx : inB (l.getD k 0) lo hi = false) : allB l lo hi = false := by
  cases hc : allB l lo hi
  · rfl
  · have := allB_iff.1 hc k h
    unfold inB at hx
    rw [decide_eq_false_iff_not] at hx
    exact absurd this hx

end Go.Proofs.Ytlnnnjnboknoeaa
