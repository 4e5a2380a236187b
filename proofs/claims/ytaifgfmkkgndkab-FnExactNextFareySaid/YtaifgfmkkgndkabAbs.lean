/- The model's size of a number. -/
import Derived.Test.YtaifgfmkkgndkabDiag
namespace Go.Proofs.Ytaifgfmkkgndkab
set_option linter.unusedVariables false
open Go.RowKit

theorem spec_l1MostA (a b : Int) (w : World) : Calls Try.prog 105 #[.int .i64 a, .int .i64 b] w fun e w' => e = .returned (.int .i64 (if b < a then a else b)) ∧ w = w' := by
  go_enter Try.func105, Try.ntmps105
  go_wp2
  all_goals go_ret
  all_goals refine ⟨ret_int ?_, rfl⟩
  all_goals (repeat' split) <;> omega
theorem spec_l1Abs (n : Int) (w : World) (h : -9000000000000000000 ≤ n) (h2 : n ≤ 9000000000000000000) : Calls Try.prog 90 #[.int .i64 n] w fun e w' => e = .returned (.int .i64 (if n < 0 then -n else n)) ∧ w = w' := by
  obtain ⟨v, hv⟩ : ∃ v, v = (if n < 0 then -n else n) := ⟨_, rfl⟩
  rw [← hv]
  have e1 := Lib.hid (show (if -n < n then n else -n) = v by rw [hv]; (repeat' split) <;> omega)
  clear hv
  go_enter Try.func90, Try.ntmps90
  go_wp2_with fail
  refine (spec_l1MostA n (-n) _).mono ?_
  rintro e w1 ⟨rfl, rfl⟩
  rw [e1.out]
  go_wp2
  go_ret
  exact ⟨rfl, rfl⟩
end Go.Proofs.Ytaifgfmkkgndkab
