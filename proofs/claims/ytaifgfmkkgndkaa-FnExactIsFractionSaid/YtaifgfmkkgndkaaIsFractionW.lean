/- IsFraction: the model's contract, and the law's walk. -/
import Derived.Test.YtaifgfmkkgndkaaIsFractionC
import Derived.Test.YtaifgfmkkgndkaaNbB
namespace Go.Proofs.Ytaifgfmkkgndkaa
set_option linter.unusedVariables false
open Go.RowKit

theorem spec_IsFraction (a b : Int) (w : World) : Calls Try.prog 15 #[.agg #[.int .i64 a, .int .i64 b]] w fun e w' => e = .returned (.bool (nbB a b)) ∧ Below w.heap.size w w' := by
  have H := Lib.hid (spec_nbGood a b)
  generalize nbB a b = r at *
  go_enter Try.func15, Try.ntmps15
  go_wp2_with fail
  refine (H.out _).mono ?_
  rintro e w1 ⟨rfl, hb⟩
  have HD := Lib.hid ((below_one w _).trans (hb.mono (by simp)))
  clear hb
  go_wp2
  go_ret
  exact ⟨rfl, HD.out⟩
theorem WIsFraction.walk (w : World) (a b : Int) : Calls Try.prog 3 #[.agg #[.int .i64 a, .int .i64 b]] w fun e w' => e = .returned (.bool true) ∧ Below w.heap.size w w' :=
  WIsFraction.core w a b _ (Lib.hid (spec_IsFraction a b)) (Lib.hid (impl_IsFraction a b))
end Go.Proofs.Ytaifgfmkkgndkaa
