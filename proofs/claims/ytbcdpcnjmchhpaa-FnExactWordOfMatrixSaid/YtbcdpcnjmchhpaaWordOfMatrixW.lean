/- The walk of WordOfMatrix's law. -/
import Derived.Test.YtbcdpcnjmchhpaaWomI
import Derived.Test.YtbcdpcnjmchhpaaWordOfMatrixC
namespace Go.Proofs.Ytbcdpcnjmchhpaa
set_option linter.unusedVariables false
open Go.RowKit

theorem WWordOfMatrix.walk (w : World) (a b c d : Int) : Calls Try.prog 12 #[.agg #[.int .i64 a, .int .i64 b, .int .i64 c, .int .i64 d]] w fun e w' => e = .returned (.bool true) ∧ Below w.heap.size w w' := by
  cases h : womB a b c d
  · exact WWordOfMatrix.core w a b c d (bsL (womR a b c d).1) (womR a b c d).2 (Lib.hid fun w => spec_WordOfMatrix_no a b c d w h) (Lib.hid fun w => impl_WordOfMatrix_no a b c d w h)
  · exact WWordOfMatrix.core w a b c d (bsL (womR a b c d).1) (womR a b c d).2 (Lib.hid fun w => spec_WordOfMatrix_yes a b c d w h) (Lib.hid fun w => impl_WordOfMatrix_yes a b c d w h)
end Go.Proofs.Ytbcdpcnjmchhpaa
