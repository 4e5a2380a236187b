/- PathOfFraction: the law's walk. -/
import Derived.Test.YtaifgfmkkgndkaaPathOfFractionC
import Derived.Test.YtaifgfmkkgndkaaPthI
namespace Go.Proofs.Ytaifgfmkkgndkaa
set_option linter.unusedVariables false
open Go.RowKit
theorem WPathOfFraction.walk (w : World) (a b : Int) : Calls Try.prog 11 #[.agg #[.int .i64 a, .int .i64 b]] w fun e w' => e = .returned (.bool true) ∧ Below w.heap.size w w' :=
  WPathOfFraction.core w a b _ _ (Lib.hid (spec_PathOfFraction a b)) (Lib.hid (impl_PathOfFraction a b))
end Go.Proofs.Ytaifgfmkkgndkaa
