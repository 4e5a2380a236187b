/- MediantOf: the law's walk. -/
import Derived.Test.YtaifgfmkkgndkaaMediantOfC
import Derived.Test.YtaifgfmkkgndkaaMedW
namespace Go.Proofs.Ytaifgfmkkgndkaa
set_option linter.unusedVariables false
open Go.RowKit
theorem WMediantOf.walk (w : World) (a b c d : Int) : Calls Try.prog 6 #[.agg #[.int .i64 a, .int .i64 b], .agg #[.int .i64 c, .int .i64 d]] w fun e w' => e = .returned (.bool true) ∧ Below w.heap.size w w' :=
  WMediantOf.core w a b c d _ _ _ (Lib.hid (spec_MediantOf a b c d)) (Lib.hid (impl_MediantOf a b c d))
end Go.Proofs.Ytaifgfmkkgndkaa
