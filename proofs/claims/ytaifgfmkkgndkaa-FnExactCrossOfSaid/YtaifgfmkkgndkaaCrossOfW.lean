/- CrossOf: the law's walk. -/
import Derived.Test.YtaifgfmkkgndkaaCrossOfC
import Derived.Test.YtaifgfmkkgndkaaNearW
namespace Go.Proofs.Ytaifgfmkkgndkaa
set_option linter.unusedVariables false
open Go.RowKit
theorem WCrossOf.walk (w : World) (a b c d : Int) : Calls Try.prog 4 #[.agg #[.int .i64 a, .int .i64 b], .agg #[.int .i64 c, .int .i64 d]] w fun e w' => e = .returned (.bool true) ∧ Below w.heap.size w w' :=
  WCrossOf.core w a b c d _ _ (Lib.hid (spec_CrossOf a b c d)) (Lib.hid (impl_CrossOf a b c d))
end Go.Proofs.Ytaifgfmkkgndkaa
