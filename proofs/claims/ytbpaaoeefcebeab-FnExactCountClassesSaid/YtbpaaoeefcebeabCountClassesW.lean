/- CountClasses: the law's walk. -/
import Derived.Test.YtbpaaoeefcebeabClsT
import Derived.Test.YtbpaaoeefcebeabCountClassesC
namespace Go.Proofs.Ytbpaaoeefcebeab
set_option linter.unusedVariables false
open Go.RowKit
theorem WCountClasses.walk (w : World) (n : Int) (wn : (Lit.int .i64 n).wf = true) :
    Calls Try.prog 8 #[.int .i64 n] w fun e w' => e = .returned (.bool true) ∧ Below w.heap.size w w' :=
  WCountClasses.core w n (acN n) (inB n 3 8) (Lib.hid fun w => spec_CountClasses n w) (Lib.hid fun w => impl_CountClasses n w)
end Go.Proofs.Ytbpaaoeefcebeab
