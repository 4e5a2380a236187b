/- AllClasses: the law's walk. -/
import Derived.Test.YtbpaaoeefcebeabClsT
import Derived.Test.YtbpaaoeefcebeabAllClassesC
namespace Go.Proofs.Ytbpaaoeefcebeab
set_option linter.unusedVariables false
open Go.RowKit
theorem WAllClasses.walk (w : World) (n : Int) (wn : (Lit.int .i64 n).wf = true) :
    Calls Try.prog 9 #[.int .i64 n] w fun e w' => e = .returned (.bool true) ∧ Below w.heap.size w w' :=
  WAllClasses.core w n (acR n) (inB n 3 8) (by have := acR_len n; omega) (fun j hj => by have := acR_row n j hj; omega) (acR_pre n) (Lib.hid fun w => spec_AllClasses n w) (Lib.hid fun w => impl_AllClasses n w)
end Go.Proofs.Ytbpaaoeefcebeab
