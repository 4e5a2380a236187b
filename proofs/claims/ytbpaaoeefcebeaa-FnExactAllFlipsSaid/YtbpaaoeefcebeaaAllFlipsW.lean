/- The walk of AllFlips' law. -/
import Derived.Test.YtbpaaoeefcebeaaAllT
import Derived.Test.YtbpaaoeefcebeaaAllFlipsC
namespace Go.Proofs.Ytbpaaoeefcebeaa
set_option linter.unusedVariables false
open Go.RowKit

theorem WAllFlips.walk (w : World) (n : Int) (wn : (Lit.int .i64 n).wf = true) (A : Option Addr) (c : Nat) (l : List (Int × Int)) (h : SlD w w.heap.size A l)
    (hj : l.length ≤ c ∧ c ≤ maxLen ∧ ∀ x ∈ l, (Lit.int .i64 x.1).wf = true ∧ (Lit.int .i64 x.2).wf = true) :
    Calls Try.prog 8 #[.int .i64 n, .slice A l.length c] w fun e w' => e = .returned (.bool true) ∧ Below w.heap.size w w' :=
  WAllFlips.core w n A c l h hj.1 hj.2.1 (afL n l) (triB n l) (Nat.le_trans (afL_len n l) (by omega)) (fun j hj => Nat.le_trans (afL_row n l j hj) (by omega)) (afL_pre n l)
    (Lib.hid fun A c w h hl hlc => spec_AllFlips n A c _ l w h (Nat.le_refl _) hl hlc)
    (Lib.hid fun A c w h hl hlc => impl_AllFlips n A c _ l w h (Nat.le_refl _) hl hlc)
end Go.Proofs.Ytbpaaoeefcebeaa
