/- The walk of FlipsToFan's law. -/
import Derived.Test.YtbpaaoeefcebeaaFtfU
import Derived.Test.YtbpaaoeefcebeaaFlipsToFanC
namespace Go.Proofs.Ytbpaaoeefcebeaa
set_option linter.unusedVariables false
open Go.RowKit

theorem WFlipsToFan.walk (w : World) (n : Int) (wn : (Lit.int .i64 n).wf = true) (A : Option Addr) (c : Nat) (l : List (Int × Int)) (h : SlD w w.heap.size A l)
    (hj : l.length ≤ c ∧ c ≤ maxLen ∧ ∀ x ∈ l, (Lit.int .i64 x.1).wf = true ∧ (Lit.int .i64 x.2).wf = true) (a : Int) (wa : (Lit.int .i64 a).wf = true) :
    Calls Try.prog 11 #[.int .i64 n, .slice A l.length c, .int .i64 a] w fun e w' => e = .returned (.bool true) ∧ Below w.heap.size w w' :=
  WFlipsToFan.core w n A c l a h hj.1 hj.2.1 (ffR n l a) (triB n l && decide (0 ≤ a ∧ a ≤ n - 1)) (ffR_length n l a)
    (Lib.hid fun A c w h hl hlc => spec_FlipsToFan n A c _ l a w h (Nat.le_refl _) hl hlc)
    (Lib.hid fun A c w h hl hlc => impl_FlipsToFan n A c _ l a w h (Nat.le_refl _) hl hlc)
end Go.Proofs.Ytbpaaoeefcebeaa
