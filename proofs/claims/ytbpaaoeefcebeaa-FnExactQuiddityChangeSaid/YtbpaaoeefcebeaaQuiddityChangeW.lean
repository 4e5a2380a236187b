/- The walk of QuiddityChange's law. -/
import Derived.Test.YtbpaaoeefcebeaaQcT
import Derived.Test.YtbpaaoeefcebeaaQuiddityChangeC
namespace Go.Proofs.Ytbpaaoeefcebeaa
set_option linter.unusedVariables false
open Go.RowKit

theorem WQuiddityChange.walk (w : World) (n : Int) (wn : (Lit.int .i64 n).wf = true) (A : Option Addr) (c : Nat) (l : List (Int × Int)) (h : SlD w w.heap.size A l)
    (hj : l.length ≤ c ∧ c ≤ maxLen ∧ ∀ x ∈ l, (Lit.int .i64 x.1).wf = true ∧ (Lit.int .i64 x.2).wf = true) (x y : Int) :
    Calls Try.prog 13 #[.int .i64 n, .slice A l.length c, .agg #[.int .i64 x, .int .i64 y]] w fun e w' => e = .returned (.bool true) ∧ Below w.heap.size w w' :=
  WQuiddityChange.core w n A c l x y h hj.1 hj.2.1 (qcR n l (x, y)) (triB n l && decide ((x, y) ∈ l)) (qcR_length n l (x, y))
    (Lib.hid fun A c w h hl hlc => spec_QuiddityChange n A c _ l x y w h (Nat.le_refl _) hl hlc)
    (Lib.hid fun A c w h hl hlc => impl_QuiddityChange n A c _ l x y w h (Nat.le_refl _) hl hlc)
end Go.Proofs.Ytbpaaoeefcebeaa
