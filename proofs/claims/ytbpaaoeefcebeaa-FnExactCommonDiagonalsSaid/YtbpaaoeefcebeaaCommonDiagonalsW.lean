/- The walk of CommonDiagonals' law. -/
import Derived.Test.YtbpaaoeefcebeaaComT
import Derived.Test.YtbpaaoeefcebeaaCommonDiagonalsC
namespace Go.Proofs.Ytbpaaoeefcebeaa
set_option linter.unusedVariables false
open Go.RowKit

theorem WCommonDiagonals.walk (w : World) (n : Int) (wn : (Lit.int .i64 n).wf = true) (A : Option Addr) (c : Nat) (l : List (Int × Int)) (h : SlD w w.heap.size A l)
    (hj : l.length ≤ c ∧ c ≤ maxLen ∧ ∀ x ∈ l, (Lit.int .i64 x.1).wf = true ∧ (Lit.int .i64 x.2).wf = true) (A2 : Option Addr) (c2 : Nat) (r : List (Int × Int)) (h2 : SlD w w.heap.size A2 r)
    (hj2 : r.length ≤ c2 ∧ c2 ≤ maxLen ∧ ∀ x ∈ r, (Lit.int .i64 x.1).wf = true ∧ (Lit.int .i64 x.2).wf = true) :
    Calls Try.prog 10 #[.int .i64 n, .slice A l.length c, .slice A2 r.length c2] w fun e w' => e = .returned (.bool true) ∧ Below w.heap.size w w' :=
  WCommonDiagonals.core w n A c l A2 c2 r h hj.1 hj.2.1 h2 hj2.1 hj2.2.1 (comR n l r) (twoB n l r) (comR_length n l r)
    (Lib.hid fun A c A2 c2 w h hl hlc h2 hl2 hlc2 => spec_CommonDiagonals n A A2 c c2 _ _ l r w h h2 (Nat.le_refl _) (Nat.le_refl _) hl hl2 hlc hlc2)
    (Lib.hid fun A c A2 c2 w h hl hlc h2 hl2 hlc2 => impl_CommonDiagonals n A A2 c c2 _ _ l r w h h2 (Nat.le_refl _) (Nat.le_refl _) hl hl2 hlc hlc2)
end Go.Proofs.Ytbpaaoeefcebeaa
