/- AddDiagonal: the law's walk. -/
import Derived.Test.YtlnnnjnboknoeaaAddS
import Derived.Test.YtlnnnjnboknoeaaAddDiagonalC
namespace Go.Proofs.Ytlnnnjnboknoeaa
set_option linter.unusedVariables false
open Go.RowKit

theorem addR_length (n : Int) (l : List (Int × Int)) (d : Int × Int) : (addR n l d).length ≤ 1000000000 := by
  cases h : addB n l d
  · rw [addR_no h]; simp
  · rw [addR_yes h, sortD_length, List.length_append]
    have : cutB n l = true := by unfold addB at h; rw [Bool.and_eq_true] at h; exact h.1
    have := cutB_len this
    simp
    omega
theorem WAddDiagonal.walk (w : World) (n : Int) (wn : (Lit.int .i64 n).wf = true) (A : Option Addr) (c : Nat) (l : List (Int × Int)) (h : SlD w w.heap.size A l)
    (hj : l.length ≤ c ∧ c ≤ maxLen ∧ ∀ x ∈ l, (Lit.int .i64 x.1).wf = true ∧ (Lit.int .i64 x.2).wf = true) (x y : Int) :
    Calls Try.prog 9 #[.int .i64 n, .slice A l.length c, .agg #[.int .i64 x, .int .i64 y]] w fun e w' => e = .returned (.bool true) ∧ Below w.heap.size w w' :=
  WAddDiagonal.core w n A c l x y h hj.1 hj.2.1 (addR n l (x, y)) (addB n l (x, y)) (addR_length n l (x, y))
    (Lib.hid fun A c w h hl hlc => spec_AddDiagonal n A c _ l x y w h (Nat.le_refl _) hl hlc)
    (Lib.hid fun A c w h hl hlc => impl_AddDiagonal n A c _ l x y w h (Nat.le_refl _) hl hlc)
end Go.Proofs.Ytlnnnjnboknoeaa
