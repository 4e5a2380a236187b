/- The walk of FlipDiagonal's law. -/
import Derived.Test.YtbpaaoeefcebeaaFliV
import Derived.Test.YtbpaaoeefcebeaaFlipDiagonalC
namespace Go.Proofs.Ytbpaaoeefcebeaa
set_option linter.unusedVariables false
open Go.RowKit

theorem flipR_length (n : Int) (l : List (Int × Int)) (d : Int × Int) : (flipR n l d).length ≤ 1000000000 := by
  cases h : (triB n l && decide (d ∈ l))
  · rw [flipR_no h]; simp
  · rw [flipR_yes h]
    rw [Bool.and_eq_true] at h
    have T := tri_of h.1
    rw [flip_length T (by simpa using h.2)]
    have := T.len
    have := T.n12
    omega
theorem WFlipDiagonal.walk (w : World) (n : Int) (wn : (Lit.int .i64 n).wf = true) (A : Option Addr) (c : Nat) (l : List (Int × Int)) (h : SlD w w.heap.size A l)
    (hj : l.length ≤ c ∧ c ≤ maxLen ∧ ∀ x ∈ l, (Lit.int .i64 x.1).wf = true ∧ (Lit.int .i64 x.2).wf = true) (x y : Int) :
    Calls Try.prog 6 #[.int .i64 n, .slice A l.length c, .agg #[.int .i64 x, .int .i64 y]] w fun e w' => e = .returned (.bool true) ∧ Below w.heap.size w w' :=
  WFlipDiagonal.core w n A c l x y h hj.1 hj.2.1 (flipR n l (x, y)) (triB n l && decide ((x, y) ∈ l)) (flipR_length n l (x, y))
    (Lib.hid fun A c w h hl hlc => spec_FlipDiagonal n A c _ l x y w h (Nat.le_refl _) hl hlc)
    (Lib.hid fun A c w h hl hlc => impl_FlipDiagonal n A c _ l x y w h (Nat.le_refl _) hl hlc)
end Go.Proofs.Ytbpaaoeefcebeaa
