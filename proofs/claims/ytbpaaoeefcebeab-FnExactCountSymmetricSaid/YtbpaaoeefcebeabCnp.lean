/- How many of the first k rows are of a kind. -/
import Derived.Test.YtbpaaoeefcebeabDDA
namespace Go.Proofs.Ytbpaaoeefcebeab
set_option linter.unusedVariables false
open Go.RowKit
def cntP (P : List (Int × Int) → Bool) (Ls : List (List (Int × Int))) (k : Nat) : Nat := ((Ls.take k).filter P).length
theorem cntP_le (P : List (Int × Int) → Bool) (Ls : List (List (Int × Int))) (k : Nat) : cntP P Ls k ≤ k := by
  unfold cntP
  refine Nat.le_trans (List.length_filter_le _ _) ?_
  simp; omega
theorem cntP_all (P : List (Int × Int) → Bool) (Ls : List (List (Int × Int))) : cntP P Ls Ls.length = (Ls.filter P).length := by unfold cntP; rw [List.take_length]
theorem cntP_step {P : List (Int × Int) → Bool} {Ls : List (List (Int × Int))} {k : Nat} {b : Bool} (hk : k < Ls.length) (h : P (rowD Ls k) = b) : cntP P Ls (k + 1) = cntP P Ls k + (if b = true then 1 else 0) := by
  have e : rowD Ls k = Ls[k] := by unfold rowD; simp [hk]
  rw [e] at h
  unfold cntP
  rw [List.take_succ_eq_append_getElem hk, List.filter_append, List.length_append]
  congr 1
  rw [List.filter_cons, List.filter_nil, h]
  cases b <;> rfl
theorem selP_step {P : List (Int × Int) → Bool} {Ls : List (List (Int × Int))} {k : Nat} (hk : k < Ls.length) : (Ls.take (k + 1)).filter P = (Ls.take k).filter P ++ (if P (rowD Ls k) = true then [rowD Ls k] else []) := by
  have e : rowD Ls k = Ls[k] := by unfold rowD; simp [hk]
  rw [List.take_succ_eq_append_getElem hk, List.filter_append, e]
  congr 1
  rw [List.filter_cons, List.filter_nil]
def CntE (w : World) (x : Int) (ok : Bool) (e : Ending) (w' : World) : Prop := e = .returned (.tuple #[.int .i64 x, .bool ok]) ∧ Below w.heap.size w w'
end Go.Proofs.Ytbpaaoeefcebeab
