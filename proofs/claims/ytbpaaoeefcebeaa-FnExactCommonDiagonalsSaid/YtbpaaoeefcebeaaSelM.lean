/- Diagonals picked out of a list, and those that another list has or has not. -/
import Derived.Test.YtbpaaoeefcebeaaFlipM
namespace Go.Proofs.Ytbpaaoeefcebeaa
set_option linter.unusedVariables false

def selK (p : Int × Int → Bool) (l : List (Int × Int)) (k : Nat) : List (Int × Int) := (l.take k).filter p
theorem selK_zero (p : Int × Int → Bool) (l : List (Int × Int)) : selK p l 0 = [] := by simp [selK]
theorem selK_hit {p : Int × Int → Bool} {l : List (Int × Int)} {k : Nat} (hk : k < l.length) (h : p (l.getD k (0, 0)) = true) : selK p l (k + 1) = selK p l k ++ [l.getD k (0, 0)] := by
  unfold selK
  rw [List.take_succ_eq_append_getElem hk, List.filter_append, getD_at hk]
  rw [getD_at hk] at h
  simp [h]
theorem selK_miss {p : Int × Int → Bool} {l : List (Int × Int)} {k : Nat} (hk : k < l.length) (h : p (l.getD k (0, 0)) = false) : selK p l (k + 1) = selK p l k := by
  unfold selK
  rw [List.take_succ_eq_append_getElem hk, List.filter_append]
  rw [getD_at hk] at h
  simp [h]
theorem selK_le (p : Int × Int → Bool) (l : List (Int × Int)) (k : Nat) : (selK p l k).length ≤ k := by
  unfold selK
  exact Nat.le_trans (List.length_filter_le _ _) (by simp; omega)
theorem selK_all (p : Int × Int → Bool) (l : List (Int × Int)) : selK p l l.length = l.filter p := by unfold selK; rw [List.take_length]
def isIn (r : List (Int × Int)) (d : Int × Int) : Bool := decide (d ∈ r)
def notIn (r : List (Int × Int)) (d : Int × Int) : Bool := !decide (d ∈ r)
theorem not_not_in (l r : List (Int × Int)) : l.filter (notIn (l.filter (notIn r))) = l.filter (isIn r) := by
  apply List.filter_congr
  intro d hd
  unfold notIn isIn
  rw [Bool.eq_iff_iff]
  simp [hd]
def comL (l r : List (Int × Int)) : List (Int × Int) := l.filter (isIn r)
def woL (l r : List (Int × Int)) : List (Int × Int) := l.filter (notIn r)
theorem woL_woL (l r : List (Int × Int)) : woL l (woL l r) = comL l r := not_not_in l r
theorem comL_le (l r : List (Int × Int)) : (comL l r).length ≤ l.length := List.length_filter_le _ _
theorem woL_le (l r : List (Int × Int)) : (woL l r).length ≤ l.length := List.length_filter_le _ _
end Go.Proofs.Ytbpaaoeefcebeaa
