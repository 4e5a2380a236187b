/- All triangulations of a polygon, in order: plain mathematics. -/
import Derived.Test.YtbpaaoeefcebeabCntM
import Derived.Test.YtbpaaoeefcebeabAllD
import Derived.Test.YtbpaaoeefcebeabTriM
namespace Go.Proofs.Ytbpaaoeefcebeab
set_option linter.unusedVariables false
open Go.RowKit

/-- the lists of m diagonals that go on with a beginning, by diagonals of a rest -/
def compL (m : Nat) : List (Int × Int) → List (Int × Int) → List (List (Int × Int))
  | [], _ => []
  | d :: r, b => (if anyCross d b = true then [] else if b.length + 1 = m then [b ++ [d]] else compL m r (b ++ [d])) ++ compL m r b
def comp (m : Nat) (r b : List (Int × Int)) : List (List (Int × Int)) := if b.length = m then [b] else compL m r b
theorem comp_in {m : Nat} (d : Int × Int) (r b : List (Int × Int)) : (if b.length + 1 = m then [b ++ [d]] else compL m r (b ++ [d])) = comp m r (b ++ [d]) := by
  unfold comp
  simp
theorem compL_cons (m : Nat) (d : Int × Int) (r b : List (Int × Int)) : compL m (d :: r) b = (if anyCross d b = true then [] else comp m r (b ++ [d])) ++ compL m r b := by
  conv => lhs; unfold compL
  rw [comp_in]
theorem compL_nil (m : Nat) (b : List (Int × Int)) : compL m [] b = [] := rfl
theorem compL_drop (m : Nat) (r b : List (Int × Int)) (k : Nat) (h : k < r.length) :
    compL m (r.drop k) b = (if anyCross (r.getD k (0, 0)) b = true then [] else comp m (r.drop (k + 1)) (b ++ [r.getD k (0, 0)])) ++ compL m (r.drop (k + 1)) b := by
  rw [List.drop_eq_getElem_cons h, compL_cons]
  have e : r.getD k (0, 0) = r[k] := by simp [h]
  rw [e]
theorem compL_miss {m : Nat} {r b : List (Int × Int)} {k : Nat} (h : k < r.length) (hc : anyCross (r.getD k (0, 0)) b = true) : compL m (r.drop k) b = compL m (r.drop (k + 1)) b := by
  rw [compL_drop m r b k h, if_pos hc, List.nil_append]
theorem compL_hit {m : Nat} {r b : List (Int × Int)} {k : Nat} (h : k < r.length) (hc : anyCross (r.getD k (0, 0)) b = false) : compL m (r.drop k) b = comp m (r.drop (k + 1)) (b ++ [r.getD k (0, 0)]) ++ compL m (r.drop (k + 1)) b := by
  rw [compL_drop m r b k h, if_neg (by rw [hc]; simp)]
theorem compL_end (m : Nat) (r b : List (Int × Int)) : compL m (r.drop r.length) b = [] := by rw [List.drop_length]; rfl

/-- the diagonals of a polygon, all its triangulations -/
def dgs (n : Nat) : List (Int × Int) := rws (dB n) n n
def altL (n : Nat) : List (List (Int × Int)) := comp (n - 3) (dgs n) []
theorem dgs_len : ∀ n : Fin 9, (dgs n).length ≤ 20 := by decide +kernel
theorem alt_len : ∀ n : Fin 9, 3 ≤ (n : Nat) → (altL n).length = cntT n := by decide +kernel
theorem alt_bd : ∀ n : Fin 9, (altL n).length ≤ 132 := by decide +kernel
theorem alt_row : ∀ n : Fin 9, 3 ≤ (n : Nat) → ∀ r ∈ altL n, r.length + 3 = n ∧ triB (n : Nat) r = true := by decide +kernel
end Go.Proofs.Ytbpaaoeefcebeab
