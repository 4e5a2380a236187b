/- Entries of a frieze, told from the left: plain mathematics. -/
import Derived.Test.YtfkkbjbgjmaciaaOfM
namespace Go.Proofs.Ytfkkbjbgjmaciaa
set_option linter.unusedVariables false
open Go.RowKit

/-- an index, around -/
def mdI (k n : Int) : Int := (k.tmod n + n) % n
theorem mdI_bd (k n : Int) (hn : 1 ≤ n) : 0 ≤ mdI k n ∧ mdI k n < n := by
  unfold mdI
  exact ⟨Int.emod_nonneg _ (by omega), Int.emod_lt_of_pos _ (by omega)⟩
theorem tmod_bd (k n : Int) (hn : 1 ≤ n) : -n < k.tmod n ∧ k.tmod n < n := by
  by_cases h : 0 ≤ k
  · have h1 := Int.tmod_nonneg n h
    have h2 := Int.tmod_lt_of_pos k (show 0 < n by omega)
    omega
  · have e : k.tmod n = -((-k).tmod n) := by
      have := Int.neg_tmod (-k) n
      rw [Int.neg_neg] at this
      exact this
    have h1 := Int.tmod_nonneg n (show 0 ≤ -k by omega)
    have h2 := Int.tmod_lt_of_pos (-k) (show 0 < n by omega)
    omega
theorem mdI_eq (k n : Int) : mdI k n = k % n := by
  unfold mdI
  rw [Int.add_emod_right, Int.tmod_def]
  first
    | exact Int.sub_mul_emod_self_left _ _ _
    | simp [Int.sub_emod]

/-- the entry before and the entry, s steps from i on -/
def entS (q : List Int) (i : Int) : Nat → Int × Int
  | 0 => (-1, 0)
  | s + 1 => ((entS q i s).2, wrap64 (wrap64 (q.getD (mdI (i + s) q.length).toNat 0 * (entS q i s).2) - (entS q i s).1))
/-- the entry of i and j -/
def ent (q : List Int) (i j : Int) : Int := (entS q i (j - i).toNat).2
end Go.Proofs.Ytfkkbjbgjmaciaa
