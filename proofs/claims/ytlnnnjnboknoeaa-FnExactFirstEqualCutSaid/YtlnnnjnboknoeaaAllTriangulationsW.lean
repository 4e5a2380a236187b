/- All triangulations: both sides, and the law's walk. -/
import Derived.Test.YtlnnnjnboknoeaaAltS
import Derived.Test.YtlnnnjnboknoeaaAltI
import Derived.Test.YtlnnnjnboknoeaaLawDD
namespace Go.Proofs.Ytlnnnjnboknoeaa
set_option linter.unusedVariables false
open Go.RowKit

/-- what AllTriangulations tells -/
def atR (n : Int) : List (List (Int × Int)) := if inB n 3 8 = true then altL n.toNat else []
theorem atR_no {n : Int} (h : inB n 3 8 = false) : atR n = [] := by simp [atR, h]
theorem atR_yes {n : Nat} (h : inB n 3 8 = true) : atR n = altL n := by simp [atR, h]
theorem atR_len (n : Int) : (atR n).length ≤ 132 := by
  cases h : inB n 3 8
  · rw [atR_no h]; simp
  · have := inB_iff.1 h
    obtain ⟨m, rfl⟩ := Int.eq_ofNat_of_zero_le (show 0 ≤ n by omega)
    rw [atR_yes h]
    exact alt_bd ⟨m, by omega⟩
theorem atR_row (n : Int) (j : Nat) (hj : j < (atR n).length) : (rowD (atR n) j).length ≤ 9 := by
  cases h : inB n 3 8
  · rw [atR_no h] at hj; simp at hj
  · have := inB_iff.1 h
    obtain ⟨m, rfl⟩ := Int.eq_ofNat_of_zero_le (show 0 ≤ n by omega)
    rw [atR_yes h] at hj ⊢
    have hr := alt_row ⟨m, by omega⟩ (by show 3 ≤ m; omega) (rowD (altL m) j) (by unfold rowD; simp [hj])
    have := hr.1
    dsimp only at this
    omega
theorem atR_pre (n : Int) : preD (atR n) (atR n).length ≤ 1000000 := by
  have := preD_bd (atR n) 9 (fun j hj => atR_row n j hj) _ (Nat.le_refl _)
  have := atR_len n
  have : (atR n).length * 9 ≤ 132 * 9 := Nat.mul_le_mul_right 9 (by omega)
  omega

end Go.Proofs.Ytlnnnjnboknoeaa
