/- The model's flOther, flMake, OtherDiagonal, FlipDiagonal. -/
import Derived.Test.YtlnnnjnboknoeaaFliS
import Derived.Test.YtlnnnjnboknoeaaFliO
import Derived.Test.YtlnnnjnboknoeaaTriS
import Derived.Test.YtlnnnjnboknoeaaBx2
namespace Go.Proofs.Ytlnnnjnboknoeaa
set_option linter.unusedVariables false
open Go.RowKit

theorem spec_l1Least_q (a b : Int) (w : World) : Calls Try.prog 138 #[.int .i64 a, .int .i64 b] w fun e w' => e = .returned (.int .i64 (min a b)) ∧ ∃ z, w' = w.drewN z := (spec_l1Least a b w).mono fun _ _ h => ⟨h.1, 0, h.2.symm⟩
theorem spec_l1Most_q (a b : Int) (w : World) : Calls Try.prog 139 #[.int .i64 a, .int .i64 b] w fun e w' => e = .returned (.int .i64 (max a b)) ∧ ∃ z, w' = w.drewN z := (spec_l1Most a b w).mono fun _ _ h => ⟨h.1, 0, h.2.symm⟩

def lowK (e : Int × Int) (k : Nat) : Int := if (k : Int) ≤ e.1 then -1 else e.1
def highK (e : Int × Int) (k : Nat) : Int := if (k : Int) ≤ e.2 then -1 else e.2
theorem lowK_zero {e : Int × Int} (h : 0 ≤ e.1) : lowK e 0 = -1 := by unfold lowK; rw [if_pos (by simpa using h)]
theorem highK_zero {e : Int × Int} (h : 0 ≤ e.2) : highK e 0 = -1 := by unfold highK; rw [if_pos (by simpa using h)]
theorem lowK_miss {e : Int × Int} {k : Nat} (h : ¬(k : Int) = e.1) : lowK e (k + 1) = lowK e k := by
  unfold lowK
  by_cases a : (k : Int) ≤ e.1
  · rw [if_pos (by omega), if_pos a]
  · rw [if_neg (by omega), if_neg a]
theorem highK_miss {e : Int × Int} {k : Nat} (h : ¬(k : Int) = e.2) : highK e (k + 1) = highK e k := by
  unfold highK
  by_cases a : (k : Int) ≤ e.2
  · rw [if_pos (by omega), if_pos a]
  · rw [if_neg (by omega), if_neg a]
theorem lowK_hit {e : Int × Int} {k : Nat} (h : (k : Int) = e.1) : lowK e k = -1 ∧ lowK e (k + 1) = k := by
  unfold lowK
  rw [if_pos (by omega), if_neg (by omega)]
  exact ⟨rfl, h.symm⟩
theorem highK_hit {e : Int × Int} {k : Nat} (h : (k : Int) = e.2) (h12 : e.1 < e.2) : lowK e k = e.1 ∧ highK e (k + 1) = k := by
  unfold lowK highK
  rw [if_neg (by omega), if_neg (by omega)]
  exact ⟨rfl, h.symm⟩
theorem lowK_all {e : Int × Int} {n : Nat} (h : e.1 < n) : lowK e n = e.1 := by unfold lowK; rw [if_neg (by omega)]
theorem highK_all {e : Int × Int} {n : Nat} (h : e.2 < n) : highK e n = e.2 := by unfold highK; rw [if_neg (by omega)]

end Go.Proofs.Ytlnnnjnboknoeaa
