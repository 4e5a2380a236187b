/- What a fraction is: the model's test and the program's. -/
import Derived.Test.YtbebalgleiafdabDoorContM
import Derived.Test.YtbebalgleiafdabDoorL1
namespace Go.Proofs.YtbebalgleiafdabDoor
set_option linter.unusedVariables false
open Go.RowKit

theorem below_two (w : World) (x y : Obj) : Below w.heap.size w ((w.alloc x).alloc y) := ((Below.refl _ _).alloc (Nat.le_refl _) _).alloc (by simp) _
theorem below_one (w : World) (x : Obj) : Below w.heap.size w (w.alloc x) := (Below.refl _ _).alloc (Nat.le_refl _) _
/-- a fraction -/
def nbB (a b : Int) : Bool := decide (0 ≤ a ∧ a ≤ 1000000) && decide (0 ≤ b ∧ b ≤ 1000000) && decide (Nat.gcd a.toNat b.toNat = 1)
theorem nbB_iff {a b : Int} : nbB a b = true ↔ (0 ≤ a ∧ a ≤ 1000000) ∧ (0 ≤ b ∧ b ≤ 1000000) ∧ Nat.gcd a.toNat b.toNat = 1 := by
  unfold nbB
  rw [Bool.and_eq_true, Bool.and_eq_true, decide_eq_true_eq, decide_eq_true_eq, decide_eq_true_eq, and_assoc]
theorem nbB_gcd (x y : Nat) (hx : x ≤ 1000000) (hy : y ≤ 1000000) : nbB (x : Int) (y : Int) = decide (((Nat.gcd x y : Nat) : Int) = 1) := by
  rw [Bool.eq_iff_iff, nbB_iff, decide_eq_true_eq]
  simp only [Int.toNat_natCast]
  omega
theorem inB_iff2 {n lo hi : Int} : inB n lo hi = true ↔ lo ≤ n ∧ n ≤ hi := by unfold inB; simp

end Go.Proofs.YtbebalgleiafdabDoor
