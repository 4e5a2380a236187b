/- What a fraction is: the model's test and the program's. -/
import Derived.Test.YtnoddecligmjbaaGcd
namespace Go.Proofs.Ytnoddecligmjbaa
set_option linter.unusedVariables false
open Go.RowKit

theorem below_two (w : World) (x y : Obj) : Below w.heap.size w ((w.alloc x).alloc y) := ((Below.refl _ _).alloc (Nat.le_refl _) _).alloc (by simp) _
theorem below_one (w : World) (x : Obj) : Below w.heap.size w (w.alloc x) := (Below.refl _ _).alloc (Nat.le_refl _) _
/-- a fraction -/
def nbB (a b : Int) : Bool := decide (0 ≤ a ∧ a ≤ 1000000) && decide (0 ≤ b ∧ b ≤ 1000000) && decide (Nat.gcd a.toNat b.toNat = 1)
theorem nbB_iff {a b : Int} : nbB a b = true ↔ (0 ≤ a ∧ a ≤ 1000000) ∧ (0 ≤ b ∧ b ≤ 1000000) ∧ Nat.gcd a.toNat b.toNat = 1 := by
  unfold nbB
  rw [Bool.and_eq_true, Bool.and_eq_true, decide_eq_true_eq, decide_eq_true_eq, decide_eq_true_eq, and_assoc]
theorem nbB_gcd (x y : Nat) (hx : x ≤ 1000000) (hy : y ≤ 1000000) : nbB (x : Int) (y : Int) = decide (((Nat.gcd x y : Nat) : Int) = 1) := by
  rw [Bool.eq_iff_iff, nbB_iff, decide_eq_true_eq]
  simp only [Int.toNat_natCast]
  omega
theorem inB_iff2 {n lo hi : Int} : inB n lo hi = true ↔ lo ≤ n ∧ n ≤ hi := by unfold inB; simp

set_option maxHeartbeats 800000 in
theorem impl_IsFraction (a b : Int) (w : World) :
    Calls Try.prog 166 #[.agg #[.int .i64 a, .int .i64 b]] w fun e w' => e = .returned (.bool (nbB a b)) ∧ Below w.heap.size w w' := by
  have hd0 := Lib.hid ((Below.refl w.heap.size w).alloc (Nat.le_refl _) (.cells #[.int .i64 a, .int .i64 b] 127))
  by_cases a1 : 0 ≤ a
  · by_cases a2 : a ≤ 1000000
    · by_cases b1 : 0 ≤ b
      · by_cases b2 : b ≤ 1000000
        · obtain ⟨x, rfl⟩ := Int.eq_ofNat_of_zero_le (show 0 ≤ a by omega)
          obtain ⟨y, rfl⟩ := Int.eq_ofNat_of_zero_le (show 0 ≤ b by omega)
          have HE := Lib.hid (nbB_gcd x y (by omega) (by omega))
          go_enter Try.func166, Try.ntmps166
          go_wp2_with fail
          refine (impl_greatestDivisor x y _ (by omega) (by omega)).mono ?_
          rintro e w1 ⟨rfl, hb⟩
          have hb2 := below_kept hd0.out (Nat.le_refl _) hb
          clear hb hd0
          generalize Nat.gcd x y = g at *
          go_wp2
          go_ret
          exact ⟨ret_bool (by rw [HE.out]; rw [Bool.eq_iff_iff]; simp), hb2⟩
        · have HE := Lib.hid (show nbB a b = false by rw [Bool.eq_false_iff]; intro e; exact b2 (nbB_iff.1 e).2.1.2)
          go_enter Try.func166, Try.ntmps166
          go_wp2
          go_ret
          exact ⟨ret_bool HE.out.symm, hd0.out⟩
      · have HE := Lib.hid (show nbB a b = false by rw [Bool.eq_false_iff]; intro e; exact b1 (nbB_iff.1 e).2.1.1)
        go_enter Try.func166, Try.ntmps166
        go_wp2
        go_ret
        exact ⟨ret_bool HE.out.symm, hd0.out⟩
    · have HE := Lib.hid (show nbB a b = false by rw [Bool.eq_false_iff]; intro e; exact a2 (nbB_iff.1 e).1.2)
      go_enter Try.func166, Try.ntmps166
      go_wp2
      go_ret
      exact ⟨ret_bool HE.out.symm, hd0.out⟩
  · have HE := Lib.hid (show nbB a b = false by rw [Bool.eq_false_iff]; intro e; exact a1 (nbB_iff.1 e).1.1)
    go_enter Try.func166, Try.ntmps166
    go_wp2
    go_ret
    exact ⟨ret_bool HE.out.symm, hd0.out⟩
end Go.Proofs.Ytnoddecligmjbaa
