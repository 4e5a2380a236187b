/- The program's greatest common divisor. -/
import Derived.Test.YtfkkbjbgjmaciaaContM
import Derived.Test.YtfkkbjbgjmaciaaL1
import Derived.Deep.QuietTactic
import Derived.BigQuiet
namespace Go.Proofs.Ytfkkbjbgjmaciaa
set_option linter.unusedVariables false
open Go.RowKit

set_option maxHeartbeats 800000 in
theorem impl_greatestDivisor (a b : Nat) (w : World) (ha : a ≤ 1000000) (hb0 : b ≤ 1000000) :
    Calls Try.prog 147 #[.int .i64 a, .int .i64 b] w fun e w' => e = .returned (.int .i64 (Nat.gcd a b)) ∧ Below w.heap.size w w' := by
  go_enter Try.func147, Try.ntmps147
  go_wp2
  go_loopw [0, 1] (fun p q wr => ∃ x y : Nat, x ≤ 1000000 ∧ y ≤ 1000000 ∧ p = .int .i64 x ∧ q = .int .i64 y ∧ Nat.gcd x y = Nat.gcd a b ∧ Below w.heap.size w wr) (fun _ q _ => (intOf q).toNat)
  case atStart => exact ⟨a, b, ha, hb0, rfl, rfl, rfl, Below.refl _ _⟩
  case round =>
    obtain ⟨x, y, hx, hy, rfl, rfl, hg, hb⟩ := hrel
    by_cases h0 : 0 < y
    · have hst := gcd_step x y h0
      have hlt := Nat.mod_lt x h0
      have hE : Nat.gcd y (x % y) = Nat.gcd a b := hst.trans hg
      have HE := Lib.hid hE
      have y1 : (1 : Int) ≤ (y : Int) := by omega
      have y2 : ¬ y = 0 := by omega
      have y3 : ((y : Int) != 0) = true := by rw [bne_iff_ne]; omega
      have x1 : (0 : Int) ≤ (x : Int) := by omega
      have Hlt := Lib.hid hlt
      have hm1 : (x : Int).tmod (y : Int) = ((x % y : Nat) : Int) := rfl
      have hm2 : (x : Int) % (y : Int) = ((x % y : Nat) : Int) := rfl
      clear hst hg hlt hE
      generalize x % y = r at *
      go_wp2
      go_quiet (fail)
      clear hm1 hm2
      go_wp2
      go_roundw
      case rel => exact ⟨y, r, hy, by have := Hlt.out; omega, rfl, rfl, HE.out, below_drewN hb _⟩
      case measure => have := Hlt.out; simp [intOf]; omega
    · obtain rfl : y = 0 := by omega
      have hE : Nat.gcd a b = x := by rw [← hg, Nat.gcd_zero_right]
      have HE := Lib.hid hE
      clear hE hg
      go_wp2
      go_ret
      exact ⟨ret_int (by rw [HE.out]), hb⟩
end Go.Proofs.Ytfkkbjbgjmaciaa
