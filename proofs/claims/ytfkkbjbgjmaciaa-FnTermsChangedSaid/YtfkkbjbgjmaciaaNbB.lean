/- What a fraction is: the model's test and the program's. -/
import Derived.Test.YtfkkbjbgjmaciaaGcd
namespace Go.Proofs.Ytfkkbjbgjmaciaa
set_option linter.unusedVariables false
open Go.RowKit

theorem below_two (w : World) (x y : Obj) : Below w.heap.size w ((w.alloc x).alloc y) := ((Below.refl _ _).alloc (Nat.le_refl _) _).alloc (by simp) _
theorem below_one (w : World) (x : Obj) : Below w.heap.size w (w.alloc x) := (Below.refl _ _).alloc (Nat.le_refl _) _
/-- a fraction -/
def nbB (a b : Int) : Bool := decide (0 ≤ a ∧ a ≤ 1000000) && decide (0 ≤ b ∧ b ≤ 1000000) && decide (Nat.gcd a.toNat b.toNat = 1)
theorem nbB_iff {a b : Int} : nbB a b = true ↔ (0 ≤ a ∧ a ≤ 1000000) ∧ (0 ≤ b ∧ b ≤ 1000000) ∧ Nat.gcd a.toNat b.toNat = 1 := by
  unfold nbB
  rw [Bool.and_eq_true, Bool.and_eq_true, decide_eq_true_eq, decide_eq_true_eq, decide_eq_true_eq, and_assoc]
theorem nbB_gcd (x y : Nat) (hx : x ≤ 1000000) (hy : y ≤ 1000000) : nbB (x : Int) (y : Int) = decide (((Nat.gcd x y : Nat) : Int) = 1) := by
  rw [Bool.eq_iff_iff, nbB_iff, decide_eq_true_eq]
  simp only [Int.toNat_natCast]
  omega
theorem inB_iff2 {n lo hi : Int} : inB n lo hi = true ↔ lo ≤ n ∧ n ≤ hi := by unfold inB; simp

set_option maxHeartbeats 800000 in
theorem spec_nbGood (a b : Int) (w : World) :
    Calls Try.prog 145 #[.agg #[.int .i64 a, .int .i64 b]] w fun e w' => e = .returned (.bool (nbB a b)) ∧ Below w.heap.size w w' := by
  have hd0 := Lib.hid ((Below.refl w.heap.size w).alloc (Nat.le_refl _) (.cells #[.int .i64 a, .int .i64 b] 61))
  go_enter Try.func145, Try.ntmps145
  go_wp2_with fail
  refine (spec_l1In' _ _ _ _).mono ?_
  rintro e w1 ⟨rfl, rfl⟩
  cases ha : inB a 0 1000000
  · have HE := Lib.hid (show nbB a b = false by rw [Bool.eq_false_iff]; intro e; rw [inB_iff2.2 (nbB_iff.1 e).1] at ha; cases ha)
    clear ha
    go_wp2
    go_ret
    exact ⟨ret_bool HE.out.symm, hd0.out⟩
  · go_wp2_with fail
    refine (spec_l1In' _ _ _ _).mono ?_
    rintro e w1 ⟨rfl, rfl⟩
    cases hbb : inB b 0 1000000
    · have HE := Lib.hid (show nbB a b = false by rw [Bool.eq_false_iff]; intro e; rw [inB_iff2.2 (nbB_iff.1 e).2.1] at hbb; cases hbb)
      clear ha hbb
      go_wp2
      go_ret
      exact ⟨ret_bool HE.out.symm, hd0.out⟩
    · obtain ⟨a1, a2⟩ := inB_iff2.1 ha
      obtain ⟨b1, b2⟩ := inB_iff2.1 hbb
      obtain ⟨x0, rfl⟩ := Int.eq_ofNat_of_zero_le (show 0 ≤ a by omega)
      obtain ⟨y0, rfl⟩ := Int.eq_ofNat_of_zero_le (show 0 ≤ b by omega)
      have x6 : x0 ≤ 1000000 := by omega
      have y6 : y0 ≤ 1000000 := by omega
      have HE := Lib.hid (nbB_gcd x0 y0 x6 y6)
      clear ha hbb
      go_wp2
      go_quiet (fail)
      go_wp2
      go_loopw [3, 4] (fun p q wr => ∃ x y : Nat, x ≤ 1000000 ∧ y ≤ 1000000 ∧ p = .int .i64 x ∧ q = .int .i64 y ∧ Nat.gcd x y = Nat.gcd x0 y0 ∧ Below w.heap.size w wr) (fun _ q _ => (intOf q).toNat)
      case atStart => exact ⟨x0, y0, x6, y6, rfl, rfl, rfl, below_drewN hd0.out _⟩
      case round =>
        clear a1 a2 b1 b2 hd0
        obtain ⟨x, y, hx, hy, rfl, rfl, hg, hb⟩ := hrel
        by_cases h0 : 0 < y
        · have hst := gcd_step x y h0
          have hlt := Nat.mod_lt x h0
          have hE : Nat.gcd y (x % y) = Nat.gcd x0 y0 := hst.trans hg
          have HE1 := Lib.hid hE
          have y1 : (0 : Int) < (y : Int) := by omega
          have y2 : ¬ y = 0 := by omega
          have x1 : (0 : Int) ≤ (x : Int) := by omega
          have Hlt := Lib.hid hlt
          have hm1 : (x : Int).tmod (y : Int) = ((x % y : Nat) : Int) := rfl
          have hm2 : (x : Int) % (y : Int) = ((x % y : Nat) : Int) := rfl
          clear hst hg hlt hE
          generalize x % y = r at *
          go_wp2
          go_quiet (fail)
          clear hm1 hm2
          go_wp2
          go_roundw
          case rel => exact ⟨y, r, hy, by have := Hlt.out; omega, rfl, rfl, HE1.out, below_drewN hb _⟩
          case measure => have := Hlt.out; simp [intOf]; omega
        · obtain rfl : y = 0 := by omega
          have hE : Nat.gcd x0 y0 = x := by rw [← hg, Nat.gcd_zero_right]
          have HE2 := Lib.hid (HE.out.trans (by rw [hE]))
          clear hE hg HE
          go_wp2
          go_ret
          exact ⟨ret_bool (by rw [HE2.out]; rw [Bool.eq_iff_iff]; simp), hb⟩

set_option maxHeartbeats 800000 in
theorem impl_IsFraction (a b : Int) (w : World) :
    Calls Try.prog 65 #[.agg #[.int .i64 a, .int .i64 b]] w fun e w' => e = .returned (.bool (nbB a b)) ∧ Below w.heap.size w w' := by
  have hd0 := Lib.hid ((Below.refl w.heap.size w).alloc (Nat.le_refl _) (.cells #[.int .i64 a, .int .i64 b] 61))
  by_cases a1 : 0 ≤ a
  · by_cases a2 : a ≤ 1000000
    · by_cases b1 : 0 ≤ b
      · by_cases b2 : b ≤ 1000000
        · obtain ⟨x, rfl⟩ := Int.eq_ofNat_of_zero_le (show 0 ≤ a by omega)
          obtain ⟨y, rfl⟩ := Int.eq_ofNat_of_zero_le (show 0 ≤ b by omega)
          have HE := Lib.hid (nbB_gcd x y (by omega) (by omega))
          go_enter Try.func65, Try.ntmps65
          go_wp2_with fail
          refine (impl_greatestDivisor x y _ (by omega) (by omega)).mono ?_
          rintro e w1 ⟨rfl, hb⟩
          have hb2 := below_kept hd0.out (Nat.le_refl _) hb
          clear hb hd0
          generalize Nat.gcd x y = g at *
          go_wp2
          go_ret
          exact ⟨ret_bool (by rw [HE.out]; rw [Bool.eq_iff_iff]; simp), hb2⟩
        · have HE := Lib.hid (show nbB a b = false by rw [Bool.eq_false_iff]; intro e; exact b2 (nbB_iff.1 e).2.1.2)
          go_enter Try.func65, Try.ntmps65
          go_wp2
          go_ret
          exact ⟨ret_bool HE.out.symm, hd0.out⟩
      · have HE := Lib.hid (show nbB a b = false by rw [Bool.eq_false_iff]; intro e; exact b1 (nbB_iff.1 e).2.1.1)
        go_enter Try.func65, Try.ntmps65
        go_wp2
        go_ret
        exact ⟨ret_bool HE.out.symm, hd0.out⟩
    · have HE := Lib.hid (show nbB a b = false by rw [Bool.eq_false_iff]; intro e; exact a2 (nbB_iff.1 e).1.2)
      go_enter Try.func65, Try.ntmps65
      go_wp2
      go_ret
      exact ⟨ret_bool HE.out.symm, hd0.out⟩
  · have HE := Lib.hid (show nbB a b = false by rw [Bool.eq_false_iff]; intro e; exact a1 (nbB_iff.1 e).1.1)
    go_enter Try.func65, Try.ntmps65
    go_wp2
    go_ret
    exact ⟨ret_bool HE.out.symm, hd0.out⟩
end Go.Proofs.Ytfkkbjbgjmaciaa
