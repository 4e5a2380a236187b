/- CountCuts: the model's and the program's contract, and the law's walk. -/
import Derived.Test.YtlnnnjnboknoeabCutCW
import Derived.Test.YtlnnnjnboknoeabCountCutsC
namespace Go.Proofs.Ytlnnnjnboknoeab
set_option linter.unusedVariables false
open Go.RowKit

def ccR (n k : Int) : Int := if chB n k = true then (ccF n.toNat k.toNat : Int) else 0
def CcE (n k : Int) (w : World) (e : Ending) (w' : World) : Prop := e = .returned (.tuple #[.int .i64 (ccR n k), .bool (chB n k)]) ∧ Below w.heap.size w w'
theorem ccE_no {n k : Int} {w : World} (h : chB n k = false) : CcE n k w (.returned (.tuple #[.int .i64 0, .bool false])) w := by
  unfold CcE ccR
  rw [h]
  exact ⟨rfl, Below.refl _ _⟩
theorem ccE_yes {n k : Nat} {w : World} (h : chB (n : Int) (k : Int) = true) : CcE (n : Int) (k : Int) w (.returned (.tuple #[.int .i64 (ccF n k), .bool true])) w := by
  unfold CcE ccR
  rw [h, Int.toNat_natCast, Int.toNat_natCast]
  exact ⟨rfl, Below.refl _ _⟩
theorem chB_nat {n k : Int} (h : chB n k = true) : ∃ m j : Nat, n = m ∧ k = j ∧ m ≤ 12 ∧ j + 3 ≤ m := by
  unfold chB inB at h
  simp only [Bool.and_eq_true, decide_eq_true_eq] at h
  have := poB_iff.1 h.1
  exact ⟨n.toNat, k.toNat, by omega, by omega, by omega, by omega⟩

theorem spec_CountCuts (n k : Int) (w : World) : Calls Try.prog 15 #[.int .i64 n, .int .i64 k] w (CcE n k w) := by
  cases hp : poB n
  · have HE := Lib.hid (ccE_no (w := w) (show chB n k = false by unfold chB; rw [hp]; rfl))
    go_enter Try.func15, Try.ntmps15
    go_wp2_with fail
    refine (spec_poIs _ _ _ hp).mono ?_
    rintro e w1 ⟨rfl, rfl⟩
    go_wp2
    go_ret2
    exact HE.out
  · have hn := poB_iff.1 hp
    cases hi : inB k 0 (n - 3)
    · have HE := Lib.hid (ccE_no (w := w) (show chB n k = false by unfold chB; rw [hi]; simp))
      have H1 := Lib.hid fun w => spec_l1In' k 0 (n - 3) w
      rw [hi] at H1
      clear hi
      go_enter Try.func15, Try.ntmps15
      go_wp2_with fail
      refine (spec_poIs _ _ _ hp).mono ?_
      rintro e w1 ⟨rfl, rfl⟩
      go_wp2_with fail
      refine (H1.out _).mono ?_
      rintro e w1 ⟨rfl, rfl⟩
      go_wp2
      go_ret2
      exact HE.out
    · have hc : chB n k = true := by unfold chB; rw [hp, hi]; rfl
      have H1 := Lib.hid fun w => spec_l1In' k 0 (n - 3) w
      rw [hi] at H1
      obtain ⟨m, j, rfl, rfl, hm, hj⟩ := chB_nat hc
      have HE := Lib.hid (ccE_yes (w := w) hc)
      have H2 := Lib.hid fun w => spec_cuCount m j w hm hj
      clear hi hc hn
      have hn1 : (3 : Int) ≤ (m : Int) := by omega
      have hn2 : (m : Int) ≤ 12 := by omega
      go_enter Try.func15, Try.ntmps15
      go_wp2_with fail
      refine (spec_poIs _ _ _ hp).mono ?_
      rintro e w1 ⟨rfl, rfl⟩
      go_wp2_with fail
      refine (H1.out _).mono ?_
      rintro e w1 ⟨rfl, rfl⟩
      go_wp2_with fail
      refine (H2.out _).mono ?_
      rintro e w1 ⟨rfl, rfl⟩
      go_wp2
      go_ret2
      exact HE.out
theorem impl_CountCuts (n k : Int) (w : World) : Calls Try.prog 16 #[.int .i64 n, .int .i64 k] w (CcE n k w) := by
  cases hc : chB n k
  · have HE := Lib.hid (ccE_no (w := w) hc)
    go_enter Try.func16, Try.ntmps16
    go_wp2_with fail
    refine (impl_canHave _ _ _ _ hc).mono ?_
    rintro e w1 ⟨rfl, rfl⟩
    go_wp2
    go_ret2
    exact HE.out
  · obtain ⟨m, j, rfl, rfl, hm, hj⟩ := chB_nat hc
    have HE := Lib.hid (ccE_yes (w := w) hc)
    have H2 := Lib.hid fun w => impl_countCuts m j w hm hj
    go_enter Try.func16, Try.ntmps16
    go_wp2_with fail
    refine (impl_canHave _ _ _ _ hc).mono ?_
    rintro e w1 ⟨rfl, rfl⟩
    go_wp2_with fail
    refine (H2.out _).mono ?_
    rintro e w1 ⟨rfl, rfl⟩
    go_wp2
    go_ret2
    exact HE.out
theorem WCountCuts.walk (w : World) (n : Int) (wn : (Lit.int .i64 n).wf = true) (k : Int) (wk : (Lit.int .i64 k).wf = true) :
    Calls Try.prog 3 #[.int .i64 n, .int .i64 k] w fun e w' => e = .returned (.bool true) ∧ Below w.heap.size w w' :=
  WCountCuts.core w n k (ccR n k) (chB n k) (Lib.hid fun w => spec_CountCuts n k w) (Lib.hid fun w => impl_CountCuts n k w)
end Go.Proofs.Ytlnnnjnboknoeab
