/- Cuts counted by formulas: both sides' functions. -/
import Derived.Test.YtlnnnjnboknoeabCntT
import Derived.Test.YtlnnnjnboknoeabTriJ
import Derived.Test.YtlnnnjnboknoeabL1
import Derived.Deep.RegionHeld3
namespace Go.Proofs.Ytlnnnjnboknoeab
set_option linter.unusedVariables false
open Go.RowKit

set_option maxHeartbeats 1600000 in
theorem spec_cuChoose (n k : Nat) (w : World) (hn : n ≤ 20) (hk : k ≤ n) :
    Calls Try.prog 57 #[.int .i64 n, .int .i64 k] w fun e w' => e = .returned (.int .i64 (chI n k)) ∧ w = w' := by
  go_enter Try.func57, Try.ntmps57
  go_wp2
  go_loop [5, 6] (fun o i => ∃ t : Nat, t ≤ k ∧ i = .int .i64 t ∧ o = .int .i64 (chI n t)) (fun _ i => k - (intOf i).toNat)
  case atStart => exact ⟨0, Nat.zero_le _, rfl, rfl⟩
  case round =>
    obtain ⟨t, ht, rfl, rfl⟩ := hrel
    by_cases hlt : t < k
    · have hb := chI_le (n := n) (i := t) hn (by omega)
      have hm := mul_bd hb (show n - t ≤ 20 by omega)
      have hfin := step_div (p := chI n t) (s := n - t) (d := t + 1) (r := chI n (t + 1)) (by omega) rfl (a := (n : Int) - (t : Int)) (e := (t : Int) + 1) (by omega) (by omega)
      have Hfin := Lib.hid hfin
      generalize ((chI n t : Nat) : Int) = p at *
      clear hb hm hfin
      go_wp2
      go_round
      case rel => exact ⟨t + 1, by omega, by go_num, by rw [Hfin.out]⟩
      case measure => simp [intOf]; omega
    · obtain rfl : t = k := by omega
      go_wp2
      go_ret
      exact ⟨rfl, rfl⟩

/-- how many cuts have so many diagonals -/
def ccF (n k : Nat) : Nat := chI (n - 3) k * chI (n + k - 1) k / (k + 1)
theorem cc_run {n k : Nat} (hn : n ≤ 12) (hk : k + 3 ≤ n) : wrap64 ((wrap64 (((chI (n - 3) k : Nat) : Int) * ((chI (n + k - 1) k : Nat) : Int))).tdiv ((k : Int) + 1)) = ((ccF n k : Nat) : Int) :=
  step_div (mul_bd (chI_le (by omega) (by omega)) (chI_le (by omega) (by omega))) rfl rfl (by omega)
theorem cc_bd : ∀ n : Fin 13, ∀ k : Fin 13, (k : Nat) + 3 ≤ n → ccF n k ≤ 1000000 := by decide +kernel
theorem cc_le {n k : Nat} (hn : n ≤ 12) (hk : k + 3 ≤ n) : ccF n k ≤ 1000000 := cc_bd ⟨n, by omega⟩ ⟨k, by omega⟩ hk

set_option maxHeartbeats 1600000 in
theorem spec_cuCount (n k : Nat) (w : World) (hn : n ≤ 12) (hk : k + 3 ≤ n) :
    Calls Try.prog 53 #[.int .i64 n, .int .i64 k] w fun e w' => e = .returned (.int .i64 (ccF n k)) ∧ w = w' := by
  have H1 := Lib.hid fun w => spec_cuChoose (n - 3) k w (by omega) (by omega)
  have H2 := Lib.hid fun w => spec_cuChoose (n + k - 1) k w (by omega) (by omega)
  have e1 : ((n - 3 : Nat) : Int) = (n : Int) - 3 := by omega
  have e2 : ((n + k - 1 : Nat) : Int) = (n : Int) + (k : Int) - 1 := by omega
  rw [e1] at H1
  rw [e2] at H2
  have Hr := Lib.hid (cc_run hn hk)
  generalize ((chI (n - 3) k : Nat) : Int) = x at *
  generalize ((chI (n + k - 1) k : Nat) : Int) = y at *
  have n1 : (n : Int) ≤ 12 := by omega
  have k1 : (k : Int) + 3 ≤ (n : Int) := by omega
  clear e1 e2
  go_enter Try.func53, Try.ntmps53
  go_wp2_with fail
  refine (H1.out _).mono ?_
  rintro e w1 ⟨rfl, rfl⟩
  go_wp2_with fail
  refine (H2.out _).mono ?_
  rintro e w1 ⟨rfl, rfl⟩
  go_wp2
  go_ret
  exact ⟨ret_int Hr.out, rfl⟩
set_option maxHeartbeats 1600000 in
theorem impl_countCuts (n k : Nat) (w : World) (hn : n ≤ 12) (hk : k + 3 ≤ n) :
    Calls Try.prog 55 #[.int .i64 n, .int .i64 k] w fun e w' => e = .returned (.int .i64 (ccF n k)) ∧ w = w' := by
  have H1 := Lib.hid fun w => impl_waysToChoose k (n - 3) w (by omega) (by omega)
  have H2 := Lib.hid fun w => impl_waysToChoose k (n + k - 1) w (by omega) (by omega)
  have e1 : ((n - 3 : Nat) : Int) = (n : Int) - 3 := by omega
  have e2 : ((n + k - 1 : Nat) : Int) = (n : Int) + (k : Int) - 1 := by omega
  rw [e1] at H1
  rw [e2] at H2
  have Hr := Lib.hid (cc_run hn hk)
  generalize ((chI (n - 3) k : Nat) : Int) = x at *
  generalize ((chI (n + k - 1) k : Nat) : Int) = y at *
  have n1 : (n : Int) ≤ 12 := by omega
  have k1 : (k : Int) + 3 ≤ (n : Int) := by omega
  clear e1 e2
  go_enter Try.func55, Try.ntmps55
  go_wp2_with fail
  refine (H1.out _).mono ?_
  rintro e w1 ⟨rfl, rfl⟩
  go_wp2_with fail
  refine (H2.out _).mono ?_
  rintro e w1 ⟨rfl, rfl⟩
  go_wp2
  go_ret
  exact ⟨ret_int Hr.out, rfl⟩
/-- so many diagonals could be in a cut -/
def chB (n k : Int) : Bool := poB n && inB k 0 (n - 3)
theorem impl_canHave (n k : Int) (b : Bool) (w : World) (h : chB n k = b) : Calls Try.prog 54 #[.int .i64 n, .int .i64 k] w fun e w' => e = .returned (.bool b) ∧ w = w' := by
  subst h
  cases hp : poB n
  · have e : chB n k = false := by unfold chB; rw [hp]; rfl
    rw [e]
    clear e
    go_enter Try.func54, Try.ntmps54
    go_wp2_with fail
    refine (impl_isPolygon _ _ _ hp).mono ?_
    rintro e w1 ⟨rfl, rfl⟩
    go_wp2
    go_ret
    exact ⟨rfl, rfl⟩
  · have hn := poB_iff.1 hp
    have e : chB n k = decide (0 ≤ k ∧ k ≤ n - 3) := by unfold chB inB; rw [hp]; rfl
    have E := Lib.hid e
    clear e
    go_enter Try.func54, Try.ntmps54
    go_wp2_with fail
    refine (impl_isPolygon _ _ _ hp).mono ?_
    rintro e w1 ⟨rfl, rfl⟩
    go_wp2
    all_goals go_ret
    all_goals refine ⟨ret_bool ?_, rfl⟩
    all_goals (rw [E.out, Bool.eq_iff_iff]; simp; try omega)
end Go.Proofs.Ytlnnnjnboknoeab
