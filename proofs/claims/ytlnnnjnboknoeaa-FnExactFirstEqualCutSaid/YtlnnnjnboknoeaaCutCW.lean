/- Cuts counted by formulas: both sides' functions. -/
import Derived.Test.YtlnnnjnboknoeaaCntT
import Derived.Test.YtlnnnjnboknoeaaTriJ
import Derived.Test.YtlnnnjnboknoeaaL1
import Derived.Deep.RegionHeld3
namespace Go.Proofs.Ytlnnnjnboknoeaa
set_option linter.unusedVariables false
open Go.RowKit

set_option maxHeartbeats 1600000 in
theorem spec_cuChoose (n k : Nat) (w : World) (hn : n ≤ 20) (hk : k ≤ n) :
    Calls Try.prog 63 #[.int .i64 n, .int .i64 k] w fun e w' => e = .returned (.int .i64 (chI n k)) ∧ w = w' := by
  go_enter Try.func63, Try.ntmps63
  go_wp2
  go_loop [5, 6] (fun o i => ∃ t : Nat, t ≤ k ∧ i = .int .i64 t ∧ o = .int .i64 (chI n t)) (fun _ i => k - (intOf i).toNat)
  case atStart => exact ⟨0, Nat.zero_le _, rfl, rfl⟩
  case round =>
    obtain ⟨t, ht, rfl, rfl⟩ := hrel
    by_cases hlt : t < k
    · have hb := chI_le (n := n) (i := t) hn (by omega)
      have hm := mul_bd hb (show n - t ≤ 20 by omega)
      have hfin := step_div (p := chI n t) (s := n - t) (d := t + 1) (r := chI n (t + 1)) (by omega) rfl (a := (n : Int) - (t : Int)) (e := (t : Int) + 1) (by omega) (by omega)
      have Hfin := Lib.hid hfin
      generalize ((chI n t : Nat) : Int) = p at *
      clear hb hm hfin
      go_wp2
      go_round
      case rel => exact ⟨t + 1, by omega, by go_num, by rw [Hfin.out]⟩
      case measure => simp [intOf]; omega
    · obtain rfl : t = k := by omega
      go_wp2
      go_ret
      exact ⟨rfl, rfl⟩

/-- how many cuts have so many diagonals -/
def ccF (n k : Nat) : Nat := chI (n - 3) k * chI (n + k - 1) k / (k + 1)
theorem cc_run {n k : Nat} (hn : n ≤ 12) (hk : k + 3 ≤ n) : wrap64 ((wrap64 (((chI (n - 3) k : Nat) : Int) * ((chI (n + k - 1) k : Nat) : Int))).tdiv ((k : Int) + 1)) = ((ccF n k : Nat) : Int) :=
  step_div (mul_bd (chI_le (by omega) (by omega)) (chI_le (by omega) (by omega))) rfl rfl (by omega)
theorem cc_bd : ∀ n : Fin 13, ∀ k : Fin 13, (k : Nat) + 3 ≤ n → ccF n k ≤ 1000000 := by decide +kernel
theorem cc_le {n k : Nat} (hn : n ≤ 12) (hk : k + 3 ≤ n) : ccF n k ≤ 1000000 := cc_bd ⟨n, by omega⟩ ⟨k, by omega⟩ hk

/-- so many diagonals could be in a cut -/
def chB (n k : Int) : Bool := poB n && inB k 0 (n - 3)
theorem impl_canHave (n k : Int) (b : Bool) (w : World) (h : chB n k = b) : Calls Try.prog 109 #[.int .i64 n, .int .i64 k] w fun e w' => e = .returned (.bool b) ∧ w = w' := by
  subst h
  cases hp : poB n
  · have e : chB n k = false := by unfold chB; rw [hp]; rfl
    rw [e]
    clear e
    go_enter Try.func109, Try.ntmps109
    go_wp2_with fail
    refine (impl_isPolygon _ _ _ hp).mono ?_
    rintro e w1 ⟨rfl, rfl⟩
    go_wp2
    go_ret
    exact ⟨rfl, rfl⟩
  · have hn := poB_iff.1 hp
    have e : chB n k = decide (0 ≤ k ∧ k ≤ n - 3) := by unfold chB inB; rw [hp]; rfl
    have E := Lib.hid e
    clear e
    go_enter Try.func109, Try.ntmps109
    go_wp2_with fail
    refine (impl_isPolygon _ _ _ hp).mono ?_
    rintro e w1 ⟨rfl, rfl⟩
    go_wp2
    all_goals go_ret
    all_goals refine ⟨ret_bool ?_, rfl⟩
    all_goals (rw [E.out, Bool.eq_iff_iff]; simp; try omega)
end Go.Proofs.Ytlnnnjnboknoeaa
