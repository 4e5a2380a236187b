/- Ways to choose, and how many triangulations there are: both sides' functions. -/
import Derived.Test.YtlnnnjnboknoeabCntM
import Derived.Test.YtlnnnjnboknoeabLess
import Derived.IntWalk
namespace Go.Proofs.Ytlnnnjnboknoeab
set_option linter.unusedVariables false
open Go.RowKit

set_option maxHeartbeats 1600000 in
theorem impl_waysToChoose (k n : Nat) (w : World) (hn : n ≤ 20) (hk : k ≤ n) :
    Calls Try.prog 59 #[.int .i64 k, .int .i64 n] w fun e w' => e = .returned (.int .i64 (chI n k)) ∧ w = w' := by
  go_enter Try.func59, Try.ntmps59
  go_wp2
  go_loop [5, 6, 8] (fun o _ i => ∃ t : Nat, t ≤ k ∧ i = .int .i64 t ∧ o = .int .i64 (chI n t)) (fun _ _ i => k - (intOf i).toNat)
  case atStart => exact ⟨0, Nat.zero_le _, rfl, rfl⟩
  case round =>
    obtain ⟨t, ht, rfl, rfl⟩ := hrel
    by_cases hlt : t < k
    · have hb := chI_le (n := n) (i := t) hn (by omega)
      have hm := mul_bd hb (show n - t ≤ 20 by omega)
      have hfin := step_div (p := chI n t) (s := n - t) (d := t + 1) (r := chI n (t + 1)) (by omega) rfl (a := (n : Int) - (t : Int)) (e := (t : Int) + 1) (by omega) (by omega)
      have Hfin := Lib.hid hfin
      generalize ((chI n t : Nat) : Int) = p at *
      clear hb hm hfin
      go_wp2
      go_round
      case rel => exact ⟨t + 1, by omega, by go_num, by rw [Hfin.out]⟩
      case measure => simp [intOf]; omega
    · obtain rfl : t = k := by omega
      go_wp2
      go_ret
      exact ⟨rfl, rfl⟩

end Go.Proofs.Ytlnnnjnboknoeab
