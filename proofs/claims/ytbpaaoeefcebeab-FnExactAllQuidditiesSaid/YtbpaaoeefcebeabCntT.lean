/- Ways to choose, and how many triangulations there are: both sides' functions. -/
import Derived.Test.YtbpaaoeefcebeabCntM
import Derived.Test.YtbpaaoeefcebeabLess
import Derived.IntWalk
namespace Go.Proofs.Ytbpaaoeefcebeab
set_option linter.unusedVariables false
open Go.RowKit

set_option maxHeartbeats 1600000 in
theorem spec_caChoose (n k : Nat) (w : World) (hn : n ≤ 20) (hk : k ≤ n) :
    Calls Try.prog 103 #[.int .i64 n, .int .i64 k] w fun e w' => e = .returned (.int .i64 (chI n k)) ∧ w = w' := by
  rw [← chS_eq hn hk]
  go_enter Try.func103, Try.ntmps103
  go_wp2
  go_loop [5, 6] (fun o i => ∃ t : Nat, t ≤ k ∧ i = .int .i64 (t + 1) ∧ o = .int .i64 (chS n k t)) (fun _ i => k + 1 - (intOf i).toNat)
  case atStart => exact ⟨0, Nat.zero_le _, rfl, rfl⟩
  case round =>
    obtain ⟨t, ht, rfl, rfl⟩ := hrel
    by_cases hlt : t < k
    · have hb := chS_le hn hk ht
      have hm := mul_bd hb (show n - k + (t + 1) ≤ 20 by omega)
      have hfin := step_div (p := chS n k t) (s := n - k + (t + 1)) (d := t + 1) (r := chS n k (t + 1)) (by omega) rfl (a := (n : Int) - (k : Int) + ((t : Int) + 1)) (e := (t : Int) + 1) (by omega) (by omega)
      have Hfin := Lib.hid hfin
      generalize ((chS n k t : Nat) : Int) = p at *
      clear hb hm hfin
      go_wp2
      go_round
      case rel => exact ⟨t + 1, by omega, by go_num, by rw [Hfin.out]⟩
      case measure => simp [intOf]; omega
    · obtain rfl : t = k := by omega
      go_wp2
      go_ret
      exact ⟨rfl, rfl⟩

set_option maxHeartbeats 1600000 in
theorem spec_caCount (n : Nat) (w : World) (h2 : 2 ≤ n) (hn : n ≤ 12) :
    Calls Try.prog 65 #[.int .i64 n] w fun e w' => e = .returned (.int .i64 (cntT n)) ∧ w = w' := by
  have hc := spec_caChoose (2 * n - 4) (n - 2) w (by omega) (by omega)
  have e1 : ((2 * n - 4 : Nat) : Int) = 2 * (n : Int) - 4 := by omega
  have e2 : ((n - 2 : Nat) : Int) = (n : Int) - 2 := by omega
  rw [e1, e2] at hc
  have hr := cntT_run h2 hn
  have Hc := Lib.hid hc
  have Hr := Lib.hid hr
  have n1 : (2 : Int) ≤ (n : Int) := by omega
  have n2 : (n : Int) ≤ 12 := by omega
  generalize ((chI (2 * n - 4) (n - 2) : Nat) : Int) = q at *
  clear hc hr e1 e2
  go_enter Try.func65, Try.ntmps65
  go_wp2_with fail
  refine Hc.out.mono ?_
  rintro e w1 ⟨rfl, rfl⟩
  go_wp2
  go_ret
  exact ⟨ret_int Hr.out, rfl⟩

end Go.Proofs.Ytbpaaoeefcebeab
