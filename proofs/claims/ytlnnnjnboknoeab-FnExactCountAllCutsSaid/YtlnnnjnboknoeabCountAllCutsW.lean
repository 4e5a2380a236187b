/- CountAllCuts: the model's and the program's contract, and the law's walk. -/
import Derived.Test.YtlnnnjnboknoeabCutCW
import Derived.Test.YtlnnnjnboknoeabCountAllCutsC
namespace Go.Proofs.Ytlnnnjnboknoeab
set_option linter.unusedVariables false
open Go.RowKit

/-- the cuts with fewer than k diagonals -/
def caF (n : Nat) : Nat → Nat
  | 0 => 0
  | k + 1 => caF n k + ccF n k
theorem caF_bd : ∀ n : Fin 13, ∀ k : Fin 13, (k : Nat) + 2 ≤ n → caF n k ≤ 1000000 := by decide +kernel
theorem caF_le {n k : Nat} (hn : n ≤ 12) (hk : k + 2 ≤ n) : caF n k ≤ 1000000 := caF_bd ⟨n, by omega⟩ ⟨k, by omega⟩ hk
def caR (n : Int) : Int := if poB n = true then (caF n.toNat (n.toNat - 2) : Int) else 0
def CaAE (n : Int) (w : World) (e : Ending) (w' : World) : Prop := e = .returned (.tuple #[.int .i64 (caR n), .bool (poB n)]) ∧ Below w.heap.size w w'
theorem caE_no {n : Int} {w : World} (h : poB n = false) : CaAE n w (.returned (.tuple #[.int .i64 0, .bool false])) w := by
  unfold CaAE caR
  rw [h]
  exact ⟨rfl, Below.refl _ _⟩
theorem caE_yes {n : Nat} {w : World} (h : poB (n : Int) = true) : CaAE (n : Int) w (.returned (.tuple #[.int .i64 (caF n (n - 2)), .bool true])) w := by
  unfold CaAE caR
  rw [h, Int.toNat_natCast]
  exact ⟨rfl, Below.refl _ _⟩

set_option maxHeartbeats 1600000 in
theorem spec_CountAllCuts (n : Int) (w : World) : Calls Try.prog 17 #[.int .i64 n] w (CaAE n w) := by
  cases hp : poB n
  · have HE := Lib.hid (caE_no (w := w) hp)
    go_enter Try.func17, Try.ntmps17
    go_wp2_with fail
    refine (spec_poIs _ _ _ hp).mono ?_
    rintro e w1 ⟨rfl, rfl⟩
    go_wp2
    go_ret2
    exact HE.out
  · have hn := poB_iff.1 hp
    obtain ⟨m, rfl⟩ := Int.eq_ofNat_of_zero_le (show 0 ≤ n by omega)
    have HE := Lib.hid (caE_yes (w := w) hp)
    go_enter Try.func17, Try.ntmps17
    go_wp2_with fail
    refine (spec_poIs _ _ _ hp).mono ?_
    rintro e w1 ⟨rfl, rfl⟩
    go_wp2
    go_loop [4, 5] (fun o i => ∃ k : Nat, k + 2 ≤ m ∧ i = .int .i64 k ∧ o = .int .i64 (caF m k)) (fun _ i => m - (intOf i).toNat)
    case atStart => exact ⟨0, by omega, rfl, rfl⟩
    case round =>
      obtain ⟨k, hk, rfl, rfl⟩ := hrel
      by_cases hlt : k + 3 ≤ m
      · have H2 := Lib.hid fun w => spec_cuCount m k w (by omega) hlt
        have b1 := caF_le (n := m) (k := k) (by omega) (by omega)
        have b2 := cc_le (n := m) (k := k) (by omega) hlt
        have Hs : Hid (caF m (k + 1) = caF m k + ccF m k) := Lib.hid rfl
        have k1 : (k : Int) ≤ (m : Int) - 3 := by omega
        generalize caF m k = x at *
        generalize ccF m k = y at *
        go_wp2_with fail
        refine (H2.out _).mono ?_
        rintro e w1 ⟨rfl, rfl⟩
        go_wp2
        go_round
        case rel => exact ⟨k + 1, by omega, by go_num, by rw [Hs.out]; go_num⟩
        case measure => simp [intOf]; omega
      · obtain rfl : k = m - 2 := by omega
        have k1 : ¬ ((m - 2 : Nat) : Int) ≤ (m : Int) - 3 := by omega
        go_wp2
        go_ret2
        exact HE.out
set_option maxHeartbeats 1600000 in
theorem impl_CountAllCuts (n : Int) (w : World) : Calls Try.prog 18 #[.int .i64 n] w (CaAE n w) := by
  cases hp : poB n
  · have HE := Lib.hid (caE_no (w := w) hp)
    go_enter Try.func18, Try.ntmps18
    go_wp2_with fail
    refine (impl_isPolygon _ _ _ hp).mono ?_
    rintro e w1 ⟨rfl, rfl⟩
    go_wp2
    go_ret2
    exact HE.out
  · have hn := poB_iff.1 hp
    obtain ⟨m, rfl⟩ := Int.eq_ofNat_of_zero_le (show 0 ≤ n by omega)
    have HE := Lib.hid (caE_yes (w := w) hp)
    go_enter Try.func18, Try.ntmps18
    go_wp2_with fail
    refine (impl_isPolygon _ _ _ hp).mono ?_
    rintro e w1 ⟨rfl, rfl⟩
    go_wp2
    go_loop [4, 5, 11] (fun o _ i => ∃ k : Nat, k + 2 ≤ m ∧ i = .int .i64 k ∧ o = .int .i64 (caF m k)) (fun _ _ i => m - (intOf i).toNat)
    case atStart => exact ⟨0, by omega, rfl, rfl⟩
    case round =>
      obtain ⟨k, hk, rfl, rfl⟩ := hrel
      by_cases hlt : k + 3 ≤ m
      · have H2 := Lib.hid fun w => impl_countCuts m k w (by omega) hlt
        have b1 := caF_le (n := m) (k := k) (by omega) (by omega)
        have b2 := cc_le (n := m) (k := k) (by omega) hlt
        have Hs : Hid (caF m (k + 1) = caF m k + ccF m k) := Lib.hid rfl
        have k1 : (k : Int) < (m : Int) - 2 := by omega
        generalize caF m k = x at *
        generalize ccF m k = y at *
        go_wp2_with fail
        refine (H2.out _).mono ?_
        rintro e w1 ⟨rfl, rfl⟩
        go_wp2
        go_round
        case rel => exact ⟨k + 1, by omega, by go_num, by rw [Hs.out]; go_num⟩
        case measure => simp [intOf]; omega
      · obtain rfl : k = m - 2 := by omega
        have k1 : ¬ ((m - 2 : Nat) : Int) < (m : Int) - 2 := by omega
        go_wp2
        go_ret2
        exact HE.out
theorem WCountAllCuts.walk (w : World) (n : Int) (wn : (Lit.int .i64 n).wf = true) :
    Calls Try.prog 4 #[.int .i64 n] w fun e w' => e = .returned (.bool true) ∧ Below w.heap.size w w' :=
  WCountAllCuts.core w n (caR n) (poB n) (Lib.hid fun w => spec_CountAllCuts n w) (Lib.hid fun w => impl_CountAllCuts n w)
end Go.Proofs.Ytlnnnjnboknoeab
