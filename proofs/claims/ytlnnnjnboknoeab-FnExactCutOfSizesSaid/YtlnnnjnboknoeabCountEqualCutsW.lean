/- CountEqualCuts: the model's and the program's contract, and the law's walk. -/
import Derived.Test.YtlnnnjnboknoeabCutCW
import Derived.Test.YtlnnnjnboknoeabCountEqualCutsC
import Derived.OpenShut
namespace Go.Proofs.Ytlnnnjnboknoeab
set_option linter.unusedVariables false
open Go.RowKit

def ecK (n s : Int) : Bool := poB n && decide (3 ≤ s)
/-- how many cuts into m pieces of b + 2 corners there are -/
def ecF (m b : Nat) : Nat := chI (m * (b + 1)) (m - 1) / m
def ecV (a b : Nat) : Nat := if a % b = 0 then ecF (a / b) b else 0
def ecR (n s : Int) : Int := if ecK n s = true then (ecV (n.toNat - 2) (s.toNat - 2) : Int) else 0
def EcE (n s : Int) (w : World) (e : Ending) (w' : World) : Prop := e = .returned (.tuple #[.int .i64 (ecR n s), .bool (ecK n s)]) ∧ Below w.heap.size w w'
theorem ecE_no {n s : Int} {w : World} (h : ecK n s = false) : EcE n s w (.returned (.tuple #[.int .i64 0, .bool false])) w := by
  unfold EcE ecR
  rw [h]
  exact ⟨rfl, Below.refl _ _⟩
theorem ecE_yes {a b : Nat} {w : World} {v : Nat} (h : ecK ((a + 2 : Nat) : Int) ((b + 2 : Nat) : Int) = true) (hv : ecV a b = v) : EcE ((a + 2 : Nat) : Int) ((b + 2 : Nat) : Int) w (.returned (.tuple #[.int .i64 (v : Int), .bool true])) w := by
  unfold EcE ecR
  rw [h, Int.toNat_natCast, Int.toNat_natCast, Nat.add_sub_cancel, Nat.add_sub_cancel, hv]
  exact ⟨rfl, Below.refl _ _⟩
theorem ec_nat {n s : Int} (h : ecK n s = true) : ∃ a b : Nat, n = ((a + 2 : Nat) : Int) ∧ s = ((b + 2 : Nat) : Int) ∧ 1 ≤ a ∧ a ≤ 10 ∧ 1 ≤ b := by
  unfold ecK at h
  simp only [Bool.and_eq_true, decide_eq_true_eq] at h
  have := poB_iff.1 h.1
  exact ⟨(n - 2).toNat, (s - 2).toNat, by omega, by omega, by omega, by omega, by omega⟩
theorem ec_div {a b : Nat} (ha : 1 ≤ a) (hb : 1 ≤ b) (h : a % b = 0) : ∃ m, a = m * b ∧ a / b = m ∧ 1 ≤ m ∧ b ≤ a ∧ m ≤ a := by
  refine ⟨a / b, ?_, rfl, ?_, ?_, Nat.div_le_self _ _⟩
  · have := Nat.div_add_mod a b
    rw [h, Nat.add_zero, Nat.mul_comm] at this
    exact this.symm
  · exact Nat.div_pos (Nat.le_of_dvd (by omega) (Nat.dvd_of_mod_eq_zero h)) (by omega)
  · exact Nat.le_of_dvd (by omega) (Nat.dvd_of_mod_eq_zero h)

theorem impl_isSize (s : Int) (b : Bool) (w : World) (h : decide (3 ≤ s) = b) : Calls Try.prog 58 #[.int .i64 s] w fun e w' => e = .returned (.bool b) ∧ w = w' := by
  subst h
  by_cases hs : 3 ≤ s
  · have e : decide (3 ≤ s) = true := decide_eq_true hs
    rw [e]
    clear e
    go_enter Try.func58, Try.ntmps58
    go_wp2
    go_ret
    exact ⟨by simp [hs], rfl⟩
  · have e : decide (3 ≤ s) = false := decide_eq_false hs
    rw [e]
    clear e
    go_enter Try.func58, Try.ntmps58
    go_wp2
    go_ret
    exact ⟨by simp [hs], rfl⟩

theorem ec_fin {z m : Nat} (hz : z ≤ 1000000) : wrap64 (((z : Nat) : Int) / ((m : Nat) : Int)) = ((z / m : Nat) : Int) := by
  have h := Nat.div_le_self z m
  rw [← Int.natCast_ediv]
  generalize z / m = q at *
  exact wrap_ok (q : Int) (by omega)
set_option maxRecDepth 100000 in
set_option maxHeartbeats 1600000 in
theorem impl_CountEqualCuts (n s : Int) (w : World) (wn : -9223372036854775808 ≤ s ∧ s ≤ 9223372036854775807) : Calls Try.prog 20 #[.int .i64 n, .int .i64 s] w (EcE n s w) := by
  cases hp : poB n
  · have HE := Lib.hid (ecE_no (w := w) (show ecK n s = false by unfold ecK; rw [hp]; rfl))
    go_enter Try.func20, Try.ntmps20
    go_wp2_with fail
    refine (impl_isPolygon _ _ _ hp).mono ?_
    rintro e w1 ⟨rfl, rfl⟩
    go_wp2
    go_ret2
    exact HE.out
  · by_cases hs : 3 ≤ s
    · have hk : ecK n s = true := by unfold ecK; rw [hp, decide_eq_true hs]; rfl
      obtain ⟨a, b, rfl, rfl, a1, a10, b1⟩ := ec_nat hk
      have HE := Lib.hid fun v hv => ecE_yes (w := w) (v := v) hk hv
      have htm : ((a : Int)).tmod (b : Int) = ((a % b : Nat) : Int) := rfl
      have a2 : (1 : Int) ≤ (a : Int) := by omega
      have a3 : (a : Int) ≤ 10 := by omega
      have b2 : (1 : Int) ≤ (b : Int) := by omega
      have b3 : (b : Int) ≤ 9223372036854775805 := by omega
      have e1 : ((a + 2 : Nat) : Int) = (a : Int) + 2 := by omega
      have e2 : ((b + 2 : Nat) : Int) = (b : Int) + 2 := by omega
      have HP := Lib.hid fun w => impl_isPolygon _ true w hp
      have HS := Lib.hid fun w => impl_isSize _ true w (decide_eq_true hs)
      rw [e2] at HS
      rw [e1] at HP HE
      rw [e2] at HE
      rw [e1, e2]
      clear hk hp hs wn e1 e2
      by_cases hm : a % b = 0
      · obtain ⟨m, hmb, hdm, m1, hba, hma⟩ := ec_div a1 b1 hm
        have hV : ecV a b = ecF m b := by unfold ecV; rw [if_pos hm, hdm]
        have hF := HE.out _ hV
        have hsm : m * (b + 1) ≤ 20 := by rw [Nat.mul_succ, ← hmb]; omega
        have hm2 : m - 1 ≤ m * (b + 1) := by rw [Nat.mul_succ]; omega
        have hz := chI_le (n := m * (b + 1)) (i := m - 1) hsm hm2
        have Hc := Lib.hid fun w => impl_waysToChoose (m - 1) (m * (b + 1)) w hsm hm2
        have htd : (a : Int) / (b : Int) = (m : Int) := by rw [← Int.natCast_ediv, hdm]
        have htd2 : ((a : Int)).tdiv (b : Int) = (m : Int) := by rw [Int.tdiv_eq_ediv_of_nonneg (by omega), htd]
        have hml : (m : Int) * ((b : Int) + 1) = ((m * (b + 1) : Nat) : Int) := by rw [Int.natCast_mul]; rfl
        have hm3 : ((m - 1 : Nat) : Int) = (m : Int) - 1 := by omega
        have hfin := ec_fin (z := chI (m * (b + 1)) (m - 1)) (m := m) hz
        unfold ecF at hF
        rw [hm3] at Hc
        generalize chI (m * (b + 1)) (m - 1) = z at *
        generalize hM : m * (b + 1) = M at *
        have m4 : (1 : Int) ≤ (m : Int) := by omega
        have m5 : (m : Int) ≤ 10 := by omega
        have m6 : (M : Int) ≤ 20 := by omega
        have hml2 : wrap64 ((m : Int) * ((b : Int) + 2 - 1)) = (M : Int) := by rw [show (b : Int) + 2 - 1 = (b : Int) + 1 by omega, hml]; exact wrap_ok (M : Int) (by omega)
        have Hml2 := Lib.hid hml2
        have b5 : (b : Int) ≤ (a : Int) := by omega
        have b6 : ¬ (b : Int) + 2 < 3 := by omega
        rw [hm] at htm
        have Hf := Lib.hid hF
        have Hfin := Lib.hid hfin
        clear hM hmb hdm hm3 hF hfin hV HE hml hml2
        go_enter Try.func20, Try.ntmps20
        go_wp2_with fail
        refine (HP.out _).mono ?_
        rintro e w1 ⟨rfl, rfl⟩
        go_wp2_with fail
        refine (HS.out _).mono ?_
        rintro e w1 ⟨rfl, rfl⟩
        go_wp2_with fail
        rw [Hml2.out]
        refine (Hc.out _).mono ?_
        rintro e w1 ⟨rfl, rfl⟩
        go_wp2
        go_ret2
        show EcE _ _ w (.returned (.tuple #[.int .i64 (wrap64 ((z : Int) / (m : Int))), .bool true])) w
        rw [Hfin.out]
        exact Hf.out
      · have hF := HE.out 0 (by unfold ecV; rw [if_neg hm])
        have Hf := Lib.hid hF
        have hm1 : ((a % b : Nat) : Int) ≠ 0 := by omega
        generalize a % b = r at *
        have hm2 : ((r : Int) != 0) = true := by simpa using hm1
        have b6 : ¬ (b : Int) + 2 < 3 := by omega
        clear hF HE
        go_enter Try.func20, Try.ntmps20
        go_wp2_with fail
        refine (HP.out _).mono ?_
        rintro e w1 ⟨rfl, rfl⟩
        go_wp2_with fail
        refine (HS.out _).mono ?_
        rintro e w1 ⟨rfl, rfl⟩
        go_wp2
        go_ret2
        exact Hf.out
    · have HE := Lib.hid (ecE_no (w := w) (show ecK n s = false by unfold ecK; rw [decide_eq_false hs]; simp))
      go_enter Try.func20, Try.ntmps20
      go_wp2_with fail
      refine (impl_isPolygon _ _ _ hp).mono ?_
      rintro e w1 ⟨rfl, rfl⟩
      go_wp2_with fail
      refine (impl_isSize s false _ (decide_eq_false (by omega))).mono ?_
      rintro e w1 ⟨rfl, rfl⟩
      go_wp2
      go_ret2
      exact HE.out
set_option maxRecDepth 100000 in
set_option maxHeartbeats 1600000 in
theorem spec_CountEqualCuts (n s : Int) (w : World) (wn : -9223372036854775808 ≤ s ∧ s ≤ 9223372036854775807) : Calls Try.prog 19 #[.int .i64 n, .int .i64 s] w (EcE n s w) := by
  cases hp : poB n
  · have HE := Lib.hid (ecE_no (w := w) (show ecK n s = false by unfold ecK; rw [hp]; rfl))
    go_enter Try.func19, Try.ntmps19
    go_wp2_with fail
    refine (spec_poIs _ _ _ hp).mono ?_
    rintro e w1 ⟨rfl, rfl⟩
    go_wp2
    go_ret2
    exact HE.out
  · by_cases hs : 3 ≤ s
    · have hk : ecK n s = true := by unfold ecK; rw [hp, decide_eq_true hs]; rfl
      obtain ⟨a, b, rfl, rfl, a1, a10, b1⟩ := ec_nat hk
      have HE := Lib.hid fun v hv => ecE_yes (w := w) (v := v) hk hv
      have htm : ((a : Int)).tmod (b : Int) = ((a % b : Nat) : Int) := rfl
      have a2 : (1 : Int) ≤ (a : Int) := by omega
      have a3 : (a : Int) ≤ 10 := by omega
      have b2 : (1 : Int) ≤ (b : Int) := by omega
      have b3 : (b : Int) ≤ 9223372036854775805 := by omega
      have e1 : ((a + 2 : Nat) : Int) = (a : Int) + 2 := by omega
      have e2 : ((b + 2 : Nat) : Int) = (b : Int) + 2 := by omega
      have HP := Lib.hid fun w => spec_poIs _ true w hp
      rw [e1] at HP HE
      rw [e2] at HE
      rw [e1, e2]
      clear hk hp hs wn e1 e2
      by_cases hm : a % b = 0
      · obtain ⟨m, hmb, hdm, m1, hba, hma⟩ := ec_div a1 b1 hm
        have hV : ecV a b = ecF m b := by unfold ecV; rw [if_pos hm, hdm]
        have hF := HE.out _ hV
        have hsm : m * (b + 1) ≤ 20 := by rw [Nat.mul_succ, ← hmb]; omega
        have hm2 : m - 1 ≤ m * (b + 1) := by rw [Nat.mul_succ]; omega
        have hz := chI_le (n := m * (b + 1)) (i := m - 1) hsm hm2
        have Hc := Lib.hid fun w => spec_cuChoose (m * (b + 1)) (m - 1) w hsm hm2
        have htd : (a : Int) / (b : Int) = (m : Int) := by rw [← Int.natCast_ediv, hdm]
        have htd2 : ((a : Int)).tdiv (b : Int) = (m : Int) := by rw [Int.tdiv_eq_ediv_of_nonneg (by omega), htd]
        have hml : (m : Int) * ((b : Int) + 1) = ((m * (b + 1) : Nat) : Int) := by rw [Int.natCast_mul]; rfl
        have hm3 : ((m - 1 : Nat) : Int) = (m : Int) - 1 := by omega
        have hfin := ec_fin (z := chI (m * (b + 1)) (m - 1)) (m := m) hz
        unfold ecF at hF
        rw [hm3] at Hc
        generalize chI (m * (b + 1)) (m - 1) = z at *
        generalize hM : m * (b + 1) = M at *
        have m4 : (1 : Int) ≤ (m : Int) := by omega
        have m5 : (m : Int) ≤ 10 := by omega
        have m6 : (M : Int) ≤ 20 := by omega
        have hml2 : wrap64 ((m : Int) * ((b : Int) + 2 - 1)) = (M : Int) := by rw [show (b : Int) + 2 - 1 = (b : Int) + 1 by omega, hml]; exact wrap_ok (M : Int) (by omega)
        have Hml2 := Lib.hid hml2
        have b5 : (b : Int) ≤ (a : Int) := by omega
        have b6 : ¬ (b : Int) + 2 < 3 := by omega
        rw [hm] at htm
        have Hf := Lib.hid hF
        have Hfin := Lib.hid hfin
        clear hM hmb hdm hm3 hF hfin hV HE hml hml2
        go_enter Try.func19, Try.ntmps19
        go_wp2_with fail
        refine (HP.out _).mono ?_
        rintro e w1 ⟨rfl, rfl⟩
        go_wp2_with fail
        rw [Hml2.out]
        refine (Hc.out _).mono ?_
        rintro e w1 ⟨rfl, rfl⟩
        go_wp2
        go_ret2
        show EcE _ _ w (.returned (.tuple #[.int .i64 (wrap64 ((z : Int) / (m : Int))), .bool true])) w
        rw [Hfin.out]
        exact Hf.out
      · have hF := HE.out 0 (by unfold ecV; rw [if_neg hm])
        have Hf := Lib.hid hF
        have hm1 : ((a % b : Nat) : Int) ≠ 0 := by omega
        generalize a % b = r at *
        have hm2 : ((r : Int) != 0) = true := by simpa using hm1
        have b6 : ¬ (b : Int) + 2 < 3 := by omega
        clear hF HE
        by_cases hba : b ≤ a
        · have b5 : (b : Int) ≤ (a : Int) := by omega
          go_enter Try.func19, Try.ntmps19
          go_wp2_with fail
          refine (HP.out _).mono ?_
          rintro e w1 ⟨rfl, rfl⟩
          go_wp2
          go_ret2
          exact Hf.out
        · have b5 : (a : Int) < (b : Int) := by omega
          go_enter Try.func19, Try.ntmps19
          go_wp2_with fail
          refine (HP.out _).mono ?_
          rintro e w1 ⟨rfl, rfl⟩
          go_wp2
          go_ret2
          exact Hf.out
    · have HE := Lib.hid (ecE_no (w := w) (show ecK n s = false by unfold ecK; rw [decide_eq_false hs]; simp))
      go_enter Try.func19, Try.ntmps19
      go_wp2_with fail
      refine (spec_poIs _ _ _ hp).mono ?_
      rintro e w1 ⟨rfl, rfl⟩
      go_wp2
      go_ret2
      exact HE.out
theorem WCountEqualCuts.walk (w : World) (n : Int) (wn : (Lit.int .i64 n).wf = true) (s : Int) (ws : (Lit.int .i64 s).wf = true) :
    Calls Try.prog 5 #[.int .i64 n, .int .i64 s] w fun e w' => e = .returned (.bool true) ∧ Below w.heap.size w w' :=
  WCountEqualCuts.core w n s (ecR n s) (ecK n s) (Lib.hid fun w => spec_CountEqualCuts n s w (bounds_i64 ws)) (Lib.hid fun w => impl_CountEqualCuts n s w (bounds_i64 ws))
end Go.Proofs.Ytlnnnjnboknoeab
