/- CountByCorner: the model's and the program's contract, and the law's walk. -/
import Derived.Test.YtbebalgleiafdabCntT
import Derived.Test.YtbebalgleiafdabCountByCornerC
import Derived.Test.YtbebalgleiafdabTriJ
import Derived.Deep.QuietTactic
import Derived.BigQuiet
namespace Go.Proofs.Ytbebalgleiafdab
set_option linter.unusedVariables false
open Go.RowKit

def cbcR (n : Int) : List Int := if poB n = true then cbcL n.toNat else []
theorem cbcR_no {n : Int} (h : poB n = false) : cbcR n = [] := by simp [cbcR, h]
theorem cbcR_yes {m : Nat} (h : poB ((m : Int) + 1) = true) : cbcR ((m : Int) + 1) = filF (cbcF (m + 1)) m m := by
  unfold cbcR cbcL
  rw [if_pos h, show ((m : Int) + 1).toNat = m + 1 by omega]
  rfl
theorem cbcR_length (n : Int) : (cbcR n).length ≤ 1000000000 := by
  cases h : poB n
  · rw [cbcR_no h]; simp
  · have hn := poB_iff.1 h
    obtain ⟨m, rfl⟩ : ∃ m : Nat, n = (m : Int) + 1 := ⟨(n - 1).toNat, by omega⟩
    rw [cbcR_yes h, filF_length]; omega
theorem cbcE_no {n : Int} {w : World} (h : poB n = false) : RetI w (cbcR n) (poB n) (.returned (.tuple #[.slice none 0 0, .bool false])) w := by
  rw [cbcR_no h, h]
  exact ⟨none, 0, rfl, World.ownsRow_nil _ _ _ _, Below.refl _ _⟩
theorem cbcE_yes {m : Nat} {w w' : World} (h : poB ((m : Int) + 1) = true) (ho : w'.ownsRow w.heap.size 3 1 (.slice (some ⟨w.heap.size, 0, none⟩) m m) m (ics (filF (cbcF (m + 1)) m m))) (hb : Below w.heap.size w w') :
    RetI w (cbcR ((m : Int) + 1)) (poB ((m : Int) + 1)) (.returned (.tuple #[.slice (some ⟨w.heap.size, 0, none⟩) m m, .bool true])) w' := by
  rw [cbcR_yes h, h]
  exact ⟨some ⟨w.heap.size, 0, none⟩, m, by rw [filF_length], by rw [filF_length]; exact ho, hb⟩
/-- the number stored at k -/
theorem cbc_run {m k : Nat} (hm : 2 ≤ m) (hm2 : m ≤ 11) (h1 : 1 ≤ k) (hk : k < m) : wrap64 ((wrap64 ((k : Int) * ((chI (2 * m - 2 - k) (m - 1) : Nat) : Int))).tdiv (2 * ((m : Int) + 1) - 4 - (k : Int))) = ((cbcF (m + 1) k : Nat) : Int) := by
  have hb := chI_le (n := 2 * m - 2 - k) (i := m - 1) (by omega) (by omega)
  have hmul := mul_bd (show k ≤ 11 by omega) hb
  refine step_div (p := k) (s := chI (2 * m - 2 - k) (m - 1)) (d := 2 * m - 2 - k) (by omega) ?_ rfl (by omega)
  unfold cbcF
  rw [if_neg (by omega)]
  rw [show 2 * (m + 1) - 4 - k = 2 * m - 2 - k by omega, show m + 1 - 2 = m - 1 by omega]

set_option maxRecDepth 100000 in
set_option maxHeartbeats 3200000 in
theorem spec_CountByCorner (n : Int) (w : World) : Calls Try.prog 18 #[.int .i64 n] w (RetI w (cbcR n) (poB n)) := by
  cases hp : poB n
  · have HE := Lib.hid (cbcE_no (w := w) hp)
    rw [hp] at HE
    go_enter Try.func18, Try.ntmps18
    go_wp2_with fail
    refine (spec_poIs _ _ _ hp).mono ?_
    rintro e w1 ⟨rfl, rfl⟩
    go_wp2
    go_ret2
    exact HE.out
  · have hn := poB_iff.1 hp
    obtain ⟨m, rfl⟩ : ∃ m : Nat, n = (m : Int) + 1 := ⟨(n - 1).toNat, by omega⟩
    have hm2 : 2 ≤ m := by omega
    have hm11 : m ≤ 11 := by omega
    have HE := Lib.hid (fun w' ho hb => cbcE_yes (w := w) (w' := w') hp ho hb)
    rw [hp] at HE
    have Hc := Lib.hid (fun (k : Nat) (h1 : 1 ≤ k) (hk : k < m) (w : World) => spec_caChoose (2 * m - 2 - k) (m - 1) w (by omega) (by omega))
    have Hr := Lib.hid (fun (k : Nat) (h1 : 1 ≤ k) (hk : k < m) => cbc_run hm2 hm11 h1 hk)
    obtain ⟨i0, hi, hz0, hz1, hz2⟩ := info_parts infoI
    have hbytes : i0.bytes * m ≤ 281474976710656 := by rw [hz2]; omega
    have hmax : m ≤ maxLen := by unfold maxLen; omega
    clear hn
    go_enter Try.func18, Try.ntmps18
    go_wp2_with fail
    refine (spec_poIs _ _ _ hp).mono ?_
    rintro e w1 ⟨rfl, rfl⟩
    go_wp2_with (at_make; refine wpList_make_full _ rfl _ _ _ rfl w.heap.size 3 i0 (.int .i64 0) 1 Try.underlying25 hi hz0 hz1 _ _ _ _ m rfl rfl rfl rfl hbytes hmax (Nat.le_refl _) ?_; intro w1 hown1 hgrow1)
    have hb1 : Below w.heap.size w w1 := (Below.refl _ _).grown hgrow1 (Nat.le_refl _) (by simp)
    have e1 : (madeCells (Value.int .i64 0).cells (m * 1)).toList = ics (filF (cbcF (m + 1)) m 1) := by
      rw [Nat.mul_one]
      show (madeCells #[Value.int .i64 0] m).toList = _
      rw [toList_madeCells_one, filF_same (cbcF (m + 1)) m 1 0 (fun i hi => by
        by_cases h : i = 0
        · subst h; exact .inr rfl
        · exact .inl (by omega)), filF_zero]
      simp [ics]
    rw [e1] at hown1
    clear e1 hgrow1
    go_wp2
    go_loopw [5] (fun i wr => ∃ k : Nat, 1 ≤ k ∧ k ≤ m ∧ i = .int .i64 k ∧ wr.ownsRow w.heap.size 3 1 (.slice (some ⟨w.heap.size, 0, none⟩) m m) m (ics (filF (cbcF (m + 1)) m k)) ∧ Below w.heap.size w wr) (fun i _ => m - (intOf i).toNat)
    case atStart => exact ⟨1, Nat.le_refl _, by omega, rfl, hown1, hb1⟩
    case round =>
      obtain ⟨k, h1, hk, rfl, ho, hb⟩ := hrel
      by_cases hlt : k < m
      · have hll := filF_length (cbcF (m + 1)) m k
        have hcell : wr.cell? ⟨w.heap.size, k, none⟩ = some (.int .i64 ((filF (cbcF (m + 1)) m k).getD k 0)) := by
          rw [ho.cellAt k (by omega), ics_get _ _ (by rw [hll]; exact hlt)]
        have hfro := ho.frozenAt k
        have hst := ho.stored k (.int .i64 ((cbcF (m + 1) k : Nat) : Int))
        rw [ics_set, filF_set] at hst
        obtain ⟨hs1, hs2⟩ := hst
        have hb2 := hb.grown hs2 hb.size (by simp)
        have hcall := Hc.out k h1 hlt wr
        have hrun := Hr.out k h1 hlt
        have e1 : ((2 * m - 2 - k : Nat) : Int) = 2 * ((m : Int) + 1) - 4 - (k : Int) := by omega
        have e2 : ((m - 1 : Nat) : Int) = (m : Int) + 1 - 2 := by omega
        rw [e1, e2] at hcall
        have k1 : (1 : Int) ≤ (k : Int) := by omega
        have k2 : (k : Int) < (m : Int) := by omega
        have m2 : (m : Int) ≤ 11 := by omega
        have Hcall := Lib.hid hcall
        have HS := Lib.hid hs1
        have HB := Lib.hid hb2
        have HR := Lib.hid hrun
        clear ho hs2 hown1 hb1 hll hb hcall hrun e1 e2 hs1 hb2
        generalize (filF (cbcF (m + 1)) m k).getD k 0 = z at *
        generalize ((chI (2 * m - 2 - k) (m - 1) : Nat) : Int) = c at *
        go_wp2_with fail
        refine Hcall.out.mono ?_
        rintro e w1 ⟨rfl, rfl⟩
        rw [← HR.out] at HS HB
        go_wp2
        go_roundw
        case rel => exact ⟨k + 1, by omega, by omega, by go_num, HS.out, HB.out⟩
        case measure => simp [intOf]; omega
      · obtain rfl : k = m := by omega
        have HX := Lib.hid (HE.out _ ho hb)
        clear ho hb hown1 hb1
        have k2 : (k : Int) ≤ 11 := by omega
        go_wp2
        go_ret2
        exact HX.out
set_option maxRecDepth 100000 in
set_option maxHeartbeats 3200000 in
theorem impl_CountByCorner (n : Int) (w : World) : Calls Try.prog 19 #[.int .i64 n] w (RetI w (cbcR n) (poB n)) := by
  cases hp : poB n
  · have HE := Lib.hid (cbcE_no (w := w) hp)
    rw [hp] at HE
    go_enter Try.func19, Try.ntmps19
    go_wp2_with fail
    refine (impl_isPolygon _ _ _ hp).mono ?_
    rintro e w1 ⟨rfl, rfl⟩
    go_wp2
    go_ret2
    exact HE.out
  · have hn := poB_iff.1 hp
    obtain ⟨m, rfl⟩ : ∃ m : Nat, n = (m : Int) + 1 := ⟨(n - 1).toNat, by omega⟩
    have hm2 : 2 ≤ m := by omega
    have hm11 : m ≤ 11 := by omega
    have HE := Lib.hid (fun w' ho hb => cbcE_yes (w := w) (w' := w') hp ho hb)
    rw [hp] at HE
    have Hc := Lib.hid (fun (k : Nat) (h1 : 1 ≤ k) (hk : k < m) (w : World) => impl_waysToChoose (m - 1) (2 * m - 2 - k) w (by omega) (by omega))
    have Hr := Lib.hid (fun (k : Nat) (h1 : 1 ≤ k) (hk : k < m) => cbc_run hm2 hm11 h1 hk)
    obtain ⟨i0, hi, hz0, hz1, hz2⟩ := info_parts infoI
    have hbytes : i0.bytes * m ≤ 281474976710656 := by rw [hz2]; omega
    have hmax : m ≤ maxLen := by unfold maxLen; omega
    clear hn
    go_enter Try.func19, Try.ntmps19
    go_wp2_with fail
    refine (impl_isPolygon _ _ _ hp).mono ?_
    rintro e w1 ⟨rfl, rfl⟩
    go_wp2_with (at_make; refine wpList_make_full _ rfl _ _ _ rfl w.heap.size 3 i0 (.int .i64 0) 1 Try.underlying25 hi hz0 hz1 _ _ _ _ m rfl rfl rfl rfl hbytes hmax (Nat.le_refl _) ?_; intro w1 hown1 hgrow1)
    have hb1 : Below w.heap.size w w1 := (Below.refl _ _).grown hgrow1 (Nat.le_refl _) (by simp)
    have e1 : (madeCells (Value.int .i64 0).cells (m * 1)).toList = ics (filF (cbcF (m + 1)) m 1) := by
      rw [Nat.mul_one]
      show (madeCells #[Value.int .i64 0] m).toList = _
      rw [toList_madeCells_one, filF_same (cbcF (m + 1)) m 1 0 (fun i hi => by
        by_cases h : i = 0
        · subst h; exact .inr rfl
        · exact .inl (by omega)), filF_zero]
      simp [ics]
    rw [e1] at hown1
    clear e1 hgrow1
    go_wp2
    go_loopw [5, 6] (fun i _ wr => ∃ k : Nat, 1 ≤ k ∧ k ≤ m ∧ i = .int .i64 k ∧ wr.ownsRow w.heap.size 3 1 (.slice (some ⟨w.heap.size, 0, none⟩) m m) m (ics (filF (cbcF (m + 1)) m k)) ∧ Below w.heap.size w wr) (fun i _ _ => m - (intOf i).toNat)
    case atStart => exact ⟨1, Nat.le_refl _, by omega, rfl, hown1, hb1⟩
    case round =>
      obtain ⟨k, h1, hk, rfl, ho, hb⟩ := hrel
      by_cases hlt : k < m
      · have hll := filF_length (cbcF (m + 1)) m k
        have hcell : wr.cell? ⟨w.heap.size, k, none⟩ = some (.int .i64 ((filF (cbcF (m + 1)) m k).getD k 0)) := by
          rw [ho.cellAt k (by omega), ics_get _ _ (by rw [hll]; exact hlt)]
        have hfro := ho.frozenAt k
        have hst := ho.stored k (.int .i64 ((cbcF (m + 1) k : Nat) : Int))
        rw [ics_set, filF_set] at hst
        obtain ⟨hs1, hs2⟩ := hst
        have hb2 := hb.grown hs2 hb.size (by simp)
        have hcall := Hc.out k h1 hlt wr
        have hrun := Hr.out k h1 hlt
        have e1 : ((2 * m - 2 - k : Nat) : Int) = 2 * ((m : Int) + 1) - 4 - (k : Int) := by omega
        have e2 : ((m - 1 : Nat) : Int) = (m : Int) + 1 - 2 := by omega
        rw [e1, e2] at hcall
        have k1 : (1 : Int) ≤ (k : Int) := by omega
        have k2 : (k : Int) < (m : Int) := by omega
        have m2 : (m : Int) ≤ 11 := by omega
        have Hcall := Lib.hid hcall
        have HS := Lib.hid hs1
        have HB := Lib.hid hb2
        have HR := Lib.hid hrun
        clear ho hs2 hown1 hb1 hll hb hcall hrun e1 e2 hs1 hb2
        generalize (filF (cbcF (m + 1)) m k).getD k 0 = z at *
        generalize ((chI (2 * m - 2 - k) (m - 1) : Nat) : Int) = c at *
        go_wp2_with fail
        refine Hcall.out.mono ?_
        rintro e w1 ⟨rfl, rfl⟩
        rw [← HR.out] at HS HB
        go_wp2
        go_roundw
        case rel => exact ⟨k + 1, by omega, by omega, by go_num, HS.out, HB.out⟩
        case measure => simp [intOf]; omega
      · obtain rfl : k = m := by omega
        have HX := Lib.hid (HE.out _ ho hb)
        clear ho hb hown1 hb1
        have k2 : (k : Int) ≤ 11 := by omega
        go_wp2
        go_ret2
        exact HX.out

theorem WCountByCorner.walk (w : World) (n : Int) (wn : (Lit.int .i64 n).wf = true) :
    Calls Try.prog 5 #[.int .i64 n] w fun e w' => e = .returned (.bool true) ∧ Below w.heap.size w w' :=
  WCountByCorner.core w n (cbcR n) (poB n) (cbcR_length n) (Lib.hid fun w => spec_CountByCorner n w) (Lib.hid fun w => impl_CountByCorner n w)
end Go.Proofs.Ytbebalgleiafdab
