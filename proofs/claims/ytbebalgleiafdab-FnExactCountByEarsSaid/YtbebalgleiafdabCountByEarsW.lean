/- CountByEars: the model's and the program's contract, and the law's walk. -/
import Derived.Test.YtbebalgleiafdabCntT
import Derived.Test.YtbebalgleiafdabCountByEarsC
import Derived.Test.YtbebalgleiafdabTriJ
import Derived.Deep.QuietTactic
import Derived.BigQuiet
namespace Go.Proofs.Ytbebalgleiafdab
set_option linter.unusedVariables false
open Go.RowKit

def cbeR (n : Int) : List Int := if poB n = true then cbeL n.toNat else []
theorem cbeR_no {n : Int} (h : poB n = false) : cbeR n = [] := by simp [cbeR, h]
theorem cbeR_three : cbeR 3 = [0, 0, 0, 1] := by decide +kernel
theorem cbeR_yes {n : Nat} (h : poB n = true) (h3 : n ≠ 3) : cbeR n = filF (cbeF n) (n + 1) (n + 1) := by
  unfold cbeR cbeL
  rw [if_pos h, Int.toNat_natCast, if_neg h3]
theorem cbeR_length (n : Int) : (cbeR n).length ≤ 1000000000 := by
  cases h : poB n
  · rw [cbeR_no h]; simp
  · have hn := poB_iff.1 h
    obtain ⟨m, rfl⟩ := Int.eq_ofNat_of_zero_le (show 0 ≤ n by omega)
    by_cases h3 : m = 3
    · subst h3
      show (cbeR 3).length ≤ _
      rw [cbeR_three]; simp
    · rw [cbeR_yes h h3, filF_length]; omega
theorem cbeE_no {n : Int} {w : World} (h : poB n = false) : RetI w (cbeR n) (poB n) (.returned (.tuple #[.slice none 0 0, .bool false])) w := by
  rw [cbeR_no h, h]
  exact ⟨none, 0, rfl, World.ownsRow_nil _ _ _ _, Below.refl _ _⟩
theorem cbeE_yes {n : Nat} {w w' : World} (h : poB n = true) (h3 : n ≠ 3) (ho : w'.ownsRow w.heap.size 3 1 (.slice (some ⟨w.heap.size, 0, none⟩) (n + 1) (n + 1)) (n + 1) (ics (filF (cbeF n) (n + 1) (n + 1)))) (hb : Below w.heap.size w w') :
    RetI w (cbeR n) (poB n) (.returned (.tuple #[.slice (some ⟨w.heap.size, 0, none⟩) (n + 1) (n + 1), .bool true])) w' := by
  rw [cbeR_yes h h3, h]
  exact ⟨some ⟨w.heap.size, 0, none⟩, n + 1, by rw [filF_length], by rw [filF_length]; exact ho, hb⟩
theorem cbeE_three {w w' : World} (ho : w'.ownsRow w.heap.size 3 1 (.slice (some ⟨w.heap.size, 0, none⟩) 4 4) 4 (ics [0, 0, 0, 1])) (hb : Below w.heap.size w w') :
    RetI w (cbeR 3) true (.returned (.tuple #[.slice (some ⟨w.heap.size, 0, none⟩) 4 4, .bool true])) w' := by
  rw [cbeR_three]
  exact ⟨some ⟨w.heap.size, 0, none⟩, 4, rfl, ho, hb⟩

theorem i64ok (x : Int) (h : -9000000000000000000 ≤ x ∧ x ≤ 9000000000000000000) : IntKind.i64.wrap x = x := IntWalk.i64_in _ (by omega)
theorem i64n (x : Nat) (h : x ≤ 9000000000000000000) : IntKind.i64.wrap (x : Int) = (x : Int) := i64ok _ (by omega)
theorem wrapN (x : Nat) (h : x ≤ 9000000000000000000) : wrap64 (x : Int) = (x : Int) := wrap_ok _ (by omega)
theorem cbe_run {n k : Nat} (h2 : 2 ≤ k) (hk : 2 * k ≤ n) (hn : n ≤ 12) : wrap64 ((wrap64 (wrap64 (wrap64 ((n : Int) * wrap64 (2 ^ (n - 2 * k))) * ((chI (n - 4) (2 * k - 4) : Nat) : Int)) * ((cntT k : Nat) : Int))).tdiv (k : Int)) = ((cbeF n k : Nat) : Int) := by
  have hb := cbeP_bd hn h2 hk
  have hc := cntT_bd (n := k) (by omega)
  have hp : 2 ^ (n - 2 * k) ≤ 2 ^ 12 := Nat.pow_le_pow_right (by omega) (by omega)
  have hn1 : n * 2 ^ (n - 2 * k) ≤ 12 * 2 ^ 12 := Nat.mul_le_mul hn hp
  have hm := mul_bd hb hc
  have e : ((2 : Int) ^ (n - 2 * k)) = ((2 ^ (n - 2 * k) : Nat) : Int) := by simp
  rw [e, wrapN _ (by omega), ← Int.natCast_mul, wrapN _ (by omega), ← Int.natCast_mul]
  rw [show n * 2 ^ (n - 2 * k) * chI (n - 4) (2 * k - 4) = cbeP n k from rfl, wrapN (cbeP n k) (by omega)]
  have hpk : wrap64 (((cbeP n k : Nat) : Int) * ((cntT k : Nat) : Int)) = ((cbeP n k : Nat) : Int) * ((cntT k : Nat) : Int) := wrap_ok _ (by have := hm; rw [← Int.natCast_mul]; omega)
  rw [hpk]
  have := step_div (p := cbeP n k) (s := cntT k) (d := k) (r := cbeF n k) (by omega) (by unfold cbeF; rw [if_pos ⟨h2, hk⟩]) (a := ((cntT k : Nat) : Int)) (e := (k : Int)) rfl rfl
  rw [hpk] at this
  have h3 : cbeF n k ≤ cbeP n k * cntT k := by
    unfold cbeF
    rw [if_pos ⟨h2, hk⟩]
    exact Nat.div_le_self _ _
  exact this
theorem three_cell {w : World} {base g c : Nat} (h : w.ownsRow base 3 1 (.slice (some ⟨g, 0, none⟩) 4 c) 4 (ics [0, 0, 0, 0])) : w.cell? ⟨g, 3, none⟩ = some (.int .i64 0) := by
  rw [h.cellAt 3 (by omega)]; rfl
set_option maxRecDepth 100000 in
set_option maxHeartbeats 3200000 in
theorem spec_CountByEars_three (w : World) : Calls Try.prog 13 #[.int .i64 3] w (RetI w (cbeR 3) true) := by
  have HE := Lib.hid (fun w' ho hb => cbeE_three (w := w) (w' := w') ho hb)
  obtain ⟨i0, hi, hz0, hz1, hz2⟩ := info_parts infoI
  have hbytes : i0.bytes * 4 ≤ 281474976710656 := by rw [hz2]; omega
  have hmax : 4 ≤ maxLen := by unfold maxLen; omega
  have e1 : (madeCells (Value.int .i64 0).cells (4 * 1)).toList = ics [0, 0, 0, 0] := by
    rw [Nat.mul_one]
    show (madeCells #[Value.int .i64 0] 4).toList = _
    rw [toList_madeCells_one]; rfl
  go_enter Try.func13, Try.ntmps13
  go_wp2_with fail
  refine (spec_poIs _ true _ rfl).mono ?_
  rintro e w1 ⟨rfl, rfl⟩
  go_wp2_with (at_make; refine wpList_make_full _ rfl _ _ _ rfl w.heap.size 3 i0 (.int .i64 0) 1 Try.underlying25 hi hz0 hz1 _ _ _ _ 4 rfl rfl rfl rfl hbytes hmax (Nat.le_refl _) ?_; intro w1 hown1 hgrow1; rw [e1] at hown1; have hcell : w1.cell? ⟨w.heap.size, 3, none⟩ = some (.int .i64 0) := three_cell hown1; have hfro := hown1.frozenAt 3)
  have hb1 : Below w.heap.size w w1 := (Below.refl _ _).grown hgrow1 (Nat.le_refl _) (by simp)
  have hst := hown1.stored 3 (.int .i64 1)
  rw [ics_set] at hst
  obtain ⟨hs1, hs2⟩ := hst
  have hb2 := hb1.grown hs2 hb1.size (by simp)
  have HX := Lib.hid (HE.out _ hs1 hb2)
  clear hown1 hgrow1 hb1 hs1 hs2 hb2 e1
  go_wp2
  go_ret2
  exact HX.out

set_option maxRecDepth 100000 in
set_option maxHeartbeats 3200000 in
theorem spec_CountByEars (n : Int) (w : World) : Calls Try.prog 13 #[.int .i64 n] w (RetI w (cbeR n) (poB n)) := by
  cases hp : poB n
  · have HE := Lib.hid (cbeE_no (w := w) hp)
    rw [hp] at HE
    go_enter Try.func13, Try.ntmps13
    go_wp2_with fail
    refine (spec_poIs _ _ _ hp).mono ?_
    rintro e w1 ⟨rfl, rfl⟩
    go_wp2
    go_ret2
    exact HE.out
  · have hn := poB_iff.1 hp
    obtain ⟨m, rfl⟩ := Int.eq_ofNat_of_zero_le (show 0 ≤ n by omega)
    by_cases h3 : m = 3
    · subst h3; exact spec_CountByEars_three w
    have m4 : (4 : Int) ≤ (m : Int) := by omega
    have m12 : (m : Int) ≤ 12 := by omega
    have hx3 : ((m : Int) == 3) = false := by simp; omega
    have HE := Lib.hid (fun w' ho hb => cbeE_yes (w := w) (w' := w') hp h3 ho hb)
    rw [hp] at HE
    have Hc := Lib.hid (fun (k : Nat) (h2 : 2 ≤ k) (hk : 2 * k ≤ m) (w : World) => spec_caChoose (m - 4) (2 * k - 4) w (by omega) (by omega))
    have Hn := Lib.hid (fun (k : Nat) (h2 : 2 ≤ k) (hk : 2 * k ≤ m) (w : World) => spec_caCount k w h2 (by omega))
    obtain ⟨i0, hi, hz0, hz1, hz2⟩ := info_parts infoI
    have hbytes : i0.bytes * (m + 1) ≤ 281474976710656 := by rw [hz2]; omega
    have hmax : m + 1 ≤ maxLen := by unfold maxLen; omega
    clear hn
    go_enter Try.func13, Try.ntmps13
    go_wp2_with fail
    refine (spec_poIs _ _ _ hp).mono ?_
    rintro e w1 ⟨rfl, rfl⟩
    go_wp2_with (at_make; refine wpList_make_full _ rfl _ _ _ rfl w.heap.size 3 i0 (.int .i64 0) 1 Try.underlying25 hi hz0 hz1 _ _ _ _ (m + 1) rfl rfl rfl rfl hbytes hmax (Nat.le_refl _) ?_; intro w1 hown1 hgrow1)
    have hb1 : Below w.heap.size w w1 := (Below.refl _ _).grown hgrow1 (Nat.le_refl _) (by simp)
    have e1 : (madeCells (Value.int .i64 0).cells ((m + 1) * 1)).toList = ics (filF (cbeF m) (m + 1) 2) := by
      rw [Nat.mul_one]
      show (madeCells #[Value.int .i64 0] (m + 1)).toList = _
      rw [toList_madeCells_one, filF_same (cbeF m) (m + 1) 2 0 (fun i hi => by
        by_cases h : i < 2
        · exact .inr (by unfold cbeF; rw [if_neg (by omega)])
        · exact .inl (by omega)), filF_zero]
      simp [ics]
    rw [e1] at hown1
    clear e1 hgrow1
    go_wp2
    go_loopw [5] (fun i wr => ∃ k : Nat, 2 ≤ k ∧ k ≤ m ∧ i = .int .i64 k ∧ wr.ownsRow w.heap.size 3 1 (.slice (some ⟨w.heap.size, 0, none⟩) (m + 1) (m + 1)) (m + 1) (ics (filF (cbeF m) (m + 1) k)) ∧ Below w.heap.size w wr) (fun i _ => m - (intOf i).toNat)
    case atStart => exact ⟨2, Nat.le_refl _, by omega, rfl, hown1, hb1⟩
    case round =>
      obtain ⟨k, h2, hk, rfl, ho, hb⟩ := hrel
      by_cases hlt : 2 * k ≤ m
      · have hll := filF_length (cbeF m) (m + 1) k
        have hcell : wr.cell? ⟨w.heap.size, k, none⟩ = some (.int .i64 ((filF (cbeF m) (m + 1) k).getD k 0)) := by
          rw [ho.cellAt k (by omega), ics_get _ _ (by rw [hll]; omega)]
        have hfro := ho.frozenAt k
        have hst := ho.stored k (.int .i64 ((cbeF m k : Nat) : Int))
        rw [ics_set, filF_set] at hst
        obtain ⟨hs1, hs2⟩ := hst
        have hb2 := hb.grown hs2 hb.size (by simp)
        have hcall := fun wr => Hc.out k h2 hlt wr
        have hcnt := fun wr => Hn.out k h2 hlt wr
        have e1 : ((m - 4 : Nat) : Int) = (m : Int) - 4 := by omega
        have e2 : ((2 * k - 4 : Nat) : Int) = 2 * (k : Int) - 4 := by omega
        rw [e1, e2] at hcall
        have k1 : (2 : Int) ≤ (k : Int) := by omega
        have k2 : (k : Int) < (m : Int) + 1 := by omega
        have k3 : 2 * (k : Int) ≤ (m : Int) := by omega
        have k4 : (0 : Int) ≤ (m : Int) - 2 * (k : Int) := by omega
        have Hcall := Lib.hid hcall
        have Hcnt := Lib.hid hcnt
        have HS := Lib.hid hs1
        have HB := Lib.hid hb2
        clear ho hs2 hown1 hb1 hll hb hcall hcnt e1 e2 hs1 hb2
        have hrun := cbe_run h2 hlt (by omega)
        have HR := Lib.hid hrun
        clear hrun
        have hw1 : IntKind.i64.wrap (2 * (k : Int)) = 2 * (k : Int) := i64ok _ (by omega)
        have hw2 : IntKind.i64.wrap ((m : Int) - 2 * (k : Int)) = (m : Int) - 2 * (k : Int) := i64ok _ (by omega)
        have hw3 : IntKind.i64.wrap ((m : Int) - 4) = (m : Int) - 4 := i64ok _ (by omega)
        have hw4 : IntKind.i64.wrap (2 * (k : Int) - 4) = 2 * (k : Int) - 4 := i64ok _ (by omega)
        have kz : ¬ (k : Int) = 0 := by omega
        generalize (filF (cbeF m) (m + 1) k).getD k 0 = z at *
        generalize ((chI (m - 4) (2 * k - 4) : Nat) : Int) = c at *
        generalize ((cntT k : Nat) : Int) = d at *
        generalize ((cbeF m k : Nat) : Int) = res at *
        rw [← HR.out] at HS HB
        go_wp2
        go_region_with (first
          | (go_at_call 43; refine (Hcall.out _).mono ?_; rintro e w1 ⟨rfl, rfl⟩)
          | (go_at_call 40; refine (Hcnt.out _).mono ?_; rintro e w1 ⟨rfl, rfl⟩))
        all_goals
          go_wp2
          go_roundw
          case rel => exact ⟨k + 1, by omega, by omega, by go_num, HS.out, (HB.out).drew⟩
          case measure => simp [intOf]; omega
      · have he : filF (cbeF m) (m + 1) k = filF (cbeF m) (m + 1) (m + 1) := filF_same _ _ _ _ (fun i hi => by
          by_cases h : i < k
          · exact .inl (by omega)
          · exact .inr (by unfold cbeF; rw [if_neg (by omega)]))
        rw [he] at ho
        have HX := Lib.hid (HE.out _ ho hb)
        clear ho hb hown1 hb1 he
        have k3 : ¬ 2 * (k : Int) ≤ (m : Int) := by omega
        have k2 : (k : Int) ≤ 12 := by omega
        go_wp2
        go_ret2
        exact HX.out
set_option maxRecDepth 100000 in
set_option maxHeartbeats 3200000 in
theorem impl_CountByEars_three (w : World) : Calls Try.prog 14 #[.int .i64 3] w (RetI w (cbeR 3) true) := by
  have HE := Lib.hid (fun w' ho hb => cbeE_three (w := w) (w' := w') ho hb)
  obtain ⟨i0, hi, hz0, hz1, hz2⟩ := info_parts infoI
  have hbytes : i0.bytes * 4 ≤ 281474976710656 := by rw [hz2]; omega
  have hmax : 4 ≤ maxLen := by unfold maxLen; omega
  have e1 : (madeCells (Value.int .i64 0).cells (4 * 1)).toList = ics [0, 0, 0, 0] := by
    rw [Nat.mul_one]
    show (madeCells #[Value.int .i64 0] 4).toList = _
    rw [toList_madeCells_one]; rfl
  go_enter Try.func14, Try.ntmps14
  go_wp2_with fail
  refine (impl_isPolygon _ true _ rfl).mono ?_
  rintro e w1 ⟨rfl, rfl⟩
  go_wp2_with (at_make; refine wpList_make_full _ rfl _ _ _ rfl w.heap.size 3 i0 (.int .i64 0) 1 Try.underlying25 hi hz0 hz1 _ _ _ _ 4 rfl rfl rfl rfl hbytes hmax (Nat.le_refl _) ?_; intro w1 hown1 hgrow1; rw [e1] at hown1; have hcell : w1.cell? ⟨w.heap.size, 3, none⟩ = some (.int .i64 0) := three_cell hown1; have hfro := hown1.frozenAt 3)
  have hb1 : Below w.heap.size w w1 := (Below.refl _ _).grown hgrow1 (Nat.le_refl _) (by simp)
  have hst := hown1.stored 3 (.int .i64 1)
  rw [ics_set] at hst
  obtain ⟨hs1, hs2⟩ := hst
  have hb2 := hb1.grown hs2 hb1.size (by simp)
  have HX := Lib.hid (HE.out _ hs1 hb2)
  clear hown1 hgrow1 hb1 hs1 hs2 hb2 e1
  go_wp2
  refine wp_loop_rounds 1 ?_
  rw [rounds_succ]
  go_wp2
  go_ret2
  exact HX.out

set_option maxRecDepth 100000 in
set_option maxHeartbeats 3200000 in
theorem impl_CountByEars (n : Int) (w : World) : Calls Try.prog 14 #[.int .i64 n] w (RetI w (cbeR n) (poB n)) := by
  cases hp : poB n
  · have HE := Lib.hid (cbeE_no (w := w) hp)
    rw [hp] at HE
    go_enter Try.func14, Try.ntmps14
    go_wp2_with fail
    refine (impl_isPolygon _ _ _ hp).mono ?_
    rintro e w1 ⟨rfl, rfl⟩
    go_wp2
    go_ret2
    exact HE.out
  · have hn := poB_iff.1 hp
    obtain ⟨m, rfl⟩ := Int.eq_ofNat_of_zero_le (show 0 ≤ n by omega)
    by_cases h3 : m = 3
    · subst h3; exact impl_CountByEars_three w
    have m4 : (4 : Int) ≤ (m : Int) := by omega
    have m12 : (m : Int) ≤ 12 := by omega
    have hx3 : ((m : Int) == 3) = false := by simp; omega
    have HE := Lib.hid (fun w' ho hb => cbeE_yes (w := w) (w' := w') hp h3 ho hb)
    rw [hp] at HE
    have Hc := Lib.hid (fun (k : Nat) (h2 : 2 ≤ k) (hk : 2 * k ≤ m) (w : World) => impl_waysToChoose (2 * k - 4) (m - 4) w (by omega) (by omega))
    have Hn := Lib.hid (fun (k : Nat) (h2 : 2 ≤ k) (hk : 2 * k ≤ m) (w : World) => impl_countTriangulations k w h2 (by omega))
    obtain ⟨i0, hi, hz0, hz1, hz2⟩ := info_parts infoI
    have hbytes : i0.bytes * (m + 1) ≤ 281474976710656 := by rw [hz2]; omega
    have hmax : m + 1 ≤ maxLen := by unfold maxLen; omega
    clear hn
    go_enter Try.func14, Try.ntmps14
    go_wp2_with fail
    refine (impl_isPolygon _ _ _ hp).mono ?_
    rintro e w1 ⟨rfl, rfl⟩
    go_wp2_with (at_make; refine wpList_make_full _ rfl _ _ _ rfl w.heap.size 3 i0 (.int .i64 0) 1 Try.underlying25 hi hz0 hz1 _ _ _ _ (m + 1) rfl rfl rfl rfl hbytes hmax (Nat.le_refl _) ?_; intro w1 hown1 hgrow1)
    have hb1 : Below w.heap.size w w1 := (Below.refl _ _).grown hgrow1 (Nat.le_refl _) (by simp)
    have e1 : (madeCells (Value.int .i64 0).cells ((m + 1) * 1)).toList = ics (filF (cbeF m) (m + 1) 2) := by
      rw [Nat.mul_one]
      show (madeCells #[Value.int .i64 0] (m + 1)).toList = _
      rw [toList_madeCells_one, filF_same (cbeF m) (m + 1) 2 0 (fun i hi => by
        by_cases h : i < 2
        · exact .inr (by unfold cbeF; rw [if_neg (by omega)])
        · exact .inl (by omega)), filF_zero]
      simp [ics]
    rw [e1] at hown1
    clear e1 hgrow1
    go_wp2
    go_loopw [5] (fun i wr => ∃ k : Nat, 2 ≤ k ∧ k ≤ m ∧ i = .int .i64 k ∧ wr.ownsRow w.heap.size 3 1 (.slice (some ⟨w.heap.size, 0, none⟩) (m + 1) (m + 1)) (m + 1) (ics (filF (cbeF m) (m + 1) k)) ∧ Below w.heap.size w wr) (fun i _ => m - (intOf i).toNat)
    case atStart => exact ⟨2, Nat.le_refl _, by omega, rfl, hown1, hb1⟩
    case round =>
      obtain ⟨k, h2, hk, rfl, ho, hb⟩ := hrel
      by_cases hlt : 2 * k ≤ m
      · have hll := filF_length (cbeF m) (m + 1) k
        have hcell : wr.cell? ⟨w.heap.size, k, none⟩ = some (.int .i64 ((filF (cbeF m) (m + 1) k).getD k 0)) := by
          rw [ho.cellAt k (by omega), ics_get _ _ (by rw [hll]; omega)]
        have hfro := ho.frozenAt k
        have hst := ho.stored k (.int .i64 ((cbeF m k : Nat) : Int))
        rw [ics_set, filF_set] at hst
        obtain ⟨hs1, hs2⟩ := hst
        have hb2 := hb.grown hs2 hb.size (by simp)
        have hcall := fun wr => Hc.out k h2 hlt wr
        have hcnt := fun wr => Hn.out k h2 hlt wr
        have e1 : ((m - 4 : Nat) : Int) = (m : Int) - 4 := by omega
        have e2 : ((2 * k - 4 : Nat) : Int) = 2 * (k : Int) - 4 := by omega
        rw [e1, e2] at hcall
        have k1 : (2 : Int) ≤ (k : Int) := by omega
        have k2 : (k : Int) < (m : Int) + 1 := by omega
        have k3 : (k : Int) ≤ (m : Int).tdiv 2 := by rw [Int.tdiv_eq_ediv_of_nonneg (by omega)]; omega
        have k5 : 2 * (k : Int) ≤ (m : Int) := by omega
        have k4 : (0 : Int) ≤ (m : Int) - 2 * (k : Int) := by omega
        have Hcall := Lib.hid hcall
        have Hcnt := Lib.hid hcnt
        have HS := Lib.hid hs1
        have HB := Lib.hid hb2
        clear ho hs2 hown1 hb1 hll hb hcall hcnt e1 e2 hs1 hb2
        have hrun := cbe_run h2 hlt (by omega)
        have HR := Lib.hid hrun
        clear hrun
        have hw1 : IntKind.i64.wrap (2 * (k : Int)) = 2 * (k : Int) := i64ok _ (by omega)
        have hw2 : IntKind.i64.wrap ((m : Int) - 2 * (k : Int)) = (m : Int) - 2 * (k : Int) := i64ok _ (by omega)
        have hw3 : IntKind.i64.wrap ((m : Int) - 4) = (m : Int) - 4 := i64ok _ (by omega)
        have hw4 : IntKind.i64.wrap (2 * (k : Int) - 4) = 2 * (k : Int) - 4 := i64ok _ (by omega)
        have kz : ¬ (k : Int) = 0 := by omega
        generalize (filF (cbeF m) (m + 1) k).getD k 0 = z at *
        generalize ((chI (m - 4) (2 * k - 4) : Nat) : Int) = c at *
        generalize ((cntT k : Nat) : Int) = d at *
        generalize ((cbeF m k : Nat) : Int) = res at *
        rw [← HR.out] at HS HB
        go_wp2
        go_region_with (first
          | (go_at_call 44; refine (Hcall.out _).mono ?_; rintro e w1 ⟨rfl, rfl⟩)
          | (go_at_call 42; refine (Hcnt.out _).mono ?_; rintro e w1 ⟨rfl, rfl⟩))
        all_goals
          go_wp2
          go_roundw
          case rel => exact ⟨k + 1, by omega, by omega, by go_num, HS.out, (HB.out).drew⟩
          case measure => simp [intOf]; omega
      · have he : filF (cbeF m) (m + 1) k = filF (cbeF m) (m + 1) (m + 1) := filF_same _ _ _ _ (fun i hi => by
          by_cases h : i < k
          · exact .inl (by omega)
          · exact .inr (by unfold cbeF; rw [if_neg (by omega)]))
        rw [he] at ho
        have HX := Lib.hid (HE.out _ ho hb)
        clear ho hb hown1 hb1 he
        have k3 : ¬ (k : Int) ≤ (m : Int).tdiv 2 := by rw [Int.tdiv_eq_ediv_of_nonneg (by omega)]; omega
        have k2 : (k : Int) ≤ 12 := by omega
        go_wp2
        go_ret2
        exact HX.out

theorem WCountByEars.walk (w : World) (n : Int) (wn : (Lit.int .i64 n).wf = true) :
    Calls Try.prog 4 #[.int .i64 n] w fun e w' => e = .returned (.bool true) ∧ Below w.heap.size w w' :=
  WCountByEars.core w n (cbeR n) (poB n) (cbeR_length n) (Lib.hid fun w => spec_CountByEars n w) (Lib.hid fun w => impl_CountByEars n w)
end Go.Proofs.Ytbebalgleiafdab
