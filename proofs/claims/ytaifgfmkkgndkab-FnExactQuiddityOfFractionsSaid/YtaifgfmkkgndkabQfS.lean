/- The model's quiddity of a polygon of fractions. -/
import Derived.Test.YtaifgfmkkgndkabQfM
import Derived.BigRegion
namespace Go.Proofs.Ytaifgfmkkgndkab
set_option linter.unusedVariables false
open Go.RowKit

/-- the list that the model fills: 0 ahead -/
def qf0 (l : List (Int × Int)) : List Int := 0 :: qfL l (l.length - 1)
theorem qf0_length {l : List (Int × Int)} (h : 1 ≤ l.length) : (qf0 l).length = l.length := by unfold qf0; rw [List.length_cons, qfL_length]; omega
theorem qf0_set (l : List (Int × Int)) : (qf0 l).set 0 (l.getD (l.length - 2) (0, 0)).1 = qf l := rfl
theorem qf0_copy {l : List (Int × Int)} (h : 1 ≤ l.length) : copyI (qf0 l) 1 = copyI (qf0 l) 0 := by
  have h0 := copyI_succ (qf0 l) 0 (by rw [qf0_length h]; omega)
  rw [← h0, copyI_zero, qf0_length h]
  obtain ⟨n, hn⟩ : ∃ n, l.length = n + 1 := ⟨l.length - 1, by omega⟩
  rw [hn, List.replicate_succ]
  rfl
theorem below_grownI {B : Nat} {w0 w w' : World} {g : Nat} (h : Below B w0 w) (hg : w.grownBy w' (some g)) (hB : B ≤ w0.heap.size) (hr : B ≤ g) : Below B w0 w' := below_grown h hg hB (fun k hk => by injection hk with hk; omega)

set_option maxRecDepth 100000 in
set_option maxHeartbeats 3200000 in
theorem spec_nbQuiddity (A : Option Addr) (c B : Nat) (l : List (Int × Int)) (w : World) (h : SlD w B A l) (hB : B ≤ w.heap.size) (hp : polB l = true) :
    Calls Try.prog 65 #[.slice A l.length c] w (GivI w (qf l)) := by
  obtain ⟨⟨n3, n12⟩, _⟩ := polB_iff.1 hp
  obtain ⟨i0, hi, hz0, hz1, hz2⟩ := info_parts infoI
  have hbytes : i0.bytes * l.length ≤ 281474976710656 := by rw [hz2]; omega
  have hmax : l.length ≤ maxLen := by unfold maxLen; omega
  have Hp := Lib.hid hp
  have H := Lib.hid h
  clear hp h
  go_enter Try.func65, Try.ntmps65
  go_wp2_with (at_make; refine wpList_make_full _ rfl _ _ _ rfl w.heap.size 3 i0 (.int .i64 0) 1 Try.underlying38 hi hz0 hz1 _ _ _ _ l.length rfl rfl rfl rfl hbytes hmax (Nat.le_refl _) ?_; intro w1 hown1 hgrow1)
  have hb1 : Below w.heap.size w w1 := (Below.refl _ _).grown hgrow1 (Nat.le_refl _) (by simp)
  have e1 : (madeCells (Value.int .i64 0).cells (l.length * 1)).toList = ics (copyI (qf0 l) 1) := by
    rw [qf0_copy (by omega), copyI_zero, Nat.mul_one, qf0_length (by omega)]
    show (madeCells #[Value.int .i64 0] l.length).toList = _
    rw [toList_madeCells_one]
    simp [ics]
  rw [e1] at hown1
  have Ho1 := Lib.hid hown1
  have Hb1 := Lib.hid hb1
  clear e1 hgrow1 hown1 hb1 hbytes hmax hz0 hz1 hz2 hi
  go_wp2
  go_loopw [5, 6, 7] (fun s i _ wr => ∃ k : Nat, k + 1 ≤ l.length ∧ i = .int .i64 k ∧ s = .int .i64 (qfL l k).sum ∧ wr.ownsRow w.heap.size 3 1 (.slice (some ⟨w.heap.size, 0, none⟩) l.length l.length) l.length (ics (copyI (qf0 l) (k + 1))) ∧ Below w.heap.size w wr) (fun _ i _ _ => l.length - (intOf i).toNat)
  case atStart => exact ⟨0, by omega, rfl, by simp [qfL], Ho1.out, Hb1.out⟩
  case round =>
    clear Ho1 Hb1
    obtain ⟨k, hk, rfl, rfl, ho, hb⟩ := hrel
    have hA := H.out.below (hb.mono hB)
    obtain ⟨b, off, rfl, hbB, hc⟩ := hA (by omega)
    have sb := qfL_sum_bd Hp.out k (by omega)
    have hq0 := qf0_length (l := l) (by omega)
    by_cases hlt : k + 1 < l.length
    · obtain ⟨y1, ⟨x0, x1⟩, hq, z0, z1⟩ := qf_step Hp.out hlt
      have b3 := (pol_bd Hp.out (k + 1)).2
      have b2 := (pol_bd Hp.out k).2
      obtain ⟨p0, p1⟩ := hc k (by omega)
      obtain ⟨q0, q1⟩ := hc (k + 1) (by omega)
      have hcell : wr.cell? ⟨w.heap.size, k + 1, none⟩ = some (.int .i64 ((copyI (qf0 l) (k + 1)).getD (k + 1) 0)) := by
        rw [ho.cellAt (k + 1) (by omega), ics_get _ _ (by rw [copyI_length _ _ (by omega)]; omega)]
      have hfro := ho.frozenAt (k + 1)
      have hst := ho.stored (k + 1) (.int .i64 (qfc l k))
      have hcs := copyI_succ (qf0 l) (k + 1) (by omega)
      have hg0 : (qf0 l).getD (k + 1) 0 = qfc l k := by unfold qf0; rw [List.getD_cons_succ, qfL_get l (by omega)]
      rw [hg0] at hcs
      rw [ics_set, hcs] at hst
      obtain ⟨hs1, hs2⟩ := hst
      have hs3 := below_grownI hb hs2 (Nat.le_refl _) (Nat.le_refl _)
      have hss := qfL_sum_succ l k
      have i0 : (0 : Int) ≤ (k : Int) := by omega
      have i1 : (k : Int) + 1 < (l.length : Int) := by omega
      have i2 : (k : Int) < (l.length : Int) := by omega
      have i3 : ((k : Int) + 1).toNat = k + 1 := by omega
      have i4 : IntKind.i64.wrap ((k : Int) + 1) = (k : Int) + 1 := IntWalk.i64_in _ (by omega)
      have i5 : (0 : Int) ≤ (k : Int) + 1 := by omega
      have hbw : b < wr.heap.size := World.block_lt_of_cell? wr _ p0
      have hbne : b ≠ w.heap.size := by omega
      have Hs1 := Lib.hid hs1
      have Hs3 := Lib.hid hs3
      have Hss := Lib.hid hss
      have Hcq := Lib.hid (show (wr.setCell ⟨w.heap.size, k + 1, none⟩ (.int .i64 (qfc l k))).cell? ⟨w.heap.size, k + 1, none⟩ = some (.int .i64 (qfc l k)) by simp [go_sem, hcell])
      have hyp : (k = 0 ∧ (((-1, 0) :: l).getD k (0, 0) : Int × Int).2 = 0) ∨ (1 ≤ k ∧ (((-1, 0) :: l).getD k (0, 0) : Int × Int).2 = (l.getD (k - 1) (0, 0)).2) := by
        cases k with
        | zero => exact .inl ⟨rfl, rfl⟩
        | succ j => exact .inr ⟨by omega, rfl⟩
      have hc1 := hc (k - 1) (by omega)
      clear hss hs1 hs2 hs3 ho hb hA hc hg0 hcs
      generalize ((-1, 0) :: l).getD k (0, 0) = X at *
      generalize (l.getD k (0, 0)).2 = y at *
      generalize (l.getD (k + 1) (0, 0)).2 = z at *
      generalize (copyI (qf0 l) (k + 1)).getD (k + 1) 0 = old at *
      generalize (l.getD k (0, 0)).1 = y0 at *
      generalize (l.getD (k + 1) (0, 0)).1 = z0' at *
      generalize hS : (qfL l k).sum = S at *
      generalize qfc l k = q at *
      have HS := Lib.hid hS
      clear hS
      rcases hyp with ⟨hk0, hX⟩ | ⟨hk0, hX⟩
      · have hkz : ¬ (0 : Int) < (k : Int) := by omega
        rw [hX, Int.zero_add] at hq
        clear hX hk0 hc1 x0 x1
        have w1' : IntKind.i64.wrap (z) = z := IntWalk.i64_in _ (by omega)
        have w2' : (z).tdiv y = q := by rw [Int.tdiv_eq_ediv_of_nonneg (by omega)]; exact hq
        have w3' : ¬ y = 0 := by omega
        have w4' : (y == 0) = false := by simpa using w3'
        have w5' : IntKind.i64.wrap q = q := IntWalk.i64_in _ (by omega)
        have w6' : IntKind.i64.wrap (S + q) = S + q := IntWalk.i64_in _ (by omega)
        have w7' : (0 : Int) ≤ z := by omega
        go_upto_region 10 with fail
        go_wp2
        go_big_region
        clear hcell hfro hq w1' w2' w3' w4' w5' p0 p1 q0 q1
        have hcell2 : (wr.setCell ⟨w.heap.size, k + 1, none⟩ (.int .i64 q)).cell? ⟨w.heap.size, k + 1, none⟩ = some (.int .i64 q) := Hcq.out
        go_wp2
        go_roundw
        case rel => exact ⟨k + 1, by omega, by go_num, by rw [Hss.out], Hs1.out, Hs3.out.drew⟩
        case measure => simp [intOf]; omega
      · have hkz : (0 : Int) < (k : Int) := by omega
        rw [hX] at hq x0 x1
        obtain ⟨_, r1⟩ := hc1
        have j0 : (0 : Int) ≤ (k : Int) - 1 := by omega
        have j1 : (k : Int) - 1 < (l.length : Int) := by omega
        have j3 : ((k : Int) - 1).toNat = k - 1 := by omega
        have j4 : IntKind.i64.wrap ((k : Int) - 1) = (k : Int) - 1 := IntWalk.i64_in _ (by omega)
        have j5 : (1 : Int) ≤ (k : Int) := by omega
        clear hX hk0
        generalize (l.getD (k - 1) (0, 0)).2 = x at *
        have w1' : IntKind.i64.wrap (x + z) = x + z := IntWalk.i64_in _ (by omega)
        have w2' : (x + z).tdiv y = q := by rw [Int.tdiv_eq_ediv_of_nonneg (by omega)]; exact hq
        have w3' : ¬ y = 0 := by omega
        have w4' : (y == 0) = false := by simpa using w3'
        have w5' : IntKind.i64.wrap q = q := IntWalk.i64_in _ (by omega)
        have w6' : IntKind.i64.wrap (S + q) = S + q := IntWalk.i64_in _ (by omega)
        have w7' : (0 : Int) ≤ x + z := by omega
        go_upto_region 10 with fail
        go_wp2
        go_big_region
        clear hcell hfro hq w1' w2' w3' w4' w5' p0 p1 q0 q1
        have hcell2 : (wr.setCell ⟨w.heap.size, k + 1, none⟩ (.int .i64 q)).cell? ⟨w.heap.size, k + 1, none⟩ = some (.int .i64 q) := Hcq.out
        go_wp2
        go_roundw
        case rel => exact ⟨k + 1, by omega, by go_num, by rw [Hss.out], Hs1.out, Hs3.out.drew⟩
        case measure => simp [intOf]; omega
    · obtain rfl : k = l.length - 1 := by omega
      have hsum := qf_sum Hp.out
      have hset := qf0_set l
      have hall : copyI (qf0 l) (l.length - 1 + 1) = qf0 l := by
        rw [show l.length - 1 + 1 = (qf0 l).length by omega]
        exact copyI_all _
      rw [hall] at ho
      have hcell : wr.cell? ⟨w.heap.size, 0, none⟩ = some (.int .i64 ((qf0 l).getD 0 0)) := by
        have h := ho.cellAt 0 (by omega)
        rw [h, ics_get _ _ (by omega)]
      have hfro := ho.frozenAt 0
      have hst := ho.stored 0 (.int .i64 (l.getD (l.length - 2) (0, 0)).1)
      rw [ics_set, hset] at hst
      obtain ⟨hs1, hs2⟩ := hst
      have hs3 := below_grownI hb hs2 (Nat.le_refl _) (Nat.le_refl _)
      have hql := qf_length (l := l) (by omega)
      have HE := Lib.hid (show GivI w (qf l) (.returned (.slice (some ⟨w.heap.size, 0, none⟩) (qf l).length l.length)) _ from ⟨_, _, rfl, by rw [hql]; exact hs1, hs3⟩)
      rw [hql] at HE
      have bt := (pol_bd Hp.out (l.length - 2)).1
      clear hs1 hs2 hs3 hset hall ho hb hA hc hql
      generalize (l.getD (l.length - 2) (0, 0)).1 = t at *
      generalize (qfL l (l.length - 1)).sum = S at *
      have i0 : (0 : Int) < (l.length : Int) := by omega
      have i1 : ¬ (l.length : Int) - 1 + 1 < (l.length : Int) := by omega
      have i2 : ((l.length - 1 : Nat) : Int) + 1 = (l.length : Int) := by omega
      have i3 : 3 * (l.length : Int) - 6 - S = t := by omega
      have i4 : IntKind.i64.wrap (3 * (l.length : Int)) = 3 * (l.length : Int) := IntWalk.i64_in _ (by omega)
      have i5 : IntKind.i64.wrap (3 * (l.length : Int) - 6) = 3 * (l.length : Int) - 6 := IntWalk.i64_in _ (by omega)
      have i6 : IntKind.i64.wrap (3 * (l.length : Int) - 6 - S) = 3 * (l.length : Int) - 6 - S := IntWalk.i64_in _ (by omega)
      go_wp2
      go_ret
      exact HE.out
theorem spec_QuiddityOfFractions (A : Option Addr) (c B : Nat) (l : List (Int × Int)) (w : World) (h : SlD w B A l) (hB : B ≤ w.heap.size) (hl : l.length ≤ 1048576) :
    Calls Try.prog 32 #[.slice A l.length c] w (RetI w (if polB l = true then qf l else []) (polB l)) := by
  have HP := Lib.hid (spec_nbPolygon A c B l w h hB hl)
  cases hp : polB l
  · rw [hp] at HP
    clear h hp
    go_enter Try.func32, Try.ntmps32
    go_wp2_with fail
    refine HP.out.mono ?_
    rintro e w1 ⟨rfl, hb⟩
    have HE := Lib.hid (show RetI w (if false = true then qf l else []) false (.returned (.tuple #[.slice none 0 0, .bool false])) w1 from ⟨none, 0, rfl, World.ownsRow_nil _ _ _ _, hb⟩)
    clear hb
    go_wp2
    go_ret2
    exact HE.out
  · have HQ := Lib.hid (fun w h hB => spec_nbQuiddity A c B l w h hB hp)
    have H := Lib.hid h
    rw [hp] at HP
    clear h hp
    go_enter Try.func32, Try.ntmps32
    go_wp2_with fail
    refine HP.out.mono ?_
    rintro e w1 ⟨rfl, hb⟩
    have Hb := Lib.hid hb
    have H1 := Lib.hid (H.out.below (hb.mono hB))
    clear hb
    go_wp2_with fail
    refine (HQ.out _ H1.out (Nat.le_trans hB Hb.out.size)).mono ?_
    rintro e w2 ⟨A2, c2, rfl, ho, hb⟩
    have HE := Lib.hid (show RetI w (if true = true then qf l else []) true (.returned (.tuple #[.slice A2 (qf l).length c2, .bool true])) w2 from ⟨A2, c2, rfl, ho.mono Hb.out.size, below_kept Hb.out (Nat.le_refl _) hb⟩)
    clear ho hb
    generalize (qf l).length = z at *
    go_wp2
    go_ret2
    exact HE.out
end Go.Proofs.Ytaifgfmkkgndkab
