/- AreFlipApart: the model's and the program's contract. -/
import Derived.Test.YtbpaaoeefcebeaaApaM
import Derived.Test.YtbpaaoeefcebeaaComT
import Derived.Test.YtbpaaoeefcebeaaFliU
import Derived.Test.YtbpaaoeefcebeaaAllT
import Derived.Test.YtbpaaoeefcebeaaSame
namespace Go.Proofs.Ytbpaaoeefcebeaa
set_option linter.unusedVariables false
open Go.RowKit

/-- the diagonal whose flip makes b of a -/
def apO (n : Int) (a b : List (Int × Int)) : Option (Int × Int) := if twoB n a b = true then ap1 (woL a b) else none
theorem apO_yes {n : Int} {a b : List (Int × Int)} (h : twoB n a b = true) : apO n a b = ap1 (woL a b) := by unfold apO; rw [if_pos h]
theorem apO_no {n : Int} {a b : List (Int × Int)} (h : twoB n a b = false) : apO n a b = none := by unfold apO; rw [h]; rfl
def ApEnd (w : World) (o : Option (Int × Int)) (e : Ending) (w' : World) : Prop := e = .returned (.tuple #[.agg #[.int .i64 (o.getD (0, 0)).1, .int .i64 (o.getD (0, 0)).2], .bool o.isSome]) ∧ Below w.heap.size w w'

set_option maxRecDepth 100000 in
set_option maxHeartbeats 3200000 in
theorem spec_AreFlipApart (n : Int) (A A2 : Option Addr) (c c2 B B2 : Nat) (l r : List (Int × Int)) (w : World) (h : SlD w B A l) (h2 : SlD w B2 A2 r) (hB : B ≤ w.heap.size) (hB2 : B2 ≤ w.heap.size) (hl : l.length ≤ 1048576) (hl2 : r.length ≤ 1048576) (hlc : l.length ≤ c) (hlc2 : r.length ≤ c2) :
    Calls Try.prog 40 #[.int .i64 n, .slice A l.length c, .slice A2 r.length c2] w (ApEnd w (apO n l r)) := by
  obtain ⟨m, hm⟩ : ∃ m, l.length = m := ⟨_, rfl⟩
  obtain ⟨m2, hm2⟩ : ∃ m2, r.length = m2 := ⟨_, rfl⟩
  rw [hm, hm2]
  rw [hm] at hl hlc
  rw [hm2] at hl2 hlc2
  have H := Lib.hid h
  have H2 := Lib.hid h2
  have Hl := Lib.hid hm
  have Hr := Lib.hid hm2
  clear h h2 hm hm2
  go_enter Try.func40, Try.ntmps40
  go_upto_region 1 with fail
  obtain ⟨wa, hwa⟩ : ∃ wa, wa = w.alloc (.cells #[.int .i64 0, .int .i64 0] 40) := ⟨_, rfl⟩
  have hR : Bx2 wa w.heap.size 0 0 := by rw [hwa]; exact Bx2.new _ _ _ _
  have hba : Below w.heap.size w wa := by rw [hwa]; exact (Below.refl _ _).alloc (Nat.le_refl _) _
  rw [← hwa]
  clear hwa
  have Hba := Lib.hid hba
  have HR0 := Lib.hid hR
  clear hba hR
  go_wp2_with fail
  refine (spec_flTwo n A A2 m m2 c c2 B B2 l r _ (H.out.below (Hba.out.mono hB)) (H2.out.below (Hba.out.mono hB2)) Hl.out Hr.out (Nat.le_trans hB Hba.out.size) (Nat.le_trans hB2 Hba.out.size) hl hl2 hlc hlc2).mono ?_
  rintro e w1 ⟨rfl, hb1⟩
  have HD1 := Lib.hid (below_kept Hba.out (Nat.le_refl _) hb1)
  have hR1 := HR0.out.kept hb1
  have HR1 := Lib.hid hR1
  clear hb1 HR0
  cases ht : twoB n l r
  · have hres : ∀ w', Below w.heap.size w w' → ApEnd w (apO n l r) (.returned (.tuple #[.agg #[.int .i64 0, .int .i64 0], .bool false])) w' := fun w' hb => by
      rw [apO_no ht]
      exact ⟨rfl, hb⟩
    have Hres := Lib.hid hres
    have hlt1 := hR1.lt
    obtain ⟨⟨v0, v1⟩, g0, g1⟩ := hR1
    clear hres
    go_wp2
    refine bodyPost_ret (v := .tuple #[.agg #[.int .i64 0, .int .i64 0], .bool false]) (by simp [results, Try.results40, go_sem, v0, v1]) rfl (Hres.out _ ?_)
    exact (HD1.out.setCell (p := ⟨w.heap.size, 0, none⟩) (Nat.le_refl _) _).setCell (p := ⟨w.heap.size, 1, none⟩) (Nat.le_refl _) _
  · obtain ⟨hm9, hm9'⟩ := twoB_len ht
    rw [Hl.out] at hm9
    rw [Hr.out] at hm9'
    have hO := apO_yes ht
    have HO := Lib.hid hO
    have ht2 := ht
    unfold twoB at ht2
    rw [Bool.and_eq_true] at ht2
    have T1 := tri_of ht2.1
    have T2 := tri_of ht2.2
    obtain ⟨q, rfl⟩ := Int.eq_ofNat_of_zero_le (show 0 ≤ n by have := T1.n3; omega)
    have HT1 := Lib.hid T1
    have HT2 := Lib.hid T2
    clear ht ht2 T1 T2 hR1 hO
    go_wp2
    go_loopw [18] (fun i wr => ∃ k : Nat, k ≤ m ∧ i = .int .i64 k ∧ (∀ j, j < k → flipL q l (l.getD j (0, 0)) ≠ r) ∧ Below w1.heap.size w1 wr) (fun i _ => m - (intOf i).toNat)
    case atStart => exact ⟨0, Nat.zero_le _, rfl, fun j hj => by omega, Below.refl _ _⟩
    case round =>
      obtain ⟨k, hk, rfl, hno, hb⟩ := hrel
      have hR2 := HR1.out.kept hb
      have hd := below_kept HD1.out (Nat.le_refl _) hb
      have Hno := Lib.hid hno
      clear hno
      by_cases hlt : k < m
      · obtain ⟨b, off, rfl, hbB, hc⟩ := H.out.below (hd.mono hB) (by have := Hl.out; omega)
        obtain ⟨g0, g1⟩ := hc k (by rw [Hl.out]; exact hlt)
        have i0 : (0 : Int) ≤ (k : Int) := by omega
        have i1 : (k : Int) < (m : Int) := by omega
        have hmm := getD_mem (l := l) (k := k) (by rw [Hl.out]; exact hlt)
        generalize hdd : l.getD k (0, 0) = d at *
        obtain ⟨u, v⟩ := d
        dsimp only at g0 g1
        have Hdd := Lib.hid hdd
        have Hm := Lib.hid hmm
        have HR2 := Lib.hid (hR2.alloc (.cells #[.int .i64 u, .int .i64 v] 40))
        have Hb := Lib.hid (hb.alloc hb.size (.cells #[.int .i64 u, .int .i64 v] 40))
        have Hd := Lib.hid (hd.alloc hd.size (.cells #[.int .i64 u, .int .i64 v] 40))
        clear hc hmm hdd hR2 hb hd
        go_wp2_with fail
        refine (spec_flMake q _ m c B l u v _ (H.out.below (Hd.out.mono hB)) Hl.out (Nat.le_trans hB Hd.out.size) HT1.out Hm.out).mono ?_
        rintro e w5 ⟨A5, c5, rfl, ho5, hb5⟩
        have q0 : w5.cell? ⟨wr.heap.size, 0, none⟩ = some (.int .i64 u) := cell_kept hb5 (by simp [go_sem])
        have q1 : w5.cell? ⟨wr.heap.size, 1, none⟩ = some (.int .i64 v) := cell_kept hb5 (by simp [go_sem])
        have HR3 := Lib.hid (HR2.out.kept hb5)
        have Hb3 := Lib.hid (below_kept Hb.out (Nat.le_refl _) hb5)
        have Hd3 := Lib.hid (below_kept Hd.out (Nat.le_refl _) hb5)
        have Hs5 := Lib.hid (SlD.of_own ho5)
        have hfl : (flipL q l (u, v)).length = m := by rw [flip_length HT1.out Hm.out, Hl.out]
        rw [hfl]
        have Hfl := Lib.hid hfl
        have Hmm2 : Hid (m = m2) := Lib.hid (by have := HT1.out.len; have := HT2.out.len; have := Hl.out; have := Hr.out; omega)
        clear hb5 ho5 HR2 Hb Hd hfl g0 g1
        go_wp2_with fail
        with_reducible refine (spec_poSame A5 A2 m m2 c5 c2 w5.heap.size B2 (flipL q l (u, v)) r _ Hs5.out (H2.out.below (Hd3.out.mono hB2)) Hfl.out Hr.out Hmm2.out (Nat.le_refl _) (Nat.le_trans hB2 Hd3.out.size) (by omega)).mono ?_
        rintro e w6 ⟨rfl, hb6⟩
        have p0 := cell_kept hb6 q0
        have p1 := cell_kept hb6 q1
        have hwr : wr.heap.size < w6.heap.size := World.block_lt_of_cell? w6 _ p0
        have hR4 := HR3.out.kept hb6
        have Hb4 := Lib.hid (below_kept Hb3.out (Nat.le_refl _) hb6)
        have Hd4 := Lib.hid (below_kept Hd3.out (Nat.le_refl _) hb6)
        clear hb6 HR3 Hb3 Hd3 q0 q1 Hs5
        by_cases heq : flipL q l (u, v) = r
        · have e1 : decide (flipL q l (u, v) = r) = true := by simpa using heq
          rw [e1]
          have hres : ∀ w', Below w.heap.size w w' → ApEnd w (apO q l r) (.returned (.tuple #[.agg #[.int .i64 u, .int .i64 v], .bool true])) w' := fun w' hb => by
            rw [HO.out, apart_from HT1.out Hm.out heq]
            exact ⟨rfl, hb⟩
          have Hres := Lib.hid hres
          have hlt4 := hR4.lt
          obtain ⟨⟨v0, v1⟩, g2, g3⟩ := hR4
          clear hres heq e1 HO
          go_wp2
          refine bodyPost_ret (v := .tuple #[.agg #[.int .i64 u, .int .i64 v], .bool true]) (by simp [results, Try.results40, go_sem, v0, v1]) rfl (Hres.out _ ?_)
          exact (Hd4.out.setCell (p := ⟨w.heap.size, 0, none⟩) (Nat.le_refl _) _).setCell (p := ⟨w.heap.size, 1, none⟩) (Nat.le_refl _) _
        · have e1 : decide (flipL q l (u, v) = r) = false := by simpa using heq
          rw [e1]
          have hnext : ∀ j, j < k + 1 → flipL q l (l.getD j (0, 0)) ≠ r := fun j hj => by
            by_cases e : j = k
            · subst e; rw [Hdd.out]; exact heq
            · exact Hno.out j (by omega)
          have Hnext := Lib.hid hnext
          clear hnext heq e1 hR4 p0 p1
          go_wp2
          go_roundw
          case rel => exact ⟨k + 1, by omega, by go_num, Hnext.out, Hb4.out⟩
          case measure => simp [intOf]; omega
      · obtain rfl : k = m := by omega
        have hN : ap1 (woL l r) = none := by
          cases hx : ap1 (woL l r) with
          | none => rfl
          | some d =>
            exfalso
            have hw := ap1_some hx
            have hdm := (apart_mem hw).1
            have hE := apart_to HT1.out HT2.out hw
            obtain ⟨i, hi, rfl⟩ := List.getElem_of_mem hdm
            have := Hno.out i (by have := Hl.out; omega)
            rw [getD_at hi] at this
            exact this hE
        have hres : ∀ w', Below w.heap.size w w' → ApEnd w (apO q l r) (.returned (.tuple #[.agg #[.int .i64 0, .int .i64 0], .bool false])) w' := fun w' hb => by
          rw [HO.out, hN]
          exact ⟨rfl, hb⟩
        have Hres := Lib.hid hres
        have Hd := Lib.hid hd
        have hlt4 := hR2.lt
        obtain ⟨⟨v0, v1⟩, g2, g3⟩ := hR2
        clear hres hN hd hb HO
        go_wp2
        refine bodyPost_ret (v := .tuple #[.agg #[.int .i64 0, .int .i64 0], .bool false]) (by simp [results, Try.results40, go_sem, v0, v1]) rfl (Hres.out _ ?_)
        exact (Hd.out.setCell (p := ⟨w.heap.size, 0, none⟩) (Nat.le_refl _) _).setCell (p := ⟨w.heap.size, 1, none⟩) (Nat.le_refl _) _

set_option maxRecDepth 100000 in
set_option maxHeartbeats 3200000 in
theorem impl_AreFlipApart (n : Int) (A A2 : Option Addr) (c c2 B B2 : Nat) (l r : List (Int × Int)) (w : World) (h : SlD w B A l) (h2 : SlD w B2 A2 r) (hB : B ≤ w.heap.size) (hB2 : B2 ≤ w.heap.size) (hl : l.length ≤ 1048576) (hl2 : r.length ≤ 1048576) (hlc : l.length ≤ c) (hlc2 : r.length ≤ c2) :
    Calls Try.prog 41 #[.int .i64 n, .slice A l.length c, .slice A2 r.length c2] w (ApEnd w (apO n l r)) := by
  obtain ⟨m, hm⟩ : ∃ m, l.length = m := ⟨_, rfl⟩
  obtain ⟨m2, hm2⟩ : ∃ m2, r.length = m2 := ⟨_, rfl⟩
  rw [hm, hm2]
  rw [hm] at hl hlc
  rw [hm2] at hl2 hlc2
  have H := Lib.hid h
  have H2 := Lib.hid h2
  have Hl := Lib.hid hm
  have Hr := Lib.hid hm2
  clear h h2 hm hm2
  go_enter Try.func41, Try.ntmps41
  go_upto_region 1 with fail
  obtain ⟨wa, hwa⟩ : ∃ wa, wa = w.alloc (.cells #[.int .i64 0, .int .i64 0] 40) := ⟨_, rfl⟩
  have hR : Bx2 wa w.heap.size 0 0 := by rw [hwa]; exact Bx2.new _ _ _ _
  have hba : Below w.heap.size w wa := by rw [hwa]; exact (Below.refl _ _).alloc (Nat.le_refl _) _
  rw [← hwa]
  clear hwa
  have Hba := Lib.hid hba
  have HR0 := Lib.hid hR
  clear hba hR
  go_wp2_with fail
  refine (impl_areTriangulations n A A2 m m2 c c2 B B2 l r _ (H.out.below (Hba.out.mono hB)) (H2.out.below (Hba.out.mono hB2)) Hl.out Hr.out (Nat.le_trans hB Hba.out.size) (Nat.le_trans hB2 Hba.out.size) hl hl2 hlc hlc2).mono ?_
  rintro e w1 ⟨rfl, hb1⟩
  have HD1 := Lib.hid (below_kept Hba.out (Nat.le_refl _) hb1)
  have hR1 := HR0.out.kept hb1
  have HR1 := Lib.hid hR1
  clear hb1 HR0
  cases ht : twoB n l r
  · have hres : ∀ w', Below w.heap.size w w' → ApEnd w (apO n l r) (.returned (.tuple #[.agg #[.int .i64 0, .int .i64 0], .bool false])) w' := fun w' hb => by
      rw [apO_no ht]
      exact ⟨rfl, hb⟩
    have Hres := Lib.hid hres
    have hlt1 := hR1.lt
    obtain ⟨⟨v0, v1⟩, g0, g1⟩ := hR1
    clear hres
    go_wp2
    refine bodyPost_ret (v := .tuple #[.agg #[.int .i64 0, .int .i64 0], .bool false]) (by simp [results, Try.results41, go_sem, v0, v1]) rfl (Hres.out _ ?_)
    exact (HD1.out.setCell (p := ⟨w.heap.size, 0, none⟩) (Nat.le_refl _) _).setCell (p := ⟨w.heap.size, 1, none⟩) (Nat.le_refl _) _
  · obtain ⟨hm9, hm9'⟩ := twoB_len ht
    rw [Hl.out] at hm9
    rw [Hr.out] at hm9'
    have hO := apO_yes ht
    have HO := Lib.hid hO
    have ht2 := ht
    unfold twoB at ht2
    rw [Bool.and_eq_true] at ht2
    have T1 := tri_of ht2.1
    have T2 := tri_of ht2.2
    obtain ⟨q, rfl⟩ := Int.eq_ofNat_of_zero_le (show 0 ≤ n by have := T1.n3; omega)
    have HT1 := Lib.hid T1
    have HT2 := Lib.hid T2
    clear ht ht2 T1 T2 hR1 hO
    have hwle := woL_le l r
    rw [Hl.out] at hwle
    go_wp2_with fail
    refine (impl_diagonalsWithout A A2 m m2 c c2 B B2 l r _ (H.out.below (HD1.out.mono hB)) (H2.out.below (HD1.out.mono hB2)) Hl.out Hr.out (Nat.le_trans hB HD1.out.size) (Nat.le_trans hB2 HD1.out.size) (by omega) (by omega)).mono ?_
    rintro e w2 ⟨A3, c3, rfl, ho, hb2⟩
    have hR2 := HR1.out.kept hb2
    have Hd := Lib.hid (below_kept HD1.out (Nat.le_refl _) hb2)
    have hs := SlD.of_own ho
    clear hb2 ho HR1
    have hlt4 := hR2.lt
    obtain ⟨⟨v0, v1⟩, g2, g3⟩ := hR2
    by_cases h1 : (woL l r).length = 1
    · obtain ⟨⟨u, v⟩, hw⟩ : ∃ d, woL l r = [d] := List.length_eq_one_iff.1 h1
      have hres : ∀ w', Below w.heap.size w w' → ApEnd w (apO q l r) (.returned (.tuple #[.agg #[.int .i64 u, .int .i64 v], .bool true])) w' := fun w' hb => by
        rw [HO.out, hw]
        exact ⟨rfl, hb⟩
      have Hres := Lib.hid hres
      rw [hw] at hs ⊢
      obtain ⟨b, off, rfl, hbB, hc⟩ := hs (by simp)
      have t0 := (hc 0 (by simp)).1
      have t1 := (hc 0 (by simp)).2
      simp only [Nat.zero_mul, Nat.add_zero, List.getD_cons_zero] at t0 t1
      simp only [List.length_cons, List.length_nil]
      clear hres hc hs h1 hw HO hwle
      go_wp2
      refine bodyPost_ret (v := .tuple #[.agg #[.int .i64 u, .int .i64 v], .bool true]) (by simp [results, Try.results41, go_sem, v0, v1]) rfl (Hres.out _ ?_)
      exact (Hd.out.setCell (p := ⟨w.heap.size, 0, none⟩) (Nat.le_refl _) _).setCell (p := ⟨w.heap.size, 1, none⟩) (Nat.le_refl _) _
    · have hres : ∀ w', Below w.heap.size w w' → ApEnd w (apO q l r) (.returned (.tuple #[.agg #[.int .i64 0, .int .i64 0], .bool false])) w' := fun w' hb => by
        rw [HO.out, ap1_len h1]
        exact ⟨rfl, hb⟩
      have Hres := Lib.hid hres
      have h1n : ¬((woL l r).length : Int) = 1 := by omega
      have h1' : (((woL l r).length : Int) != 1) = true := by simpa using h1n
      generalize (woL l r).length = z at *
      clear hres hs HO
      go_wp2
      refine bodyPost_ret (v := .tuple #[.agg #[.int .i64 0, .int .i64 0], .bool false]) (by simp [results, Try.results41, go_sem, v0, v1]) rfl (Hres.out _ ?_)
      exact (Hd.out.setCell (p := ⟨w.heap.size, 0, none⟩) (Nat.le_refl _) _).setCell (p := ⟨w.heap.size, 1, none⟩) (Nat.le_refl _) _
end Go.Proofs.Ytbpaaoeefcebeaa
