/- The model's OtherDiagonal and FlipDiagonal; the walks of both laws. -/
import Derived.Test.YtbpaaoeefcebeaaFliU
import Derived.Test.YtbpaaoeefcebeaaKept2
namespace Go.Proofs.Ytbpaaoeefcebeaa
set_option linter.unusedVariables false
open Go.RowKit

set_option maxRecDepth 100000 in
set_option maxHeartbeats 1600000 in
theorem spec_OtherDiagonal (n : Int) (A : Option Addr) (c B : Nat) (l : List (Int × Int)) (x y : Int) (w : World) (h : SlD w B A l) (hB : B ≤ w.heap.size) (hl : l.length ≤ 1048576) (hlc : l.length ≤ c) :
    Calls Try.prog 32 #[.int .i64 n, .slice A l.length c, .agg #[.int .i64 x, .int .i64 y]] w (OthEnd n l (x, y) w) := by
  have H := Lib.hid h
  clear h
  go_enter Try.func32, Try.ntmps32
  go_upto_region 1 with fail
  obtain ⟨wa, hwa⟩ : ∃ wa, wa = (w.alloc (.cells #[.int .i64 x, .int .i64 y] 40)).alloc (.cells #[.int .i64 0, .int .i64 0] 40) := ⟨_, rfl⟩
  have b0 : wa.cell? ⟨w.heap.size, 0, none⟩ = some (.int .i64 x) := by rw [hwa]; simp [go_sem]
  have b1 : wa.cell? ⟨w.heap.size, 1, none⟩ = some (.int .i64 y) := by rw [hwa]; simp [go_sem]
  have r0 : wa.cell? ⟨w.heap.size + 1, 0, none⟩ = some (.int .i64 0) := by rw [hwa]; simp [go_sem]
  have r1 : wa.cell? ⟨w.heap.size + 1, 1, none⟩ = some (.int .i64 0) := by rw [hwa]; simp [go_sem]
  have f0 : wa.frozen? ⟨w.heap.size + 1, 0, none⟩ = false := by rw [hwa]; simp [go_sem]
  have f1 : wa.frozen? ⟨w.heap.size + 1, 1, none⟩ = false := by rw [hwa]; simp [go_sem]
  have hba : Below w.heap.size w wa := by rw [hwa]; exact ((Below.refl _ _).alloc (Nat.le_refl _) _).alloc (by simp) _
  have hsz2 : wa.heap.size = w.heap.size + 2 := by rw [hwa]; simp
  rw [← hwa]
  clear hwa
  have Hba := Lib.hid hba
  clear hba
  go_wp2_with fail
  refine (spec_poGood n A c B l _ (H.out.below (Hba.out.mono hB)) (by omega) hl hlc).mono ?_
  rintro e w1 ⟨rfl, hb1⟩
  have Hd1 := Lib.hid (below_kept Hba.out (Nat.le_refl _) hb1)
  have q0 := cell_kept hb1 b0
  have q1 := cell_kept hb1 b1
  have v0 := cell_kept hb1 r0
  have v1 := cell_kept hb1 r1
  obtain ⟨_, hfz, hs1⟩ := bcell hb1
  have g0 := (hfz (w.heap.size + 1) 0 (by omega)).trans f0
  have g1 := (hfz (w.heap.size + 1) 1 (by omega)).trans f1
  have hw1 : w.heap.size + 1 < w1.heap.size := by omega
  clear hb1 b0 b1 r0 r1 f0 f1 hfz
  cases ht : triB n l
  · have e0 : (triB n l && decide ((x, y) ∈ l)) = false := by rw [ht]; rfl
    have hres : ∀ w', Below w.heap.size w w' → OthEnd n l (x, y) w (.returned (.tuple #[.agg #[.int .i64 0, .int .i64 0], .bool false])) w' := fun w' hb => by
      unfold OthEnd
      rw [othR_no e0, e0]
      exact ⟨rfl, hb⟩
    have Hres := Lib.hid hres
    clear hres e0
    go_wp2
    refine bodyPost_ret (v := .tuple #[.agg #[.int .i64 0, .int .i64 0], .bool false]) (by simp [results, Try.results32, go_sem, v0, v1]) rfl (Hres.out _ ?_)
    exact (Hd1.out.setCell (p := ⟨w.heap.size + 1, 0, none⟩) (by show w.heap.size ≤ w.heap.size + 1; omega) _).setCell (p := ⟨w.heap.size + 1, 1, none⟩) (by show w.heap.size ≤ w.heap.size + 1; omega) _
  · have T := tri_of ht
    have HT := Lib.hid T
    obtain ⟨m, rfl⟩ := Int.eq_ofNat_of_zero_le (show 0 ≤ n by have := T.n3; omega)
    have hl12 : l.length ≤ 12 := by have := T.len; have := T.n12; omega
    clear T
    by_cases hm : (x, y) ∈ l
    · have e1 : decide ((x, y) ∈ l) = true := by simpa using hm
      have e0 : (triB m l && decide ((x, y) ∈ l)) = true := by rw [ht, e1]; rfl
      have hres : ∀ w', Below w.heap.size w w' → OthEnd m l (x, y) w (.returned (.tuple #[.agg #[.int .i64 (oth m l (x, y)).1, .int .i64 (oth m l (x, y)).2], .bool true])) w' := fun w' hb => by
        unfold OthEnd
        rw [othR_yes e0, e0]
        exact ⟨rfl, hb⟩
      have Hres := Lib.hid hres
      have Hm := Lib.hid hm
      clear hres e0 hm ht
      go_wp2_with fail
      refine (spec_flIn A l.length c B l x y true _ (H.out.below (Hd1.out.mono hB)) rfl (by omega) (by omega) e1).mono ?_
      rintro e w2 ⟨rfl, hb2⟩
      have Hd2 := Lib.hid (below_kept Hd1.out (Nat.le_refl _) hb2)
      have p0 := cell_kept hb2 q0
      have p1 := cell_kept hb2 q1
      have v2 := cell_kept hb2 v0
      have v3 := cell_kept hb2 v1
      obtain ⟨_, hfz, hs2⟩ := bcell hb2
      have g2 := (hfz (w.heap.size + 1) 0 (by omega)).trans g0
      have g3 := (hfz (w.heap.size + 1) 1 (by omega)).trans g1
      have hw2 : w.heap.size + 1 < w2.heap.size := by omega
      clear hb2 q0 q1 v0 v1 g0 g1 hfz
      go_wp2_with fail
      refine (spec_flOther m A l.length c B l x y w2 (H.out.below (Hd2.out.mono hB)) rfl (by omega) HT.out Hm.out).mono ?_
      rintro e w3 ⟨rfl, hb3⟩
      have Hd3 := Lib.hid (below_kept Hd2.out (Nat.le_refl _) hb3)
      have v4 := cell_kept hb3 v2
      have v5 := cell_kept hb3 v3
      obtain ⟨_, hfz, hs3⟩ := bcell hb3
      have g4 := (hfz (w.heap.size + 1) 0 (by omega)).trans g2
      have g5 := (hfz (w.heap.size + 1) 1 (by omega)).trans g3
      have hw3 : w.heap.size + 1 < w3.heap.size := by omega
      clear hb3 p0 p1 v2 v3 g2 g3 hfz
      generalize (oth m l (x, y)).1 = o1 at *
      generalize (oth m l (x, y)).2 = o2 at *
      go_wp2
      refine bodyPost_ret (v := .tuple #[.agg #[.int .i64 o1, .int .i64 o2], .bool true]) (by simp [results, Try.results32, go_sem, v4, v5]) rfl (Hres.out _ ?_)
      exact (Hd3.out.setCell (p := ⟨w.heap.size + 1, 0, none⟩) (by show w.heap.size ≤ w.heap.size + 1; omega) _).setCell (p := ⟨w.heap.size + 1, 1, none⟩) (by show w.heap.size ≤ w.heap.size + 1; omega) _
    · have e1 : decide ((x, y) ∈ l) = false := by simpa using hm
      have e0 : (triB m l && decide ((x, y) ∈ l)) = false := by rw [ht, e1]; rfl
      have hres : ∀ w', Below w.heap.size w w' → OthEnd m l (x, y) w (.returned (.tuple #[.agg #[.int .i64 0, .int .i64 0], .bool false])) w' := fun w' hb => by
        unfold OthEnd
        rw [othR_no e0, e0]
        exact ⟨rfl, hb⟩
      have Hres := Lib.hid hres
      clear hres e0 hm ht
      go_wp2_with fail
      refine (spec_flIn A l.length c B l x y false _ (H.out.below (Hd1.out.mono hB)) rfl (by omega) (by omega) e1).mono ?_
      rintro e w2 ⟨rfl, hb2⟩
      have Hd2 := Lib.hid (below_kept Hd1.out (Nat.le_refl _) hb2)
      have v2 := cell_kept hb2 v0
      have v3 := cell_kept hb2 v1
      obtain ⟨_, hfz, hs2⟩ := bcell hb2
      have g2 := (hfz (w.heap.size + 1) 0 (by omega)).trans g0
      have g3 := (hfz (w.heap.size + 1) 1 (by omega)).trans g1
      have hw2 : w.heap.size + 1 < w2.heap.size := by omega
      clear hb2 q0 q1 v0 v1 g0 g1 hfz
      go_wp2
      refine bodyPost_ret (v := .tuple #[.agg #[.int .i64 0, .int .i64 0], .bool false]) (by simp [results, Try.results32, go_sem, v2, v3]) rfl (Hres.out _ ?_)
      exact (Hd2.out.setCell (p := ⟨w.heap.size + 1, 0, none⟩) (by show w.heap.size ≤ w.heap.size + 1; omega) _).setCell (p := ⟨w.heap.size + 1, 1, none⟩) (by show w.heap.size ≤ w.heap.size + 1; omega) _

set_option maxRecDepth 100000 in
set_option maxHeartbeats 1600000 in
theorem spec_FlipDiagonal (n : Int) (A : Option Addr) (c B : Nat) (l : List (Int × Int)) (x y : Int) (w : World) (h : SlD w B A l) (hB : B ≤ w.heap.size) (hl : l.length ≤ 1048576) (hlc : l.length ≤ c) :
    Calls Try.prog 28 #[.int .i64 n, .slice A l.length c, .agg #[.int .i64 x, .int .i64 y]] w (RetD w (flipR n l (x, y)) (triB n l && decide ((x, y) ∈ l))) := by
  have H := Lib.hid h
  clear h
  have hba : Below w.heap.size w (w.alloc (.cells #[.int .i64 x, .int .i64 y] 40)) := (Below.refl _ _).alloc (Nat.le_refl _) _
  have Hba := Lib.hid hba
  clear hba
  go_enter Try.func28, Try.ntmps28
  go_wp2_with fail
  refine (spec_poGood n A c B l _ (H.out.below (Hba.out.mono hB)) (Nat.le_trans hB Hba.out.size) hl hlc).mono ?_
  rintro e w1 ⟨rfl, hb1⟩
  have Hd1 := Lib.hid (below_kept Hba.out (Nat.le_refl _) hb1)
  have q0 : w1.cell? ⟨w.heap.size, 0, none⟩ = some (.int .i64 x) := cell_kept hb1 (by simp [go_sem])
  have q1 : w1.cell? ⟨w.heap.size, 1, none⟩ = some (.int .i64 y) := cell_kept hb1 (by simp [go_sem])
  clear hb1
  have hno : (triB n l && decide ((x, y) ∈ l)) = false → ∀ w', Below w.heap.size w w' → RetD w (flipR n l (x, y)) (triB n l && decide ((x, y) ∈ l)) (.returned (.tuple #[.slice none 0 0, .bool false])) w' := fun e0 w' hb => by
    rw [flipR_no e0, e0]
    exact retD_none hb
  have Hno := Lib.hid hno
  clear hno
  cases ht : triB n l
  · have Hres := Lib.hid (Hno.out (by rw [ht]; rfl) _ Hd1.out)
    go_wp2
    go_ret2
    exact Hres.out
  · have T := tri_of ht
    have HT := Lib.hid T
    obtain ⟨m, rfl⟩ := Int.eq_ofNat_of_zero_le (show 0 ≤ n by have := T.n3; omega)
    have hl12 : l.length ≤ 12 := by have := T.len; have := T.n12; omega
    have HtB := Lib.hid ht
    clear T ht
    by_cases hm : (x, y) ∈ l
    · have e1 : decide ((x, y) ∈ l) = true := by simpa using hm
      have e0 : (triB m l && decide ((x, y) ∈ l)) = true := by rw [HtB.out, e1]; rfl
      have hE := flipR_yes e0
      have HE := Lib.hid hE
      have Hm := Lib.hid hm
      have E1 := Lib.hid e1
      clear hE e0 hm e1
      go_wp2_with fail
      refine (spec_flIn A l.length c B l x y true _ (H.out.below (Hd1.out.mono hB)) rfl (Nat.le_trans hB Hd1.out.size) (by omega) E1.out).mono ?_
      rintro e w2 ⟨rfl, hb2⟩
      have Hd2 := Lib.hid (below_kept Hd1.out (Nat.le_refl _) hb2)
      have p0 := cell_kept hb2 q0
      have p1 := cell_kept hb2 q1
      clear hb2 q0 q1
      go_wp2_with fail
      refine (spec_flMake m A l.length c B l x y _ (H.out.below (Hd2.out.mono hB)) rfl (Nat.le_trans hB Hd2.out.size) HT.out Hm.out).mono ?_
      rintro e w3 ⟨A9, c9, rfl, ho, hb3⟩
      have hres : RetD w (flipR m l (x, y)) (triB m l && decide ((x, y) ∈ l)) (.returned (.tuple #[.slice A9 (flipL m l (x, y)).length c9, .bool true])) w3 := by
        rw [HE.out, E1.out, HtB.out]
        exact ⟨A9, c9, rfl, ho.mono Hd2.out.size, below_kept Hd2.out (Nat.le_refl _) hb3⟩
      have Hres := Lib.hid hres
      clear hres ho hb3 p0 p1
      go_wp2
      go_ret2
      exact Hres.out
    · have e1 : decide ((x, y) ∈ l) = false := by simpa using hm
      have E1 := Lib.hid e1
      clear hm e1
      go_wp2_with fail
      refine (spec_flIn A l.length c B l x y false _ (H.out.below (Hd1.out.mono hB)) rfl (Nat.le_trans hB Hd1.out.size) (by omega) E1.out).mono ?_
      rintro e w2 ⟨rfl, hb2⟩
      have Hd2 := Lib.hid (below_kept Hd1.out (Nat.le_refl _) hb2)
      have Hres := Lib.hid (Hno.out (by rw [HtB.out, E1.out]; rfl) _ Hd2.out)
      clear hb2 q0 q1
      go_wp2
      go_ret2
      exact Hres.out
end Go.Proofs.Ytbpaaoeefcebeaa
