/- The walk of OtherDiagonal's law, out of the contracts of the model's function and of the program's. -/
import Derived.Test.YtbpaaoeefcebeaaLawK2
import Derived.Test.YtbpaaoeefcebeaaFliT
import Derived.Test.YtbpaaoeefcebeaaKept3
import Derived.Deep.RegionHeld3
import Derived.Deep.DeepCutAuto
namespace Go.Proofs.Ytbpaaoeefcebeaa
set_option linter.unusedVariables false
open Go.RowKit

set_option maxRecDepth 100000 in
set_option maxHeartbeats 3200000 in
theorem WOtherDiagonal.core (w : World) (a0 : Int) (A1 : Option Addr) (c1 : Nat) (l1 : List (Int × Int)) (x y : Int)
    (h1 : SlD w w.heap.size A1 l1) (hm1 : l1.length ≤ c1) (hx1 : c1 ≤ maxLen)
    (p q : Int) (ok : Bool) (hs : Hid (∀ (A1 : Option Addr) (c1 : Nat) (w : World), SlD w w.heap.size A1 l1 → l1.length ≤ 1048576 → l1.length ≤ c1 → Calls Try.prog 32 #[.int .i64 a0, .slice A1 l1.length c1, .agg #[.int .i64 x, .int .i64 y]] w (fun e w' => e = .returned (.tuple #[.agg #[.int .i64 p, .int .i64 q], .bool ok]) ∧ Below w.heap.size w w')))
    (hi : Hid (∀ (A1 : Option Addr) (c1 : Nat) (w : World), SlD w w.heap.size A1 l1 → l1.length ≤ 1048576 → l1.length ≤ c1 → Calls Try.prog 33 #[.int .i64 a0, .slice A1 l1.length c1, .agg #[.int .i64 x, .int .i64 y]] w (fun e w' => e = .returned (.tuple #[.agg #[.int .i64 p, .int .i64 q], .bool ok]) ∧ Below w.heap.size w w'))) :
    Calls Try.prog 7 #[.int .i64 a0, .slice A1 l1.length c1, .agg #[.int .i64 x, .int .i64 y]] w fun e w' => e = .returned (.bool true) ∧ Below w.heap.size w w' := by
  by_cases hl1 : l1.length ≤ 1048576
  · have Hz := Lib.hid fun w => laws_sz_fit A1 l1.length c1 1048576 w (by omega) (by omega)
    have H0 := Lib.hid h1
    clear h1
    go_enter Try.func7, Try.ntmps7
    go_upto_region 1 with fail
    obtain ⟨wa, hwa⟩ : ∃ wa, wa = w.alloc (.cells #[.int .i64 x, .int .i64 y] 37) := ⟨_, rfl⟩
    have b0 : wa.cell? ⟨w.heap.size, 0, none⟩ = some (.int .i64 x) := by rw [hwa]; simp [go_sem]
    have b1 : wa.cell? ⟨w.heap.size, 1, none⟩ = some (.int .i64 y) := by rw [hwa]; simp [go_sem]
    have hba : Below w.heap.size w wa := by rw [hwa]; exact (Below.refl _ _).alloc (Nat.le_refl _) _
    rw [← hwa]
    clear hwa
    have Hba := Lib.hid hba
    have H1 : Hid (SlD wa wa.heap.size A1 l1) := Lib.hid ((H0.out.below hba).mono hba.size)
    clear hba H0
    have hd := Below.refl wa.heap.size wa
    have HB0 := Lib.hid b0
    have HB1 := Lib.hid b1
    clear b0 b1
    go_wp2_with fail
    refine (Hz.out _).mono ?_
    rintro e wz ⟨rfl, rfl⟩
    clear Hz
    go_upto_region 5 with fail
    have BS := Lib.hid (threeOf HB0.out HB1.out hd.drew)
    go_cut [8, 9] (fun s1 s2 wx => ∃ g, wa.heap.size ≤ g ∧ s1 = .pointer (some ⟨g, 0, none⟩) ∧ s2 = .bool ok ∧ Bx2 wx g p q ∧ Below wa.heap.size wa wx)
    case first =>
      have BB : Hid (Below wa.heap.size wa wa.drew) := Lib.hid (Below.refl _ _).drew
      go_region_held3 (fun w' => w'.cell? ⟨w.heap.size, 0, none⟩ = some (.int .i64 x) ∧ w'.cell? ⟨w.heap.size, 1, none⟩ = some (.int .i64 y) ∧ Below wa.heap.size wa w')
        (first
          | with_reducible assumption
          | with_reducible exact BS.out
          | with_reducible exact kept2 (by assumption) hb1 (Nat.le_refl _)
          | with_reducible exact kept2 (by assumption) (Below.alloc (Below.refl _ _) (Nat.le_refl _) _) (Nat.le_refl _)
          | with_reducible exact threeOf HB0.out HB1.out (below_alloc1 hd (Nat.le_refl _) _).drew
          | with_reducible exact threeOf HB0.out HB1.out (below_alloc1 S3 (Nat.le_refl _) _)
          | with_reducible exact threeOf HB0.out HB1.out (below_set2 S3 (Nat.le_refl _))
          | with_reducible exact threeOf HB0.out HB1.out (below_set2 S3 SZ)
          | exact threeOf HB0.out HB1.out (below_set2 S3 (by omega))
          )
        (first
          | (go_at_call 17; refine (laws_toDiagonalS A1 c1 wa.heap.size l1 _ (H1.out.below (three3 (by assumption))) (three3 (by assumption)).size hl1).mono ?_; rintro e wT ⟨rfl, hT, hb1⟩; (have S3 := below_kept (three3 (by assumption)) (Nat.le_refl _) hb1); (have SZ : wa.heap.size ≤ _ := S3.size); (first | (have X1 := (Bx2.newd _ 40 0 0).kept hb1; have X2 := X1; obtain ⟨⟨x0, x1⟩, f0, f1⟩ := X2) | (have X1 := (Bx2.new _ 40 0 0).kept hb1; have X2 := X1; obtain ⟨⟨x0, x1⟩, f0, f1⟩ := X2) | (have X1 := Bx2.kept (by assumption) hb1; have X2 := X1; obtain ⟨⟨x0, x1⟩, f0, f1⟩ := X2) | skip))
          | (go_at_call 29; refine (laws_toDiagonal x y _).mono ?_; rintro e w1 ⟨rfl, hb1⟩; (first | (replace hT := own_kept hT hb1) | (replace hT := own_kept (hT.alloc _) hb1) | skip); (have S3 := below_kept (three3 (by assumption)) (Nat.le_refl _) hb1); (have SZ : wa.heap.size ≤ _ := S3.size); (first | (have X1 := (Bx2.newd _ 40 0 0).kept hb1; have X2 := X1; obtain ⟨⟨x0, x1⟩, f0, f1⟩ := X2) | (have X1 := (Bx2.new _ 40 0 0).kept hb1; have X2 := X1; obtain ⟨⟨x0, x1⟩, f0, f1⟩ := X2) | (have X1 := Bx2.kept (by assumption) hb1; have X2 := X1; obtain ⟨⟨x0, x1⟩, f0, f1⟩ := X2) | skip))
          | (go_at_call 32; refine Calls.mono (hs.out _ _ _ (by first | with_reducible exact SlD.of_own hT | with_reducible exact SlD.of_own (hT.alloc _) | exact sl_at hT (World.size_alloc _ _) | exact sl_at (hT.alloc _) (World.size_alloc _ _) | exact SlD.of_own hT | exact SlD.of_own (hT.alloc _)) hl1 (Nat.le_refl _)) ?_; rintro e w2 ⟨rfl, hb1⟩; (have S3 := below_kept (three3 (by assumption)) (Nat.le_refl _) hb1); (have SZ : wa.heap.size ≤ _ := S3.size); (first | (have X1 := (Bx2.newd _ 40 0 0).kept hb1; have X2 := X1; obtain ⟨⟨x0, x1⟩, f0, f1⟩ := X2) | (have X1 := (Bx2.new _ 40 0 0).kept hb1; have X2 := X1; obtain ⟨⟨x0, x1⟩, f0, f1⟩ := X2) | (have X1 := Bx2.kept (by assumption) hb1; have X2 := X1; obtain ⟨⟨x0, x1⟩, f0, f1⟩ := X2) | skip); (have HD9 := Lib.hid S3)))
      all_goals go_wp2_with fail
      all_goals go_meet
      all_goals refine ⟨_, ?_, rfl, rfl, ?_, ?_⟩
      all_goals first
        | with_reducible exact HD9.out.size
        | with_reducible exact Nat.le_refl _
        | with_reducible assumption
        | with_reducible exact Bx2.new _ _ p q
        | with_reducible exact bx2_set X1 p q
        | with_reducible exact below_alloc1 HD9.out (Nat.le_refl _) _
        | with_reducible exact below_set2 HD9.out (Nat.le_refl _)
        | with_reducible exact below_set2 HD9.out (by assumption)
        | exact below_set2 HD9.out (by omega)
    case rest =>
      obtain ⟨gW, hgW, rfl, rfl, bW, hd⟩ := hcut
      obtain ⟨wb, hwb⟩ : ∃ wb, wb = wc := ⟨_, rfl⟩
      subst hwb
      clear BS hs
      go_wp2_with fail
      refine (laws_toDiagonalS A1 c1 wa.heap.size l1 _ (H1.out.below hd) hd.size hl1).mono ?_
      rintro e whX ⟨rfl, hX, hb⟩
      replace bW := bW.kept hb
      replace hd := below_kept hd (Nat.le_refl _) hb
      clear hb
      have q0 := cell_kept hd HB0.out
      have q1 := cell_kept hd HB1.out
      go_wp2_with fail
      clear q0 q1
      refine (laws_toDiagonal x y _).mono ?_
      rintro e wtd ⟨rfl, hb⟩
      replace bW := bW.kept hb
      replace hX := own_kept hX hb
      replace hd := below_kept hd (Nat.le_refl _) hb
      clear hb
      go_wp2_with fail
      refine (hi.out _ _ _ (SlD.of_own hX) hl1 (Nat.le_refl _)).mono ?_
      rintro e whG ⟨rfl, hb⟩
      replace bW := bW.kept hb
      replace hX := own_kept hX hb
      replace hd := below_kept hd (Nat.le_refl _) hb
      clear hb
      have bA := bW.alloc (.cells #[.int .i64 p, .int .i64 q] 40)
      have bG := Bx2.new whG 40 p q
      have hX2 := hX.alloc (.cells #[.int .i64 p, .int .i64 q] 40)
      have hd2 := hd.alloc hd.size (.cells #[.int .i64 p, .int .i64 q] 40)
      have ltW := bW.lt
      obtain ⟨⟨y0, y1⟩, _, _⟩ := bA
      obtain ⟨⟨y2, y3⟩, _, _⟩ := bG
      have yW := bW.1.1
      have yW1 := bW.1.2
      have HX2 := Lib.hid hX2
      have Hd2 := Lib.hid hd2
      clear hX2 hd2 hd hX hi bW
      go_wp2_with fail
      refine (laws_eqDiagonal p q _).mono ?_
      rintro e weq ⟨rfl, hb⟩
      have hX := own_kept HX2.out hb
      have hd := below_kept Hd2.out (Nat.le_refl _) hb
      clear hb HX2 Hd2 y0 y1 y2 y3 yW yW1
      go_wp2_with fail
      refine (laws_toDiagonalS A1 c1 wa.heap.size l1 _ (H1.out.below hd) hd.size hl1).mono ?_
      rintro e whY ⟨rfl, hY, hb⟩
      replace hX := own_kept hX hb
      replace hd := below_kept hd (Nat.le_refl _) hb
      clear hb
      go_wp2_with fail
      refine (laws_eqDiagonalS _ _ _ _ _ _ _ _ (SlD.of_own hX) (SlD.of_own hY) (Nat.le_refl _) (Nat.le_refl _) (by omega)).mono ?_
      rintro e wq1 ⟨rfl, hb⟩
      replace hX := own_kept hX hb
      replace hY := own_kept hY hb
      replace hd := below_kept hd (Nat.le_refl _) hb
      clear hb
      go_wp2_with fail
      clear hY
      clear hX
      have hfin := Hba.out.trans (hd.mono Hba.out.size)
      clear hd
      go_wp2
      go_ret
      exact ⟨rfl, hfin⟩
  · have Hz := Lib.hid fun w => laws_sz_over A1 l1.length c1 1048576 w (by omega) (by omega) (by omega)
    have hfin : Below w.heap.size w (w.alloc (.cells #[.int .i64 x, .int .i64 y] 37)) := (Below.refl _ _).alloc (Nat.le_refl _) _
    clear h1 hs hi
    go_enter Try.func7, Try.ntmps7
    go_wp2_with fail
    refine (Hz.out _).mono ?_
    rintro e wz ⟨rfl, rfl⟩
    clear Hz
    go_wp2
    go_ret
    exact ⟨rfl, hfin⟩

end Go.Proofs.Ytbpaaoeefcebeaa
