/- The walk of QuiddityChange's law, out of the contracts of the model's function and of the program's. -/
import Derived.Test.YtbpaaoeefcebeaaLawK2
import Derived.Test.YtbpaaoeefcebeaaFliT
import Derived.Test.YtbpaaoeefcebeaaKept2
import Derived.Deep.RegionHeld3
import Derived.Deep.DeepCutAuto
namespace Go.Proofs.Ytbpaaoeefcebeaa
set_option linter.unusedVariables false
open Go.RowKit

set_option maxRecDepth 100000 in
set_option maxHeartbeats 3200000 in
theorem WQuiddityChange.core (w : World) (a0 : Int) (A1 : Option Addr) (c1 : Nat) (l1 : List (Int × Int)) (x y : Int)
    (h1 : SlD w w.heap.size A1 l1) (hm1 : l1.length ≤ c1) (hx1 : c1 ≤ maxLen)
    (L : List Int) (ok : Bool) (hL : L.length ≤ 1000000000) (hs : Hid (∀ (A1 : Option Addr) (c1 : Nat) (w : World), SlD w w.heap.size A1 l1 → l1.length ≤ 1048576 → l1.length ≤ c1 → Calls Try.prog 48 #[.int .i64 a0, .slice A1 l1.length c1, .agg #[.int .i64 x, .int .i64 y]] w (RetI w L ok)))
    (hi : Hid (∀ (A1 : Option Addr) (c1 : Nat) (w : World), SlD w w.heap.size A1 l1 → l1.length ≤ 1048576 → l1.length ≤ c1 → Calls Try.prog 49 #[.int .i64 a0, .slice A1 l1.length c1, .agg #[.int .i64 x, .int .i64 y]] w (RetI w L ok))) :
    Calls Try.prog 13 #[.int .i64 a0, .slice A1 l1.length c1, .agg #[.int .i64 x, .int .i64 y]] w fun e w' => e = .returned (.bool true) ∧ Below w.heap.size w w' := by
  by_cases hl1 : l1.length ≤ 1048576
  · have Hz := Lib.hid fun w => laws_sz_fit A1 l1.length c1 1048576 w (by omega) (by omega)
    have H0 := Lib.hid h1
    clear h1
    go_enter Try.func13, Try.ntmps13
    go_upto_region 1 with fail
    obtain ⟨wa, hwa⟩ : ∃ wa, wa = w.alloc (.cells #[.int .i64 x, .int .i64 y] 37) := ⟨_, rfl⟩
    have b0 : wa.cell? ⟨w.heap.size, 0, none⟩ = some (.int .i64 x) := by rw [hwa]; simp [go_sem]
    have b1 : wa.cell? ⟨w.heap.size, 1, none⟩ = some (.int .i64 y) := by rw [hwa]; simp [go_sem]
    have hba : Below w.heap.size w wa := by rw [hwa]; exact (Below.refl _ _).alloc (Nat.le_refl _) _
    rw [← hwa]
    clear hwa
    have Hba := Lib.hid hba
    have H1 : Hid (SlD wa wa.heap.size A1 l1) := Lib.hid ((H0.out.below hba).mono hba.size)
    clear hba H0
    have hd := Below.refl wa.heap.size wa
    have HB0 := Lib.hid b0
    have HB1 := Lib.hid b1
    clear b0 b1
    go_wp2_with fail
    refine (Hz.out _).mono ?_
    rintro e wz ⟨rfl, rfl⟩
    clear Hz
    go_upto_region 5 with fail
    have BS := Lib.hid (threeOf HB0.out HB1.out hd.drew)
    go_cut [8, 9] (fun s1 s2 wx => ∃ A c, s1 = .slice A L.length c ∧ s2 = .bool ok ∧ wx.ownsRow wa.heap.size 3 1 (.slice A L.length c) L.length (ics L) ∧ Below wa.heap.size wa wx)
    case first =>
      have BB : Hid (Below wa.heap.size wa wa.drew) := Lib.hid (Below.refl _ _).drew
      go_region_held3 (fun w' => w'.cell? ⟨w.heap.size, 0, none⟩ = some (.int .i64 x) ∧ w'.cell? ⟨w.heap.size, 1, none⟩ = some (.int .i64 y) ∧ Below wa.heap.size wa w')
        (first
          | with_reducible assumption
          | with_reducible exact BS.out
          | with_reducible exact kept2 (by assumption) hb1 (Nat.le_refl _)
          )
        (first
          | (go_at_call 17; refine (laws_toDiagonalS A1 c1 wa.heap.size l1 _ (H1.out.below (three3 (by assumption))) (three3 (by assumption)).size hl1).mono ?_; rintro e wT ⟨rfl, hT, hb1⟩; (first | (have BB2 := Lib.hid (below_kept BB2.out (Nat.le_refl _) hb1)) | (have BB2 := Lib.hid (below_kept BB.out (Nat.le_refl _) hb1))))
          | (go_at_call 29; refine (laws_toDiagonal x y _).mono ?_; rintro e w1 ⟨rfl, hb1⟩; (first | (have BB2 := Lib.hid (below_kept BB2.out (Nat.le_refl _) hb1)) | (have BB2 := Lib.hid (below_kept BB.out (Nat.le_refl _) hb1))); (first | (replace hT := own_kept hT hb1) | skip))
          | (go_at_call 48; refine (hs.out _ _ _ (SlD.of_own hT) hl1 (Nat.le_refl _)).mono ?_; rintro e w2 ⟨A9, c9, rfl, hW9, hb1⟩; (have HW9 := Lib.hid (hW9.mono BB2.out.size)); (have HD9 := Lib.hid (below_kept BB2.out (Nat.le_refl _) hb1))))
      all_goals go_wp2_with fail
      all_goals go_meet
      all_goals exact ⟨_, _, rfl, rfl, HW9.out, HD9.out⟩
    case rest =>
      obtain ⟨AhW, chW, rfl, rfl, hW, hd⟩ := hcut
      obtain ⟨wb, hwb⟩ : ∃ wb, wb = wc := ⟨_, rfl⟩
      subst hwb
      clear BS hs
      go_wp2_with fail
      have NeWX := Lib.hid (ne_old hW)
      have Hxz := hd.size
      refine (laws_toDiagonalS A1 c1 wa.heap.size l1 _ (H1.out.below hd) hd.size hl1).mono ?_
      rintro e whX ⟨rfl, hX, hb⟩
      replace hW := own_kept hW hb
      replace hd := below_kept hd (Nat.le_refl _) hb
      clear hb
      have q0 := cell_kept hd HB0.out
      have q1 := cell_kept hd HB1.out
      go_wp2_with fail
      clear q0 q1
      refine (laws_toDiagonal x y _).mono ?_
      rintro e wtd ⟨rfl, hb⟩
      replace hW := own_kept hW hb
      replace hX := own_kept hX hb
      replace hd := below_kept hd (Nat.le_refl _) hb
      clear hb
      go_wp2_with fail
      have NeWG := Lib.hid hW.lt
      have XG := (hX.lt _ rfl).2
      have Hwz := hd.size
      refine (hi.out _ _ _ (SlD.of_own hX) hl1 (Nat.le_refl _)).mono ?_
      rintro e whG ⟨AhG, chG, rfl, hG, hb⟩
      have NeGX := Lib.hid (ne_new hG XG)
      have NeW := Lib.hid (ne_two NeWG.out hG)
      have GB := Lib.hid (above hG Hwz)
      clear NeWG XG Hwz
      replace hW := own_kept hW hb
      replace hX := own_kept hX hb
      replace hd := below_kept hd (Nat.le_refl _) hb
      clear hb
      go_wp2_with fail
      refine (laws_eqIntS _ _ _ _ _ _ _ _ (SlI.of_own hG) (SlI.of_own hW) (by omega)).mono ?_
      rintro e wq1 ⟨rfl, hb⟩
      replace hW := own_kept hW hb
      replace hX := own_kept hX hb
      replace hG := own_kept hG hb
      replace hd := below_kept hd (Nat.le_refl _) hb
      clear hb
      go_wp2_with fail
      refine (laws_toDiagonalS A1 c1 wa.heap.size l1 _ (H1.out.below hd) hd.size hl1).mono ?_
      rintro e whY ⟨rfl, hY, hb⟩
      replace hW := own_kept hW hb
      replace hX := own_kept hX hb
      replace hG := own_kept hG hb
      replace hd := below_kept hd (Nat.le_refl _) hb
      clear hb
      go_wp2_with fail
      refine (laws_eqDiagonalS _ _ _ _ _ _ _ _ (SlD.of_own hX) (SlD.of_own hY) (Nat.le_refl _) (Nat.le_refl _) (by omega)).mono ?_
      rintro e wq2 ⟨rfl, hb⟩
      replace hW := own_kept hW hb
      replace hX := own_kept hX hb
      replace hG := own_kept hG hb
      replace hY := own_kept hY hb
      replace hd := below_kept hd (Nat.le_refl _) hb
      clear hb
      go_wp2_with fail
      clear hY
      refine (laws_markDiagonalS_any _ _ _ _ _ hX (by omega)).mono ?_
      rintro e wm ⟨rfl, hN, hg⟩
      replace hW := own_far hW hg NeWX.out
      replace hG := own_far hG hg NeGX.out
      replace hd := below_grown hd hg (Nat.le_refl _) (above_blk Hxz)
      clear hg hX hN Hxz
      go_wp2_with fail
      refine (laws_eqIntS _ _ _ _ _ _ _ _ (SlI.of_own hG) (SlI.of_own hW) (by omega)).mono ?_
      rintro e wq3 ⟨rfl, hb⟩
      replace hW := own_kept hW hb
      replace hG := own_kept hG hb
      replace hd := below_kept hd (Nat.le_refl _) hb
      clear hb
      go_wp2_with fail
      refine (laws_markIntS_any _ _ _ _ _ hG (by omega)).mono ?_
      rintro e wn ⟨rfl, hN, hg⟩
      replace hW := own_far hW hg NeW.out
      replace hd := below_grown hd hg (Nat.le_refl _) GB.out
      clear hg hG
      go_wp2_with fail
      have hG := hN
      clear hN
      refine (laws_heldIntS _ _ _ _ _ (SlI.of_own hG) (by omega)).mono ?_
      rintro e wh4 ⟨rfl, rfl⟩
      obtain ⟨wr, hwr⟩ : ∃ wr, wr = wn := ⟨_, rfl⟩
      subst hwr
      go_upto_region 24 with fail
      have BS := Lib.hid (threeOf HB0.out HB1.out hd.drew)
      go_cut [16, 17] (fun s1 s2 wx => ∃ A c, s1 = .slice A L.length c ∧ s2 = .bool ok ∧ wx.ownsRow wr.heap.size 3 1 (.slice A L.length c) L.length (ics L) ∧ Below wr.heap.size wr wx)
      case first =>
        have BB : Hid (Below wr.heap.size wr wr.drew) := Lib.hid (Below.refl _ _).drew
        go_region_held3 (fun w' => w'.cell? ⟨w.heap.size, 0, none⟩ = some (.int .i64 x) ∧ w'.cell? ⟨w.heap.size, 1, none⟩ = some (.int .i64 y) ∧ Below wa.heap.size wa w')
          (first
            | with_reducible assumption
            | with_reducible exact BS.out
            | with_reducible exact kept2 (by assumption) hb1 (Nat.le_refl _)
            )
          (first
            | (go_at_call 17; refine (laws_toDiagonalS A1 c1 wa.heap.size l1 _ (H1.out.below (three3 (by assumption))) (three3 (by assumption)).size hl1).mono ?_; rintro e wT ⟨rfl, hT, hb1⟩; (first | (have BB2 := Lib.hid (below_kept BB2.out (Nat.le_refl _) hb1)) | (have BB2 := Lib.hid (below_kept BB.out (Nat.le_refl _) hb1))))
            | (go_at_call 29; refine (laws_toDiagonal x y _).mono ?_; rintro e w1 ⟨rfl, hb1⟩; (first | (have BB2 := Lib.hid (below_kept BB2.out (Nat.le_refl _) hb1)) | (have BB2 := Lib.hid (below_kept BB.out (Nat.le_refl _) hb1))); (first | (replace hT := own_kept hT hb1) | skip))
            | (go_at_call 49; refine (hi.out _ _ _ (SlD.of_own hT) hl1 (Nat.le_refl _)).mono ?_; rintro e w2 ⟨A9, c9, rfl, hW9, hb1⟩; (have HW9 := Lib.hid (hW9.mono BB2.out.size)); (have HD9 := Lib.hid (below_kept BB2.out (Nat.le_refl _) hb1))))
        all_goals go_wp2_with fail
        all_goals go_meet
        all_goals exact ⟨_, _, rfl, rfl, HW9.out, HD9.out⟩
      case rest =>
        obtain ⟨AhH, chH, rfl, rfl, hH, hb⟩ := hcut
        clear BS hi
        replace hW := own_kept hW hb
        replace hG := own_kept hG hb
        replace hd := below_kept hd (Nat.le_refl _) hb
        clear hb
        go_wp2_with fail
        refine (laws_eqIntS _ _ _ _ _ _ _ _ (SlI.of_own hH) (SlI.of_own hW) (by omega)).mono ?_
        rintro e wq5 ⟨rfl, hb⟩
        replace hW := own_kept hW hb
        replace hG := own_kept hG hb
        replace hH := own_kept hH hb
        replace hd := below_kept hd (Nat.le_refl _) hb
        clear hb
        go_wp2_with fail
        refine (laws_heldIntS _ _ _ _ _ (SlI.of_own hG) (by omega)).mono ?_
        rintro e wh6 ⟨rfl, rfl⟩
        go_wp2_with fail
        clear hW hG hH
        have hfin := Hba.out.trans (hd.mono Hba.out.size)
        clear hd
        go_wp2
        go_ret
        exact ⟨rfl, hfin⟩
  · have Hz := Lib.hid fun w => laws_sz_over A1 l1.length c1 1048576 w (by omega) (by omega) (by omega)
    have hfin : Below w.heap.size w (w.alloc (.cells #[.int .i64 x, .int .i64 y] 37)) := (Below.refl _ _).alloc (Nat.le_refl _) _
    clear h1 hs hi
    go_enter Try.func13, Try.ntmps13
    go_wp2_with fail
    refine (Hz.out _).mono ?_
    rintro e wz ⟨rfl, rfl⟩
    clear Hz
    go_wp2
    go_ret
    exact ⟨rfl, hfin⟩

end Go.Proofs.Ytbpaaoeefcebeaa
