/- The walk of CommonDiagonals's law, out of the contracts of the model's function and of the program's. -/
import Derived.Test.YtbpaaoeefcebeaaLawK2
namespace Go.Proofs.Ytbpaaoeefcebeaa
set_option linter.unusedVariables false
open Go.RowKit

set_option maxHeartbeats 3200000 in
theorem WCommonDiagonals.core (w : World) (a0 : Int) (A1 : Option Addr) (c1 : Nat) (l1 : List (Int × Int)) (A2 : Option Addr) (c2 : Nat) (l2 : List (Int × Int))
    (h1 : SlD w w.heap.size A1 l1) (hm1 : l1.length ≤ c1) (hx1 : c1 ≤ maxLen)
    (h2 : SlD w w.heap.size A2 l2) (hm2 : l2.length ≤ c2) (hx2 : c2 ≤ maxLen)
    (L : List (Int × Int)) (ok : Bool) (hL : L.length ≤ 1000000000) (hs : Hid (∀ (A1 : Option Addr) (c1 : Nat) (A2 : Option Addr) (c2 : Nat) (w : World), SlD w w.heap.size A1 l1 → l1.length ≤ 1048576 → l1.length ≤ c1 → SlD w w.heap.size A2 l2 → l2.length ≤ 1048576 → l2.length ≤ c2 → Calls Try.prog 42 #[.int .i64 a0, .slice A1 l1.length c1, .slice A2 l2.length c2] w (RetD w L ok)))
    (hi : Hid (∀ (A1 : Option Addr) (c1 : Nat) (A2 : Option Addr) (c2 : Nat) (w : World), SlD w w.heap.size A1 l1 → l1.length ≤ 1048576 → l1.length ≤ c1 → SlD w w.heap.size A2 l2 → l2.length ≤ 1048576 → l2.length ≤ c2 → Calls Try.prog 43 #[.int .i64 a0, .slice A1 l1.length c1, .slice A2 l2.length c2] w (RetD w L ok))) :
    Calls Try.prog 10 #[.int .i64 a0, .slice A1 l1.length c1, .slice A2 l2.length c2] w fun e w' => e = .returned (.bool true) ∧ Below w.heap.size w w' := by
  by_cases hl1 : l1.length ≤ 1048576
  · have hzero := Below.refl w.heap.size w
    by_cases hs2 : (l2.length : Int) ≤ 1048576 - (l1.length : Int)
    · have hl2 : l2.length ≤ 1048576 := by omega
      have Hz := Lib.hid (laws_sz_fit A1 l1.length c1 1048576 w (by omega) (by omega))
      have Hz2 := Lib.hid (laws_sz_fit A2 l2.length c2 (1048576 - (l1.length : Int)) w (by omega) (by omega))
      go_enter Try.func10, Try.ntmps10
      go_wp2_with fail
      refine Hz.out.mono ?_
      rintro e wz ⟨rfl, rfl⟩
      clear Hz
      go_wp2_with fail
      refine Hz2.out.mono ?_
      rintro e wz ⟨rfl, rfl⟩
      clear Hz2
      go_wp2_with fail
      clear hs2
      have hd := hzero
      clear hzero
      refine (laws_toDiagonalS A1 c1 w.heap.size l1 _ (h1.below hd) hd.size hl1).mono ?_
      rintro e whT1 ⟨rfl, hT1, hb⟩
      replace hd := below_kept hd (Nat.le_refl _) hb
      clear hb
      go_wp2_with fail
      refine (laws_toDiagonalS A2 c2 w.heap.size l2 _ (h2.below hd) hd.size hl2).mono ?_
      rintro e whT2 ⟨rfl, hT2, hb⟩
      replace hT1 := own_kept hT1 hb
      replace hd := below_kept hd (Nat.le_refl _) hb
      clear hb
      go_wp2_with fail
      refine (hs.out _ _ _ _ _ (SlD.of_own hT1) hl1 (Nat.le_refl _) (SlD.of_own hT2) hl2 (Nat.le_refl _)).mono ?_
      rintro e whW ⟨AhW, chW, rfl, hW, hb⟩
      replace hd := below_kept hd (Nat.le_refl _) hb
      clear hb
      clear hT1
      clear hT2
      go_wp2_with fail
      have NeWX1 := Lib.hid (ne_old hW)
      have Hxz1 := hd.size
      refine (laws_toDiagonalS A1 c1 w.heap.size l1 _ (h1.below hd) hd.size hl1).mono ?_
      rintro e whX1 ⟨rfl, hX1, hb⟩
      replace hW := own_kept hW hb
      replace hd := below_kept hd (Nat.le_refl _) hb
      clear hb
      go_wp2_with fail
      have NeWX2 := Lib.hid (ne_old hW)
      have Hxz2 := hd.size
      have XX := (hX1.lt _ rfl).2
      refine (laws_toDiagonalS A2 c2 w.heap.size l2 _ (h2.below hd) hd.size hl2).mono ?_
      rintro e whX2 ⟨rfl, hX2, hb⟩
      have NeXX := Lib.hid (ne_new hX2 XX)
      clear XX
      replace hW := own_kept hW hb
      replace hX1 := own_kept hX1 hb
      replace hd := below_kept hd (Nat.le_refl _) hb
      clear hb
      go_wp2_with fail
      have NeWG := Lib.hid hW.lt
      have XG1 := (hX1.lt _ rfl).2
      have XG2 := (hX2.lt _ rfl).2
      have Hwz := hd.size
      refine (hi.out _ _ _ _ _ (SlD.of_own hX1) hl1 (Nat.le_refl _) (SlD.of_own hX2) hl2 (Nat.le_refl _)).mono ?_
      rintro e whG ⟨AhG, chG, rfl, hG, hb⟩
      have NeGX1 := Lib.hid (ne_new hG XG1)
      have NeGX2 := Lib.hid (ne_new hG XG2)
      have NeW := Lib.hid (ne_two NeWG.out hG)
      have GB := Lib.hid (above hG Hwz)
      clear NeWG XG1 XG2 Hwz
      replace hW := own_kept hW hb
      replace hX1 := own_kept hX1 hb
      replace hX2 := own_kept hX2 hb
      replace hd := below_kept hd (Nat.le_refl _) hb
      clear hb
      go_wp2_with fail
      refine (laws_eqDiagonalS _ _ _ _ _ _ _ _ (SlD.of_own hG) (SlD.of_own hW) (Nat.le_refl _) (Nat.le_refl _) (by omega)).mono ?_
      rintro e wq1 ⟨rfl, hb⟩
      replace hW := own_kept hW hb
      replace hX1 := own_kept hX1 hb
      replace hX2 := own_kept hX2 hb
      replace hG := own_kept hG hb
      replace hd := below_kept hd (Nat.le_refl _) hb
      clear hb
      go_wp2_with fail
      refine (laws_toDiagonalS A1 c1 w.heap.size l1 _ (h1.below hd) hd.size hl1).mono ?_
      rintro e whY1 ⟨rfl, hY1, hb⟩
      replace hW := own_kept hW hb
      replace hX1 := own_kept hX1 hb
      replace hX2 := own_kept hX2 hb
      replace hG := own_kept hG hb
      replace hd := below_kept hd (Nat.le_refl _) hb
      clear hb
      go_wp2_with fail
      refine (laws_eqDiagonalS _ _ _ _ _ _ _ _ (SlD.of_own hX1) (SlD.of_own hY1) (Nat.le_refl _) (Nat.le_refl _) (by omega)).mono ?_
      rintro e wq2 ⟨rfl, hb⟩
      replace hW := own_kept hW hb
      replace hX1 := own_kept hX1 hb
      replace hX2 := own_kept hX2 hb
      replace hG := own_kept hG hb
      replace hY1 := own_kept hY1 hb
      replace hd := below_kept hd (Nat.le_refl _) hb
      clear hb
      go_wp2_with fail
      clear hY1
      refine (laws_toDiagonalS A2 c2 w.heap.size l2 _ (h2.below hd) hd.size hl2).mono ?_
      rintro e whY2 ⟨rfl, hY2, hb⟩
      replace hW := own_kept hW hb
      replace hX1 := own_kept hX1 hb
      replace hX2 := own_kept hX2 hb
      replace hG := own_kept hG hb
      replace hd := below_kept hd (Nat.le_refl _) hb
      clear hb
      go_wp2_with fail
      refine (laws_eqDiagonalS _ _ _ _ _ _ _ _ (SlD.of_own hX2) (SlD.of_own hY2) (Nat.le_refl _) (Nat.le_refl _) (by omega)).mono ?_
      rintro e wq3 ⟨rfl, hb⟩
      replace hW := own_kept hW hb
      replace hX1 := own_kept hX1 hb
      replace hX2 := own_kept hX2 hb
      replace hG := own_kept hG hb
      replace hY2 := own_kept hY2 hb
      replace hd := below_kept hd (Nat.le_refl _) hb
      clear hb
      go_wp2_with fail
      clear hY2
      refine (laws_markDiagonalS_any _ _ _ _ _ hX1 (by omega)).mono ?_
      rintro e wm4 ⟨rfl, hN, hg⟩
      replace hW := own_far hW hg NeWX1.out
      replace hG := own_far hG hg NeGX1.out
      replace hX2 := own_far hX2 hg NeXX.out
      replace hd := below_grown hd hg (Nat.le_refl _) (above_blk Hxz1)
      clear hg hX1
      go_wp2_with fail
      clear hN
      clear Hxz1
      refine (laws_markDiagonalS_k _ _ _ _ _ _ hX2 (by omega) (by omega)).mono ?_
      rintro e wm5 ⟨rfl, hg⟩
      replace hW := own_far hW hg NeWX2.out
      replace hG := own_far hG hg NeGX2.out
      replace hd := below_grown hd hg (Nat.le_refl _) (above_blk Hxz2)
      clear hg hX2
      go_wp2_with fail
      clear Hxz2
      refine (laws_eqDiagonalS _ _ _ _ _ _ _ _ (SlD.of_own hG) (SlD.of_own hW) (Nat.le_refl _) (Nat.le_refl _) (by omega)).mono ?_
      rintro e wq6 ⟨rfl, hb⟩
      replace hW := own_kept hW hb
      replace hG := own_kept hG hb
      replace hd := below_kept hd (Nat.le_refl _) hb
      clear hb
      go_wp2_with fail
      refine (laws_markDiagonalS_any _ _ _ _ _ hG (by omega)).mono ?_
      rintro e wm7 ⟨rfl, hN, hg⟩
      replace hW := own_far hW hg NeW.out
      replace hd := below_grown hd hg (Nat.le_refl _) GB.out
      clear hg hG
      go_wp2_with fail
      have hG := hN
      clear hN
      refine (laws_heldDiagonalS _ _ _ _ _ (SlD.of_own hG) (by omega)).mono ?_
      rintro e wh8 ⟨rfl, rfl⟩
      go_wp2_with fail
      refine (laws_toDiagonalS A1 c1 w.heap.size l1 _ (h1.below hd) hd.size hl1).mono ?_
      rintro e whU1 ⟨rfl, hU1, hb⟩
      replace hW := own_kept hW hb
      replace hG := own_kept hG hb
      replace hd := below_kept hd (Nat.le_refl _) hb
      clear hb
      go_wp2_with fail
      refine (laws_toDiagonalS A2 c2 w.heap.size l2 _ (h2.below hd) hd.size hl2).mono ?_
      rintro e whU2 ⟨rfl, hU2, hb⟩
      replace hW := own_kept hW hb
      replace hG := own_kept hG hb
      replace hU1 := own_kept hU1 hb
      replace hd := below_kept hd (Nat.le_refl _) hb
      clear hb
      go_wp2_with fail
      refine (hi.out _ _ _ _ _ (SlD.of_own hU1) hl1 (Nat.le_refl _) (SlD.of_own hU2) hl2 (Nat.le_refl _)).mono ?_
      rintro e whH ⟨AhH, chH, rfl, hH, hb⟩
      replace hW := own_kept hW hb
      replace hG := own_kept hG hb
      replace hd := below_kept hd (Nat.le_refl _) hb
      clear hb
      clear hU1
      clear hU2
      go_wp2_with fail
      refine (laws_eqDiagonalS _ _ _ _ _ _ _ _ (SlD.of_own hH) (SlD.of_own hW) (Nat.le_refl _) (Nat.le_refl _) (by omega)).mono ?_
      rintro e wq9 ⟨rfl, hb⟩
      replace hW := own_kept hW hb
      replace hG := own_kept hG hb
      replace hH := own_kept hH hb
      replace hd := below_kept hd (Nat.le_refl _) hb
      clear hb
      go_wp2_with fail
      refine (laws_heldDiagonalS _ _ _ _ _ (SlD.of_own hG) (by omega)).mono ?_
      rintro e wh10 ⟨rfl, rfl⟩
      go_wp2_with fail
      clear hs hi hW hG hH h1 h2
      go_wp2
      go_ret
      exact ⟨rfl, hd⟩
    · have Hz := Lib.hid (laws_sz_fit A1 l1.length c1 1048576 w (by omega) (by omega))
      have Hz2 := Lib.hid (laws_sz_over A2 l2.length c2 (1048576 - (l1.length : Int)) w (by omega) (by omega) (by omega))
      clear h1 h2 hs hi
      go_enter Try.func10, Try.ntmps10
      go_wp2_with fail
      refine Hz.out.mono ?_
      rintro e wz ⟨rfl, rfl⟩
      clear Hz
      go_wp2_with fail
      refine Hz2.out.mono ?_
      rintro e wz ⟨rfl, rfl⟩
      clear Hz2 hs2
      go_wp2
      go_ret
      exact ⟨rfl, hzero⟩
  · have hdd := Below.refl w.heap.size w
    have e1 : (if l1.length ≤ 1048576 then 1048576 - (l1.length : Int) else -1) = -1 := if_neg hl1
    have hz := laws_szDiagonalS A1 l1.length c1 w (by omega)
    rw [e1] at hz
    have Hz := Lib.hid hz
    clear e1 hz h1 h2 hs hi
    go_enter Try.func10, Try.ntmps10
    go_wp2_with fail
    refine Hz.out.mono ?_
    rintro e wz ⟨rfl, rfl⟩
    clear Hz
    go_wp2
    go_ret
    exact ⟨rfl, hdd⟩

end Go.Proofs.Ytbpaaoeefcebeaa
