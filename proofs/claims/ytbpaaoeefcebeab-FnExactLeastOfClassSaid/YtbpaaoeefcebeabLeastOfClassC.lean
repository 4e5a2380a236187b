/- The walk of LeastOfClass's law, out of the contracts of the model's function and of the program's. -/
import Derived.Test.YtbpaaoeefcebeabLawM
namespace Go.Proofs.Ytbpaaoeefcebeab
set_option linter.unusedVariables false
open Go.RowKit

set_option maxHeartbeats 3200000 in
theorem WLeastOfClass.core (w : World) (a0 : Int) (A1 : Option Addr) (c1 : Nat) (l1 : List (Int × Int))
    (h1 : SlD w w.heap.size A1 l1) (hm1 : l1.length ≤ c1) (hx1 : c1 ≤ maxLen)
    (L : List (Int × Int)) (ok : Bool) (hL : L.length ≤ 1000000000) (hs : Hid (∀ (A1 : Option Addr) (c1 : Nat) (w : World), SlD w w.heap.size A1 l1 → l1.length ≤ 1048576 → l1.length ≤ c1 → Calls Try.prog 26 #[.int .i64 a0, .slice A1 l1.length c1] w (RetD w L ok)))
    (hi : Hid (∀ (A1 : Option Addr) (c1 : Nat) (w : World), SlD w w.heap.size A1 l1 → l1.length ≤ 1048576 → l1.length ≤ c1 → Calls Try.prog 27 #[.int .i64 a0, .slice A1 l1.length c1] w (RetD w L ok))) :
    Calls Try.prog 6 #[.int .i64 a0, .slice A1 l1.length c1] w fun e w' => e = .returned (.bool true) ∧ Below w.heap.size w w' := by
  by_cases hl1 : l1.length ≤ 1048576
  · have hzero := Below.refl w.heap.size w
    have e1 : (if l1.length ≤ 1048576 then 1048576 - (l1.length : Int) else -1) = 1048576 - (l1.length : Int) := if_pos hl1
    have hz := laws_szDiagonalS A1 l1.length c1 w (by omega)
    rw [e1] at hz
    have Hz := Lib.hid hz
    clear e1 hz
    go_enter Try.func6, Try.ntmps6
    go_wp2_with fail
    refine Hz.out.mono ?_
    rintro e wz ⟨rfl, rfl⟩
    clear Hz
    go_wp2_with fail
    have hd := hzero
    clear hzero
    refine (laws_toDiagonalS A1 c1 w.heap.size l1 _ (h1.below hd) hd.size hl1).mono ?_
    rintro e whT1 ⟨rfl, hT1, hb⟩
    replace hd := below_kept hd (Nat.le_refl _) hb
    clear hb
    go_wp2_with fail
    refine (hs.out _ _ _ (SlD.of_own hT1) hl1 (Nat.le_refl _)).mono ?_
    rintro e whW ⟨AhW, chW, rfl, hW, hb⟩
    replace hd := below_kept hd (Nat.le_refl _) hb
    clear hb
    clear hT1
    go_wp2_with fail
    have NeWX1 := Lib.hid (ne_old hW)
    have Hxz1 := hd.size
    refine (laws_toDiagonalS A1 c1 w.heap.size l1 _ (h1.below hd) hd.size hl1).mono ?_
    rintro e whX1 ⟨rfl, hX1, hb⟩
    replace hW := own_kept hW hb
    replace hd := below_kept hd (Nat.le_refl _) hb
    clear hb
    go_wp2_with fail
    have NeWG := Lib.hid hW.lt
    have XG1 := (hX1.lt _ rfl).2
    have Hwz := hd.size
    refine (hi.out _ _ _ (SlD.of_own hX1) hl1 (Nat.le_refl _)).mono ?_
    rintro e whG ⟨AhG, chG, rfl, hG, hb⟩
    have NeGX1 := Lib.hid (ne_new hG XG1)
    have NeW := Lib.hid (ne_two NeWG.out hG)
    have GB := Lib.hid (above hG Hwz)
    clear NeWG XG1 Hwz
    replace hW := own_kept hW hb
    replace hX1 := own_kept hX1 hb
    replace hd := below_kept hd (Nat.le_refl _) hb
    clear hb
    go_wp2_with fail
    refine (laws_eqDiagonalS _ _ _ _ _ _ _ _ (SlD.of_own hG) (SlD.of_own hW) (Nat.le_refl _) (Nat.le_refl _) (by omega)).mono ?_
    rintro e wq1 ⟨rfl, hb⟩
    replace hW := own_kept hW hb
    replace hX1 := own_kept hX1 hb
    replace hG := own_kept hG hb
    replace hd := below_kept hd (Nat.le_refl _) hb
    clear hb
    go_wp2_with fail
    refine (laws_toDiagonalS A1 c1 w.heap.size l1 _ (h1.below hd) hd.size hl1).mono ?_
    rintro e whY1 ⟨rfl, hY1, hb⟩
    replace hW := own_kept hW hb
    replace hX1 := own_kept hX1 hb
    replace hG := own_kept hG hb
    replace hd := below_kept hd (Nat.le_refl _) hb
    clear hb
    go_wp2_with fail
    refine (laws_eqDiagonalS _ _ _ _ _ _ _ _ (SlD.of_own hX1) (SlD.of_own hY1) (Nat.le_refl _) (Nat.le_refl _) (by omega)).mono ?_
    rintro e wq2 ⟨rfl, hb⟩
    replace hW := own_kept hW hb
    replace hX1 := own_kept hX1 hb
    replace hG := own_kept hG hb
    replace hY1 := own_kept hY1 hb
    replace hd := below_kept hd (Nat.le_refl _) hb
    clear hb
    go_wp2_with fail
    clear hY1
    refine (laws_markDiagonalS_any _ _ _ _ _ hX1 (by omega)).mono ?_
    rintro e wm3 ⟨rfl, hN, hg⟩
    replace hW := own_far hW hg NeWX1.out
    replace hG := own_far hG hg NeGX1.out
    replace hd := below_grown hd hg (Nat.le_refl _) (above_blk Hxz1)
    clear hg hX1
    go_wp2_with fail
    clear hN
    clear Hxz1
    refine (laws_eqDiagonalS _ _ _ _ _ _ _ _ (SlD.of_own hG) (SlD.of_own hW) (Nat.le_refl _) (Nat.le_refl _) (by omega)).mono ?_
    rintro e wq4 ⟨rfl, hb⟩
    replace hW := own_kept hW hb
    replace hG := own_kept hG hb
    replace hd := below_kept hd (Nat.le_refl _) hb
    clear hb
    go_wp2_with fail
    refine (laws_markDiagonalS_any _ _ _ _ _ hG (by omega)).mono ?_
    rintro e wm5 ⟨rfl, hN, hg⟩
    replace hW := own_far hW hg NeW.out
    replace hd := below_grown hd hg (Nat.le_refl _) GB.out
    clear hg hG
    go_wp2_with fail
    have hG := hN
    clear hN
    refine (laws_heldDiagonalS _ _ _ _ _ (SlD.of_own hG) (by omega)).mono ?_
    rintro e wh6 ⟨rfl, rfl⟩
    go_wp2_with fail
    refine (laws_toDiagonalS A1 c1 w.heap.size l1 _ (h1.below hd) hd.size hl1).mono ?_
    rintro e whU1 ⟨rfl, hU1, hb⟩
    replace hW := own_kept hW hb
    replace hG := own_kept hG hb
    replace hd := below_kept hd (Nat.le_refl _) hb
    clear hb
    go_wp2_with fail
    refine (hi.out _ _ _ (SlD.of_own hU1) hl1 (Nat.le_refl _)).mono ?_
    rintro e whH ⟨AhH, chH, rfl, hH, hb⟩
    replace hW := own_kept hW hb
    replace hG := own_kept hG hb
    replace hd := below_kept hd (Nat.le_refl _) hb
    clear hb
    clear hU1
    go_wp2_with fail
    refine (laws_eqDiagonalS _ _ _ _ _ _ _ _ (SlD.of_own hH) (SlD.of_own hW) (Nat.le_refl _) (Nat.le_refl _) (by omega)).mono ?_
    rintro e wq7 ⟨rfl, hb⟩
    replace hW := own_kept hW hb
    replace hG := own_kept hG hb
    replace hH := own_kept hH hb
    replace hd := below_kept hd (Nat.le_refl _) hb
    clear hb
    go_wp2_with fail
    refine (laws_heldDiagonalS _ _ _ _ _ (SlD.of_own hG) (by omega)).mono ?_
    rintro e wh8 ⟨rfl, rfl⟩
    go_wp2_with fail
    clear hs hi hW hG hH h1
    go_wp2
    go_ret
    exact ⟨rfl, hd⟩
  · have hdd := Below.refl w.heap.size w
    have e1 : (if l1.length ≤ 1048576 then 1048576 - (l1.length : Int) else -1) = -1 := if_neg hl1
    have hz := laws_szDiagonalS A1 l1.length c1 w (by omega)
    rw [e1] at hz
    have Hz := Lib.hid hz
    clear e1 hz h1 hs hi
    go_enter Try.func6, Try.ntmps6
    go_wp2_with fail
    refine Hz.out.mono ?_
    rintro e wz ⟨rfl, rfl⟩
    clear Hz
    go_wp2
    go_ret
    exact ⟨rfl, hdd⟩

end Go.Proofs.Ytbpaaoeefcebeab
