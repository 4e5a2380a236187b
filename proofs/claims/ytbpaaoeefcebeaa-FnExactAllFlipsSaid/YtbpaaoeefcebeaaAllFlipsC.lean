/- The walk of AllFlips's law, out of the contracts of the model's function and of the program's. -/
import Derived.Test.YtbpaaoeefcebeaaLawDD
namespace Go.Proofs.Ytbpaaoeefcebeaa
set_option linter.unusedVariables false
open Go.RowKit

set_option maxHeartbeats 3200000 in
theorem WAllFlips.core (w : World) (a0 : Int) (A1 : Option Addr) (c1 : Nat) (l1 : List (Int × Int))
    (h1 : SlD w w.heap.size A1 l1) (hm1 : l1.length ≤ c1) (hx1 : c1 ≤ maxLen)
    (L : List (List (Int × Int))) (ok : Bool) (hL : L.length ≤ 1000000) (hLr : ∀ j, j < L.length → (rowD L j).length ≤ 1000000) (hLp : preD L L.length ≤ 1000000) (hs : Hid (∀ (A1 : Option Addr) (c1 : Nat) (w : World), SlD w w.heap.size A1 l1 → l1.length ≤ 1048576 → l1.length ≤ c1 → Calls Try.prog 35 #[.int .i64 a0, .slice A1 l1.length c1] w (RetDD w L ok)))
    (hi : Hid (∀ (A1 : Option Addr) (c1 : Nat) (w : World), SlD w w.heap.size A1 l1 → l1.length ≤ 1048576 → l1.length ≤ c1 → Calls Try.prog 36 #[.int .i64 a0, .slice A1 l1.length c1] w (RetDD w L ok))) :
    Calls Try.prog 8 #[.int .i64 a0, .slice A1 l1.length c1] w fun e w' => e = .returned (.bool true) ∧ Below w.heap.size w w' := by
  by_cases hl1 : l1.length ≤ 1048576
  · have hzero := Below.refl w.heap.size w
    have HLr := Lib.hid hLr
    have HLp := Lib.hid hLp
    clear hLr hLp
    have Hsz := Lib.hid (laws_sz_fit A1 l1.length c1 1048576 w (by omega) (by omega))
    go_enter Try.func8, Try.ntmps8
    go_wp2_with fail
    refine Hsz.out.mono ?_
    rintro e wz ⟨rfl, rfl⟩
    clear Hsz
    go_wp2_with fail
    have hd := hzero
    clear hzero
    refine (laws_toDiagonalS A1 c1 w.heap.size l1 _ (h1.below hd) hd.size hl1).mono ?_
    rintro e whT ⟨rfl, hT, hb⟩
    replace hd := below_kept hd (Nat.le_refl _) hb
    clear hb
    go_wp2_with fail
    refine (hs.out _ _ _ (SlD.of_own hT) hl1 (Nat.le_refl _)).mono ?_
    rintro e whW ⟨AhW, chW, rshW, rfl, hW, hb⟩
    replace hd := below_kept hd (Nat.le_refl _) hb
    clear hb
    clear hT
    have sW := Lib.hid hW.sl
    have hdW := Below.refl whW.heap.size whW
    clear hW
    go_wp2_with fail
    have HxW := Lib.hid hdW.size
    have Hxz := hd.size
    refine (laws_toDiagonalS A1 c1 w.heap.size l1 _ (h1.below hd) hd.size hl1).mono ?_
    rintro e whX ⟨rfl, hX, hb⟩
    replace hdW := below_kept hdW (Nat.le_refl _) hb
    replace hd := below_kept hd (Nat.le_refl _) hb
    clear hb
    go_wp2_with fail
    have XG := (hX.lt _ rfl).2
    have HbW := Lib.hid hdW.size
    have Hbz := Lib.hid hd.size
    refine (hi.out _ _ _ (SlD.of_own hX) hl1 (Nat.le_refl _)).mono ?_
    rintro e whG ⟨AhG, chG, rshG, rfl, hG, hb⟩
    have Hz := Lib.hid hb.size
    replace hX := own_kept hX hb
    replace hdW := below_kept hdW (Nat.le_refl _) hb
    replace hd := below_kept hd (Nat.le_refl _) hb
    clear hb
    go_wp2_with fail
    refine (laws_eqDiagonalSS _ _ _ _ _ _ L _ hG.sl (sW.out.below hdW) (Nat.le_refl _) hdW.size hL HLr.out).mono ?_
    rintro e wq1 ⟨rfl, hb⟩
    replace hX := own_kept hX hb
    replace hG := hG.kept hb
    replace Hz := Lib.hid (Nat.le_trans Hz.out hb.size)
    replace hdW := below_kept hdW (Nat.le_refl _) hb
    replace hd := below_kept hd (Nat.le_refl _) hb
    clear hb
    go_wp2_with fail
    refine (laws_toDiagonalS A1 c1 w.heap.size l1 _ (h1.below hd) hd.size hl1).mono ?_
    rintro e whY ⟨rfl, hY, hb⟩
    replace hX := own_kept hX hb
    replace hG := hG.kept hb
    replace Hz := Lib.hid (Nat.le_trans Hz.out hb.size)
    replace hdW := below_kept hdW (Nat.le_refl _) hb
    replace hd := below_kept hd (Nat.le_refl _) hb
    clear hb
    go_wp2_with fail
    refine (laws_eqDiagonalS _ _ _ _ _ _ _ _ (SlD.of_own hX) (SlD.of_own hY) (Nat.le_refl _) (Nat.le_refl _) (by omega)).mono ?_
    rintro e wq2 ⟨rfl, hb⟩
    replace hX := own_kept hX hb
    replace hY := own_kept hY hb
    replace hG := hG.kept hb
    replace Hz := Lib.hid (Nat.le_trans Hz.out hb.size)
    replace hdW := below_kept hdW (Nat.le_refl _) hb
    replace hd := below_kept hd (Nat.le_refl _) hb
    clear hb
    go_wp2_with fail
    clear hY
    refine (laws_markDiagonalS_any _ _ _ _ _ hX (by omega)).mono ?_
    rintro e wm ⟨rfl, hN, hg⟩
    replace hG := hG.far hg (fun k hk => by simp [Value.ownBlock] at hk; omega)
    replace Hz := Lib.hid (Nat.le_trans Hz.out hg.size)
    replace hdW := below_grown hdW hg (Nat.le_refl _) (above_blk HxW.out)
    replace hd := below_grown hd hg (Nat.le_refl _) (above_blk Hxz)
    clear hg hX hN Hxz
    go_wp2_with fail
    refine (laws_eqDiagonalSS _ _ _ _ _ _ L _ hG.sl (sW.out.below hdW) (Nat.le_refl _) hdW.size hL HLr.out).mono ?_
    rintro e wq3 ⟨rfl, hb⟩
    replace hG := hG.kept hb
    replace Hz := Lib.hid (Nat.le_trans Hz.out hb.size)
    replace hdW := below_kept hdW (Nat.le_refl _) hb
    replace hd := below_kept hd (Nat.le_refl _) hb
    clear hb
    go_wp2_with fail
    have hlen := Lib.hid (mkD_length L L.length)
    refine (laws_markDiagonalSS _ _ _ _ L _ hG Hz.out hL HLp.out).mono ?_
    rintro e wn ⟨rfl, hN, hbm⟩
    replace hdW := hdW.trans (hbm.mono HbW.out)
    replace hd := hd.trans (hbm.mono Hbz.out)
    replace Hz := Lib.hid (Nat.le_trans Hz.out hbm.size)
    clear hbm hG
    go_wp2_with fail
    have hG := hN
    clear hN
    have sG := hG.sl
    refine (laws_heldDiagonalSS _ _ _ L _ sG hL HLp.out).mono ?_
    rintro e wh4 ⟨rfl, rfl⟩
    clear sG
    go_wp2_with fail
    refine (laws_toDiagonalS A1 c1 w.heap.size l1 _ (h1.below hd) hd.size hl1).mono ?_
    rintro e whU ⟨rfl, hU, hb⟩
    replace hG := hG.kept hb
    replace Hz := Lib.hid (Nat.le_trans Hz.out hb.size)
    replace hdW := below_kept hdW (Nat.le_refl _) hb
    replace hd := below_kept hd (Nat.le_refl _) hb
    clear hb
    go_wp2_with fail
    refine (hi.out _ _ _ (SlD.of_own hU) hl1 (Nat.le_refl _)).mono ?_
    rintro e whH ⟨AhH, chH, rshH, rfl, hH, hb⟩
    replace hG := hG.kept hb
    replace Hz := Lib.hid (Nat.le_trans Hz.out hb.size)
    replace hdW := below_kept hdW (Nat.le_refl _) hb
    replace hd := below_kept hd (Nat.le_refl _) hb
    clear hb
    clear hU
    go_wp2_with fail
    refine (laws_eqDiagonalSS _ _ _ _ _ _ L _ hH.sl (sW.out.below hdW) (Nat.le_refl _) hdW.size hL HLr.out).mono ?_
    rintro e wq5 ⟨rfl, hb⟩
    replace hG := hG.kept hb
    replace Hz := Lib.hid (Nat.le_trans Hz.out hb.size)
    replace hdW := below_kept hdW (Nat.le_refl _) hb
    replace hd := below_kept hd (Nat.le_refl _) hb
    clear hb
    clear hH
    go_wp2_with fail
    have sG := hG.sl
    refine (laws_heldDiagonalSS _ _ _ L _ sG hL HLp.out).mono ?_
    rintro e wh6 ⟨rfl, rfl⟩
    clear sG
    go_wp2_with fail
    clear hs hi hG hdW h1
    go_wp2
    go_ret
    exact ⟨rfl, hd⟩
  · have hdd := Below.refl w.heap.size w
    have Hsz := Lib.hid (laws_sz_over A1 l1.length c1 1048576 w (by omega) (by omega) (by omega))
    clear h1 hs hi hLr hLp
    go_enter Try.func8, Try.ntmps8
    go_wp2_with fail
    refine Hsz.out.mono ?_
    rintro e wz ⟨rfl, rfl⟩
    clear Hsz
    go_wp2
    go_ret
    exact ⟨rfl, hdd⟩

end Go.Proofs.Ytbpaaoeefcebeaa
