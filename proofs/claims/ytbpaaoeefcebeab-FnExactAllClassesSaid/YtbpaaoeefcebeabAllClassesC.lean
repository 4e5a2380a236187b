/- The walk of AllClasses's law, out of the contracts of the model's function and of the program's. -/
import Derived.Test.YtbpaaoeefcebeabLawDD
namespace Go.Proofs.Ytbpaaoeefcebeab
set_option linter.unusedVariables false
open Go.RowKit

set_option maxHeartbeats 3200000 in
theorem WAllClasses.core (w : World) (a0 : Int)
    (L : List (List (Int × Int))) (ok : Bool) (hL : L.length ≤ 1000000) (hLr : ∀ j, j < L.length → (rowD L j).length ≤ 1000000) (hLp : preD L L.length ≤ 1000000) (hs : Hid (∀ (w : World), Calls Try.prog 32 #[.int .i64 a0] w (RetDD w L ok)))
    (hi : Hid (∀ (w : World), Calls Try.prog 33 #[.int .i64 a0] w (RetDD w L ok))) :
    Calls Try.prog 9 #[.int .i64 a0] w fun e w' => e = .returned (.bool true) ∧ Below w.heap.size w w' := by
  have HLr := Lib.hid hLr
  have HLp := Lib.hid hLp
  clear hLr hLp
  have hd := Below.refl w.heap.size w
  go_enter Try.func9, Try.ntmps9
  go_wp2_with fail
  refine (hs.out _).mono ?_
  rintro e whW ⟨AhW, chW, rshW, rfl, hW, hb⟩
  replace hd := below_kept hd (Nat.le_refl _) hb
  clear hb
  have sW := Lib.hid hW.sl
  have hdW := Below.refl whW.heap.size whW
  clear hW
  go_wp2_with fail
  have HbW := Lib.hid hdW.size
  have Hbz := Lib.hid hd.size
  refine (hi.out _).mono ?_
  rintro e whG ⟨AhG, chG, rshG, rfl, hG, hb⟩
  have Hz := Lib.hid hb.size
  replace hdW := below_kept hdW (Nat.le_refl _) hb
  replace hd := below_kept hd (Nat.le_refl _) hb
  clear hb
  go_wp2_with fail
  refine (laws_eqDiagonalSS _ _ _ _ _ _ L _ hG.sl (sW.out.below hdW) (Nat.le_refl _) hdW.size hL HLr.out).mono ?_
  rintro e wq1 ⟨rfl, hb⟩
  replace hG := hG.kept hb
  replace Hz := Lib.hid (Nat.le_trans Hz.out hb.size)
  replace hdW := below_kept hdW (Nat.le_refl _) hb
  replace hd := below_kept hd (Nat.le_refl _) hb
  clear hb
  go_wp2_with fail
  have hlen := Lib.hid (mkD_length L L.length)
  refine (laws_markDiagonalSS _ _ _ _ L _ hG Hz.out hL HLp.out).mono ?_
  rintro e wn ⟨rfl, hN, hbm⟩
  replace hdW := hdW.trans (hbm.mono HbW.out)
  replace hd := hd.trans (hbm.mono Hbz.out)
  replace Hz := Lib.hid (Nat.le_trans Hz.out hbm.size)
  clear hbm hG
  go_wp2_with fail
  have hG := hN
  clear hN
  have sG := hG.sl
  refine (laws_heldDiagonalSS _ _ _ L _ sG hL HLp.out).mono ?_
  rintro e wh2 ⟨rfl, rfl⟩
  clear sG
  go_wp2_with fail
  refine (hi.out _).mono ?_
  rintro e whH ⟨AhH, chH, rshH, rfl, hH, hb⟩
  replace hG := hG.kept hb
  replace Hz := Lib.hid (Nat.le_trans Hz.out hb.size)
  replace hdW := below_kept hdW (Nat.le_refl _) hb
  replace hd := below_kept hd (Nat.le_refl _) hb
  clear hb
  go_wp2_with fail
  refine (laws_eqDiagonalSS _ _ _ _ _ _ L _ hH.sl (sW.out.below hdW) (Nat.le_refl _) hdW.size hL HLr.out).mono ?_
  rintro e wq3 ⟨rfl, hb⟩
  replace hG := hG.kept hb
  replace Hz := Lib.hid (Nat.le_trans Hz.out hb.size)
  replace hdW := below_kept hdW (Nat.le_refl _) hb
  replace hd := below_kept hd (Nat.le_refl _) hb
  clear hb
  clear hH
  go_wp2_with fail
  have sG := hG.sl
  refine (laws_heldDiagonalSS _ _ _ L _ sG hL HLp.out).mono ?_
  rintro e wh4 ⟨rfl, rfl⟩
  clear sG
  go_wp2_with fail
  clear hs hi hG hdW 
  go_wp2
  go_ret
  exact ⟨rfl, hd⟩

end Go.Proofs.Ytbpaaoeefcebeab
