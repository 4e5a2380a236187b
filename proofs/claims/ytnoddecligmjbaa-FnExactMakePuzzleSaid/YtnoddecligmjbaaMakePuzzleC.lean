/- The walk of MakePuzzle's law, out of the contracts of the model's function and of the program's. -/
import Derived.Test.YtnoddecligmjbaaPuzH
namespace Go.Proofs.Ytnoddecligmjbaa
set_option linter.unusedVariables false
open Go.RowKit

set_option maxRecDepth 100000 in
set_option maxHeartbeats 6400000 in
theorem WMakePuzzle.core (w : World) (a0 : Int) (a1 : Int) (a2 : Int)
    (L : List Int) (ok : Bool) (hL : L.length ≤ 1000000000) (hs : Hid (∀ (w : World), Calls Try.prog 32 #[.int .i64 a0, .int .i64 a1, .int .i64 a2] w (RetP w L ok)))
    (hi : Hid (∀ (w : World), Calls Try.prog 33 #[.int .i64 a0, .int .i64 a1, .int .i64 a2] w (RetP w L ok))) :
    Calls Try.prog 8 #[.int .i64 a0, .int .i64 a1, .int .i64 a2] w fun e w' => e = .returned (.bool true) ∧ Below w.heap.size w w' := by
  have hd := Below.refl w.heap.size w
  go_enter Try.func8, Try.ntmps8
  go_wp2_with fail
  refine (hs.out _).mono ?_
  rintro e whW ⟨AhW, chW, rfl, hW, hb⟩
  replace hd := below_kept hd (Nat.le_refl _) hb
  clear hb
  go_wp2_with fail
  have hb := below_box (Below.refl whW.heap.size whW) (Nat.le_refl _) (.cells #[.slice AhW L.length chW] 27)
  replace hW := own_kept hW hb
  replace hd := below_kept hd (Nat.le_refl _) hb
  clear hb
  have QW := Lib.hid (Bo.new whW (.slice AhW L.length chW) 27)
  have NeWG := Lib.hid hW.lt
  have Hwz := hd.size
  refine (hi.out _).mono ?_
  rintro e whG ⟨AhG, chG, rfl, hG, hb⟩
  have NeW := Lib.hid (ne_two NeWG.out hG)
  have GB := Lib.hid (above hG Hwz)
  clear NeWG  Hwz
  replace hW := own_kept hW hb
  replace QW := Lib.hid (QW.out.kept hb)
  replace hd := below_kept hd (Nat.le_refl _) hb
  clear hb
  have cQW := QW.out.cell
  have yQW := QW.out.lt
  go_wp2_with fail
  clear cQW yQW
  have hb := below_box (Below.refl whG.heap.size whG) (Nat.le_refl _) (.cells #[.slice AhG L.length chG] 27)
  replace hW := own_kept hW hb
  replace hG := own_kept hG hb
  replace QW := Lib.hid (QW.out.kept hb)
  replace hd := below_kept hd (Nat.le_refl _) hb
  clear hb
  have QG := Lib.hid (Bo.new whG (.slice AhG L.length chG) 27)
  refine (laws_eqPuzzle _ _ _ _ _ _ _ _ (SlI.of_own hG) (Nat.le_refl _) (SlI.of_own hW) (Nat.le_refl _) (by omega)).mono ?_
  rintro e wq1 ⟨rfl, hb⟩
  replace hW := own_kept hW hb
  replace hG := own_kept hG hb
  replace QW := Lib.hid (QW.out.kept hb)
  replace QG := Lib.hid (QG.out.kept hb)
  replace hd := below_kept hd (Nat.le_refl _) hb
  clear hb
  have cQW := QW.out.cell
  have yQW := QW.out.lt
  have cQG := QG.out.cell
  have yQG := QG.out.lt
  go_wp2_with fail
  clear cQW yQW cQG yQG
  have neQW := Lib.hid (bo_ne QW.out hG (by decide))
  have neQG := Lib.hid (bo_ne QG.out hG (by decide))
  refine (laws_markPuzzle_any _ _ _ _ _ hG (by omega)).mono ?_
  rintro e wm2 ⟨rfl, hN, wmm, hbm, hg⟩
  --MARKED
  replace hd := below_grown (below_kept hd (Nat.le_refl _) hbm) hg (Nat.le_refl _) GB.out
  replace hW := own_far (own_kept hW hbm) hg NeW.out
  replace QW := Lib.hid ((QW.out.kept hbm).far hg neQW.out)
  replace QG := Lib.hid ((QG.out.kept hbm).far hg neQG.out)
  clear hg hbm hG neQW neQG
  have hG := hN
  clear hN
  have cQW := QW.out.cell
  have yQW := QW.out.lt
  have cQG := QG.out.cell
  have yQG := QG.out.lt
  go_wp2_with fail
  clear cQW yQW cQG yQG
  refine (laws_heldPuzzle _ _ _ _ _ (SlI.of_own hG) (Nat.le_refl _) (by omega)).mono ?_
  rintro e wh3 ⟨rfl, hb⟩
  replace hW := own_kept hW hb
  replace hG := own_kept hG hb
  replace QW := Lib.hid (QW.out.kept hb)
  replace QG := Lib.hid (QG.out.kept hb)
  replace hd := below_kept hd (Nat.le_refl _) hb
  clear hb
  have cQW := QW.out.cell
  have yQW := QW.out.lt
  have cQG := QG.out.cell
  have yQG := QG.out.lt
  go_wp2_with fail
  clear cQW yQW cQG yQG
  refine (hi.out _).mono ?_
  rintro e whH ⟨AhH, chH, rfl, hH, hb⟩
  replace hW := own_kept hW hb
  replace hG := own_kept hG hb
  replace QW := Lib.hid (QW.out.kept hb)
  replace QG := Lib.hid (QG.out.kept hb)
  replace hd := below_kept hd (Nat.le_refl _) hb
  clear hb
  have cQW := QW.out.cell
  have yQW := QW.out.lt
  have cQG := QG.out.cell
  have yQG := QG.out.lt
  go_wp2_with fail
  clear cQW yQW cQG yQG
  have hb := below_box (Below.refl whH.heap.size whH) (Nat.le_refl _) (.cells #[.slice AhH L.length chH] 27)
  replace hW := own_kept hW hb
  replace hG := own_kept hG hb
  replace hH := own_kept hH hb
  replace QW := Lib.hid (QW.out.kept hb)
  replace QG := Lib.hid (QG.out.kept hb)
  replace hd := below_kept hd (Nat.le_refl _) hb
  clear hb
  have QH := Lib.hid (Bo.new whH (.slice AhH L.length chH) 27)
  refine (laws_eqPuzzle _ _ _ _ _ _ _ _ (SlI.of_own hH) (Nat.le_refl _) (SlI.of_own hW) (Nat.le_refl _) (by omega)).mono ?_
  rintro e wq4 ⟨rfl, hb⟩
  replace hW := own_kept hW hb
  replace hG := own_kept hG hb
  replace hH := own_kept hH hb
  replace QW := Lib.hid (QW.out.kept hb)
  replace QG := Lib.hid (QG.out.kept hb)
  replace QH := Lib.hid (QH.out.kept hb)
  replace hd := below_kept hd (Nat.le_refl _) hb
  clear hb
  have cQW := QW.out.cell
  have yQW := QW.out.lt
  have cQG := QG.out.cell
  have yQG := QG.out.lt
  have cQH := QH.out.cell
  have yQH := QH.out.lt
  go_wp2_with fail
  clear cQW yQW cQG yQG cQH yQH
  refine (laws_heldPuzzle _ _ _ _ _ (SlI.of_own hG) (Nat.le_refl _) (by omega)).mono ?_
  rintro e wh5 ⟨rfl, hb⟩
  replace hW := own_kept hW hb
  replace hG := own_kept hG hb
  replace hH := own_kept hH hb
  replace QW := Lib.hid (QW.out.kept hb)
  replace QG := Lib.hid (QG.out.kept hb)
  replace QH := Lib.hid (QH.out.kept hb)
  replace hd := below_kept hd (Nat.le_refl _) hb
  clear hb
  have cQW := QW.out.cell
  have yQW := QW.out.lt
  have cQG := QG.out.cell
  have yQG := QG.out.lt
  have cQH := QH.out.cell
  have yQH := QH.out.lt
  go_wp2_with fail
  clear cQW yQW cQG yQG cQH yQH
  clear hs hi hW hG hH QW QG QH 
  go_wp2
  go_ret
  exact ⟨rfl, hd⟩

end Go.Proofs.Ytnoddecligmjbaa
