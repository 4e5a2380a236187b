/- The walk of FirstDesk's law, out of the contracts of the model's function and of the program's. -/
import Derived.Test.YtbpaaoeefcebeabDskH
namespace Go.Proofs.Ytbpaaoeefcebeab
set_option linter.unusedVariables false
open Go.RowKit

set_option maxRecDepth 100000 in
set_option maxHeartbeats 6400000 in
theorem WFirstDesk.core (w : World) (m0 : Int)
    (L : List Int) (hL : L.length ≤ 1000000000) (hs : Hid (∀ (w : World), Calls Try.prog 46 #[] w (GivDk w L m0)))
    (hi : Hid (∀ (w : World), Calls Try.prog 47 #[] w (GivDk w L m0))) :
    Calls Try.prog 13 #[] w fun e w' => e = .returned (.bool true) ∧ Below w.heap.size w w' := by
  have hd := Below.refl w.heap.size w
  go_enter Try.func13, Try.ntmps13
  go_wp2_with fail
  refine (hs.out _).mono ?_
  rintro e whW ⟨AhW, chW, rfl, hW, hb⟩
  replace hd := below_kept hd (Nat.le_refl _) hb
  clear hb
  go_wp2_with fail
  have hb := below_box (Below.refl whW.heap.size whW) (Nat.le_refl _) (.cells #[.slice AhW L.length chW, .int .i64 m0] 52)
  replace hW := own_kept hW hb
  replace hd := below_kept hd (Nat.le_refl _) hb
  clear hb
  have QW := Lib.hid (Bd.new whW (.slice AhW L.length chW) m0 52)
  have NeWG := Lib.hid hW.lt
  have Hwz := hd.size
  refine (hi.out _).mono ?_
  rintro e whG ⟨AhG, chG, rfl, hG, hb⟩
  have NeW := Lib.hid (ne_two NeWG.out hG)
  have GB := Lib.hid (above hG Hwz)
  clear NeWG  Hwz
  replace hW := own_kept hW hb
  replace QW := Lib.hid (QW.out.kept hb)
  replace hd := below_kept hd (Nat.le_refl _) hb
  clear hb
  obtain ⟨cQW, dQW⟩ := QW.out.cell
  have yQW := QW.out.lt
  go_wp2_with fail
  clear cQW dQW yQW
  have hb := below_box (Below.refl whG.heap.size whG) (Nat.le_refl _) (.cells #[.slice AhG L.length chG, .int .i64 m0] 52)
  replace hW := own_kept hW hb
  replace hG := own_kept hG hb
  replace QW := Lib.hid (QW.out.kept hb)
  replace hd := below_kept hd (Nat.le_refl _) hb
  clear hb
  have QG := Lib.hid (Bd.new whG (.slice AhG L.length chG) m0 52)
  refine (laws_eqDesk _ _ _ _ _ _ _ _ _ (SlI.of_own hG) (Nat.le_refl _) (SlI.of_own hW) (Nat.le_refl _) (by omega)).mono ?_
  rintro e wq1 ⟨rfl, hb⟩
  replace hW := own_kept hW hb
  replace hG := own_kept hG hb
  replace QW := Lib.hid (QW.out.kept hb)
  replace QG := Lib.hid (QG.out.kept hb)
  replace hd := below_kept hd (Nat.le_refl _) hb
  clear hb
  obtain ⟨cQW, dQW⟩ := QW.out.cell
  have yQW := QW.out.lt
  obtain ⟨cQG, dQG⟩ := QG.out.cell
  have yQG := QG.out.lt
  go_wp2_with fail
  clear cQW dQW yQW cQG dQG yQG
  have neQW := Lib.hid (bd_ne QW.out hG (by decide))
  have neQG := Lib.hid (bd_ne QG.out hG (by decide))
  refine (laws_markDesk_any _ _ _ _ _ _ hG (by omega)).mono ?_
  rintro e wm2 ⟨rfl, hN, wmm, hbm, hg⟩
  --MARKED
  replace hd := below_grown (below_kept hd (Nat.le_refl _) hbm) hg (Nat.le_refl _) GB.out
  replace hW := own_far (own_kept hW hbm) hg NeW.out
  replace QW := Lib.hid ((QW.out.kept hbm).far hg neQW.out)
  replace QG := Lib.hid ((QG.out.kept hbm).far hg neQG.out)
  clear hg hbm hG neQW neQG
  have hG := hN
  clear hN
  obtain ⟨cQW, dQW⟩ := QW.out.cell
  have yQW := QW.out.lt
  obtain ⟨cQG, dQG⟩ := QG.out.cell
  have yQG := QG.out.lt
  go_wp2_with fail
  clear cQW dQW yQW cQG dQG yQG
  refine (laws_heldDesk _ _ _ _ _ _ (SlI.of_own hG) (Nat.le_refl _) (by omega)).mono ?_
  rintro e wh3 ⟨rfl, hb⟩
  replace hW := own_kept hW hb
  replace hG := own_kept hG hb
  replace QW := Lib.hid (QW.out.kept hb)
  replace QG := Lib.hid (QG.out.kept hb)
  replace hd := below_kept hd (Nat.le_refl _) hb
  clear hb
  obtain ⟨cQW, dQW⟩ := QW.out.cell
  have yQW := QW.out.lt
  obtain ⟨cQG, dQG⟩ := QG.out.cell
  have yQG := QG.out.lt
  go_wp2_with fail
  clear cQW dQW yQW cQG dQG yQG
  refine (hi.out _).mono ?_
  rintro e whH ⟨AhH, chH, rfl, hH, hb⟩
  replace hW := own_kept hW hb
  replace hG := own_kept hG hb
  replace QW := Lib.hid (QW.out.kept hb)
  replace QG := Lib.hid (QG.out.kept hb)
  replace hd := below_kept hd (Nat.le_refl _) hb
  clear hb
  obtain ⟨cQW, dQW⟩ := QW.out.cell
  have yQW := QW.out.lt
  obtain ⟨cQG, dQG⟩ := QG.out.cell
  have yQG := QG.out.lt
  go_wp2_with fail
  clear cQW dQW yQW cQG dQG yQG
  have hb := below_box (Below.refl whH.heap.size whH) (Nat.le_refl _) (.cells #[.slice AhH L.length chH, .int .i64 m0] 52)
  replace hW := own_kept hW hb
  replace hG := own_kept hG hb
  replace hH := own_kept hH hb
  replace QW := Lib.hid (QW.out.kept hb)
  replace QG := Lib.hid (QG.out.kept hb)
  replace hd := below_kept hd (Nat.le_refl _) hb
  clear hb
  have QH := Lib.hid (Bd.new whH (.slice AhH L.length chH) m0 52)
  refine (laws_eqDesk _ _ _ _ _ _ _ _ _ (SlI.of_own hH) (Nat.le_refl _) (SlI.of_own hW) (Nat.le_refl _) (by omega)).mono ?_
  rintro e wq4 ⟨rfl, hb⟩
  replace hW := own_kept hW hb
  replace hG := own_kept hG hb
  replace hH := own_kept hH hb
  replace QW := Lib.hid (QW.out.kept hb)
  replace QG := Lib.hid (QG.out.kept hb)
  replace QH := Lib.hid (QH.out.kept hb)
  replace hd := below_kept hd (Nat.le_refl _) hb
  clear hb
  obtain ⟨cQW, dQW⟩ := QW.out.cell
  have yQW := QW.out.lt
  obtain ⟨cQG, dQG⟩ := QG.out.cell
  have yQG := QG.out.lt
  obtain ⟨cQH, dQH⟩ := QH.out.cell
  have yQH := QH.out.lt
  go_wp2_with fail
  clear cQW dQW yQW cQG dQG yQG cQH dQH yQH
  refine (laws_heldDesk _ _ _ _ _ _ (SlI.of_own hG) (Nat.le_refl _) (by omega)).mono ?_
  rintro e wh5 ⟨rfl, hb⟩
  replace hW := own_kept hW hb
  replace hG := own_kept hG hb
  replace hH := own_kept hH hb
  replace QW := Lib.hid (QW.out.kept hb)
  replace QG := Lib.hid (QG.out.kept hb)
  replace QH := Lib.hid (QH.out.kept hb)
  replace hd := below_kept hd (Nat.le_refl _) hb
  clear hb
  obtain ⟨cQW, dQW⟩ := QW.out.cell
  have yQW := QW.out.lt
  obtain ⟨cQG, dQG⟩ := QG.out.cell
  have yQG := QG.out.lt
  obtain ⟨cQH, dQH⟩ := QH.out.cell
  have yQH := QH.out.lt
  go_wp2_with fail
  clear cQW dQW yQW cQG dQG yQG cQH dQH yQH
  clear hs hi hW hG hH QW QG QH 
  go_wp2
  go_ret
  exact ⟨rfl, hd⟩

end Go.Proofs.Ytbpaaoeefcebeab
