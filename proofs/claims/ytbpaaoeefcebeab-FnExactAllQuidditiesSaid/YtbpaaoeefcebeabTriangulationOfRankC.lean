/- The walk of TriangulationOfRank's law, out of the contracts of the model's function and of the program's. -/
import Derived.Test.YtbpaaoeefcebeabLawM
namespace Go.Proofs.Ytbpaaoeefcebeab
set_option linter.unusedVariables false
open Go.RowKit

set_option maxHeartbeats 3200000 in
theorem WTriangulationOfRank.core (w : World) (a0 : Int) (a1 : Int)
    (L : List (Int × Int)) (ok : Bool) (hL : L.length ≤ 1000000000) (hs : Hid (∀ (w : World), Calls Try.prog 20 #[.int .i64 a0, .int .i64 a1] w (RetD w L ok)))
    (hi : Hid (∀ (w : World), Calls Try.prog 21 #[.int .i64 a0, .int .i64 a1] w (RetD w L ok))) :
    Calls Try.prog 4 #[.int .i64 a0, .int .i64 a1] w fun e w' => e = .returned (.bool true) ∧ Below w.heap.size w w' := by
  have hd := Below.refl w.heap.size w
  go_enter Try.func4, Try.ntmps4
  go_wp2_with fail
  refine (hs.out _).mono ?_
  rintro e whW ⟨AhW, chW, rfl, hW, hb⟩
  replace hd := below_kept hd (Nat.le_refl _) hb
  clear hb
  go_wp2_with fail
  have NeWG := Lib.hid hW.lt
  have Hwz := hd.size
  refine (hi.out _).mono ?_
  rintro e whG ⟨AhG, chG, rfl, hG, hb⟩
  have NeW := Lib.hid (ne_two NeWG.out hG)
  have GB := Lib.hid (above hG Hwz)
  clear NeWG  Hwz
  replace hW := own_kept hW hb
  replace hd := below_kept hd (Nat.le_refl _) hb
  clear hb
  go_wp2_with fail
  refine (laws_eqDiagonalS _ _ _ _ _ _ _ _ (SlD.of_own hG) (SlD.of_own hW) (Nat.le_refl _) (Nat.le_refl _) (by omega)).mono ?_
  rintro e wq1 ⟨rfl, hb⟩
  replace hW := own_kept hW hb
  replace hG := own_kept hG hb
  replace hd := below_kept hd (Nat.le_refl _) hb
  clear hb
  go_wp2_with fail
  refine (laws_markDiagonalS_any _ _ _ _ _ hG (by omega)).mono ?_
  rintro e wm2 ⟨rfl, hN, hg⟩
  replace hW := own_far hW hg NeW.out
  replace hd := below_grown hd hg (Nat.le_refl _) GB.out
  clear hg hG
  go_wp2_with fail
  have hG := hN
  clear hN
  refine (laws_heldDiagonalS _ _ _ _ _ (SlD.of_own hG) (by omega)).mono ?_
  rintro e wh3 ⟨rfl, rfl⟩
  go_wp2_with fail
  refine (hi.out _).mono ?_
  rintro e whH ⟨AhH, chH, rfl, hH, hb⟩
  replace hW := own_kept hW hb
  replace hG := own_kept hG hb
  replace hd := below_kept hd (Nat.le_refl _) hb
  clear hb
  go_wp2_with fail
  refine (laws_eqDiagonalS _ _ _ _ _ _ _ _ (SlD.of_own hH) (SlD.of_own hW) (Nat.le_refl _) (Nat.le_refl _) (by omega)).mono ?_
  rintro e wq4 ⟨rfl, hb⟩
  replace hW := own_kept hW hb
  replace hG := own_kept hG hb
  replace hH := own_kept hH hb
  replace hd := below_kept hd (Nat.le_refl _) hb
  clear hb
  go_wp2_with fail
  refine (laws_heldDiagonalS _ _ _ _ _ (SlD.of_own hG) (by omega)).mono ?_
  rintro e wh5 ⟨rfl, rfl⟩
  go_wp2_with fail
  clear hs hi hW hG hH 
  go_wp2
  go_ret
  exact ⟨rfl, hd⟩

end Go.Proofs.Ytbpaaoeefcebeab
