/- The walk of NextRow's law, out of the contracts of the model's function and of the program's. -/
import Derived.Test.YtjpcmkginfbkbaaLawK
namespace Go.Proofs.Ytjpcmkginfbkbaa
set_option linter.unusedVariables false
open Go.RowKit

set_option maxHeartbeats 3200000 in
theorem WNextRow.core (w : World) (A0 : Option Addr) (c0 : Nat) (l0 : List Int) (A1 : Option Addr) (c1 : Nat) (l1 : List Int)
    (h0 : SlI w w.heap.size A0 l0) (hm0 : l0.length ≤ c0) (hx0 : c0 ≤ maxLen)
    (h1 : SlI w w.heap.size A1 l1) (hm1 : l1.length ≤ c1) (hx1 : c1 ≤ maxLen)
    (L : List Int) (ok : Bool) (hL : L.length ≤ 1000000000) (hs : Hid (∀ (A0 : Option Addr) (c0 : Nat) (A1 : Option Addr) (c1 : Nat) (w : World), SlI w w.heap.size A0 l0 → l0.length ≤ 1048576 → l0.length ≤ c0 → SlI w w.heap.size A1 l1 → l1.length ≤ 1048576 → l1.length ≤ c1 → Calls Try.prog 43 #[.slice A0 l0.length c0, .slice A1 l1.length c1] w (RetI w L ok)))
    (hi : Hid (∀ (A0 : Option Addr) (c0 : Nat) (A1 : Option Addr) (c1 : Nat) (w : World), SlI w w.heap.size A0 l0 → l0.length ≤ 1048576 → l0.length ≤ c0 → SlI w w.heap.size A1 l1 → l1.length ≤ 1048576 → l1.length ≤ c1 → Calls Try.prog 44 #[.slice A0 l0.length c0, .slice A1 l1.length c1] w (RetI w L ok))) :
    Calls Try.prog 12 #[.slice A0 l0.length c0, .slice A1 l1.length c1] w fun e w' => e = .returned (.bool true) ∧ Below w.heap.size w w' := by
  by_cases hl0 : l0.length ≤ 1048576
  · have hzero := Below.refl w.heap.size w
    by_cases hl1 : l1.length ≤ 1048576
    · skip
      go_enter Try.func12, Try.ntmps12
      go_wp2_with fail
      have hd := hzero
      clear hzero
      refine (laws_toIntS A0 c0 w.heap.size l0 _ (h0.below hd) hd.size hl0).mono ?_
      rintro e whT0 ⟨rfl, hT0, hb⟩
      replace hd := below_kept hd (Nat.le_refl _) hb
      clear hb
      go_wp2_with fail
      refine (laws_toIntS A1 c1 w.heap.size l1 _ (h1.below hd) hd.size hl1).mono ?_
      rintro e whT1 ⟨rfl, hT1, hb⟩
      replace hT0 := own_kept hT0 hb
      replace hd := below_kept hd (Nat.le_refl _) hb
      clear hb
      go_wp2_with fail
      refine (hs.out _ _ _ _ _ (SlI.of_own hT0) hl0 (Nat.le_refl _) (SlI.of_own hT1) hl1 (Nat.le_refl _)).mono ?_
      rintro e whW ⟨AhW, chW, rfl, hW, hb⟩
      replace hd := below_kept hd (Nat.le_refl _) hb
      clear hb
      clear hT0
      clear hT1
      go_wp2_with fail
      have NeWX0 := Lib.hid (ne_old hW)
      have Hxz0 := hd.size
      refine (laws_toIntS A0 c0 w.heap.size l0 _ (h0.below hd) hd.size hl0).mono ?_
      rintro e whX0 ⟨rfl, hX0, hb⟩
      replace hW := own_kept hW hb
      replace hd := below_kept hd (Nat.le_refl _) hb
      clear hb
      go_wp2_with fail
      have NeWX1 := Lib.hid (ne_old hW)
      have Hxz1 := hd.size
      have XX := (hX0.lt _ rfl).2
      refine (laws_toIntS A1 c1 w.heap.size l1 _ (h1.below hd) hd.size hl1).mono ?_
      rintro e whX1 ⟨rfl, hX1, hb⟩
      have NeXX := Lib.hid (ne_new hX1 XX)
      clear XX
      replace hW := own_kept hW hb
      replace hX0 := own_kept hX0 hb
      replace hd := below_kept hd (Nat.le_refl _) hb
      clear hb
      go_wp2_with fail
      have NeWG := Lib.hid hW.lt
      have XG0 := (hX0.lt _ rfl).2
      have XG1 := (hX1.lt _ rfl).2
      have Hwz := hd.size
      refine (hi.out _ _ _ _ _ (SlI.of_own hX0) hl0 (Nat.le_refl _) (SlI.of_own hX1) hl1 (Nat.le_refl _)).mono ?_
      rintro e whG ⟨AhG, chG, rfl, hG, hb⟩
      have NeGX0 := Lib.hid (ne_new hG XG0)
      have NeGX1 := Lib.hid (ne_new hG XG1)
      have NeW := Lib.hid (ne_two NeWG.out hG)
      have GB := Lib.hid (above hG Hwz)
      clear NeWG XG0 XG1 Hwz
      replace hW := own_kept hW hb
      replace hX0 := own_kept hX0 hb
      replace hX1 := own_kept hX1 hb
      replace hd := below_kept hd (Nat.le_refl _) hb
      clear hb
      go_wp2_with fail
      refine (laws_eqIntS _ _ _ _ _ _ _ _ (SlI.of_own hG) (SlI.of_own hW) (by omega)).mono ?_
      rintro e wq1 ⟨rfl, hb⟩
      replace hW := own_kept hW hb
      replace hX0 := own_kept hX0 hb
      replace hX1 := own_kept hX1 hb
      replace hG := own_kept hG hb
      replace hd := below_kept hd (Nat.le_refl _) hb
      clear hb
      go_wp2_with fail
      refine (laws_toIntS A0 c0 w.heap.size l0 _ (h0.below hd) hd.size hl0).mono ?_
      rintro e whY0 ⟨rfl, hY0, hb⟩
      replace hW := own_kept hW hb
      replace hX0 := own_kept hX0 hb
      replace hX1 := own_kept hX1 hb
      replace hG := own_kept hG hb
      replace hd := below_kept hd (Nat.le_refl _) hb
      clear hb
      go_wp2_with fail
      refine (laws_eqIntS _ _ _ _ _ _ _ _ (SlI.of_own hX0) (SlI.of_own hY0) (by omega)).mono ?_
      rintro e wq2 ⟨rfl, hb⟩
      replace hW := own_kept hW hb
      replace hX0 := own_kept hX0 hb
      replace hX1 := own_kept hX1 hb
      replace hG := own_kept hG hb
      replace hY0 := own_kept hY0 hb
      replace hd := below_kept hd (Nat.le_refl _) hb
      clear hb
      go_wp2_with fail
      clear hY0
      refine (laws_toIntS A1 c1 w.heap.size l1 _ (h1.below hd) hd.size hl1).mono ?_
      rintro e whY1 ⟨rfl, hY1, hb⟩
      replace hW := own_kept hW hb
      replace hX0 := own_kept hX0 hb
      replace hX1 := own_kept hX1 hb
      replace hG := own_kept hG hb
      replace hd := below_kept hd (Nat.le_refl _) hb
      clear hb
      go_wp2_with fail
      refine (laws_eqIntS _ _ _ _ _ _ _ _ (SlI.of_own hX1) (SlI.of_own hY1) (by omega)).mono ?_
      rintro e wq3 ⟨rfl, hb⟩
      replace hW := own_kept hW hb
      replace hX0 := own_kept hX0 hb
      replace hX1 := own_kept hX1 hb
      replace hG := own_kept hG hb
      replace hY1 := own_kept hY1 hb
      replace hd := below_kept hd (Nat.le_refl _) hb
      clear hb
      go_wp2_with fail
      clear hY1
      refine (laws_markIntS_any _ _ _ _ _ hX0 (by omega)).mono ?_
      rintro e wm4 ⟨rfl, hN, hg⟩
      replace hW := own_far hW hg NeWX0.out
      replace hG := own_far hG hg NeGX0.out
      replace hX1 := own_far hX1 hg NeXX.out
      replace hd := below_grown hd hg (Nat.le_refl _) (above_blk Hxz0)
      clear hg hX0
      go_wp2_with fail
      clear hN
      clear Hxz0
      refine (laws_markIntS_k _ _ _ _ _ _ _ hX1 (by omega) (by omega)).mono ?_
      rintro e wm5 ⟨rfl, hg⟩
      replace hW := own_far hW hg NeWX1.out
      replace hG := own_far hG hg NeGX1.out
      replace hd := below_grown hd hg (Nat.le_refl _) (fun j hj => by injection hj with hj; omega)
      clear hg hX1
      go_wp2_with fail
      clear Hxz1
      refine (laws_eqIntS _ _ _ _ _ _ _ _ (SlI.of_own hG) (SlI.of_own hW) (by omega)).mono ?_
      rintro e wq6 ⟨rfl, hb⟩
      replace hW := own_kept hW hb
      replace hG := own_kept hG hb
      replace hd := below_kept hd (Nat.le_refl _) hb
      clear hb
      go_wp2_with fail
      refine (laws_markIntS_any _ _ _ _ _ hG (by omega)).mono ?_
      rintro e wm7 ⟨rfl, hN, hg⟩
      replace hW := own_far hW hg NeW.out
      replace hd := below_grown hd hg (Nat.le_refl _) GB.out
      clear hg hG
      go_wp2_with fail
      have hG := hN
      clear hN
      refine (laws_heldIntS _ _ _ _ _ (SlI.of_own hG) (by omega)).mono ?_
      rintro e wh8 ⟨rfl, rfl⟩
      go_wp2_with fail
      refine (laws_toIntS A0 c0 w.heap.size l0 _ (h0.below hd) hd.size hl0).mono ?_
      rintro e whU0 ⟨rfl, hU0, hb⟩
      replace hW := own_kept hW hb
      replace hG := own_kept hG hb
      replace hd := below_kept hd (Nat.le_refl _) hb
      clear hb
      go_wp2_with fail
      refine (laws_toIntS A1 c1 w.heap.size l1 _ (h1.below hd) hd.size hl1).mono ?_
      rintro e whU1 ⟨rfl, hU1, hb⟩
      replace hW := own_kept hW hb
      replace hG := own_kept hG hb
      replace hU0 := own_kept hU0 hb
      replace hd := below_kept hd (Nat.le_refl _) hb
      clear hb
      go_wp2_with fail
      refine (hi.out _ _ _ _ _ (SlI.of_own hU0) hl0 (Nat.le_refl _) (SlI.of_own hU1) hl1 (Nat.le_refl _)).mono ?_
      rintro e whH ⟨AhH, chH, rfl, hH, hb⟩
      replace hW := own_kept hW hb
      replace hG := own_kept hG hb
      replace hd := below_kept hd (Nat.le_refl _) hb
      clear hb
      clear hU0
      clear hU1
      go_wp2_with fail
      refine (laws_eqIntS _ _ _ _ _ _ _ _ (SlI.of_own hH) (SlI.of_own hW) (by omega)).mono ?_
      rintro e wq9 ⟨rfl, hb⟩
      replace hW := own_kept hW hb
      replace hG := own_kept hG hb
      replace hH := own_kept hH hb
      replace hd := below_kept hd (Nat.le_refl _) hb
      clear hb
      go_wp2_with fail
      refine (laws_heldIntS _ _ _ _ _ (SlI.of_own hG) (by omega)).mono ?_
      rintro e wh10 ⟨rfl, rfl⟩
      go_wp2_with fail
      clear hs hi hW hG hH h0 h1
      go_wp2
      go_ret
      exact ⟨rfl, hd⟩
    · clear h0 h1 hs hi
      go_enter Try.func12, Try.ntmps12
      go_wp2
      go_ret
      exact ⟨rfl, hzero⟩
  · have hdd := Below.refl w.heap.size w
    clear h0 h1 hs hi
    go_enter Try.func12, Try.ntmps12
    go_wp2_with fail
    go_ret
    exact ⟨rfl, hdd⟩

end Go.Proofs.Ytjpcmkginfbkbaa
