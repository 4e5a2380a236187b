/- The walk of CutOfSizes's law, out of the contracts of the model's function and of the program's. -/
import Derived.Test.YtlnnnjnboknoeabLawM
namespace Go.Proofs.Ytlnnnjnboknoeab
set_option linter.unusedVariables false
open Go.RowKit

/-- a number, a list of diagonals in new memory, a bool -/
def RetND (w : World) (r : Int) (L : List (Int × Int)) (ok : Bool) (e : Ending) (w' : World) : Prop :=
  ∃ A c, e = .returned (.tuple #[.int .i64 r, .slice A L.length c, .bool ok]) ∧ w'.ownsRow w.heap.size 59 2 (.slice A L.length c) L.length (dcs L) ∧ Below w.heap.size w w'

set_option maxHeartbeats 3200000 in
theorem WCutOfSizes.core (w : World) (A0 : Option Addr) (c0 : Nat) (l0 : List Int)
    (h0 : SlI w w.heap.size A0 l0) (hm0 : l0.length ≤ c0) (hx0 : c0 ≤ maxLen)
    (r : Int) (L : List (Int × Int)) (ok : Bool) (hL : L.length ≤ 1000000000) (hs : Hid (∀ (A0 : Option Addr) (c0 : Nat) (w : World), SlI w w.heap.size A0 l0 → l0.length ≤ 1048576 → l0.length ≤ c0 → Calls Try.prog 21 #[.slice A0 l0.length c0] w (RetND w r L ok)))
    (hi : Hid (∀ (A0 : Option Addr) (c0 : Nat) (w : World), SlI w w.heap.size A0 l0 → l0.length ≤ 1048576 → l0.length ≤ c0 → Calls Try.prog 23 #[.slice A0 l0.length c0] w (RetND w r L ok))) :
    Calls Try.prog 6 #[.slice A0 l0.length c0] w fun e w' => e = .returned (.bool true) ∧ Below w.heap.size w w' := by
  by_cases hl0 : l0.length ≤ 1048576
  · have hzero := Below.refl w.heap.size w
    go_enter Try.func6, Try.ntmps6
    go_wp2_with fail
    have hd := hzero
    clear hzero
    refine (laws_toIntS A0 c0 w.heap.size l0 _ (h0.below hd) hd.size hl0).mono ?_
    rintro e whT0 ⟨rfl, hT0, hb⟩
    replace hd := below_kept hd (Nat.le_refl _) hb
    clear hb
    go_wp2_with fail
    refine (hs.out _ _ _ (SlI.of_own hT0) hl0 (Nat.le_refl _)).mono ?_
    rintro e whW ⟨AhW, chW, rfl, hW, hb⟩
    replace hd := below_kept hd (Nat.le_refl _) hb
    clear hb
    clear hT0
    go_wp2_with fail
    have NeWX0 := Lib.hid (ne_old hW)
    have Hxz0 := hd.size
    refine (laws_toIntS A0 c0 w.heap.size l0 _ (h0.below hd) hd.size hl0).mono ?_
    rintro e whX0 ⟨rfl, hX0, hb⟩
    replace hW := own_kept hW hb
    replace hd := below_kept hd (Nat.le_refl _) hb
    clear hb
    go_wp2_with fail
    have NeWG := Lib.hid hW.lt
    have XG0 := (hX0.lt _ rfl).2
    have Hwz := hd.size
    refine (hi.out _ _ _ (SlI.of_own hX0) hl0 (Nat.le_refl _)).mono ?_
    rintro e whG ⟨AhG, chG, rfl, hG, hb⟩
    have NeGX0 := Lib.hid (ne_new hG XG0)
    have NeW := Lib.hid (ne_two NeWG.out hG)
    have GB := Lib.hid (above hG Hwz)
    clear NeWG XG0 Hwz
    replace hW := own_kept hW hb
    replace hX0 := own_kept hX0 hb
    replace hd := below_kept hd (Nat.le_refl _) hb
    clear hb
    go_wp2_with fail
    refine (laws_eqDiagonalS _ _ _ _ _ _ _ _ (SlD.of_own hG) (SlD.of_own hW) (Nat.le_refl _) (Nat.le_refl _) (by omega)).mono ?_
    rintro e wq1 ⟨rfl, hb⟩
    replace hW := own_kept hW hb
    replace hX0 := own_kept hX0 hb
    replace hG := own_kept hG hb
    replace hd := below_kept hd (Nat.le_refl _) hb
    clear hb
    go_wp2_with fail
    refine (laws_toIntS A0 c0 w.heap.size l0 _ (h0.below hd) hd.size hl0).mono ?_
    rintro e whY0 ⟨rfl, hY0, hb⟩
    replace hW := own_kept hW hb
    replace hX0 := own_kept hX0 hb
    replace hG := own_kept hG hb
    replace hd := below_kept hd (Nat.le_refl _) hb
    clear hb
    go_wp2_with fail
    refine (laws_eqIntS _ _ _ _ _ _ _ _ (SlI.of_own hX0) (SlI.of_own hY0) (by omega)).mono ?_
    rintro e wq2 ⟨rfl, hb⟩
    replace hW := own_kept hW hb
    replace hX0 := own_kept hX0 hb
    replace hG := own_kept hG hb
    replace hY0 := own_kept hY0 hb
    replace hd := below_kept hd (Nat.le_refl _) hb
    clear hb
    go_wp2_with fail
    clear hY0
    refine (laws_markIntS_any _ _ _ _ _ hX0 (by omega)).mono ?_
    rintro e wm3 ⟨rfl, hN, hg⟩
    replace hW := own_far hW hg NeWX0.out
    replace hG := own_far hG hg NeGX0.out
    replace hd := below_grown hd hg (Nat.le_refl _) (above_blk Hxz0)
    clear hg hX0
    go_wp2_with fail
    clear hN
    clear Hxz0
    refine (laws_eqDiagonalS _ _ _ _ _ _ _ _ (SlD.of_own hG) (SlD.of_own hW) (Nat.le_refl _) (Nat.le_refl _) (by omega)).mono ?_
    rintro e wq4 ⟨rfl, hb⟩
    replace hW := own_kept hW hb
    replace hG := own_kept hG hb
    replace hd := below_kept hd (Nat.le_refl _) hb
    clear hb
    go_wp2_with fail
    refine (laws_markDiagonalS_any _ _ _ _ _ hG (by omega)).mono ?_
    rintro e wm5 ⟨rfl, hN, hg⟩
    replace hW := own_far hW hg NeW.out
    replace hd := below_grown hd hg (Nat.le_refl _) GB.out
    clear hg hG
    go_wp2_with fail
    have hG := hN
    clear hN
    refine (laws_heldDiagonalS _ _ _ _ _ (SlD.of_own hG) (by omega)).mono ?_
    rintro e wh6 ⟨rfl, rfl⟩
    go_wp2_with fail
    refine (laws_toIntS A0 c0 w.heap.size l0 _ (h0.below hd) hd.size hl0).mono ?_
    rintro e whU0 ⟨rfl, hU0, hb⟩
    replace hW := own_kept hW hb
    replace hG := own_kept hG hb
    replace hd := below_kept hd (Nat.le_refl _) hb
    clear hb
    go_wp2_with fail
    refine (hi.out _ _ _ (SlI.of_own hU0) hl0 (Nat.le_refl _)).mono ?_
    rintro e whH ⟨AhH, chH, rfl, hH, hb⟩
    replace hW := own_kept hW hb
    replace hG := own_kept hG hb
    replace hd := below_kept hd (Nat.le_refl _) hb
    clear hb
    clear hU0
    go_wp2_with fail
    refine (laws_eqDiagonalS _ _ _ _ _ _ _ _ (SlD.of_own hH) (SlD.of_own hW) (Nat.le_refl _) (Nat.le_refl _) (by omega)).mono ?_
    rintro e wq7 ⟨rfl, hb⟩
    replace hW := own_kept hW hb
    replace hG := own_kept hG hb
    replace hH := own_kept hH hb
    replace hd := below_kept hd (Nat.le_refl _) hb
    clear hb
    go_wp2_with fail
    refine (laws_heldDiagonalS _ _ _ _ _ (SlD.of_own hG) (by omega)).mono ?_
    rintro e wh8 ⟨rfl, rfl⟩
    go_wp2_with fail
    clear hs hi hW hG hH h0
    go_wp2
    go_ret
    exact ⟨rfl, hd⟩
  · have hdd := Below.refl w.heap.size w
    clear h0 hs hi
    go_enter Try.func6, Try.ntmps6
    go_wp2_with fail
    go_ret
    exact ⟨rfl, hdd⟩

end Go.Proofs.Ytlnnnjnboknoeab
