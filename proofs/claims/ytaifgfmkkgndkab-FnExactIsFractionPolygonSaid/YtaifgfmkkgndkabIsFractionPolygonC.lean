/- The walk of IsFractionPolygon's law, out of the contracts of the model's function and of the program's. -/
import Derived.Test.YtaifgfmkkgndkabLawF
namespace Go.Proofs.Ytaifgfmkkgndkab
set_option linter.unusedVariables false
open Go.RowKit

set_option maxHeartbeats 3200000 in
theorem WIsFractionPolygon.core (w : World) (A0 : Option Addr) (c0 : Nat) (l0 : List (Int × Int))
    (h0 : SlD w w.heap.size A0 l0) (hm0 : l0.length ≤ c0) (hx0 : c0 ≤ maxLen)
    (r0 : Bool) (hs : Hid (∀ (A0 : Option Addr) (c0 : Nat) (w : World), SlD w w.heap.size A0 l0 → l0.length ≤ 1048576 → l0.length ≤ c0 → Calls Try.prog 29 #[.slice A0 l0.length c0] w (fun e w' => e = .returned (.bool r0) ∧ Below w.heap.size w w')))
    (hi : Hid (∀ (A0 : Option Addr) (c0 : Nat) (w : World), SlD w w.heap.size A0 l0 → l0.length ≤ 1048576 → l0.length ≤ c0 → Calls Try.prog 31 #[.slice A0 l0.length c0] w (fun e w' => e = .returned (.bool r0) ∧ Below w.heap.size w w'))) :
    Calls Try.prog 7 #[.slice A0 l0.length c0] w fun e w' => e = .returned (.bool true) ∧ Below w.heap.size w w' := by
  by_cases hl0 : l0.length ≤ 1048576
  · have hzero := Below.refl w.heap.size w
    have e1 : (if l0.length ≤ 1048576 then 1048576 - (l0.length : Int) else -1) = 1048576 - (l0.length : Int) := if_pos hl0
    have hz := laws_szFractionS A0 l0.length c0 w (by omega)
    rw [e1] at hz
    have Hz := Lib.hid hz
    clear e1 hz
    go_enter Try.func7, Try.ntmps7
    go_wp2_with fail
    refine Hz.out.mono ?_
    rintro e wz ⟨rfl, rfl⟩
    clear Hz
    go_wp2_with fail
    have hd := hzero
    clear hzero
    refine (laws_toFractionS A0 c0 w.heap.size l0 _ (h0.below hd) hd.size hl0).mono ?_
    rintro e whT0 ⟨rfl, hT0, hb⟩
    replace hd := below_kept hd (Nat.le_refl _) hb
    clear hb
    go_wp2_with fail
    refine (hs.out _ _ _ (SlD.of_own hT0) hl0 (Nat.le_refl _)).mono ?_
    rintro e whW ⟨rfl, hb⟩
    replace hd := below_kept hd (Nat.le_refl _) hb
    clear hb
    clear hT0
    go_wp2_with fail
    refine (laws_toFractionS A0 c0 w.heap.size l0 _ (h0.below hd) hd.size hl0).mono ?_
    rintro e whX0 ⟨rfl, hX0, hb⟩
    replace hd := below_kept hd (Nat.le_refl _) hb
    clear hb
    go_wp2_with fail
    refine (hi.out _ _ _ (SlD.of_own hX0) hl0 (Nat.le_refl _)).mono ?_
    rintro e whG ⟨rfl, hb⟩
    replace hX0 := own_kept hX0 hb
    replace hd := below_kept hd (Nat.le_refl _) hb
    clear hb
    go_wp2_with fail
    refine (laws_toFractionS A0 c0 w.heap.size l0 _ (h0.below hd) hd.size hl0).mono ?_
    rintro e whY0 ⟨rfl, hY0, hb⟩
    replace hX0 := own_kept hX0 hb
    replace hd := below_kept hd (Nat.le_refl _) hb
    clear hb
    go_wp2_with fail
    refine (laws_eqFractionS _ _ _ _ _ _ _ _ (SlD.of_own hX0) (SlD.of_own hY0) (Nat.le_refl _) (Nat.le_refl _) (by omega)).mono ?_
    rintro e wq1 ⟨rfl, hb⟩
    replace hX0 := own_kept hX0 hb
    replace hY0 := own_kept hY0 hb
    replace hd := below_kept hd (Nat.le_refl _) hb
    clear hb
    go_wp2_with fail
    clear hY0
    clear hs hi hX0 h0
    go_wp2
    go_ret
    exact ⟨rfl, hd⟩
  · have hdd := Below.refl w.heap.size w
    have e1 : (if l0.length ≤ 1048576 then 1048576 - (l0.length : Int) else -1) = -1 := if_neg hl0
    have hz := laws_szFractionS A0 l0.length c0 w (by omega)
    rw [e1] at hz
    have Hz := Lib.hid hz
    clear e1 hz h0 hs hi
    go_enter Try.func7, Try.ntmps7
    go_wp2_with fail
    refine Hz.out.mono ?_
    rintro e wz ⟨rfl, rfl⟩
    clear Hz
    go_wp2
    go_ret
    exact ⟨rfl, hdd⟩

end Go.Proofs.Ytaifgfmkkgndkab
