/- The walk of IsOwnMirror's law, out of the contracts of the model's function and of the program's. -/
import Derived.Test.YtbpaaoeefcebeabLawM
namespace Go.Proofs.Ytbpaaoeefcebeab
set_option linter.unusedVariables false
open Go.RowKit

set_option maxHeartbeats 3200000 in
theorem WIsOwnMirror.core (w : World) (a0 : Int) (A1 : Option Addr) (c1 : Nat) (l1 : List (Int × Int))
    (h1 : SlD w w.heap.size A1 l1) (hm1 : l1.length ≤ c1) (hx1 : c1 ≤ maxLen)
    (r0 : Bool) (r1 : Bool) (hs : Hid (∀ (A1 : Option Addr) (c1 : Nat) (w : World), SlD w w.heap.size A1 l1 → l1.length ≤ 1048576 → l1.length ≤ c1 → Calls Try.prog 39 #[.int .i64 a0, .slice A1 l1.length c1] w (fun e w' => e = .returned (.tuple #[.bool r0, .bool r1]) ∧ Below w.heap.size w w')))
    (hi : Hid (∀ (A1 : Option Addr) (c1 : Nat) (w : World), SlD w w.heap.size A1 l1 → l1.length ≤ 1048576 → l1.length ≤ c1 → Calls Try.prog 40 #[.int .i64 a0, .slice A1 l1.length c1] w (fun e w' => e = .returned (.tuple #[.bool r0, .bool r1]) ∧ Below w.heap.size w w'))) :
    Calls Try.prog 11 #[.int .i64 a0, .slice A1 l1.length c1] w fun e w' => e = .returned (.bool true) ∧ Below w.heap.size w w' := by
  by_cases hl1 : l1.length ≤ 1048576
  · have hzero := Below.refl w.heap.size w
    have e1 : (if l1.length ≤ 1048576 then 1048576 - (l1.length : Int) else -1) = 1048576 - (l1.length : Int) := if_pos hl1
    have hz := laws_szDiagonalS A1 l1.length c1 w (by omega)
    rw [e1] at hz
    have Hz := Lib.hid hz
    clear e1 hz
    go_enter Try.func11, Try.ntmps11
    go_wp2_with fail
    refine Hz.out.mono ?_
    rintro e wz ⟨rfl, rfl⟩
    clear Hz
    go_wp2_with fail
    have hd := hzero
    clear hzero
    refine (laws_toDiagonalS A1 c1 w.heap.size l1 _ (h1.below hd) hd.size hl1).mono ?_
    rintro e whT1 ⟨rfl, hT1, hb⟩
    replace hd := below_kept hd (Nat.le_refl _) hb
    clear hb
    go_wp2_with fail
    refine (hs.out _ _ _ (SlD.of_own hT1) hl1 (Nat.le_refl _)).mono ?_
    rintro e whW ⟨rfl, hb⟩
    replace hd := below_kept hd (Nat.le_refl _) hb
    clear hb
    clear hT1
    go_wp2_with fail
    refine (laws_toDiagonalS A1 c1 w.heap.size l1 _ (h1.below hd) hd.size hl1).mono ?_
    rintro e whX1 ⟨rfl, hX1, hb⟩
    replace hd := below_kept hd (Nat.le_refl _) hb
    clear hb
    go_wp2_with fail
    refine (hi.out _ _ _ (SlD.of_own hX1) hl1 (Nat.le_refl _)).mono ?_
    rintro e whG ⟨rfl, hb⟩
    replace hX1 := own_kept hX1 hb
    replace hd := below_kept hd (Nat.le_refl _) hb
    clear hb
    go_wp2_with fail
    refine (laws_toDiagonalS A1 c1 w.heap.size l1 _ (h1.below hd) hd.size hl1).mono ?_
    rintro e whY1 ⟨rfl, hY1, hb⟩
    replace hX1 := own_kept hX1 hb
    replace hd := below_kept hd (Nat.le_refl _) hb
    clear hb
    go_wp2_with fail
    refine (laws_eqDiagonalS _ _ _ _ _ _ _ _ (SlD.of_own hX1) (SlD.of_own hY1) (Nat.le_refl _) (Nat.le_refl _) (by omega)).mono ?_
    rintro e wq1 ⟨rfl, hb⟩
    replace hX1 := own_kept hX1 hb
    replace hY1 := own_kept hY1 hb
    replace hd := below_kept hd (Nat.le_refl _) hb
    clear hb
    go_wp2_with fail
    clear hY1
    clear hs hi hX1 h1
    go_wp2
    go_ret
    exact ⟨rfl, hd⟩
  · have hdd := Below.refl w.heap.size w
    have e1 : (if l1.length ≤ 1048576 then 1048576 - (l1.length : Int) else -1) = -1 := if_neg hl1
    have hz := laws_szDiagonalS A1 l1.length c1 w (by omega)
    rw [e1] at hz
    have Hz := Lib.hid hz
    clear e1 hz h1 hs hi
    go_enter Try.func11, Try.ntmps11
    go_wp2_with fail
    refine Hz.out.mono ?_
    rintro e wz ⟨rfl, rfl⟩
    clear Hz
    go_wp2
    go_ret
    exact ⟨rfl, hdd⟩

end Go.Proofs.Ytbpaaoeefcebeab
