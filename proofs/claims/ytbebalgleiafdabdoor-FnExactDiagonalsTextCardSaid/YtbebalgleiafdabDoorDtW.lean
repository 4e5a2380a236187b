/- The walk of DiagonalsText's law: the program's contract wants its table. -/
import Derived.Test.YtbebalgleiafdabDoorLawM
import Derived.Test.YtbebalgleiafdabDoorDtI
namespace Go.Proofs.YtbebalgleiafdabDoor
set_option linter.unusedVariables false
open Go.RowKit

set_option maxHeartbeats 3200000 in
theorem WDiagonalsText.core (w : World) (A0 : Option Addr) (c0 : Nat) (l0 : List (Int × Int))
    (h0 : SlD w w.heap.size A0 l0) (hm0 : l0.length ≤ c0) (hx0 : c0 ≤ maxLen)
    (ht : TabW w) (r0 : ByteArray) (r1 : Bool) (hs : Hid (∀ (A0 : Option Addr) (c0 : Nat) (w : World), SlD w w.heap.size A0 l0 → l0.length ≤ 1048576 → l0.length ≤ c0 → Calls Tryd.prog 16 #[.slice A0 l0.length c0] w (fun e w' => e = .returned (.tuple #[.string r0, .bool r1]) ∧ Below w.heap.size w w')))
    (hi : Hid (∀ (A0 : Option Addr) (c0 : Nat) (w : World), TabW w → SlD w w.heap.size A0 l0 → l0.length ≤ 1048576 → l0.length ≤ c0 → Calls Tryd.prog 18 #[.slice A0 l0.length c0] w (fun e w' => e = .returned (.tuple #[.string r0, .bool r1]) ∧ Below w.heap.size w w'))) :
    Calls Tryd.prog 5 #[.slice A0 l0.length c0] w fun e w' => e = .returned (.bool true) ∧ Below w.heap.size w w' := by
  have HT := Lib.hid ht
  clear ht
  by_cases hl0 : l0.length ≤ 1048576
  · have hzero := Below.refl w.heap.size w
    have e1 : (if l0.length ≤ 1048576 then 1048576 - (l0.length : Int) else -1) = 1048576 - (l0.length : Int) := if_pos hl0
    have hz := laws_szDiagonalS A0 l0.length c0 w (by omega)
    rw [e1] at hz
    have Hz := Lib.hid hz
    clear e1 hz
    go_enter Tryd.func5, Tryd.ntmps5
    go_wp2_with fail
    refine Hz.out.mono ?_
    rintro e wz ⟨rfl, rfl⟩
    clear Hz
    go_wp2_with fail
    have hd := hzero
    clear hzero
    refine (laws_toDiagonalS A0 c0 w.heap.size l0 _ (h0.below hd) hd.size hl0).mono ?_
    rintro e whT0 ⟨rfl, hT0, hb⟩
    replace hd := below_kept hd (Nat.le_refl _) hb
    clear hb
    go_wp2_with fail
    refine (hs.out _ _ _ (SlD.of_own hT0) hl0 (Nat.le_refl _)).mono ?_
    rintro e whW ⟨rfl, hb⟩
    replace hd := below_kept hd (Nat.le_refl _) hb
    clear hb
    clear hT0
    go_wp2_with fail
    refine (laws_toDiagonalS A0 c0 w.heap.size l0 _ (h0.below hd) hd.size hl0).mono ?_
    rintro e whX0 ⟨rfl, hX0, hb⟩
    replace hd := below_kept hd (Nat.le_refl _) hb
    clear hb
    go_wp2_with fail
    refine (hi.out _ _ _ (tab_kept HT.out hd) (SlD.of_own hX0) hl0 (Nat.le_refl _)).mono ?_
    rintro e whG ⟨rfl, hb⟩
    replace hX0 := own_kept hX0 hb
    replace hd := below_kept hd (Nat.le_refl _) hb
    clear hb
    go_wp2_with fail
    refine (laws_toDiagonalS A0 c0 w.heap.size l0 _ (h0.below hd) hd.size hl0).mono ?_
    rintro e whY0 ⟨rfl, hY0, hb⟩
    replace hX0 := own_kept hX0 hb
    replace hd := below_kept hd (Nat.le_refl _) hb
    clear hb
    go_wp2_with fail
    refine (laws_eqDiagonalS _ _ _ _ _ _ _ _ (SlD.of_own hX0) (SlD.of_own hY0) (Nat.le_refl _) (Nat.le_refl _) (by omega)).mono ?_
    rintro e wq1 ⟨rfl, hb⟩
    replace hX0 := own_kept hX0 hb
    replace hY0 := own_kept hY0 hb
    replace hd := below_kept hd (Nat.le_refl _) hb
    clear hb
    go_wp2_with fail
    clear hY0
    clear hs hi hX0 h0
    go_wp2
    go_ret
    exact ⟨rfl, hd⟩
  · have hdd := Below.refl w.heap.size w
    have e1 : (if l0.length ≤ 1048576 then 1048576 - (l0.length : Int) else -1) = -1 := if_neg hl0
    have hz := laws_szDiagonalS A0 l0.length c0 w (by omega)
    rw [e1] at hz
    have Hz := Lib.hid hz
    clear e1 hz h0 hs hi
    go_enter Tryd.func5, Tryd.ntmps5
    go_wp2_with fail
    refine Hz.out.mono ?_
    rintro e wz ⟨rfl, rfl⟩
    clear Hz
    go_wp2
    go_ret
    exact ⟨rfl, hdd⟩

theorem WDiagonalsText.walk (w : World) (A : Option Addr) (c : Nat) (l : List (Int × Int)) (ht : TabW w) (h : SlD w w.heap.size A l) (h1 : l.length ≤ c) (h2 : c ≤ maxLen) :
    Calls Tryd.prog 5 #[.slice A l.length c] w fun e w' => e = .returned (.bool true) ∧ Below w.heap.size w w' :=
  WDiagonalsText.core w A c l h h1 h2 ht (bsL (dtR l)) (lisB l)
    (Lib.hid fun A c w h hl _ => spec_DiagonalsText A c _ l w h (Nat.le_refl _) hl)
    (Lib.hid fun A c w ht h hl _ => impl_DiagonalsText A c _ l w h (Nat.le_refl _) hl ht)
end Go.Proofs.YtbebalgleiafdabDoor
