/- The walk of CrossingsBetween's law, out of the contracts of the model's function and of the program's. -/
import Derived.Test.YtbpaaoeefcebeaaLawK2
namespace Go.Proofs.Ytbpaaoeefcebeaa
set_option linter.unusedVariables false
open Go.RowKit

set_option maxHeartbeats 3200000 in
theorem WCrossingsBetween.core (w : World) (a0 : Int) (A1 : Option Addr) (c1 : Nat) (l1 : List (Int × Int)) (A2 : Option Addr) (c2 : Nat) (l2 : List (Int × Int))
    (h1 : SlD w w.heap.size A1 l1) (hm1 : l1.length ≤ c1) (hx1 : c1 ≤ maxLen)
    (h2 : SlD w w.heap.size A2 l2) (hm2 : l2.length ≤ c2) (hx2 : c2 ≤ maxLen)
    (r0 : Int) (r1 : Bool) (hs : Hid (∀ (A1 : Option Addr) (c1 : Nat) (A2 : Option Addr) (c2 : Nat) (w : World), SlD w w.heap.size A1 l1 → l1.length ≤ 1048576 → l1.length ≤ c1 → SlD w w.heap.size A2 l2 → l2.length ≤ 1048576 → l2.length ≤ c2 → Calls Try.prog 53 #[.int .i64 a0, .slice A1 l1.length c1, .slice A2 l2.length c2] w (fun e w' => e = .returned (.tuple #[.int .i64 r0, .bool r1]) ∧ Below w.heap.size w w')))
    (hi : Hid (∀ (A1 : Option Addr) (c1 : Nat) (A2 : Option Addr) (c2 : Nat) (w : World), SlD w w.heap.size A1 l1 → l1.length ≤ 1048576 → l1.length ≤ c1 → SlD w w.heap.size A2 l2 → l2.length ≤ 1048576 → l2.length ≤ c2 → Calls Try.prog 54 #[.int .i64 a0, .slice A1 l1.length c1, .slice A2 l2.length c2] w (fun e w' => e = .returned (.tuple #[.int .i64 r0, .bool r1]) ∧ Below w.heap.size w w'))) :
    Calls Try.prog 14 #[.int .i64 a0, .slice A1 l1.length c1, .slice A2 l2.length c2] w fun e w' => e = .returned (.bool true) ∧ Below w.heap.size w w' := by
  by_cases hl1 : l1.length ≤ 1048576
  · have hzero := Below.refl w.heap.size w
    by_cases hs2 : (l2.length : Int) ≤ 1048576 - (l1.length : Int)
    · have hl2 : l2.length ≤ 1048576 := by omega
      have Hz := Lib.hid (laws_sz_fit A1 l1.length c1 1048576 w (by omega) (by omega))
      have Hz2 := Lib.hid (laws_sz_fit A2 l2.length c2 (1048576 - (l1.length : Int)) w (by omega) (by omega))
      go_enter Try.func14, Try.ntmps14
      go_wp2_with fail
      refine Hz.out.mono ?_
      rintro e wz ⟨rfl, rfl⟩
      clear Hz
      go_wp2_with fail
      refine Hz2.out.mono ?_
      rintro e wz ⟨rfl, rfl⟩
      clear Hz2
      go_wp2_with fail
      clear hs2
      have hd := hzero
      clear hzero
      refine (laws_toDiagonalS A1 c1 w.heap.size l1 _ (h1.below hd) hd.size hl1).mono ?_
      rintro e whT1 ⟨rfl, hT1, hb⟩
      replace hd := below_kept hd (Nat.le_refl _) hb
      clear hb
      go_wp2_with fail
      refine (laws_toDiagonalS A2 c2 w.heap.size l2 _ (h2.below hd) hd.size hl2).mono ?_
      rintro e whT2 ⟨rfl, hT2, hb⟩
      replace hT1 := own_kept hT1 hb
      replace hd := below_kept hd (Nat.le_refl _) hb
      clear hb
      go_wp2_with fail
      refine (hs.out _ _ _ _ _ (SlD.of_own hT1) hl1 (Nat.le_refl _) (SlD.of_own hT2) hl2 (Nat.le_refl _)).mono ?_
      rintro e whW ⟨rfl, hb⟩
      replace hd := below_kept hd (Nat.le_refl _) hb
      clear hb
      clear hT1
      clear hT2
      go_wp2_with fail
      refine (laws_toDiagonalS A1 c1 w.heap.size l1 _ (h1.below hd) hd.size hl1).mono ?_
      rintro e whX1 ⟨rfl, hX1, hb⟩
      replace hd := below_kept hd (Nat.le_refl _) hb
      clear hb
      go_wp2_with fail
      refine (laws_toDiagonalS A2 c2 w.heap.size l2 _ (h2.below hd) hd.size hl2).mono ?_
      rintro e whX2 ⟨rfl, hX2, hb⟩
      replace hX1 := own_kept hX1 hb
      replace hd := below_kept hd (Nat.le_refl _) hb
      clear hb
      go_wp2_with fail
      refine (hi.out _ _ _ _ _ (SlD.of_own hX1) hl1 (Nat.le_refl _) (SlD.of_own hX2) hl2 (Nat.le_refl _)).mono ?_
      rintro e whG ⟨rfl, hb⟩
      replace hX1 := own_kept hX1 hb
      replace hX2 := own_kept hX2 hb
      replace hd := below_kept hd (Nat.le_refl _) hb
      clear hb
      go_wp2_with fail
      refine (laws_toDiagonalS A1 c1 w.heap.size l1 _ (h1.below hd) hd.size hl1).mono ?_
      rintro e whY1 ⟨rfl, hY1, hb⟩
      replace hX1 := own_kept hX1 hb
      replace hX2 := own_kept hX2 hb
      replace hd := below_kept hd (Nat.le_refl _) hb
      clear hb
      go_wp2_with fail
      refine (laws_eqDiagonalS _ _ _ _ _ _ _ _ (SlD.of_own hX1) (SlD.of_own hY1) (Nat.le_refl _) (Nat.le_refl _) (by omega)).mono ?_
      rintro e wq1 ⟨rfl, hb⟩
      replace hX1 := own_kept hX1 hb
      replace hX2 := own_kept hX2 hb
      replace hY1 := own_kept hY1 hb
      replace hd := below_kept hd (Nat.le_refl _) hb
      clear hb
      go_wp2_with fail
      clear hY1
      refine (laws_toDiagonalS A2 c2 w.heap.size l2 _ (h2.below hd) hd.size hl2).mono ?_
      rintro e whY2 ⟨rfl, hY2, hb⟩
      replace hX1 := own_kept hX1 hb
      replace hX2 := own_kept hX2 hb
      replace hd := below_kept hd (Nat.le_refl _) hb
      clear hb
      go_wp2_with fail
      refine (laws_eqDiagonalS _ _ _ _ _ _ _ _ (SlD.of_own hX2) (SlD.of_own hY2) (Nat.le_refl _) (Nat.le_refl _) (by omega)).mono ?_
      rintro e wq2 ⟨rfl, hb⟩
      replace hX1 := own_kept hX1 hb
      replace hX2 := own_kept hX2 hb
      replace hY2 := own_kept hY2 hb
      replace hd := below_kept hd (Nat.le_refl _) hb
      clear hb
      go_wp2_with fail
      clear hY2
      clear hs hi hX1 hX2 h1 h2
      go_wp2
      go_ret
      exact ⟨rfl, hd⟩
    · have Hz := Lib.hid (laws_sz_fit A1 l1.length c1 1048576 w (by omega) (by omega))
      have Hz2 := Lib.hid (laws_sz_over A2 l2.length c2 (1048576 - (l1.length : Int)) w (by omega) (by omega) (by omega))
      clear h1 h2 hs hi
      go_enter Try.func14, Try.ntmps14
      go_wp2_with fail
      refine Hz.out.mono ?_
      rintro e wz ⟨rfl, rfl⟩
      clear Hz
      go_wp2_with fail
      refine Hz2.out.mono ?_
      rintro e wz ⟨rfl, rfl⟩
      clear Hz2 hs2
      go_wp2
      go_ret
      exact ⟨rfl, hzero⟩
  · have hdd := Below.refl w.heap.size w
    have e1 : (if l1.length ≤ 1048576 then 1048576 - (l1.length : Int) else -1) = -1 := if_neg hl1
    have hz := laws_szDiagonalS A1 l1.length c1 w (by omega)
    rw [e1] at hz
    have Hz := Lib.hid hz
    clear e1 hz h1 h2 hs hi
    go_enter Try.func14, Try.ntmps14
    go_wp2_with fail
    refine Hz.out.mono ?_
    rintro e wz ⟨rfl, rfl⟩
    clear Hz
    go_wp2
    go_ret
    exact ⟨rfl, hdd⟩

end Go.Proofs.Ytbpaaoeefcebeaa
