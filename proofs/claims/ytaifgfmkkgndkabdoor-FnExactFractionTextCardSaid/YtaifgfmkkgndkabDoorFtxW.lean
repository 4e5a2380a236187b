/- The text of a fraction. -/
import Derived.Test.YtaifgfmkkgndkabDoorItoW
import Derived.Test.YtaifgfmkkgndkabDoorNbB
import Derived.Test.YtaifgfmkkgndkabDoorBx2
import Derived.Test.YtaifgfmkkgndkabDoorLawF
import Derived.Deep.RegionWith
namespace Go.Proofs.YtaifgfmkkgndkabDoor
set_option linter.unusedVariables false
open Go.RowKit

def ftx (a b : Int) : List UInt8 := if nbB a b = true then Lib.decDigits a.toNat ++ [47] ++ Lib.decDigits b.toNat else []
def FtE (a b : Int) (w : World) (e : Ending) (w' : World) : Prop := e = .returned (.tuple #[.string (bsL (ftx a b)), .bool (nbB a b)]) ∧ Below w.heap.size w w'
theorem ftE_no {a b : Int} {w w' : World} (h : nbB a b = false) (hb : Below w.heap.size w w') : FtE a b w (.returned (.tuple #[.string ⟨#[]⟩, .bool false])) w' := by
  unfold FtE ftx
  rw [h]
  exact ⟨rfl, hb⟩
theorem ftE_yes {x y : Nat} {w w' : World} (h : nbB (x : Int) (y : Int) = true) (hb : Below w.heap.size w w') : FtE x y w (.returned (.tuple #[.string (bsL (Lib.decDigits x) ++ ⟨#[47]⟩ ++ bsL (Lib.decDigits y)), .bool true])) w' := by
  unfold FtE ftx
  rw [if_pos h, h, bsL_app, bsL_snoc]
  exact ⟨rfl, hb⟩
set_option maxRecDepth 100000 in
set_option maxHeartbeats 3200000 in
theorem spec_FractionText (a b : Int) (w : World) : Calls Tryd.prog 6 #[.agg #[.int .i64 a, .int .i64 b]] w (FtE a b w) := by
  have G := Lib.hid (fun w => spec_nbGood a b w)
  cases hg : nbB a b
  · have HE := Lib.hid (fun w' hb => ftE_no (w := w) (w' := w') hg hb)
    rw [hg] at G
    clear hg
    go_enter Tryd.func6, Tryd.ntmps6
    go_wp2_with fail
    refine (G.out _).mono ?_
    rintro e w1 ⟨rfl, hb⟩
    have D := Lib.hid (below_kept (below_one w _) (Nat.le_refl _) hb)
    clear hb
    go_wp2
    go_ret2
    exact HE.out _ D.out
  · obtain ⟨⟨a0, a1⟩, ⟨b0, b1⟩, _⟩ := nbB_iff.1 hg
    obtain ⟨x, rfl⟩ := Int.eq_ofNat_of_zero_le a0
    obtain ⟨y, rfl⟩ := Int.eq_ofNat_of_zero_le b0
    have HE := Lib.hid (fun w' hb => ftE_yes (w := w) (w' := w') hg hb)
    rw [hg] at G
    have lx := dig_len x
    have ly := dig_len y
    have x9 : x ≤ 1000000000 := by omega
    have y9 : y ≤ 1000000000 := by omega
    have hsX := bsL_size (Lib.decDigits x)
    have hsY := bsL_size (Lib.decDigits y)
    have hX1 : ¬ 9223372036854775807 < (Lib.decDigits x).length + 1 := by omega
    have hX2 : ¬ 9223372036854775807 < (Lib.decDigits x).length + 1 + (Lib.decDigits y).length := by omega
    clear hg a0 a1 b0 b1 lx ly
    go_enter Tryd.func6, Tryd.ntmps6
    go_wp2_with fail
    refine (G.out _).mono ?_
    rintro e w1 ⟨rfl, hb⟩
    have D := Lib.hid (below_kept (below_one w _) (Nat.le_refl _) hb)
    have A := Lib.hid ((Bx2.new w 26 (x : Int) (y : Int)).kept hb)
    clear hb
    obtain ⟨⟨a0, a1⟩, a2, a3⟩ := A.out
    have yA := A.out.lt
    go_wp2_with fail
    all_goals skip
    go_region_with (go_at_call 18; refine (spec_l1Num _ _ ?hk).mono ?_; (case hk => assumption); rintro e2 w2 ⟨rfl, hb2⟩; (first
      | (have A3 := Lib.hid (A2.out.kept hb2); have D3 := Lib.hid (below_kept D2.out (Nat.le_refl _) hb2))
      | (have A2 := Lib.hid (Bx2.kept (w := w1.drew) A.out hb2); have D2 := Lib.hid (below_kept (w := w1.drew) D.out.drew (Nat.le_refl _) hb2); have y2 := A2.out.lt; obtain ⟨⟨x0, x1⟩, x2, x3⟩ := A2.out)))
    all_goals (clear hb2 a0 a1 a2 a3 x0 x1 x2 x3 A A2 A3 D2; go_wp2; go_ret2; exact HE.out _ D3.out)
set_option maxRecDepth 100000 in
set_option maxHeartbeats 3200000 in
theorem impl_FractionText (a b : Int) (w : World) (ht : TabW w) : Calls Tryd.prog 8 #[.agg #[.int .i64 a, .int .i64 b]] w (FtE a b w) := by
  have G := Lib.hid (fun w => impl_IsFraction a b w)
  have HT := Lib.hid ht
  clear ht
  cases hg : nbB a b
  · have HE := Lib.hid (fun w' hb => ftE_no (w := w) (w' := w') hg hb)
    rw [hg] at G
    clear hg
    go_enter Tryd.func8, Tryd.ntmps8
    go_wp2_with fail
    refine (G.out _).mono ?_
    rintro e w1 ⟨rfl, hb⟩
    have D := Lib.hid (below_kept (below_one w _) (Nat.le_refl _) hb)
    clear hb
    go_wp2
    go_ret2
    exact HE.out _ D.out
  · obtain ⟨⟨a0, a1⟩, ⟨b0, b1⟩, _⟩ := nbB_iff.1 hg
    obtain ⟨x, rfl⟩ := Int.eq_ofNat_of_zero_le a0
    obtain ⟨y, rfl⟩ := Int.eq_ofNat_of_zero_le b0
    have HE := Lib.hid (fun w' hb => ftE_yes (w := w) (w' := w') hg hb)
    rw [hg] at G
    have lx := dig_len x
    have ly := dig_len y
    have x9 : x ≤ 1000000000 := by omega
    have y9 : y ≤ 1000000000 := by omega
    have hsX := bsL_size (Lib.decDigits x)
    have hsY := bsL_size (Lib.decDigits y)
    have hX1 : ¬ 9223372036854775807 < (Lib.decDigits x).length + 1 := by omega
    have hX2 : ¬ 9223372036854775807 < (Lib.decDigits x).length + 1 + (Lib.decDigits y).length := by omega
    clear hg a0 a1 b0 b1 lx ly
    go_enter Tryd.func8, Tryd.ntmps8
    go_wp2_with fail
    refine (G.out _).mono ?_
    rintro e w1 ⟨rfl, hb⟩
    have D := Lib.hid (below_kept (below_one w _) (Nat.le_refl _) hb)
    have A := Lib.hid ((Bx2.new w 26 (x : Int) (y : Int)).kept hb)
    have T1 := Lib.hid (tab_kept HT.out D.out)
    clear hb
    obtain ⟨⟨a0, a1⟩, a2, a3⟩ := A.out
    have yA := A.out.lt
    go_wp2_with fail
    all_goals skip
    go_region_with (go_at_call 20; refine (impl_Itoa _ _ ?hk ?ht).mono ?_; (case hk => assumption); (case ht => first | exact T2.out | exact T1.out); rintro e2 w2 ⟨rfl, hb2⟩; (first
      | (have A3 := Lib.hid (A2.out.kept hb2); have D3 := Lib.hid (below_kept D2.out (Nat.le_refl _) hb2))
      | (have A2 := Lib.hid (Bx2.kept (w := w1.drew) A.out hb2); have T2 := Lib.hid (tab_kept (w := w1.drew) T1.out hb2); have D2 := Lib.hid (below_kept (w := w1.drew) D.out.drew (Nat.le_refl _) hb2); have y2 := A2.out.lt; obtain ⟨⟨x0, x1⟩, x2, x3⟩ := A2.out)))
    all_goals (clear hb2 a0 a1 a2 a3 x0 x1 x2 x3 A A2 A3 D2; go_wp2; go_ret2; exact HE.out _ D3.out)
set_option maxHeartbeats 3200000 in
theorem WFractionText.core (w : World) (a b : Int) (ht : TabW w) :
    Calls Tryd.prog 3 #[.agg #[.int .i64 a, .int .i64 b]] w fun e w' => e = .returned (.bool true) ∧ Below w.heap.size w w' := by
  have hs := Lib.hid (fun w => spec_FractionText a b w)
  have hi := Lib.hid (fun w h => impl_FractionText a b w h)
  have HT := Lib.hid ht
  clear ht
  unfold FtE at hs hi
  generalize bsL (ftx a b) = S at *
  generalize nbB a b = ok at *
  go_enter Tryd.func3, Tryd.ntmps3
  go_wp2_with fail
  refine (laws_toFraction a b _).mono ?_
  rintro e w1 ⟨rfl, hb⟩
  have A := Lib.hid ((Bx2.new w 23 a b).kept hb)
  have hd := Lib.hid ((below_one w _).trans (hb.mono (by simp)))
  clear hb
  have yA := A.out.lt
  obtain ⟨⟨A0, A1⟩, A2, A3⟩ := A.out
  go_wp2_with fail
  clear A0 A1 A2 A3 yA
  refine (hs.out _).mono ?_
  rintro e w2 ⟨rfl, hb⟩
  replace A := Lib.hid (A.out.kept hb)
  replace hd := Lib.hid (below_kept hd.out (Nat.le_refl _) hb)
  clear hb
  have yA := A.out.lt
  obtain ⟨⟨A0, A1⟩, A2, A3⟩ := A.out
  go_wp2_with fail
  clear A0 A1 A2 A3 yA
  refine (laws_toFraction a b _).mono ?_
  rintro e w3 ⟨rfl, hb⟩
  replace hd := Lib.hid (below_kept hd.out (Nat.le_refl _) hb)
  clear hb A
  go_wp2_with fail
  refine (hi.out _ (tab_kept HT.out hd.out)).mono ?_
  rintro e w4 ⟨rfl, hb⟩
  replace hd := Lib.hid (below_kept hd.out (Nat.le_refl _) hb)
  clear hb
  go_wp2
  go_ret
  exact ⟨rfl, hd.out⟩
end Go.Proofs.YtaifgfmkkgndkabDoor
