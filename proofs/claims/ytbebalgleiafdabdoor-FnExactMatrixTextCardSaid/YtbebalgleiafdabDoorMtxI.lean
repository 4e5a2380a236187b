/- The text of a matrix: the program's, and the law's walk. -/
import Derived.Test.YtbebalgleiafdabDoorMtxW
import Derived.Test.YtbebalgleiafdabDoorLawF
import Derived.Test.YtbebalgleiafdabDoorKept
import Derived.Deep.RegionHeld3
namespace Go.Proofs.YtbebalgleiafdabDoor
set_option linter.unusedVariables false
open Go.RowKit

theorem impl_ItoaS {n : Int} {w0 w : World} {P Q R T : Prop} (hn : In9 n) (ht : TabW w0) (hS : P ∧ Q ∧ R ∧ T ∧ Below w0.heap.size w0 w) :
    Calls Tryd.prog 27 #[.int .i64 n] w fun e w' => e = .returned (.string (bsL (Lib.itoa n))) ∧ Below w.heap.size w w' := impl_ItoaI n w hn (tab_kept ht hS.2.2.2.2)
set_option maxRecDepth 100000 in
set_option maxHeartbeats 6400000 in
theorem impl_MatrixText (a b c d : Int) (w : World) (ht : TabW w) : Calls Tryd.prog 9 #[.agg #[.int .i64 a, .int .i64 b, .int .i64 c, .int .i64 d]] w (MtE a b c d w) := by
  have G := Lib.hid (fun w => impl_IsMatrix a b c d w)
  have HT := Lib.hid ht
  clear ht
  cases hg : mxB a b c d
  · have HE := Lib.hid (fun w' hb => mtE_no (w := w) (w' := w') hg hb)
    rw [hg] at G
    clear hg
    go_enter Tryd.func9, Tryd.ntmps9
    go_wp2_with fail
    refine (G.out _).mono ?_
    rintro e w1 ⟨rfl, hb⟩
    have D := Lib.hid (below_kept (below_one w _) (Nat.le_refl _) hb)
    clear hb
    go_wp2
    go_ret2
    exact HE.out _ D.out
  · obtain ⟨ia, ib, ic, id'⟩ := mx_in9 hg
    have HE := Lib.hid (fun w' hb => mtE_yes (w := w) (w' := w') hg hb)
    rw [hg] at G
    have la := itoa_len ia
    have lb := itoa_len ib
    have lc := itoa_len ic
    have ld := itoa_len id'
    have sa := bsL_size (Lib.itoa a)
    have sb := bsL_size (Lib.itoa b)
    have sc := bsL_size (Lib.itoa c)
    have sd := bsL_size (Lib.itoa d)
    have z1 : ¬ 9223372036854775807 < (Lib.itoa a).length + 1 := by omega
    have z2 : ¬ 9223372036854775807 < (Lib.itoa a).length + 1 + (Lib.itoa b).length := by omega
    have z3 : ¬ 9223372036854775807 < (Lib.itoa a).length + 1 + (Lib.itoa b).length + 1 := by omega
    have z4 : ¬ 9223372036854775807 < (Lib.itoa a).length + 1 + (Lib.itoa b).length + 1 + (Lib.itoa c).length := by omega
    have z5 : ¬ 9223372036854775807 < (Lib.itoa a).length + 1 + (Lib.itoa b).length + 1 + (Lib.itoa c).length + 1 := by omega
    have z6 : ¬ 9223372036854775807 < (Lib.itoa a).length + 1 + (Lib.itoa b).length + 1 + (Lib.itoa c).length + 1 + (Lib.itoa d).length := by omega
    clear hg la lb lc ld
    go_enter Tryd.func9, Tryd.ntmps9
    go_wp2_with fail
    refine (G.out _).mono ?_
    rintro e w1 ⟨rfl, hb⟩
    have D := Lib.hid (below_kept (below_one w _) (Nat.le_refl _) hb)
    have A := Lib.hid ((Bx4.new w 26 a b c d).kept hb)
    clear hb
    obtain ⟨⟨a0, a1, a2, a3⟩, _⟩ := A.out
    have yA := A.out.lt
    go_wp2_with fail
    all_goals skip
    have D2 := Lib.hid D.out.drew
    clear A G yA
    go_region_held3 (fun w' => w'.cell? ⟨w.heap.size, 0, none⟩ = some (.int .i64 a) ∧ w'.cell? ⟨w.heap.size, 1, none⟩ = some (.int .i64 b) ∧ w'.cell? ⟨w.heap.size, 2, none⟩ = some (.int .i64 c) ∧ w'.cell? ⟨w.heap.size, 3, none⟩ = some (.int .i64 d) ∧ Below w.heap.size w w')
      (first
        | with_reducible exact keptB4 (by assumption) hb1 (Nat.le_refl _)
        | exact ⟨a0, a1, a2, a3, D2.out⟩)
      (first
        | (go_at_call 27; refine (impl_ItoaS (by assumption) HT.out (by assumption)).mono ?_; rintro e w1 ⟨rfl, hb1⟩))
    rename_i hS
    have hd := Lib.hid hS.2.2.2.2
    clear hS
    go_wp2
    go_ret2
    exact HE.out _ hd.out
set_option maxHeartbeats 3200000 in
theorem WMatrixText.core (w : World) (a b c d : Int) (ht : TabW w) :
    Calls Tryd.prog 3 #[.agg #[.int .i64 a, .int .i64 b, .int .i64 c, .int .i64 d]] w fun e w' => e = .returned (.bool true) ∧ Below w.heap.size w w' := by
  have hs := Lib.hid (fun w => spec_MatrixText a b c d w)
  have hi := Lib.hid (fun w h => impl_MatrixText a b c d w h)
  have HT := Lib.hid ht
  clear ht
  unfold MtE at hs hi
  generalize bsL (mtx a b c d) = S at *
  generalize mxB a b c d = ok at *
  go_enter Tryd.func3, Tryd.ntmps3
  go_wp2_with fail
  refine (laws_toMatrix a b c d _).mono ?_
  rintro e w1 ⟨rfl, hb⟩
  have A := Lib.hid ((Bx4.new w 23 a b c d).kept hb)
  have hd := Lib.hid ((below_one w _).trans (hb.mono (by simp)))
  clear hb
  have yA := A.out.lt
  obtain ⟨⟨A0, A1, A2, A3⟩, _⟩ := A.out
  go_wp2_with fail
  clear A0 A1 A2 A3 yA
  refine (hs.out _).mono ?_
  rintro e w2 ⟨rfl, hb⟩
  replace A := Lib.hid (A.out.kept hb)
  replace hd := Lib.hid (below_kept hd.out (Nat.le_refl _) hb)
  clear hb
  have yA := A.out.lt
  obtain ⟨⟨A0, A1, A2, A3⟩, _⟩ := A.out
  go_wp2_with fail
  clear A0 A1 A2 A3 yA
  refine (laws_toMatrix a b c d _).mono ?_
  rintro e w3 ⟨rfl, hb⟩
  replace hd := Lib.hid (below_kept hd.out (Nat.le_refl _) hb)
  clear hb A
  go_wp2_with fail
  refine (hi.out _ (tab_kept HT.out hd.out)).mono ?_
  rintro e w4 ⟨rfl, hb⟩
  replace hd := Lib.hid (below_kept hd.out (Nat.le_refl _) hb)
  clear hb
  go_wp2
  go_ret
  exact ⟨rfl, hd.out⟩
end Go.Proofs.YtbebalgleiafdabDoor
