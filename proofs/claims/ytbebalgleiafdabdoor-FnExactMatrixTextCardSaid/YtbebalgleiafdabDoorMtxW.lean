/- The text of a matrix: the model's. -/
import Derived.Test.YtbebalgleiafdabDoorMtxA
import Derived.Test.YtbebalgleiafdabDoorKept
import Derived.Deep.RegionHeld3
namespace Go.Proofs.YtbebalgleiafdabDoor
set_option linter.unusedVariables false
open Go.RowKit

set_option maxRecDepth 100000 in
set_option maxHeartbeats 6400000 in
theorem spec_MatrixText (a b c d : Int) (w : World) : Calls Tryd.prog 7 #[.agg #[.int .i64 a, .int .i64 b, .int .i64 c, .int .i64 d]] w (MtE a b c d w) := by
  have G := Lib.hid (fun w => spec_mxGood a b c d w)
  cases hg : mxB a b c d
  · have HE := Lib.hid (fun w' hb => mtE_no (w := w) (w' := w') hg hb)
    rw [hg] at G
    clear hg
    go_enter Tryd.func7, Tryd.ntmps7
    go_wp2_with fail
    refine (G.out _).mono ?_
    rintro e w1 ⟨rfl, hb⟩
    have D := Lib.hid (below_kept (below_one w _) (Nat.le_refl _) hb)
    clear hb
    go_wp2
    go_ret2
    exact HE.out _ D.out
  · obtain ⟨ia, ib, ic, id'⟩ := mx_in9 hg
    have HE := Lib.hid (fun w' hb => mtE_yes (w := w) (w' := w') hg hb)
    rw [hg] at G
    have la := itoa_len ia
    have lb := itoa_len ib
    have lc := itoa_len ic
    have ld := itoa_len id'
    have sa := bsL_size (Lib.itoa a)
    have sb := bsL_size (Lib.itoa b)
    have sc := bsL_size (Lib.itoa c)
    have sd := bsL_size (Lib.itoa d)
    have z1 : ¬ 9223372036854775807 < (Lib.itoa a).length + 1 := by omega
    have z2 : ¬ 9223372036854775807 < (Lib.itoa a).length + 1 + (Lib.itoa b).length := by omega
    have z3 : ¬ 9223372036854775807 < (Lib.itoa a).length + 1 + (Lib.itoa b).length + 1 := by omega
    have z4 : ¬ 9223372036854775807 < (Lib.itoa a).length + 1 + (Lib.itoa b).length + 1 + (Lib.itoa c).length := by omega
    have z5 : ¬ 9223372036854775807 < (Lib.itoa a).length + 1 + (Lib.itoa b).length + 1 + (Lib.itoa c).length + 1 := by omega
    have z6 : ¬ 9223372036854775807 < (Lib.itoa a).length + 1 + (Lib.itoa b).length + 1 + (Lib.itoa c).length + 1 + (Lib.itoa d).length := by omega
    clear hg la lb lc ld
    go_enter Tryd.func7, Tryd.ntmps7
    go_wp2_with fail
    refine (G.out _).mono ?_
    rintro e w1 ⟨rfl, hb⟩
    have D := Lib.hid (below_kept (below_one w _) (Nat.le_refl _) hb)
    have A := Lib.hid ((Bx4.new w 26 a b c d).kept hb)
    clear hb
    obtain ⟨⟨a0, a1, a2, a3⟩, _⟩ := A.out
    have yA := A.out.lt
    go_wp2_with fail
    all_goals skip
    have D2 := Lib.hid D.out.drew
    clear A G yA
    go_region_held3 (fun w' => w'.cell? ⟨w.heap.size, 0, none⟩ = some (.int .i64 a) ∧ w'.cell? ⟨w.heap.size, 1, none⟩ = some (.int .i64 b) ∧ w'.cell? ⟨w.heap.size, 2, none⟩ = some (.int .i64 c) ∧ w'.cell? ⟨w.heap.size, 3, none⟩ = some (.int .i64 d) ∧ Below w.heap.size w w')
      (first
        | with_reducible exact keptB4 (by assumption) hb1 (Nat.le_refl _)
        | exact ⟨a0, a1, a2, a3, D2.out⟩)
      (first
        | (go_at_call 25; refine (spec_l1Int _ _ (by assumption)).mono ?_; rintro e w1 ⟨rfl, hb1⟩))
    rename_i hS
    have hd := Lib.hid hS.2.2.2.2
    clear hS
    go_wp2
    go_ret2
    exact HE.out _ hd.out
end Go.Proofs.YtbebalgleiafdabDoor
