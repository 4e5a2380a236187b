/- The first desk: the model's and the program's; the law's walk. -/
import Derived.Test.YtbpaaoeefcebeabFirstDeskC
namespace Go.Proofs.Ytbpaaoeefcebeab
set_option linter.unusedVariables false
open Go.RowKit

theorem spec_FirstDesk (w : World) : Calls Try.prog 46 #[] w (GivDk w [1, 2, 1, 2] 0) := by
  obtain ⟨w2, hw2⟩ : ∃ w2, w2 = (w.alloc (.cells #[.slice (some ⟨w.heap.size + 1, 0, none⟩) 4 4, .int .i64 0] 52)).alloc (.cells #[.int .i64 1, .int .i64 2, .int .i64 1, .int .i64 2] 3) := ⟨_, rfl⟩
  have hb : Below w.heap.size w w2 := by
    rw [hw2]
    exact below_box (below_box (Below.refl w.heap.size w) (Nat.le_refl _) _) (Nat.le_refl _) _
  have q0 : Bd w2 w.heap.size (.slice (some ⟨w.heap.size + 1, 0, none⟩) 4 4) 0 52 := by
    rw [hw2]
    exact (Bd.new w (.slice (some ⟨w.heap.size + 1, 0, none⟩) 4 4) 0 52).alloc _
  have ho : w2.ownsRow w.heap.size 3 1 (.slice (some ⟨w.heap.size + 1, 0, none⟩) 4 4) 4 (ics [1, 2, 1, 2]) := by
    rw [hw2]
    exact ⟨by simp [ics], .inr ⟨w.heap.size + 1, 4, #[.int .i64 1, .int .i64 2, .int .i64 1, .int .i64 2], rfl, Nat.le_succ _, by simpa using heap_alloc_new (w.alloc (.cells #[.slice (some ⟨w.heap.size + 1, 0, none⟩) 4 4, .int .i64 0] 52)) _, by omega, by decide, by simp, by simp [ics]⟩⟩
  have Q0 := Lib.hid q0
  have HO := Lib.hid ho
  have HB := Lib.hid hb
  have Hw2 := Lib.hid hw2
  clear ho hb q0 hw2
  go_enter Try.func46, Try.ntmps46
  go_wp2
  rw [← Hw2.out]
  obtain ⟨c0, d0⟩ := Q0.out.cell
  exact bodyPost_ret (v := .agg #[.slice (some ⟨w.heap.size + 1, 0, none⟩) 4 4, .int .i64 0]) (by simp [results, Try.results46, go_sem, c0, d0]) rfl ⟨_, 4, rfl, HO.out, HB.out⟩
theorem impl_FirstDesk (w : World) : Calls Try.prog 47 #[] w (GivDk w [1, 2, 1, 2] 0) := by
  obtain ⟨w2, hw2⟩ : ∃ w2, w2 = (w.alloc (.cells #[.slice (some ⟨w.heap.size + 1, 0, none⟩) 4 4, .int .i64 0] 52)).alloc (.cells #[.int .i64 1, .int .i64 2, .int .i64 1, .int .i64 2] 3) := ⟨_, rfl⟩
  have hb : Below w.heap.size w w2 := by
    rw [hw2]
    exact below_box (below_box (Below.refl w.heap.size w) (Nat.le_refl _) _) (Nat.le_refl _) _
  have q0 : Bd w2 w.heap.size (.slice (some ⟨w.heap.size + 1, 0, none⟩) 4 4) 0 52 := by
    rw [hw2]
    exact (Bd.new w (.slice (some ⟨w.heap.size + 1, 0, none⟩) 4 4) 0 52).alloc _
  have ho : w2.ownsRow w.heap.size 3 1 (.slice (some ⟨w.heap.size + 1, 0, none⟩) 4 4) 4 (ics [1, 2, 1, 2]) := by
    rw [hw2]
    exact ⟨by simp [ics], .inr ⟨w.heap.size + 1, 4, #[.int .i64 1, .int .i64 2, .int .i64 1, .int .i64 2], rfl, Nat.le_succ _, by simpa using heap_alloc_new (w.alloc (.cells #[.slice (some ⟨w.heap.size + 1, 0, none⟩) 4 4, .int .i64 0] 52)) _, by omega, by decide, by simp, by simp [ics]⟩⟩
  have Q0 := Lib.hid q0
  have HO := Lib.hid ho
  have HB := Lib.hid hb
  have Hw2 := Lib.hid hw2
  clear ho hb q0 hw2
  go_enter Try.func47, Try.ntmps47
  go_wp2
  rw [← Hw2.out]
  obtain ⟨c0, d0⟩ := Q0.out.cell
  exact bodyPost_ret (v := .agg #[.slice (some ⟨w.heap.size + 1, 0, none⟩) 4 4, .int .i64 0]) (by simp [results, Try.results47, go_sem, c0, d0]) rfl ⟨_, 4, rfl, HO.out, HB.out⟩
theorem WFirstDesk.walk (w : World) : Calls Try.prog 13 #[] w fun e w' => e = .returned (.bool true) ∧ Below w.heap.size w w' :=
  WFirstDesk.core w 0 [1, 2, 1, 2] (by decide) (Lib.hid fun w => spec_FirstDesk w) (Lib.hid fun w => impl_FirstDesk w)
end Go.Proofs.Ytbpaaoeefcebeab
