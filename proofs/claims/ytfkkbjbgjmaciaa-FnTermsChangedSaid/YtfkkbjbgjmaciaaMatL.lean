/- What chapter 4's laws share: a box of four numbers, kept; the laws' own comparison. -/
import Derived.Test.YtfkkbjbgjmaciaaMatJ
import Derived.Deep.RegionHeld3
namespace Go.Proofs.Ytfkkbjbgjmaciaa
set_option linter.unusedVariables false
open Go.RowKit

/-- four numbers lie in a block -/
def Bx (w : World) (g : Nat) (a b c d : Int) : Prop :=
  w.cell? ⟨g, 0, none⟩ = some (.int .i64 a) ∧ w.cell? ⟨g, 1, none⟩ = some (.int .i64 b) ∧ w.cell? ⟨g, 2, none⟩ = some (.int .i64 c) ∧ w.cell? ⟨g, 3, none⟩ = some (.int .i64 d)
theorem Bx.new (w : World) (t : TypeId) (a b c d : Int) : Bx (w.alloc (.cells #[.int .i64 a, .int .i64 b, .int .i64 c, .int .i64 d] t)) w.heap.size a b c d := by
  unfold Bx
  simp [go_sem]
theorem Bx.lt {w : World} {g : Nat} {a b c d : Int} (h : Bx w g a b c d) : g < w.heap.size := World.block_lt_of_cell? w _ h.1
theorem Bx.kept {w w' : World} {g : Nat} {a b c d : Int} (h : Bx w g a b c d) (hb : Below w.heap.size w w') : Bx w' g a b c d :=
  ⟨cell_kept hb h.1, cell_kept hb h.2.1, cell_kept hb h.2.2.1, cell_kept hb h.2.2.2⟩
theorem Bx.alloc {w : World} {g : Nat} {a b c d : Int} (h : Bx w g a b c d) (o : Obj) : Bx (w.alloc o) g a b c d :=
  h.kept ((Below.refl _ _).alloc (Nat.le_refl _) _)
theorem Bx.drew {w : World} {g : Nat} {a b c d : Int} (h : Bx w g a b c d) : Bx w.drew g a b c d := h
theorem Bx.drewN {w : World} {g : Nat} {a b c d : Int} (h : Bx w g a b c d) (n : Nat) : Bx (w.drewN n) g a b c d := h
theorem below_alloc1 {B : Nat} {w0 w : World} (h : Below B w0 w) (hB : B ≤ w0.heap.size) (o : Obj) : Below B w0 (w.alloc o) := h.alloc (Nat.le_trans hB h.size) _
end Go.Proofs.Ytfkkbjbgjmaciaa
