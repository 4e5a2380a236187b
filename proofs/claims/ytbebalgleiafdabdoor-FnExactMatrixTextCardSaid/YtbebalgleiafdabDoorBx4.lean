/- A box of four numbers that may be written: a struct of two fractions that a function keeps. -/
import Derived.Test.YtbebalgleiafdabDoorBx2
namespace Go.Proofs.YtbebalgleiafdabDoor
set_option linter.unusedVariables false
open Go.RowKit

def Bx4 (w : World) (g : Nat) (a b c d : Int) : Prop :=
  (w.cell? ⟨g, 0, none⟩ = some (.int .i64 a) ∧ w.cell? ⟨g, 1, none⟩ = some (.int .i64 b) ∧ w.cell? ⟨g, 2, none⟩ = some (.int .i64 c) ∧ w.cell? ⟨g, 3, none⟩ = some (.int .i64 d)) ∧
  w.frozen? ⟨g, 0, none⟩ = false ∧ w.frozen? ⟨g, 1, none⟩ = false ∧ w.frozen? ⟨g, 2, none⟩ = false ∧ w.frozen? ⟨g, 3, none⟩ = false
theorem Bx4.lt {w : World} {g : Nat} {a b c d : Int} (h : Bx4 w g a b c d) : g < w.heap.size := World.block_lt_of_cell? w _ h.1.1
theorem Bx4.kept {w w' : World} {g : Nat} {a b c d : Int} (h : Bx4 w g a b c d) (hb : Below w.heap.size w w') : Bx4 w' g a b c d := by
  obtain ⟨_, hfz, _⟩ := bcell hb
  obtain ⟨⟨h0, h1, h2, h3⟩, f0, f1, f2, f3⟩ := id h
  exact ⟨⟨cell_kept hb h0, cell_kept hb h1, cell_kept hb h2, cell_kept hb h3⟩, (hfz g 0 h.lt).trans f0, (hfz g 1 h.lt).trans f1, (hfz g 2 h.lt).trans f2, (hfz g 3 h.lt).trans f3⟩
theorem Bx4.new (w : World) (t : TypeId) (a b c d : Int) : Bx4 (w.alloc (.cells #[.int .i64 a, .int .i64 b, .int .i64 c, .int .i64 d] t)) w.heap.size a b c d := by unfold Bx4; simp [go_sem]
theorem Bx4.alloc {w : World} {g : Nat} {a b c d : Int} (h : Bx4 w g a b c d) (o : Obj) : Bx4 (w.alloc o) g a b c d := h.kept ((Below.refl _ _).alloc (Nat.le_refl _) _)
theorem Bx4.drewN {w : World} {g : Nat} {a b c d : Int} (h : Bx4 w g a b c d) (z : Nat) : Bx4 (w.drewN z) g a b c d := h
theorem Bx4.drew {w : World} {g : Nat} {a b c d : Int} (h : Bx4 w g a b c d) : Bx4 w.drew g a b c d := h
theorem Bx4.setFar {w : World} {g g2 o : Nat} {a b c d : Int} (h : Bx4 w g a b c d) (hne : g2 ≠ g) (v : Value) : Bx4 (w.setCell ⟨g2, o, none⟩ v) g a b c d := by
  obtain ⟨⟨h0, h1, h2, h3⟩, f0, f1, f2, f3⟩ := h
  unfold Bx4
  simp [go_sem, h0, h1, h2, h3, f0, f1, f2, f3, hne]
theorem Bx4.grown {w w' : World} {g : Nat} {a b c d : Int} {row : Option Nat} (h : Bx4 w g a b c d) (hg : w.grownBy w' row) (hne : some g ≠ row) : Bx4 w' g a b c d := by
  have hl := h.lt
  obtain ⟨⟨h0, h1, h2, h3⟩, f0, f1, f2, f3⟩ := h
  exact ⟨⟨(hg.cell_far ⟨g, 0, none⟩ hl hne).trans h0, (hg.cell_far ⟨g, 1, none⟩ hl hne).trans h1, (hg.cell_far ⟨g, 2, none⟩ hl hne).trans h2, (hg.cell_far ⟨g, 3, none⟩ hl hne).trans h3⟩,
    (hg.frozen_far ⟨g, 0, none⟩ hl hne).trans f0, (hg.frozen_far ⟨g, 1, none⟩ hl hne).trans f1, (hg.frozen_far ⟨g, 2, none⟩ hl hne).trans f2, (hg.frozen_far ⟨g, 3, none⟩ hl hne).trans f3⟩
theorem bx2_grown {w w' : World} {g : Nat} {x y : Int} {row : Option Nat} (h : Bx2 w g x y) (hg : w.grownBy w' row) (hne : some g ≠ row) : Bx2 w' g x y :=
  ⟨⟨(hg.cell_far ⟨g, 0, none⟩ h.lt hne).trans h.1.1, (hg.cell_far ⟨g, 1, none⟩ h.lt hne).trans h.1.2⟩, (hg.frozen_far ⟨g, 0, none⟩ h.lt hne).trans h.2.1, (hg.frozen_far ⟨g, 1, none⟩ h.lt hne).trans h.2.2⟩
/-- four stores into a box -/
def put4 (w : World) (g : Nat) (a b c d : Int) : World := (((w.setCell ⟨g, 0, none⟩ (.int .i64 a)).setCell ⟨g, 1, none⟩ (.int .i64 b)).setCell ⟨g, 2, none⟩ (.int .i64 c)).setCell ⟨g, 3, none⟩ (.int .i64 d)
theorem bx4_put {w : World} {g : Nat} {a b c d : Int} (h : Bx4 w g a b c d) (e f i j : Int) : Bx4 (put4 w g e f i j) g e f i j := by
  obtain ⟨⟨h0, h1, h2, h3⟩, f0, f1, f2, f3⟩ := h
  unfold Bx4 put4
  simp [go_sem, h0, h1, h2, h3, f0, f1, f2, f3]
theorem bx2_put {w : World} {g g2 : Nat} {x y : Int} (h : Bx2 w g x y) (hne : g2 ≠ g) (e f i j : Int) : Bx2 (put4 w g2 e f i j) g x y := (((h.setFar hne _).setFar hne _).setFar hne _).setFar hne _
theorem below_put4 {B g : Nat} {w0 w : World} (h : Below B w0 w) (hg : B ≤ g) (e f i j : Int) : Below B w0 (put4 w g e f i j) :=
  (((h.setCell (p := ⟨g, 0, none⟩) hg _).setCell (p := ⟨g, 1, none⟩) hg _).setCell (p := ⟨g, 2, none⟩) hg _).setCell (p := ⟨g, 3, none⟩) hg _
theorem put4_grown (w : World) (g : Nat) (a b c d : Int) : w.grownBy (put4 w g a b c d) (some g) := by
  have s : ∀ (w : World) (i : Nat) (v : Value), w.grownBy (w.setCell ⟨g, i, none⟩ v) (some g) := fun w i v => ⟨rfl, rfl, rfl, by simp [World.setCell], fun k _ hk => Below.heap_setCell _ _ _ _ (fun e => hk (by simp [e]))⟩
  exact (((s w 0 _).trans (s _ 1 _)).trans (s _ 2 _)).trans (s _ 3 _)
end Go.Proofs.YtbebalgleiafdabDoor
