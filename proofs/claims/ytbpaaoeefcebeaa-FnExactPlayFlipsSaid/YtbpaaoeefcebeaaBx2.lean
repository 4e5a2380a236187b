/- A box of two numbers that may be written: a struct of two numbers that a function keeps. -/
import Derived.Test.YtbpaaoeefcebeaaMem
namespace Go.Proofs.Ytbpaaoeefcebeaa
set_option linter.unusedVariables false
open Go.RowKit

/-- a box of two numbers that may be written -/
def Bx2 (w : World) (g : Nat) (x y : Int) : Prop := (w.cell? ⟨g, 0, none⟩ = some (.int .i64 x) ∧ w.cell? ⟨g, 1, none⟩ = some (.int .i64 y)) ∧ w.frozen? ⟨g, 0, none⟩ = false ∧ w.frozen? ⟨g, 1, none⟩ = false
theorem Bx2.lt {w : World} {g : Nat} {x y : Int} (h : Bx2 w g x y) : g < w.heap.size := World.block_lt_of_cell? w _ h.1.1
theorem Bx2.kept {w w' : World} {g : Nat} {x y : Int} (h : Bx2 w g x y) (hb : Below w.heap.size w w') : Bx2 w' g x y := by
  obtain ⟨_, hfz, _⟩ := bcell hb
  exact ⟨⟨cell_kept hb h.1.1, cell_kept hb h.1.2⟩, (hfz g 0 h.lt).trans h.2.1, (hfz g 1 h.lt).trans h.2.2⟩
theorem Bx2.new (w : World) (t : TypeId) (x y : Int) : Bx2 (w.alloc (.cells #[.int .i64 x, .int .i64 y] t)) w.heap.size x y := by unfold Bx2; simp [go_sem]
theorem Bx2.alloc {w : World} {g : Nat} {x y : Int} (h : Bx2 w g x y) (o : Obj) : Bx2 (w.alloc o) g x y := h.kept ((Below.refl _ _).alloc (Nat.le_refl _) _)
theorem Bx2.drewN {w : World} {g : Nat} {x y : Int} (h : Bx2 w g x y) (z : Nat) : Bx2 (w.drewN z) g x y := h
theorem Bx2.set0 {w : World} {g : Nat} {x y : Int} (h : Bx2 w g x y) (z : Int) : Bx2 (w.setCell ⟨g, 0, none⟩ (.int .i64 z)) g z y := by
  obtain ⟨⟨h1, h2⟩, h3, h4⟩ := h
  unfold Bx2
  simp [go_sem, h1, h2, h3, h4]
theorem Bx2.set1 {w : World} {g : Nat} {x y : Int} (h : Bx2 w g x y) (z : Int) : Bx2 (w.setCell ⟨g, 1, none⟩ (.int .i64 z)) g x z := by
  obtain ⟨⟨h1, h2⟩, h3, h4⟩ := h
  unfold Bx2
  simp [go_sem, h1, h2, h3, h4]
theorem Bx2.newd (w : World) (t : TypeId) (x y : Int) : Bx2 (w.alloc (.cells #[.int .i64 x, .int .i64 y] t)).drew w.heap.size x y := Bx2.new w t x y
theorem bx2_set {w : World} {g : Nat} {x y : Int} (h : Bx2 w g x y) (p q : Int) : Bx2 ((w.setCell ⟨g, 0, none⟩ (.int .i64 p)).setCell ⟨g, 1, none⟩ (.int .i64 q)) g p q := (h.set0 p).set1 q
theorem Bx2.setFar {w : World} {g g2 o : Nat} {x y : Int} (h : Bx2 w g x y) (hne : g2 ≠ g) (v : Value) : Bx2 (w.setCell ⟨g2, o, none⟩ v) g x y := by
  obtain ⟨⟨h1, h2⟩, h3, h4⟩ := h
  unfold Bx2
  simp [go_sem, h1, h2, h3, h4, hne]
end Go.Proofs.Ytbpaaoeefcebeaa
