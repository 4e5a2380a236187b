/- Small words for the laws with a diagonal among their arguments. -/
import Derived.Test.YtbpaaoeefcebeaaFliT
namespace Go.Proofs.Ytbpaaoeefcebeaa
set_option linter.unusedVariables false
open Go.RowKit

theorem threeOf {wa w' : World} {g : Nat} {x y : Int} (h0 : wa.cell? ⟨g, 0, none⟩ = some (.int .i64 x)) (h1 : wa.cell? ⟨g, 1, none⟩ = some (.int .i64 y)) (hb : Below wa.heap.size wa w') :
    w'.cell? ⟨g, 0, none⟩ = some (.int .i64 x) ∧ w'.cell? ⟨g, 1, none⟩ = some (.int .i64 y) ∧ Below wa.heap.size wa w' := ⟨cell_kept hb h0, cell_kept hb h1, hb⟩
theorem three3 {wa w' : World} {p0 p1 : Addr} {v0 v1 : Value} (h : w'.cell? p0 = some v0 ∧ w'.cell? p1 = some v1 ∧ Below wa.heap.size wa w') : Below wa.heap.size wa w' := h.2.2
theorem below_alloc1 {B : Nat} {w0 w : World} (h : Below B w0 w) (hB : B ≤ w0.heap.size) (o : Obj) : Below B w0 (w.alloc o) := h.alloc (Nat.le_trans hB h.size) o
theorem below_set2 {B g : Nat} {w0 w : World} {v0 v1 : Value} (h : Below B w0 w) (hg : B ≤ g) : Below B w0 ((w.setCell ⟨g, 0, none⟩ v0).setCell ⟨g, 1, none⟩ v1) := (h.setCell (p := ⟨g, 0, none⟩) hg _).setCell (p := ⟨g, 1, none⟩) hg _
end Go.Proofs.Ytbpaaoeefcebeaa
