/- The walk of TimesMatrix's law, out of the contracts of the model's function and of the program's. -/
import Derived.Test.YtnoddecligmjbaaMatP
import Derived.Deep.DeepCutAuto
namespace Go.Proofs.Ytnoddecligmjbaa
set_option linter.unusedVariables false
open Go.RowKit

/-- two boxes, and the world below which they lie -/
theorem twoOf {wa w' : World} {ga gb : Nat} {a b c d e f g h : Int} (hA : Bx wa ga a b c d) (hB : Bx wa gb e f g h) (hb : Below wa.heap.size wa w') :
    w'.cell? ⟨ga, 0, none⟩ = some (.int .i64 a) ∧ w'.cell? ⟨ga, 1, none⟩ = some (.int .i64 b) ∧ w'.cell? ⟨ga, 2, none⟩ = some (.int .i64 c) ∧ w'.cell? ⟨ga, 3, none⟩ = some (.int .i64 d) ∧
      w'.cell? ⟨gb, 0, none⟩ = some (.int .i64 e) ∧ w'.cell? ⟨gb, 1, none⟩ = some (.int .i64 f) ∧ w'.cell? ⟨gb, 2, none⟩ = some (.int .i64 g) ∧ w'.cell? ⟨gb, 3, none⟩ = some (.int .i64 h) ∧ Below wa.heap.size wa w' := by
  obtain ⟨a0, a1, a2, a3⟩ := hA.kept hb
  obtain ⟨b0, b1, b2, b3⟩ := hB.kept hb
  exact ⟨a0, a1, a2, a3, b0, b1, b2, b3, hb⟩
theorem twoBelow {wa w' : World} {p0 p1 p2 p3 p4 p5 p6 p7 : Addr} {v0 v1 v2 v3 v4 v5 v6 v7 : Value} (h : w'.cell? p0 = some v0 ∧ w'.cell? p1 = some v1 ∧ w'.cell? p2 = some v2 ∧ w'.cell? p3 = some v3 ∧
      w'.cell? p4 = some v4 ∧ w'.cell? p5 = some v5 ∧ w'.cell? p6 = some v6 ∧ w'.cell? p7 = some v7 ∧ Below wa.heap.size wa w') : Below wa.heap.size wa w' := h.2.2.2.2.2.2.2.2

/-- a new box of zeros, which may be written -/
def Zb (w : World) (g : Nat) : Prop := Bx w g 0 0 0 0 ∧ Fz w g
theorem Zb.new (w : World) (t : TypeId) : Zb (w.alloc (.cells #[.int .i64 0, .int .i64 0, .int .i64 0, .int .i64 0] t)) w.heap.size := ⟨Bx.new w t 0 0 0 0, Fz.new w t 0 0 0 0⟩
theorem Zb.newd (w : World) (t : TypeId) : Zb (w.alloc (.cells #[.int .i64 0, .int .i64 0, .int .i64 0, .int .i64 0] t)).drew w.heap.size := ⟨Bx.new w t 0 0 0 0, Fz.new w t 0 0 0 0⟩
theorem Zb.bx {w : World} {g : Nat} (h : Zb w g) : Bx w g 0 0 0 0 := h.1
theorem Zb.kept {w w' : World} {g : Nat} (h : Zb w g) (hb : Below w.heap.size w w') : Zb w' g := ⟨h.1.kept hb, h.2.kept h.1.lt hb⟩

theorem bx_set4 {w : World} {g : Nat} {a b c d : Int} (h : Bx w g a b c d) (e f i j : Int) : Bx ((((w.setCell ⟨g, 0, none⟩ (.int .i64 e)).setCell ⟨g, 1, none⟩ (.int .i64 f)).setCell ⟨g, 2, none⟩ (.int .i64 i)).setCell ⟨g, 3, none⟩ (.int .i64 j)) g e f i j := bx_sto4 h e f i j

end Go.Proofs.Ytnoddecligmjbaa
