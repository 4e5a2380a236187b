/- Mediants: the model's and the program's contracts. -/
import Derived.Test.YtaifgfmkkgndkabNearW
import Derived.Deep.DeepCutAuto
namespace Go.Proofs.Ytaifgfmkkgndkab
set_option linter.unusedVariables false
open Go.RowKit

theorem below_three (w : World) (x y z : Obj) : Below w.heap.size w (((w.alloc x).alloc y).alloc z) := (below_two w x y).alloc (by simp; omega) _
def medOk (a b c d : Int) : Bool := okk a b c d && nearB a b c d && nbB (a + c) (b + d)
def medR (a b c d : Int) : Int × Int := if medOk a b c d = true then (a + c, b + d) else (0, 0)
theorem medR_no {a b c d : Int} (h : medOk a b c d = false) : medR a b c d = (0, 0) := if_neg (by rw [h]; simp)
theorem medR_yes {a b c d : Int} (h : medOk a b c d = true) : medR a b c d = (a + c, b + d) := if_pos h
/-- a fraction and a bool are told -/
def MedE (R : Int × Int) (ok : Bool) (w : World) (e : Ending) (w' : World) : Prop := e = .returned (.tuple #[.agg #[.int .i64 R.1, .int .i64 R.2], .bool ok]) ∧ Below w.heap.size w w'
theorem medE_no {a b c d : Int} {w w' : World} (h : medOk a b c d = false) (hb : Below w.heap.size w w') : MedE (medR a b c d) (medOk a b c d) w (.returned (.tuple #[.agg #[.int .i64 0, .int .i64 0], .bool false])) w' := by
  rw [medR_no h, h]; exact ⟨rfl, hb⟩
theorem medE_yes {a b c d : Int} {w w' : World} (h : medOk a b c d = true) (hb : Below w.heap.size w w') : MedE (medR a b c d) (medOk a b c d) w (.returned (.tuple #[.agg #[.int .i64 (a + c), .int .i64 (b + d)], .bool true])) w' := by
  rw [medR_yes h, h]; exact ⟨rfl, hb⟩
theorem below_setP {B g : Nat} {w0 w : World} {v0 v1 : Value} (h : Below B w0 w) (hg : B ≤ g) : Below B w0 ((w.setCell ⟨g, 0, none⟩ v0).setCell ⟨g, 1, none⟩ v1) := (h.setCell (p := ⟨g, 0, none⟩) hg v0).setCell (p := ⟨g, 1, none⟩) hg v1
/-- the box of a result, made behind those of two arguments -/
theorem resBox (w : World) (t s : TypeId) (a b c d : Int) : Bx2 (((w.alloc (.cells #[.int .i64 a, .int .i64 b] t)).alloc (.cells #[.int .i64 c, .int .i64 d] t)).alloc (.cells #[.int .i64 0, .int .i64 0] s)) (w.heap.size + 2) 0 0 := by
  have h := Bx2.new ((w.alloc (.cells #[.int .i64 a, .int .i64 b] t)).alloc (.cells #[.int .i64 c, .int .i64 d] t)) s 0 0
  simpa using h

end Go.Proofs.Ytaifgfmkkgndkab
