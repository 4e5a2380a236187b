/- Two boxes that a region makes in either order. -/
import Derived.Test.YtaifgfmkkgndkabBx2
namespace Go.Proofs.Ytaifgfmkkgndkab
set_option linter.unusedVariables false
open Go.RowKit
theorem twoA (w : World) (t s : TypeId) (x y u v : Int) : Bx2 ((w.alloc (.cells #[.int .i64 x, .int .i64 y] t)).alloc (.cells #[.int .i64 u, .int .i64 v] s)).drew w.heap.size x y := (Bx2.new w t x y).alloc _
theorem twoB (w : World) (t s : TypeId) (x y u v : Int) : Bx2 ((w.alloc (.cells #[.int .i64 x, .int .i64 y] t)).alloc (.cells #[.int .i64 u, .int .i64 v] s)).drew (w.heap.size + 1) u v := by
  have h := Bx2.new (w.alloc (.cells #[.int .i64 x, .int .i64 y] t)) s u v
  have h2 : Bx2 ((w.alloc (.cells #[.int .i64 x, .int .i64 y] t)).alloc (.cells #[.int .i64 u, .int .i64 v] s)) (w.heap.size + 1) u v := by simpa using h
  exact h2
end Go.Proofs.Ytaifgfmkkgndkab
