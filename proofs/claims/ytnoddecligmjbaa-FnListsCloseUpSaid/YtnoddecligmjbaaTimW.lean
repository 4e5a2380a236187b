/- TimesMatrix: the model's and the program's contracts, and the law's walk. -/
import Derived.Test.YtnoddecligmjbaaTimesMatrixC
namespace Go.Proofs.Ytnoddecligmjbaa
set_option linter.unusedVariables false
open Go.RowKit

theorem below3 (w : World) (x y z : Obj) : Below w.heap.size w (((w.alloc x).alloc y).alloc z) := (below2 w x y).alloc (by simp; omega) _
/-- a matrix comes back, if it is one -/
def RetMx (m : M4) (w : World) (e : Ending) (w' : World) : Prop := e = .returned (.tuple #[.agg #[.int .i64 m.fit.a, .int .i64 m.fit.b, .int .i64 m.fit.c, .int .i64 m.fit.d], .bool m.ok]) ∧ Below w.heap.size w w'
theorem retMx_no {m : M4} {w w' : World} (h : m.ok = false) (hb : Below w.heap.size w w') : RetMx m w (.returned (.tuple #[.agg #[.int .i64 0, .int .i64 0, .int .i64 0, .int .i64 0], .bool false])) w' := by
  unfold RetMx; rw [M4.fit_no h, h]; exact ⟨rfl, hb⟩
theorem retMx_yes {m : M4} {p q r s : Int} {w w' : World} (e : m = ⟨p, q, r, s⟩) (h : m.ok = true) (hb : Below w.heap.size w w') : RetMx m w (.returned (.tuple #[.agg #[.int .i64 p, .int .i64 q, .int .i64 r, .int .i64 s], .bool true])) w' := by
  unfold RetMx; rw [M4.fit_yes h, h, e]; exact ⟨rfl, hb⟩
theorem retMx_any {m : M4} {w w' : World} (hb : Below w.heap.size w w') : RetMx m w (.returned (.tuple #[.agg #[.int .i64 m.fit.a, .int .i64 m.fit.b, .int .i64 m.fit.c, .int .i64 m.fit.d], .bool m.ok])) w' := ⟨rfl, hb⟩
theorem spec_mxIf (m : M4) (w : World) : Calls Try.prog 151 #[.agg #[.int .i64 m.a, .int .i64 m.b, .int .i64 m.c, .int .i64 m.d]] w (RetMx m w) := by
  obtain ⟨a, b, c, d⟩ := m
  cases h : (M4.mk a b c d).ok
  · exact (spec_mxIf_no a b c d w h).mono fun _ _ ⟨e, hb⟩ => e ▸ retMx_no h hb
  · exact (spec_mxIf_yes a b c d w h).mono fun _ _ ⟨e, hb⟩ => e ▸ retMx_yes rfl h hb
theorem impl_matrixOf (m : M4) (w : World) : Calls Try.prog 149 #[.agg #[.int .i64 m.a, .int .i64 m.b, .int .i64 m.c, .int .i64 m.d]] w (RetMx m w) := by
  obtain ⟨a, b, c, d⟩ := m
  cases h : (M4.mk a b c d).ok
  · exact (impl_matrixOf_no a b c d w h).mono fun _ _ ⟨e, hb⟩ => e ▸ retMx_no h hb
  · exact (impl_matrixOf_yes a b c d w h).mono fun _ _ ⟨e, hb⟩ => e ▸ retMx_yes rfl h hb
theorem spec_mxIf_as (m F : M4) (ok : Bool) (hF : m.fit = F) (hk : m.ok = ok) (w : World) : Calls Try.prog 151 #[.agg #[.int .i64 m.a, .int .i64 m.b, .int .i64 m.c, .int .i64 m.d]] w fun r w' => r = .returned (.tuple #[.agg #[.int .i64 F.a, .int .i64 F.b, .int .i64 F.c, .int .i64 F.d], .bool ok]) ∧ Below w.heap.size w w' := by
  subst hF hk
  exact spec_mxIf m w
theorem impl_matrixOf_as (m F : M4) (ok : Bool) (hF : m.fit = F) (hk : m.ok = ok) (w : World) : Calls Try.prog 149 #[.agg #[.int .i64 m.a, .int .i64 m.b, .int .i64 m.c, .int .i64 m.d]] w fun r w' => r = .returned (.tuple #[.agg #[.int .i64 F.a, .int .i64 F.b, .int .i64 F.c, .int .i64 F.d], .bool ok]) ∧ Below w.heap.size w w' := by
  subst hF hk
  exact impl_matrixOf m w
end Go.Proofs.Ytnoddecligmjbaa
