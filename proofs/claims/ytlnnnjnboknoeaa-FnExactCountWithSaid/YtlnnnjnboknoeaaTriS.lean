/- The model's test of triangulations: poLess, poGood, IsTriangulation. -/
import Derived.Test.YtlnnnjnboknoeaaTriJ
import Derived.Test.YtlnnnjnboknoeaaLess
namespace Go.Proofs.Ytlnnnjnboknoeaa
set_option linter.unusedVariables false
open Go.RowKit

theorem cross_all {d : Int × Int} {l : List (Int × Int)} {k : Nat} (j : Nat) (hj : j < k) (hk : k < l.length) (h : crB d.1 d.2 (l.getD j (0, 0)).1 (l.getD j (0, 0)).2 = true) : anyCross d (l.take k) = true := by
  have e : (l.take k).getD j (0, 0) = l.getD j (0, 0) := by simp [hj]
  rw [← e] at h
  exact anyCross_hit d (l.take k) j (by simp; omega) h

end Go.Proofs.Ytlnnnjnboknoeaa
