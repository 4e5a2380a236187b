/- What laws of fractions share: the law's own copy. -/
import Derived.Test.YtaifgfmkkgndkabDoorLawD
namespace Go.Proofs.YtaifgfmkkgndkabDoor
set_option linter.unusedVariables false
open Go.RowKit
theorem laws_toFraction (a b : Int) (w : World) :
    Calls Tryd.prog 7 #[.agg #[.int .i64 a, .int .i64 b]] w fun e w' => e = .returned (.agg #[.int .i64 a, .int .i64 b]) ∧ Below w.heap.size w w' := by
  go_enter Tryd.func7, Tryd.ntmps7
  go_wp2
  exact bodyPost_ret (v := .agg #[.int .i64 a, .int .i64 b]) (by simp [results, Tryd.results7, go_sem]) rfl ⟨rfl, (((Below.refl _ _).alloc (Nat.le_refl _) _).alloc (by simp) _).alloc (by simp; omega) _⟩
end Go.Proofs.YtaifgfmkkgndkabDoor
