/- The model's order of diagonals and its number of corners. -/
import Derived.Test.YtfkkbjbgjmaciaaTriI
namespace Go.Proofs.Ytfkkbjbgjmaciaa
set_option linter.unusedVariables false
open Go.RowKit

theorem spec_poLess (a b c d : Int) (w : World) :
    Calls Try.prog 195 #[.agg #[.int .i64 a, .int .i64 b], .agg #[.int .i64 c, .int .i64 d]] w fun e w' => e = .returned (.bool (ltB a b c d)) ∧ Below w.heap.size w w' := by
  by_cases h1 : a < c
  · go_enter Try.func195, Try.ntmps195
    go_wp2
    go_ret
    exact ⟨ret_bool (by simp [ltB, h1]), ((Below.refl _ _).alloc (Nat.le_refl _) _).alloc (by simp) _⟩
  · by_cases h2 : a = c
    · subst h2
      go_enter Try.func195, Try.ntmps195
      go_wp2
      all_goals go_ret
      all_goals exact ⟨ret_bool (by simp [ltB]), ((Below.refl _ _).alloc (Nat.le_refl _) _).alloc (by simp) _⟩
    · have h2' : (a == c) = false := by simpa using h2
      have h3 : ltB a b c d = false := by simp [ltB, h1, h2]
      have H3 := Lib.hid h3
      clear h3
      go_enter Try.func195, Try.ntmps195
      go_wp2
      all_goals go_ret
      all_goals exact ⟨ret_bool H3.out.symm, ((Below.refl _ _).alloc (Nat.le_refl _) _).alloc (by simp) _⟩

theorem spec_poIs (n : Int) (b : Bool) (w : World) (h : poB n = b) : Calls Try.prog 185 #[.int .i64 n] w fun e w' => e = .returned (.bool b) ∧ w = w' := by
  subst h
  go_enter Try.func185, Try.ntmps185
  go_wp2
  all_goals go_ret
  all_goals refine ⟨ret_bool ?_, rfl⟩
  all_goals (unfold poB; rw [Bool.eq_iff_iff]; simp; try omega)

end Go.Proofs.Ytfkkbjbgjmaciaa
