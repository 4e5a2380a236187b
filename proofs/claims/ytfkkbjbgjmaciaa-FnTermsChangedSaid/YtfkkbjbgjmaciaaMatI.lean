/- Contracts of chapter 4's small functions, the model's and the program's. -/
import Derived.Test.YtfkkbjbgjmaciaaMatM
import Derived.Test.YtfkkbjbgjmaciaaL1
import Derived.IntWalk
namespace Go.Proofs.Ytfkkbjbgjmaciaa
set_option linter.unusedVariables false
open Go.RowKit

theorem below2 (w : World) (x y : Obj) : Below w.heap.size w ((w.alloc x).alloc y) := ((Below.refl _ _).alloc (Nat.le_refl _) _).alloc (by simp) _

theorem spec_mxGood (a b c d : Int) (w : World) :
    Calls Try.prog 142 #[.agg #[.int .i64 a, .int .i64 b, .int .i64 c, .int .i64 d]] w fun e w' => e = .returned (.bool (mxB a b c d)) ∧ Below w.heap.size w w' := by
  go_enter Try.func142, Try.ntmps142
  go_wp2_with fail
  have hs : SlI ((w.alloc (Obj.cells #[.int .i64 a, .int .i64 b, .int .i64 c, .int .i64 d] 53)).alloc (Obj.cells #[.int .i64 a, .int .i64 b, .int .i64 c, .int .i64 d] 3)) (w.heap.size + 2) (some ⟨w.heap.size + 1, 0, none⟩) [a, b, c, d] := fun _ => ⟨_, _, rfl, by omega, fun j hj => by
    have h : j = 0 ∨ j = 1 ∨ j = 2 ∨ j = 3 := by simp at hj; omega
    rcases h with rfl | rfl | rfl | rfl <;> simp [go_sem]⟩
  refine (spec_l1All _ _ _ [a, b, c, d] _ _ _ hs (by simp)).mono ?_
  clear hs
  rintro e w1 ⟨rfl, rfl⟩
  cases hbig : allB [a, b, c, d] (-1000000000) 1000000000
  · have HR := Lib.hid (show mxB a b c d = false by unfold mxB bigB; rw [hbig]; rfl)
    clear hbig
    go_wp2
    go_ret
    exact ⟨ret_bool HR.out.symm, below2 _ _ _⟩
  · have hb : bigB a b c d = true := hbig
    obtain ⟨⟨a1, a2⟩, ⟨b1, b2⟩, ⟨c1, c2⟩, ⟨d1, d2⟩⟩ := bigB_iff.1 hb
    obtain ⟨p1, p2⟩ := prodBig ⟨a1, a2⟩ ⟨d1, d2⟩
    obtain ⟨q1, q2⟩ := prodBig ⟨b1, b2⟩ ⟨c1, c2⟩
    have HR := Lib.hid (show mxB a b c d = decide (a * d - b * c = 1) by unfold mxB; rw [hb]; rfl)
    clear hbig hb
    go_wp2
    go_ret
    exact ⟨ret_bool (by rw [HR.out]; rw [Bool.eq_iff_iff]; simp), below2 _ _ _⟩
theorem impl_squareOf (a b c d : Int) (w : World) :
    Calls Try.prog 137 #[.agg #[.int .i64 a, .int .i64 b, .int .i64 c, .int .i64 d]] w fun e w' => e = .returned (.agg #[.int .i64 a, .int .i64 b, .int .i64 c, .int .i64 d]) ∧ Below w.heap.size w w' := by
  go_enter Try.func137, Try.ntmps137
  go_wp2
  exact bodyPost_ret (v := .agg #[.int .i64 a, .int .i64 b, .int .i64 c, .int .i64 d]) (by simp [results, Try.results137, go_sem]) rfl ⟨rfl, below2 _ _ _⟩
theorem impl_unitSquare (w : World) :
    Calls Try.prog 138 #[] w fun e w' => e = .returned (.agg #[.int .i64 1, .int .i64 0, .int .i64 0, .int .i64 1]) ∧ Below w.heap.size w w' := by
  go_enter Try.func138, Try.ntmps138
  go_wp2
  exact bodyPost_ret (v := .agg #[.int .i64 1, .int .i64 0, .int .i64 0, .int .i64 1]) (by simp [results, Try.results138, go_sem]) rfl ⟨rfl, (Below.refl _ _).alloc (Nat.le_refl _) _⟩
theorem spec_mxOne (w : World) :
    Calls Try.prog 132 #[] w fun e w' => e = .returned (.agg #[.int .i64 1, .int .i64 0, .int .i64 0, .int .i64 1]) ∧ Below w.heap.size w w' := by
  go_enter Try.func132, Try.ntmps132
  go_wp2
  exact bodyPost_ret (v := .agg #[.int .i64 1, .int .i64 0, .int .i64 0, .int .i64 1]) (by simp [results, Try.results132, go_sem]) rfl ⟨rfl, (Below.refl _ _).alloc (Nat.le_refl _) _⟩
theorem impl_IsMatrix (a b c d : Int) (w : World) :
    Calls Try.prog 136 #[.agg #[.int .i64 a, .int .i64 b, .int .i64 c, .int .i64 d]] w fun e w' => e = .returned (.bool (mxB a b c d)) ∧ Below w.heap.size w w' := by
  go_enter Try.func136, Try.ntmps136
  go_wp2_with fail
  refine (impl_squareOf a b c d _).mono ?_
  rintro e w1 ⟨rfl, hb1⟩
  obtain ⟨hc1, hf1, hz1⟩ := bcell hb1
  have hy : w.heap.size < w1.heap.size := by simp at hz1; omega
  have hb2 := ((Below.refl w.heap.size w).alloc (Nat.le_refl _) _).trans (hb1.mono (by simp))
  have i0 : ∀ w, (Instr.index 111 (.agg #[.int .i64 a, .int .i64 b, .int .i64 c, .int .i64 d]) (.int .i64 0)).run Try.prog w = .ok (.int .i64 a) w := fun _ => by kernel_rfl
  have i1 : ∀ w, (Instr.index 111 (.agg #[.int .i64 a, .int .i64 b, .int .i64 c, .int .i64 d]) (.int .i64 1)).run Try.prog w = .ok (.int .i64 b) w := fun _ => by kernel_rfl
  have i2 : ∀ w, (Instr.index 111 (.agg #[.int .i64 a, .int .i64 b, .int .i64 c, .int .i64 d]) (.int .i64 2)).run Try.prog w = .ok (.int .i64 c) w := fun _ => by kernel_rfl
  have i3 : ∀ w, (Instr.index 111 (.agg #[.int .i64 a, .int .i64 b, .int .i64 c, .int .i64 d]) (.int .i64 3)).run Try.prog w = .ok (.int .i64 d) w := fun _ => by kernel_rfl
  clear hb1
  by_cases hbig : bigB a b c d = true
  · obtain ⟨⟨a1, a2⟩, ⟨b1, b2⟩, ⟨c1, c2⟩, ⟨d1, d2⟩⟩ := bigB_iff.1 hbig
    obtain ⟨p1, p2⟩ := prodBig ⟨a1, a2⟩ ⟨d1, d2⟩
    obtain ⟨q1, q2⟩ := prodBig ⟨b1, b2⟩ ⟨c1, c2⟩
    have HR := Lib.hid (show mxB a b c d = decide (a * d - b * c = 1) by unfold mxB; rw [hbig]; rfl)
    clear hbig
    go_wp2
    refine wp_loop_rounds 5 ?_
    rw [rounds_succ]
    go_wp2
    rw [rounds_succ]
    go_wp2
    rw [rounds_succ]
    go_wp2
    rw [rounds_succ]
    go_wp2
    rw [rounds_succ]
    go_wp2
    go_ret
    exact ⟨ret_bool (by rw [HR.out]; rw [Bool.eq_iff_iff]; simp), hb2⟩
  · have hno : mxB a b c d = false := by unfold mxB; rw [Bool.not_eq_true] at hbig; rw [hbig]; rfl
    have HR := Lib.hid hno
    have hbig2 := fun h => hbig (bigB_iff.2 h)
    have HB := Lib.hid hbig2
    clear hbig hbig2 hno
    go_wp2
    refine wp_loop_rounds 5 ?_
    rw [rounds_succ]
    go_wp2
    all_goals try (rw [rounds_succ]; go_wp2)
    all_goals try (rw [rounds_succ]; go_wp2)
    all_goals try (rw [rounds_succ]; go_wp2)
    all_goals try (rw [rounds_succ]; go_wp2)
    all_goals go_ret
    all_goals first
      | exact ⟨ret_bool HR.out.symm, hb2⟩
      | (exfalso; apply HB.out; simp at *; omega)
end Go.Proofs.Ytfkkbjbgjmaciaa
