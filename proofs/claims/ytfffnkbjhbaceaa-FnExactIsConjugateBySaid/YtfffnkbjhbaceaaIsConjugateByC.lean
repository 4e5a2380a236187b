/- The walk of IsConjugateBy's law, out of the contracts of the model's function and of the program's. -/
import Derived.Test.YtfffnkbjhbaceaaMatF
import Derived.Test.YtfffnkbjhbaceaaKept
import Derived.Deep.RegionHeld3
namespace Go.Proofs.Ytfffnkbjhbaceaa
set_option linter.unusedVariables false
open Go.RowKit

set_option maxHeartbeats 3200000 in
theorem WIsConjugateBy.core (w : World) (a0 b0 c0 d0 a1 b1 c1 d1 a2 b2 c2 d2 : Int) (r0 : Bool) (r1 : Bool)
    (hs : Hid (∀ w : World, Calls Try.prog 36 #[.agg #[.int .i64 a0, .int .i64 b0, .int .i64 c0, .int .i64 d0], .agg #[.int .i64 a1, .int .i64 b1, .int .i64 c1, .int .i64 d1], .agg #[.int .i64 a2, .int .i64 b2, .int .i64 c2, .int .i64 d2]] w fun e w' => e = .returned (.tuple #[.bool r0, .bool r1]) ∧ Below w.heap.size w w'))
    (hi : Hid (∀ w : World, Calls Try.prog 37 #[.agg #[.int .i64 a0, .int .i64 b0, .int .i64 c0, .int .i64 d0], .agg #[.int .i64 a1, .int .i64 b1, .int .i64 c1, .int .i64 d1], .agg #[.int .i64 a2, .int .i64 b2, .int .i64 c2, .int .i64 d2]] w fun e w' => e = .returned (.tuple #[.bool r0, .bool r1]) ∧ Below w.heap.size w w')) :
    Calls Try.prog 12 #[.agg #[.int .i64 a0, .int .i64 b0, .int .i64 c0, .int .i64 d0], .agg #[.int .i64 a1, .int .i64 b1, .int .i64 c1, .int .i64 d1], .agg #[.int .i64 a2, .int .i64 b2, .int .i64 c2, .int .i64 d2]] w fun e w' => e = .returned (.bool true) ∧ Below w.heap.size w w' := by
  go_enter Try.func12, Try.ntmps12
  go_wp2_with fail
  go_region_held3 (fun w' => w'.cell? ⟨w.heap.size, 0, none⟩ = some (.int .i64 a0) ∧ w'.cell? ⟨w.heap.size, 1, none⟩ = some (.int .i64 b0) ∧ w'.cell? ⟨w.heap.size, 2, none⟩ = some (.int .i64 c0) ∧ w'.cell? ⟨w.heap.size, 3, none⟩ = some (.int .i64 d0) ∧ w'.cell? ⟨w.heap.size + 1, 0, none⟩ = some (.int .i64 a1) ∧ w'.cell? ⟨w.heap.size + 1, 1, none⟩ = some (.int .i64 b1) ∧ w'.cell? ⟨w.heap.size + 1, 2, none⟩ = some (.int .i64 c1) ∧ w'.cell? ⟨w.heap.size + 1, 3, none⟩ = some (.int .i64 d1) ∧ w'.cell? ⟨w.heap.size + 2, 0, none⟩ = some (.int .i64 a2) ∧ w'.cell? ⟨w.heap.size + 2, 1, none⟩ = some (.int .i64 b2) ∧ w'.cell? ⟨w.heap.size + 2, 2, none⟩ = some (.int .i64 c2) ∧ w'.cell? ⟨w.heap.size + 2, 3, none⟩ = some (.int .i64 d2) ∧ Below w.heap.size w w')
    (first
      | with_reducible exact keptB12 (by assumption) hb1 (Nat.le_refl _)
      | exact ⟨by simp [go_sem], by simp [go_sem], by simp [go_sem], by simp [go_sem], by simp [go_sem], by simp [go_sem], by simp [go_sem], by simp [go_sem], by simp [go_sem], by simp [go_sem], by simp [go_sem], by simp [go_sem], ((((Below.refl w.heap.size w).alloc (Nat.le_refl _) _).alloc (by simp; try omega) _).alloc (by simp; try omega) _).drew⟩)
    (first
      | (go_at_call 16; refine (laws_toMatrix _ _ _ _ _).mono ?_; rintro e w1 ⟨rfl, hb1⟩)
      | (go_at_call 36; refine (hs.out _).mono ?_; rintro e w1 ⟨rfl, hb1⟩))
  rename_i hS
  clear hb1
  go_wp2_with fail
  go_region_held3 (fun w' => w'.cell? ⟨w.heap.size, 0, none⟩ = some (.int .i64 a0) ∧ w'.cell? ⟨w.heap.size, 1, none⟩ = some (.int .i64 b0) ∧ w'.cell? ⟨w.heap.size, 2, none⟩ = some (.int .i64 c0) ∧ w'.cell? ⟨w.heap.size, 3, none⟩ = some (.int .i64 d0) ∧ w'.cell? ⟨w.heap.size + 1, 0, none⟩ = some (.int .i64 a1) ∧ w'.cell? ⟨w.heap.size + 1, 1, none⟩ = some (.int .i64 b1) ∧ w'.cell? ⟨w.heap.size + 1, 2, none⟩ = some (.int .i64 c1) ∧ w'.cell? ⟨w.heap.size + 1, 3, none⟩ = some (.int .i64 d1) ∧ w'.cell? ⟨w.heap.size + 2, 0, none⟩ = some (.int .i64 a2) ∧ w'.cell? ⟨w.heap.size + 2, 1, none⟩ = some (.int .i64 b2) ∧ w'.cell? ⟨w.heap.size + 2, 2, none⟩ = some (.int .i64 c2) ∧ w'.cell? ⟨w.heap.size + 2, 3, none⟩ = some (.int .i64 d2) ∧ Below w.heap.size w w')
    (first
      | with_reducible exact keptB12 (by assumption) hb1 (Nat.le_refl _)
      | with_reducible exact drewB12 hS)
    (first
      | (go_at_call 16; refine (laws_toMatrix _ _ _ _ _).mono ?_; rintro e w1 ⟨rfl, hb1⟩)
      | (go_at_call 37; refine (hi.out _).mono ?_; rintro e w1 ⟨rfl, hb1⟩))
  rename_i hT
  clear hb1 hS
  have hd := hT.2.2.2.2.2.2.2.2.2.2.2.2
  clear hT hs hi
  go_wp2
  go_ret
  exact ⟨rfl, hd⟩

end Go.Proofs.Ytfffnkbjhbaceaa
