/- The walk of MoveFraction's law, out of the contracts of the model's function and of the program's. -/
import Derived.Test.YtaifgfmkkgndkaaMatF
import Derived.Test.YtaifgfmkkgndkaaMatL
import Derived.Test.YtaifgfmkkgndkaaKept
import Derived.Deep.RegionHeld3
namespace Go.Proofs.Ytaifgfmkkgndkaa
set_option linter.unusedVariables false
open Go.RowKit

set_option maxHeartbeats 3200000 in
theorem WMoveFraction.core (w : World) (a0 b0 c0 d0 p1 q1 : Int) (r0 : Int) (r1 : Int) (r2 : Bool)
    (hs : Hid (∀ w : World, Calls Try.prog 27 #[.agg #[.int .i64 a0, .int .i64 b0, .int .i64 c0, .int .i64 d0], .agg #[.int .i64 p1, .int .i64 q1]] w fun e w' => e = .returned (.tuple #[.int .i64 r0, .int .i64 r1, .bool r2]) ∧ Below w.heap.size w w'))
    (hi : Hid (∀ w : World, Calls Try.prog 29 #[.agg #[.int .i64 a0, .int .i64 b0, .int .i64 c0, .int .i64 d0], .agg #[.int .i64 p1, .int .i64 q1]] w fun e w' => e = .returned (.tuple #[.int .i64 r0, .int .i64 r1, .bool r2]) ∧ Below w.heap.size w w')) :
    Calls Try.prog 8 #[.agg #[.int .i64 a0, .int .i64 b0, .int .i64 c0, .int .i64 d0], .agg #[.int .i64 p1, .int .i64 q1]] w fun e w' => e = .returned (.bool true) ∧ Below w.heap.size w w' := by
  go_enter Try.func8, Try.ntmps8
  go_wp2_with fail
  go_region_held3 (fun w' => w'.cell? ⟨w.heap.size, 0, none⟩ = some (.int .i64 a0) ∧ w'.cell? ⟨w.heap.size, 1, none⟩ = some (.int .i64 b0) ∧ w'.cell? ⟨w.heap.size, 2, none⟩ = some (.int .i64 c0) ∧ w'.cell? ⟨w.heap.size, 3, none⟩ = some (.int .i64 d0) ∧ w'.cell? ⟨w.heap.size + 1, 0, none⟩ = some (.int .i64 p1) ∧ w'.cell? ⟨w.heap.size + 1, 1, none⟩ = some (.int .i64 q1) ∧ Below w.heap.size w w')
    (first
      | with_reducible exact keptB6 (by assumption) hb1 (Nat.le_refl _)
      | exact ⟨by simp [go_sem], by simp [go_sem], by simp [go_sem], by simp [go_sem], by simp [go_sem], by simp [go_sem], (((Below.refl w.heap.size w).alloc (Nat.le_refl _) _).alloc (by simp; try omega) _).drew⟩)
    (first
      | (go_at_call 16; refine (laws_toFraction _ _ _).mono ?_; rintro e w1 ⟨rfl, hb1⟩)
      | (go_at_call 28; refine (laws_toMatrix _ _ _ _ _).mono ?_; rintro e w1 ⟨rfl, hb1⟩)
      | (go_at_call 27; refine (hs.out _).mono ?_; rintro e w1 ⟨rfl, hb1⟩))
  rename_i hS
  clear hb1
  go_wp2_with fail
  go_region_held3 (fun w' => w'.cell? ⟨w.heap.size, 0, none⟩ = some (.int .i64 a0) ∧ w'.cell? ⟨w.heap.size, 1, none⟩ = some (.int .i64 b0) ∧ w'.cell? ⟨w.heap.size, 2, none⟩ = some (.int .i64 c0) ∧ w'.cell? ⟨w.heap.size, 3, none⟩ = some (.int .i64 d0) ∧ w'.cell? ⟨w.heap.size + 1, 0, none⟩ = some (.int .i64 p1) ∧ w'.cell? ⟨w.heap.size + 1, 1, none⟩ = some (.int .i64 q1) ∧ Below w.heap.size w w')
    (first
      | with_reducible exact keptB6 (by assumption) hb1 (Nat.le_refl _)
      | with_reducible exact drewB6 hS)
    (first
      | (go_at_call 16; refine (laws_toFraction _ _ _).mono ?_; rintro e w1 ⟨rfl, hb1⟩)
      | (go_at_call 28; refine (laws_toMatrix _ _ _ _ _).mono ?_; rintro e w1 ⟨rfl, hb1⟩)
      | (go_at_call 29; refine (hi.out _).mono ?_; rintro e w1 ⟨rfl, hb1⟩))
  rename_i hT
  clear hb1 hS
  have hd := hT.2.2.2.2.2.2
  clear hT hs hi
  go_wp2
  go_ret
  exact ⟨rfl, hd⟩

end Go.Proofs.Ytaifgfmkkgndkaa
