/- The walk of CrossOf's law, out of the contracts of the model's function and of the program's. -/
import Derived.Test.YtaifgfmkkgndkaaLawF
import Derived.Test.YtaifgfmkkgndkaaKept
import Derived.Deep.RegionHeld3
namespace Go.Proofs.Ytaifgfmkkgndkaa
set_option linter.unusedVariables false
open Go.RowKit

set_option maxHeartbeats 3200000 in
theorem WCrossOf.core (w : World) (p0 q0 p1 q1 : Int) (r0 : Int) (r1 : Bool)
    (hs : Hid (∀ w : World, Calls Try.prog 18 #[.agg #[.int .i64 p0, .int .i64 q0], .agg #[.int .i64 p1, .int .i64 q1]] w fun e w' => e = .returned (.tuple #[.int .i64 r0, .bool r1]) ∧ Below w.heap.size w w'))
    (hi : Hid (∀ w : World, Calls Try.prog 19 #[.agg #[.int .i64 p0, .int .i64 q0], .agg #[.int .i64 p1, .int .i64 q1]] w fun e w' => e = .returned (.tuple #[.int .i64 r0, .bool r1]) ∧ Below w.heap.size w w')) :
    Calls Try.prog 4 #[.agg #[.int .i64 p0, .int .i64 q0], .agg #[.int .i64 p1, .int .i64 q1]] w fun e w' => e = .returned (.bool true) ∧ Below w.heap.size w w' := by
  go_enter Try.func4, Try.ntmps4
  go_wp2_with fail
  go_region_held3 (fun w' => w'.cell? ⟨w.heap.size, 0, none⟩ = some (.int .i64 p0) ∧ w'.cell? ⟨w.heap.size, 1, none⟩ = some (.int .i64 q0) ∧ w'.cell? ⟨w.heap.size + 1, 0, none⟩ = some (.int .i64 p1) ∧ w'.cell? ⟨w.heap.size + 1, 1, none⟩ = some (.int .i64 q1) ∧ Below w.heap.size w w')
    (first
      | with_reducible exact keptB4 (by assumption) hb1 (Nat.le_refl _)
      | exact ⟨by simp [go_sem], by simp [go_sem], by simp [go_sem], by simp [go_sem], (((Below.refl w.heap.size w).alloc (Nat.le_refl _) _).alloc (by simp; try omega) _).drew⟩)
    (first
      | (go_at_call 16; refine (laws_toFraction _ _ _).mono ?_; rintro e w1 ⟨rfl, hb1⟩)
      | (go_at_call 18; refine (hs.out _).mono ?_; rintro e w1 ⟨rfl, hb1⟩))
  rename_i hS
  clear hb1
  go_wp2_with fail
  go_region_held3 (fun w' => w'.cell? ⟨w.heap.size, 0, none⟩ = some (.int .i64 p0) ∧ w'.cell? ⟨w.heap.size, 1, none⟩ = some (.int .i64 q0) ∧ w'.cell? ⟨w.heap.size + 1, 0, none⟩ = some (.int .i64 p1) ∧ w'.cell? ⟨w.heap.size + 1, 1, none⟩ = some (.int .i64 q1) ∧ Below w.heap.size w w')
    (first
      | with_reducible exact keptB4 (by assumption) hb1 (Nat.le_refl _)
      | with_reducible exact drewB4 hS)
    (first
      | (go_at_call 16; refine (laws_toFraction _ _ _).mono ?_; rintro e w1 ⟨rfl, hb1⟩)
      | (go_at_call 19; refine (hi.out _).mono ?_; rintro e w1 ⟨rfl, hb1⟩))
  rename_i hT
  clear hb1 hS
  have hd := hT.2.2.2.2
  clear hT hs hi
  go_wp2
  go_ret
  exact ⟨rfl, hd⟩

end Go.Proofs.Ytaifgfmkkgndkaa
