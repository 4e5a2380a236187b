/- The walk of CountSymmetric's law, out of the contracts of the model's function and of the program's. -/
import Derived.Test.YtbpaaoeefcebeabLawM
namespace Go.Proofs.Ytbpaaoeefcebeab
set_option linter.unusedVariables false
open Go.RowKit

set_option maxHeartbeats 3200000 in
theorem WCountSymmetric.core (w : World) (a0 : Int) (a1 : Int)
    (r0 : Int) (r1 : Bool) (hs : Hid (∀ (w : World), Calls Try.prog 37 #[.int .i64 a0, .int .i64 a1] w (fun e w' => e = .returned (.tuple #[.int .i64 r0, .bool r1]) ∧ Below w.heap.size w w')))
    (hi : Hid (∀ (w : World), Calls Try.prog 38 #[.int .i64 a0, .int .i64 a1] w (fun e w' => e = .returned (.tuple #[.int .i64 r0, .bool r1]) ∧ Below w.heap.size w w'))) :
    Calls Try.prog 10 #[.int .i64 a0, .int .i64 a1] w fun e w' => e = .returned (.bool true) ∧ Below w.heap.size w w' := by
  have hd := Below.refl w.heap.size w
  go_enter Try.func10, Try.ntmps10
  go_wp2_with fail
  refine (hs.out _).mono ?_
  rintro e whW ⟨rfl, hb⟩
  replace hd := below_kept hd (Nat.le_refl _) hb
  clear hb
  go_wp2_with fail
  refine (hi.out _).mono ?_
  rintro e whG ⟨rfl, hb⟩
  replace hd := below_kept hd (Nat.le_refl _) hb
  clear hb
  go_wp2_with fail
  clear hs hi  
  go_wp2
  go_ret
  exact ⟨rfl, hd⟩

end Go.Proofs.Ytbpaaoeefcebeab
