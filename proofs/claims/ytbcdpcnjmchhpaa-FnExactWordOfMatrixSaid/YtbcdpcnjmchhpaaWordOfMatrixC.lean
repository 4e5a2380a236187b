/- The walk of WordOfMatrix's law, out of the contracts of the model's function and of the program's. -/
import Derived.Test.YtbcdpcnjmchhpaaMatL
namespace Go.Proofs.Ytbcdpcnjmchhpaa
set_option linter.unusedVariables false
open Go.RowKit

set_option maxHeartbeats 1600000 in
theorem WWordOfMatrix.core (w : World) (a b c d : Int) (r0 : ByteArray) (r1 : Bool)
    (hs : Hid (∀ w : World, Calls Try.prog 46 #[.agg #[.int .i64 a, .int .i64 b, .int .i64 c, .int .i64 d]] w fun e w' => e = .returned (.tuple #[.string r0, .bool r1]) ∧ Below w.heap.size w w'))
    (hi : Hid (∀ w : World, Calls Try.prog 48 #[.agg #[.int .i64 a, .int .i64 b, .int .i64 c, .int .i64 d]] w fun e w' => e = .returned (.tuple #[.string r0, .bool r1]) ∧ Below w.heap.size w w')) :
    Calls Try.prog 12 #[.agg #[.int .i64 a, .int .i64 b, .int .i64 c, .int .i64 d]] w fun e w' => e = .returned (.bool true) ∧ Below w.heap.size w w' := by
  go_enter Try.func12, Try.ntmps12
  go_wp2_with fail
  refine (laws_toMatrix a b c d _).mono ?_
  rintro e w1 ⟨rfl, hb⟩
  have A := (Bx.new w 57 a b c d).kept hb
  have hd := ((Below.refl w.heap.size w).alloc (Nat.le_refl _) _).trans (hb.mono (by simp))
  clear hb
  have yA := (A).lt
  obtain ⟨A0, A1, A2, A3⟩ := A
  go_wp2_with fail
  have A : Bx w1 w.heap.size a b c d := ⟨A0, A1, A2, A3⟩
  clear A0 A1 A2 A3 yA
  refine (hs.out _).mono ?_
  rintro e w2 ⟨rfl, hb⟩
  replace A := A.kept hb
  replace hd := below_kept hd (Nat.le_refl _) hb
  clear hb
  have yA := (A).lt
  obtain ⟨A0, A1, A2, A3⟩ := A
  go_wp2_with fail
  have A : Bx w2 w.heap.size a b c d := ⟨A0, A1, A2, A3⟩
  clear A0 A1 A2 A3 yA
  refine (laws_toMatrix a b c d _).mono ?_
  rintro e w3 ⟨rfl, hb⟩
  replace A := A.kept hb
  replace hd := below_kept hd (Nat.le_refl _) hb
  clear hb
  have yA := (A).lt
  obtain ⟨A0, A1, A2, A3⟩ := A
  go_wp2_with fail
  have A : Bx w3 w.heap.size a b c d := ⟨A0, A1, A2, A3⟩
  clear A0 A1 A2 A3 yA
  refine (hi.out _).mono ?_
  rintro e w4 ⟨rfl, hb⟩
  replace A := A.kept hb
  replace hd := below_kept hd (Nat.le_refl _) hb
  clear hb
  have yA := (A).lt
  obtain ⟨A0, A1, A2, A3⟩ := A
  clear A0 A1 A2 A3 yA hs hi
  go_wp2
  go_ret
  exact ⟨rfl, hd⟩

end Go.Proofs.Ytbcdpcnjmchhpaa
