/- The walk of PowerMatrix's law, out of the contracts of the model's function and of the program's. -/
import Derived.Test.YtfffnkbjhbaceaaMatL
namespace Go.Proofs.Ytfffnkbjhbaceaa
set_option linter.unusedVariables false
open Go.RowKit

set_option maxHeartbeats 1600000 in
theorem WPowerMatrix.core (w : World) (a b c d : Int) (x0 : Int) (p q r s : Int) (ok : Bool)
    (hs : Hid (∀ w : World, Calls Try.prog 32 #[.agg #[.int .i64 a, .int .i64 b, .int .i64 c, .int .i64 d], .int .i64 x0] w fun e w' => e = .returned (.tuple #[.agg #[.int .i64 p, .int .i64 q, .int .i64 r, .int .i64 s], .bool ok]) ∧ Below w.heap.size w w'))
    (hi : Hid (∀ w : World, Calls Try.prog 33 #[.agg #[.int .i64 a, .int .i64 b, .int .i64 c, .int .i64 d], .int .i64 x0] w fun e w' => e = .returned (.tuple #[.agg #[.int .i64 p, .int .i64 q, .int .i64 r, .int .i64 s], .bool ok]) ∧ Below w.heap.size w w')) :
    Calls Try.prog 10 #[.agg #[.int .i64 a, .int .i64 b, .int .i64 c, .int .i64 d], .int .i64 x0] w fun e w' => e = .returned (.bool true) ∧ Below w.heap.size w w' := by
  go_enter Try.func10, Try.ntmps10
  go_wp2_with fail
  refine (laws_toMatrix a b c d _).mono ?_
  rintro e w1 ⟨rfl, hb⟩
  have A := (Bx.new w 23 a b c d).kept hb
  have hd := ((Below.refl w.heap.size w).alloc (Nat.le_refl _) _).trans (hb.mono (by simp))
  clear hb
  have yA := (A).lt
  obtain ⟨A0, A1, A2, A3⟩ := A
  go_wp2_with fail
  have A : Bx w1 w.heap.size a b c d := ⟨A0, A1, A2, A3⟩
  clear A0 A1 A2 A3 yA
  refine (hs.out _).mono ?_
  rintro e w2 ⟨rfl, hb⟩
  replace A := A.kept hb
  replace hd := below_kept hd (Nat.le_refl _) hb
  clear hb
  have yA := (A).lt
  obtain ⟨A0, A1, A2, A3⟩ := A
  go_wp2_with fail
  have A : Bx w2 w.heap.size a b c d := ⟨A0, A1, A2, A3⟩
  clear A0 A1 A2 A3 yA
  refine (laws_toMatrix a b c d _).mono ?_
  rintro e w3 ⟨rfl, hb⟩
  replace A := (A.alloc _).kept hb
  have S := (Bx.new w2 25 p q r s).kept hb
  replace hd := below_kept (below_alloc1 hd (Nat.le_refl _) _) (Nat.le_refl _) hb
  clear hb
  have yA := (A).lt
  obtain ⟨A0, A1, A2, A3⟩ := A
  have yS := (S).lt
  obtain ⟨S0, S1, S2, S3⟩ := S
  go_wp2_with fail
  have A : Bx w3 w.heap.size a b c d := ⟨A0, A1, A2, A3⟩
  clear A0 A1 A2 A3 yA
  have S : Bx w3 w2.heap.size p q r s := ⟨S0, S1, S2, S3⟩
  clear S0 S1 S2 S3 yS
  refine (hi.out _).mono ?_
  rintro e w4 ⟨rfl, hb⟩
  replace A := A.kept hb
  replace S := S.kept hb
  replace hd := below_kept hd (Nat.le_refl _) hb
  clear hb
  have yA := (A).lt
  obtain ⟨A0, A1, A2, A3⟩ := A
  have yS := (S).lt
  obtain ⟨S0, S1, S2, S3⟩ := S
  go_wp2_with fail
  refine (laws_eqMatrix_same p q r s _).mono ?_
  rintro e wz ⟨rfl, hb⟩
  replace hd := below_kept (below_alloc1 hd (Nat.le_refl _) _) (Nat.le_refl _) hb
  clear hb A0 A1 A2 A3 yA S0 S1 S2 S3 yS hs hi
  go_wp2
  go_ret
  exact ⟨rfl, hd⟩

end Go.Proofs.Ytfffnkbjhbaceaa
