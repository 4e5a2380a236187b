/- The walk of NextFarey's law, out of the contracts of the model's function and of the program's. -/
import Derived.Test.YtaifgfmkkgndkabLawF
import Derived.Test.YtaifgfmkkgndkabBx2
namespace Go.Proofs.Ytaifgfmkkgndkab
set_option linter.unusedVariables false
open Go.RowKit

set_option maxHeartbeats 3200000 in
theorem WNextFarey.core (w : World) (a b n : Int) (p q : Int) (ok : Bool)
    (hs : Hid (∀ w : World, Calls Try.prog 19 #[.agg #[.int .i64 a, .int .i64 b], .int .i64 n] w fun e w' => e = .returned (.tuple #[.agg #[.int .i64 p, .int .i64 q], .bool ok]) ∧ Below w.heap.size w w'))
    (hi : Hid (∀ w : World, Calls Try.prog 21 #[.agg #[.int .i64 a, .int .i64 b], .int .i64 n] w fun e w' => e = .returned (.tuple #[.agg #[.int .i64 p, .int .i64 q], .bool ok]) ∧ Below w.heap.size w w')) :
    Calls Try.prog 5 #[.agg #[.int .i64 a, .int .i64 b], .int .i64 n] w fun e w' => e = .returned (.bool true) ∧ Below w.heap.size w w' := by
  go_enter Try.func5, Try.ntmps5
  go_wp2_with fail
  refine (laws_toFraction a b _).mono ?_
  rintro e w1 ⟨rfl, hb⟩
  have A := Lib.hid ((Bx2.new w 31 a b).kept hb)
  have hd := Lib.hid ((below_one w _).trans (hb.mono (by simp)))
  clear hb
  have yA := A.out.lt
  obtain ⟨⟨A0, A1⟩, A2, A3⟩ := A.out
  go_wp2_with fail
  clear A0 A1 A2 A3 yA
  refine (hs.out _).mono ?_
  rintro e w2 ⟨rfl, hb⟩
  replace A := Lib.hid (A.out.kept hb)
  replace hd := Lib.hid (below_kept hd.out (Nat.le_refl _) hb)
  clear hb
  have yA := A.out.lt
  obtain ⟨⟨A0, A1⟩, A2, A3⟩ := A.out
  go_wp2_with fail
  clear A0 A1 A2 A3
  refine (laws_toFraction a b _).mono ?_
  rintro e w3 ⟨rfl, hb⟩
  have R := Lib.hid ((Bx2.new w2 32 p q).kept hb)
  have hb3 := below_kept (below_one w2 (.cells #[.int .i64 p, .int .i64 q] 32)) (Nat.le_refl _) hb
  replace A := Lib.hid (A.out.kept hb3)
  replace hd := Lib.hid (below_kept hd.out (Nat.le_refl _) hb3)
  clear hb hb3 yA
  have yA := A.out.lt
  have yR := R.out.lt
  obtain ⟨⟨A0, A1⟩, A2, A3⟩ := A.out
  go_wp2_with fail
  clear A0 A1 A2 A3 yA
  refine (hi.out _).mono ?_
  rintro e w4 ⟨rfl, hb⟩
  replace R := Lib.hid (R.out.kept hb)
  replace hd := Lib.hid (below_kept hd.out (Nat.le_refl _) hb)
  clear hb yR A
  have S := Lib.hid (Bx2.new w4 32 p q)
  replace R := Lib.hid (R.out.kept (below_one w4 (.cells #[.int .i64 p, .int .i64 q] 32)))
  replace hd := Lib.hid (below_kept hd.out (Nat.le_refl _) (below_one w4 (.cells #[.int .i64 p, .int .i64 q] 32)))
  clear hs hi
  have yR := R.out.lt
  have yS := S.out.lt
  obtain ⟨⟨i0, i1⟩, i2, i3⟩ := S.out
  obtain ⟨⟨r0, r1⟩, r2, r3⟩ := R.out
  go_wp2_with fail
  refine (laws_eqFraction p q _).mono ?_
  rintro e wz ⟨rfl, hb⟩
  have hE := Lib.hid (below_kept hd.out (Nat.le_refl _) hb)
  clear hb i0 i1 i2 i3 r0 r1 r2 r3 yR yS R S hd
  go_wp2
  go_ret
  exact ⟨rfl, hE.out⟩
end Go.Proofs.Ytaifgfmkkgndkab
