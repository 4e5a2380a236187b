/- The walk of PathOfFraction's law, out of the contracts of the model's function and of the program's. -/
import Derived.Test.YtaifgfmkkgndkaaLawF
import Derived.Test.YtaifgfmkkgndkaaBx2
namespace Go.Proofs.Ytaifgfmkkgndkaa
set_option linter.unusedVariables false
open Go.RowKit

set_option maxHeartbeats 1600000 in
theorem WPathOfFraction.core (w : World) (a b : Int) (r0 : ByteArray) (r1 : Bool)
    (hs : Hid (∀ w : World, Calls Try.prog 37 #[.agg #[.int .i64 a, .int .i64 b]] w fun e w' => e = .returned (.tuple #[.string r0, .bool r1]) ∧ Below w.heap.size w w'))
    (hi : Hid (∀ w : World, Calls Try.prog 38 #[.agg #[.int .i64 a, .int .i64 b]] w fun e w' => e = .returned (.tuple #[.string r0, .bool r1]) ∧ Below w.heap.size w w')) :
    Calls Try.prog 11 #[.agg #[.int .i64 a, .int .i64 b]] w fun e w' => e = .returned (.bool true) ∧ Below w.heap.size w w' := by
  go_enter Try.func11, Try.ntmps11
  go_wp2_with fail
  refine (laws_toFraction a b _).mono ?_
  rintro e w1 ⟨rfl, hb⟩
  have A := Lib.hid ((Bx2.new w 23 a b).kept hb)
  have hd := Lib.hid ((below_one w _).trans (hb.mono (by simp)))
  clear hb
  have yA := A.out.lt
  obtain ⟨⟨A0, A1⟩, A2, A3⟩ := A.out
  go_wp2_with fail
  clear A0 A1 A2 A3 yA
  refine (hs.out _).mono ?_
  rintro e w2 ⟨rfl, hb⟩
  replace A := Lib.hid (A.out.kept hb)
  replace hd := Lib.hid (below_kept hd.out (Nat.le_refl _) hb)
  clear hb
  have yA := A.out.lt
  obtain ⟨⟨A0, A1⟩, A2, A3⟩ := A.out
  go_wp2_with fail
  clear A0 A1 A2 A3 yA
  refine (laws_toFraction a b _).mono ?_
  rintro e w3 ⟨rfl, hb⟩
  replace A := Lib.hid (A.out.kept hb)
  replace hd := Lib.hid (below_kept hd.out (Nat.le_refl _) hb)
  clear hb
  have yA := A.out.lt
  obtain ⟨⟨A0, A1⟩, A2, A3⟩ := A.out
  go_wp2_with fail
  clear A0 A1 A2 A3 yA
  refine (hi.out _).mono ?_
  rintro e w4 ⟨rfl, hb⟩
  replace A := Lib.hid (A.out.kept hb)
  replace hd := Lib.hid (below_kept hd.out (Nat.le_refl _) hb)
  clear hb
  have yA := A.out.lt
  obtain ⟨⟨A0, A1⟩, A2, A3⟩ := A.out
  go_wp2
  go_ret
  exact ⟨rfl, hd.out⟩

end Go.Proofs.Ytaifgfmkkgndkaa
