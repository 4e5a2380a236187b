/- How many fractions a Farey list has. -/
import Derived.Test.YtaifgfmkkgndkabFareyListW
import Derived.Test.YtaifgfmkkgndkabCountFareyC
namespace Go.Proofs.Ytaifgfmkkgndkab
set_option linter.unusedVariables false
open Go.RowKit

theorem spec_CountFarey (a : Int) (w : World) : Calls Try.prog 17 #[.int .i64 a] w fun e w' => e = .returned (.tuple #[.int .i64 (farR a).length, .bool (inB a 1 40)]) ∧ Below w.heap.size w w' := by
  cases h : inB a 1 40
  · have HL := Lib.hid (fun w => spec_l1In' a 1 40 w)
    rw [h] at HL
    rw [farR_no h]
    clear h
    go_enter Try.func17, Try.ntmps17
    go_wp2_with fail
    refine (HL.out _).mono ?_
    rintro e w1 ⟨rfl, rfl⟩
    go_wp2
    go_ret2
    exact ⟨rfl, Below.refl _ _⟩
  · obtain ⟨n, rfl, h1, h2⟩ := inB_nat h
    have HL := Lib.hid (fun w => spec_l1In' (n : Int) 1 40 w)
    have HF := Lib.hid (fun w => spec_nbFarey n w h1 h2)
    have hl := (far_ok h1 h2).2.2
    rw [farR_yes h]
    rw [h] at HL
    clear h
    generalize far n = F at *
    go_enter Try.func17, Try.ntmps17
    go_wp2_with fail
    refine (HL.out _).mono ?_
    rintro e w1 ⟨rfl, rfl⟩
    go_wp2_with fail
    refine (HF.out _).mono ?_
    rintro e w2 ⟨A2, c2, rfl, ho, hb⟩
    have HB := Lib.hid hb
    clear ho hb
    go_wp2
    go_ret2
    exact ⟨rfl, HB.out⟩
theorem impl_CountFarey (a : Int) (w : World) : Calls Try.prog 18 #[.int .i64 a] w fun e w' => e = .returned (.tuple #[.int .i64 (farR a).length, .bool (inB a 1 40)]) ∧ Below w.heap.size w w' := by
  have HF := Lib.hid (impl_FareyList a w)
  have hl := farR_length a
  generalize farR a = F at *
  generalize inB a 1 40 = ok at *
  go_enter Try.func18, Try.ntmps18
  go_wp2_with fail
  refine HF.out.mono ?_
  rintro e w2 ⟨A2, c2, rfl, ho, hb⟩
  have HB := Lib.hid hb
  clear ho hb HF
  go_wp2
  go_ret2
  exact ⟨rfl, HB.out⟩
theorem WCountFarey.walk (w : World) (a0 : Int) (hj : (Lit.int .i64 a0).wf = true) :
    Calls Try.prog 4 #[.int .i64 a0] w fun e w' => e = .returned (.bool true) ∧ Below w.heap.size w w' :=
  WCountFarey.core w a0 (farR a0).length (inB a0 1 40) (Lib.hid fun w => spec_CountFarey a0 w) (Lib.hid fun w => impl_CountFarey a0 w)
end Go.Proofs.Ytaifgfmkkgndkab
