/- CountTriangulations: the model's and the program's contract, and the law's walk. -/
import Derived.Test.YtbebalgleiafdabCntT
import Derived.Test.YtbebalgleiafdabCountTriangulationsC
import Derived.Test.YtbebalgleiafdabTriJ
namespace Go.Proofs.Ytbebalgleiafdab
set_option linter.unusedVariables false
open Go.RowKit

def ctR (n : Int) : Int := if poB n = true then (cntT n.toNat : Int) else 0
theorem ctR_no {n : Int} (h : poB n = false) : ctR n = 0 := by simp [ctR, h]
theorem ctR_yes {n : Nat} (h : poB n = true) : ctR n = cntT n := by simp [ctR, h]
def CtE (n : Int) (w : World) (e : Ending) (w' : World) : Prop := e = .returned (.tuple #[.int .i64 (ctR n), .bool (poB n)]) ∧ Below w.heap.size w w'
theorem ctE_no {n : Int} {w : World} (h : poB n = false) : CtE n w (.returned (.tuple #[.int .i64 0, .bool false])) w := ⟨by rw [ctR_no h, h], Below.refl _ _⟩
theorem ctE_yes {n : Nat} {w : World} (h : poB n = true) : CtE n w (.returned (.tuple #[.int .i64 (cntT n), .bool true])) w := ⟨by rw [ctR_yes h, h], Below.refl _ _⟩

theorem spec_CountTriangulations (n : Int) (w : World) : Calls Try.prog 11 #[.int .i64 n] w (CtE n w) := by
  cases hp : poB n
  · have HE := Lib.hid (ctE_no (w := w) hp)
    go_enter Try.func11, Try.ntmps11
    go_wp2_with fail
    refine (spec_poIs _ _ _ hp).mono ?_
    rintro e w1 ⟨rfl, rfl⟩
    go_wp2
    go_ret2
    exact HE.out
  · have hn := poB_iff.1 hp
    obtain ⟨m, rfl⟩ := Int.eq_ofNat_of_zero_le (show 0 ≤ n by omega)
    have HE := Lib.hid (ctE_yes (w := w) hp)
    have hc := Lib.hid (spec_caCount m w (by omega) (by omega))
    clear hn
    go_enter Try.func11, Try.ntmps11
    go_wp2_with fail
    refine (spec_poIs _ _ _ hp).mono ?_
    rintro e w1 ⟨rfl, rfl⟩
    go_wp2_with fail
    refine hc.out.mono ?_
    rintro e w1 ⟨rfl, rfl⟩
    go_wp2
    go_ret2
    exact HE.out
theorem impl_CountTriangulations (n : Int) (w : World) : Calls Try.prog 12 #[.int .i64 n] w (CtE n w) := by
  cases hp : poB n
  · have HE := Lib.hid (ctE_no (w := w) hp)
    go_enter Try.func12, Try.ntmps12
    go_wp2_with fail
    refine (impl_isPolygon _ _ _ hp).mono ?_
    rintro e w1 ⟨rfl, rfl⟩
    go_wp2
    go_ret2
    exact HE.out
  · have hn := poB_iff.1 hp
    obtain ⟨m, rfl⟩ := Int.eq_ofNat_of_zero_le (show 0 ≤ n by omega)
    have HE := Lib.hid (ctE_yes (w := w) hp)
    have hc := Lib.hid (impl_countTriangulations m w (by omega) (by omega))
    clear hn
    go_enter Try.func12, Try.ntmps12
    go_wp2_with fail
    refine (impl_isPolygon _ _ _ hp).mono ?_
    rintro e w1 ⟨rfl, rfl⟩
    go_wp2_with fail
    refine hc.out.mono ?_
    rintro e w1 ⟨rfl, rfl⟩
    go_wp2
    go_ret2
    exact HE.out
theorem WCountTriangulations.walk (w : World) (n : Int) (wn : (Lit.int .i64 n).wf = true) :
    Calls Try.prog 3 #[.int .i64 n] w fun e w' => e = .returned (.bool true) ∧ Below w.heap.size w w' :=
  WCountTriangulations.core w n (ctR n) (poB n) (Lib.hid fun w => spec_CountTriangulations n w) (Lib.hid fun w => impl_CountTriangulations n w)
end Go.Proofs.Ytbebalgleiafdab
