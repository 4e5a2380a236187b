/- Crosses, near fractions, mediants: the model's and the program's contracts. -/
import Derived.Test.YtaifgfmkkgndkabNbB
import Derived.Test.YtaifgfmkkgndkabNbM
import Derived.Test.YtaifgfmkkgndkabBx2
import Derived.Test.YtaifgfmkkgndkabAbs
namespace Go.Proofs.Ytaifgfmkkgndkab
set_option linter.unusedVariables false
open Go.RowKit

/-- bounds of what is crossed -/
def Sm (x : Int) : Prop := -2000000 ≤ x ∧ x ≤ 2000000
theorem prodSm {x y : Int} (hx : Sm x) (hy : Sm y) : -4000000000000 ≤ x * y ∧ x * y ≤ 4000000000000 := by
  obtain ⟨h1, h2⟩ := hx
  obtain ⟨h3, h4⟩ := hy
  have a := Int.mul_nonneg (show 0 ≤ 2000000 - x by omega) (show 0 ≤ 2000000 - y by omega)
  have b := Int.mul_nonneg (show 0 ≤ 2000000 + x by omega) (show 0 ≤ 2000000 + y by omega)
  have c := Int.mul_nonneg (show 0 ≤ 2000000 - x by omega) (show 0 ≤ 2000000 + y by omega)
  have d := Int.mul_nonneg (show 0 ≤ 2000000 + x by omega) (show 0 ≤ 2000000 - y by omega)
  simp only [Int.sub_mul, Int.mul_sub, Int.add_mul, Int.mul_add] at a b c d
  omega
theorem nbB_sm {a b : Int} (h : nbB a b = true) : Sm a ∧ Sm b := by
  obtain ⟨h1, h2, _⟩ := nbB_iff.1 h
  unfold Sm
  omega

set_option maxHeartbeats 800000 in
theorem spec_nbCross (a b c d : Int) (w : World) (ha : Sm a) (hb : Sm b) (hc : Sm c) (hd : Sm d) :
    Calls Try.prog 86 #[.agg #[.int .i64 a, .int .i64 b], .agg #[.int .i64 c, .int .i64 d]] w fun e w' => e = .returned (.int .i64 (crs (a, b) (c, d))) ∧ Below w.heap.size w w' := by
  have P1 := prodSm hc hb
  have P2 := prodSm ha hd
  obtain ⟨p1, p2⟩ := P1
  obtain ⟨p3, p4⟩ := P2
  have hd0 := Lib.hid (below_two w (.cells #[.int .i64 a, .int .i64 b] 32) (.cells #[.int .i64 c, .int .i64 d] 32))
  unfold Sm at *
  go_enter Try.func86, Try.ntmps86
  go_wp2
  go_ret
  exact ⟨rfl, hd0.out⟩
set_option maxHeartbeats 800000 in
theorem impl_crossF (a b c d : Int) (w : World) (ha : Sm a) (hb : Sm b) (hc : Sm c) (hd : Sm d) :
    Calls Try.prog 53 #[.agg #[.int .i64 a, .int .i64 b], .agg #[.int .i64 c, .int .i64 d]] w fun e w' => e = .returned (.int .i64 (crs (a, b) (c, d))) ∧ Below w.heap.size w w' := by
  have P1 := prodSm hc hb
  have P2 := prodSm ha hd
  obtain ⟨p1, p2⟩ := P1
  obtain ⟨p3, p4⟩ := P2
  have hd0 := Lib.hid (below_two w (.cells #[.int .i64 a, .int .i64 b] 32) (.cells #[.int .i64 c, .int .i64 d] 32))
  unfold Sm at *
  go_enter Try.func53, Try.ntmps53
  go_wp2
  go_ret
  exact ⟨rfl, hd0.out⟩
end Go.Proofs.Ytaifgfmkkgndkab
