/- The walk of MatrixOfWord's law, out of the contracts of the model's function and of the program's. -/
import Derived.Test.YtfffnkbjhbaceabMatL
namespace Go.Proofs.Ytfffnkbjhbaceab
set_option linter.unusedVariables false
open Go.RowKit

set_option maxHeartbeats 1600000 in
theorem WMatrixOfWord.core (w : World) (a : ByteArray) (p q r s : Int) (ok : Bool)
    (hs : Hid (∀ w : World, Calls Try.prog 10 #[.string a] w (fun e w' => e = .returned (.tuple #[.agg #[.int .i64 p, .int .i64 q, .int .i64 r, .int .i64 s], .bool ok]) ∧ Below w.heap.size w w')))
    (hi : Hid (∀ w : World, Calls Try.prog 11 #[.string a] w (fun e w' => e = .returned (.tuple #[.agg #[.int .i64 p, .int .i64 q, .int .i64 r, .int .i64 s], .bool ok]) ∧ Below w.heap.size w w'))) :
    Calls Try.prog 3 #[.string a] w fun e w' => e = .returned (.bool true) ∧ Below w.heap.size w w' := by
  by_cases hl : a.size ≤ 1048576
  · have hd := Below.refl w.heap.size w
    have hl2 : ¬ (1048576 : Int) < (a.size : Int) := by omega
    go_enter Try.func3, Try.ntmps3
    go_wp2_with fail
    refine (hs.out _).mono ?_
    rintro e whW ⟨rfl, hb⟩
    replace hd := below_kept hd (Nat.le_refl _) hb
    have S := Bx.new whW 23 p q r s
    replace hd := below_alloc1 hd (Nat.le_refl _) (.cells #[.int .i64 p, .int .i64 q, .int .i64 r, .int .i64 s] 23)
    clear hb
    go_wp2_with fail
    refine (hi.out _).mono ?_
    rintro e whG ⟨rfl, hb⟩
    replace S := S.kept hb
    replace hd := below_kept hd (Nat.le_refl _) hb
    clear hb
    have S1 := S
    have yS := S.lt
    obtain ⟨s0, s1, s2, s3⟩ := S1
    go_wp2_with fail
    refine (laws_eqMatrix_same p q r s _).mono ?_
    rintro e wq0 ⟨rfl, hb⟩
    replace hd := below_kept (below_alloc1 hd (Nat.le_refl _) _) (Nat.le_refl _) hb
    clear hb S s0 s1 s2 s3 yS hs hi
    go_wp2
    go_ret
    exact ⟨rfl, hd⟩
  · have hdd := Below.refl w.heap.size w
    have hl2 : (1048576 : Int) < (a.size : Int) := by omega
    clear hs hi
    go_enter Try.func3, Try.ntmps3
    go_wp2_with fail
    go_ret
    exact ⟨rfl, hdd⟩

end Go.Proofs.Ytfffnkbjhbaceab
