/- LeastOfClass: the program's contract, and the law's walk. -/
import Derived.Test.YtbpaaoeefcebeabLstT
import Derived.Test.YtbpaaoeefcebeabLstJ
import Derived.Test.YtbpaaoeefcebeabLeastOfClassC
namespace Go.Proofs.Ytbpaaoeefcebeab
set_option linter.unusedVariables false
open Go.RowKit

set_option maxRecDepth 100000 in
set_option maxHeartbeats 1600000 in
theorem impl_LeastOfClass (n : Int) (A : Option Addr) (c B : Nat) (l : List (Int × Int)) (w : World) (h : SlD w B A l) (hB : B ≤ w.heap.size) (hl : l.length ≤ 1048576) (hlc : l.length ≤ c) :
    Calls Try.prog 27 #[.int .i64 n, .slice A l.length c] w (RetD w (clR n l) (triB n l)) := by
  go_enter Try.func27, Try.ntmps27
  go_wp2_with fail
  refine (impl_IsTriangulation n A c B l _ h hB hl hlc).mono ?_
  rintro e w1 ⟨rfl, hb1⟩
  cases ht : triB n l
  · have hres : RetD w (clR n l) (triB n l) (.returned (.tuple #[.slice none 0 0, .bool false])) w1 := by
      rw [clR_no ht, ht]
      exact retD_nil hb1
    have Hres := Lib.hid hres
    clear hres h hb1
    go_wp2
    go_ret2
    exact Hres.out
  · have hn := tri_n ht
    obtain ⟨m, rfl⟩ := Int.eq_ofNat_of_zero_le (show 0 ≤ n by omega)
    clear hn
    go_wp2_with fail
    refine (impl_leastOfClass m A c B l.length l _ rfl (h.below (hb1.mono hB)) (Nat.le_trans hB hb1.size) ht).mono ?_
    rintro e w2 ⟨A', c', rfl, ho, hb2⟩
    have hres : RetD w (clR m l) (triB m l) (.returned (.tuple #[.slice A' (classL m l).length c', .bool true])) w2 := by
      rw [clR_yes ht, ht]
      exact ⟨A', c', rfl, ho.mono hb1.size, below_kept hb1 (Nat.le_refl _) hb2⟩
    have Hres := Lib.hid hres
    clear hres h hb1 hb2 ho
    go_wp2
    go_ret2
    exact Hres.out

theorem WLeastOfClass.walk (w : World) (n : Int) (wn : (Lit.int .i64 n).wf = true) (A : Option Addr) (c : Nat) (l : List (Int × Int)) (h : SlD w w.heap.size A l)
    (hj : l.length ≤ c ∧ c ≤ maxLen ∧ ∀ x ∈ l, (Lit.int .i64 x.1).wf = true ∧ (Lit.int .i64 x.2).wf = true) :
    Calls Try.prog 6 #[.int .i64 n, .slice A l.length c] w fun e w' => e = .returned (.bool true) ∧ Below w.heap.size w w' :=
  WLeastOfClass.core w n A c l h hj.1 hj.2.1 (clR n l) (triB n l) (clR_length n l)
    (Lib.hid fun A c w h hl hlc => spec_LeastOfClass n A c _ l w h (Nat.le_refl _) hl hlc)
    (Lib.hid fun A c w h hl hlc => impl_LeastOfClass n A c _ l w h (Nat.le_refl _) hl hlc)

end Go.Proofs.Ytbpaaoeefcebeab
