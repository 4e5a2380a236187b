/- IsCut: the model's and the program's contract, and the law's walk. -/
import Derived.Test.YtlnnnjnboknoeaaPocI
import Derived.Test.YtlnnnjnboknoeaaCugS
import Derived.Test.YtlnnnjnboknoeaaIsCutC
namespace Go.Proofs.Ytlnnnjnboknoeaa
set_option linter.unusedVariables false
open Go.RowKit

theorem spec_IsCut (n : Int) (A : Option Addr) (c B : Nat) (l : List (Int × Int)) (w : World) (h : SlD w B A l) (hB : B ≤ w.heap.size) (hl : l.length ≤ 1048576) (hlc : l.length ≤ c) :
    Calls Try.prog 16 #[.int .i64 n, .slice A l.length c] w fun e w' => e = .returned (.bool (cutB n l)) ∧ Below w.heap.size w w' := by
  go_enter Try.func16, Try.ntmps16
  go_wp2_with fail
  refine (spec_cuGood n A c B l _ h hB hl hlc).mono ?_
  rintro e w1 ⟨rfl, hb⟩
  clear h
  go_wp2
  go_ret
  exact ⟨rfl, hb⟩
theorem impl_IsCut_x (n : Int) (A : Option Addr) (c B : Nat) (l : List (Int × Int)) (w : World) (h : SlD w B A l) (hB : B ≤ w.heap.size) (hl : l.length ≤ 2000000) (hlc : l.length ≤ c) :
    Calls Try.prog 18 #[.int .i64 n, .slice A l.length c] w fun e w' => e = .returned (.bool (cutB n l)) ∧ Below w.heap.size w w' := by
  go_enter Try.func18, Try.ntmps18
  go_wp2_with fail
  refine (impl_PiecesOfCut_x n A c B l _ h hB hl hlc).mono ?_
  rintro e w1 ⟨A1, c1, rs1, rfl, _, hb⟩
  clear h
  go_wp2
  go_ret
  exact ⟨rfl, hb⟩
theorem impl_IsCut (n : Int) (A : Option Addr) (c B : Nat) (l : List (Int × Int)) (w : World) (h : SlD w B A l) (hB : B ≤ w.heap.size) (hl : l.length ≤ 1048576) (hlc : l.length ≤ c) :
    Calls Try.prog 18 #[.int .i64 n, .slice A l.length c] w fun e w' => e = .returned (.bool (cutB n l)) ∧ Below w.heap.size w w' := impl_IsCut_x n A c B l w h hB (by omega) hlc
theorem WIsCut.walk (w : World) (n : Int) (wn : (Lit.int .i64 n).wf = true) (A : Option Addr) (c : Nat) (l : List (Int × Int)) (h : SlD w w.heap.size A l)
    (hj : l.length ≤ c ∧ c ≤ maxLen ∧ ∀ x ∈ l, (Lit.int .i64 x.1).wf = true ∧ (Lit.int .i64 x.2).wf = true) :
    Calls Try.prog 3 #[.int .i64 n, .slice A l.length c] w fun e w' => e = .returned (.bool true) ∧ Below w.heap.size w w' :=
  WIsCut.core w n A c l h hj.1 hj.2.1 (cutB n l)
    (Lib.hid fun A c w h hl hlc => spec_IsCut n A c _ l w h (Nat.le_refl _) hl hlc)
    (Lib.hid fun A c w h hl hlc => impl_IsCut n A c _ l w h (Nat.le_refl _) hl hlc)
end Go.Proofs.Ytlnnnjnboknoeaa
