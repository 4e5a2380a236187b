/- IsFractionPolygon: the model's contract, and the law's walk. -/
import Derived.Test.YtaifgfmkkgndkabPolI
import Derived.Test.YtaifgfmkkgndkabIsFractionPolygonC
namespace Go.Proofs.Ytaifgfmkkgndkab
set_option linter.unusedVariables false
open Go.RowKit
theorem spec_IsFractionPolygon (A : Option Addr) (c B : Nat) (l : List (Int × Int)) (w : World) (h : SlD w B A l) (hB : B ≤ w.heap.size) (hl : l.length ≤ 1048576) :
    Calls Try.prog 29 #[.slice A l.length c] w fun e w' => e = .returned (.bool (polB l)) ∧ Below w.heap.size w w' := by
  have H := Lib.hid (spec_nbPolygon A c B l w h hB hl)
  generalize polB l = r at *
  clear h
  go_enter Try.func29, Try.ntmps29
  go_wp2_with fail
  refine H.out.mono ?_
  rintro e w1 ⟨rfl, hb⟩
  go_wp2
  go_ret
  exact ⟨rfl, hb⟩
theorem WIsFractionPolygon.walk (w : World) (A : Option Addr) (c : Nat) (l : List (Int × Int)) (h : SlD w w.heap.size A l)
    (hj : l.length ≤ c ∧ c ≤ maxLen ∧ ∀ x ∈ l, (Lit.int .i64 x.1).wf = true ∧ (Lit.int .i64 x.2).wf = true) :
    Calls Try.prog 7 #[.slice A l.length c] w fun e w' => e = .returned (.bool true) ∧ Below w.heap.size w w' :=
  WIsFractionPolygon.core w A c l h hj.1 hj.2.1 (polB l)
    (Lib.hid fun A c w h hl hlc => spec_IsFractionPolygon A c _ l w h (Nat.le_refl _) hl)
    (Lib.hid fun A c w h hl hlc => impl_IsFractionPolygon A c _ l w h (Nat.le_refl _) hl hlc)
end Go.Proofs.Ytaifgfmkkgndkab
