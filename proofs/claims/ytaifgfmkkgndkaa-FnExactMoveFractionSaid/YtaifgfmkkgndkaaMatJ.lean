/- Chapter 4: products, inverses, and what is a matrix, the model's and the program's. -/
import Derived.Test.YtaifgfmkkgndkaaMatI
import Derived.Deep.QuietTactic
import Derived.BigQuiet
namespace Go.Proofs.Ytaifgfmkkgndkaa
set_option linter.unusedVariables false
open Go.RowKit

theorem mulFacts {a b c d e f g h P Q : Int} (hm : M4.In ⟨a, b, c, d⟩ P) (hk : M4.In ⟨e, f, g, h⟩ Q) (hPQ : P * Q ≤ 4000000000000000000) :
    ((-4000000000000000000 ≤ a * e ∧ a * e ≤ 4000000000000000000) ∧ (-4000000000000000000 ≤ b * g ∧ b * g ≤ 4000000000000000000)) ∧
    ((-4000000000000000000 ≤ a * f ∧ a * f ≤ 4000000000000000000) ∧ (-4000000000000000000 ≤ b * h ∧ b * h ≤ 4000000000000000000)) ∧
    ((-4000000000000000000 ≤ c * e ∧ c * e ≤ 4000000000000000000) ∧ (-4000000000000000000 ≤ d * g ∧ d * g ≤ 4000000000000000000)) ∧
    ((-4000000000000000000 ≤ c * f ∧ c * f ≤ 4000000000000000000) ∧ (-4000000000000000000 ≤ d * h ∧ d * h ≤ 4000000000000000000)) := by
  obtain ⟨h1, h2, h3, h4⟩ := hm
  obtain ⟨k1, k2, k3, k4⟩ := hk
  have a1 := prodBd h1 k1
  have a2 := prodBd h2 k3
  have a3 := prodBd h1 k2
  have a4 := prodBd h2 k4
  have a5 := prodBd h3 k1
  have a6 := prodBd h4 k3
  have a7 := prodBd h3 k2
  have a8 := prodBd h4 k4
  dsimp only at *
  generalize P * Q = R at *
  omega

theorem below_set4 {B g : Nat} {w0 w : World} {x0 x1 x2 x3 : Value} (h : Below B w0 w) (hg : B ≤ g) : Below B w0 ((((w.setCell ⟨g, 0, none⟩ x0).setCell ⟨g, 1, none⟩ x1).setCell ⟨g, 2, none⟩ x2).setCell ⟨g, 3, none⟩ x3) :=
  (((h.setCell (p := ⟨g, 0, none⟩) hg _).setCell (p := ⟨g, 1, none⟩) hg _).setCell (p := ⟨g, 2, none⟩) hg _).setCell (p := ⟨g, 3, none⟩) hg _
end Go.Proofs.Ytaifgfmkkgndkaa
