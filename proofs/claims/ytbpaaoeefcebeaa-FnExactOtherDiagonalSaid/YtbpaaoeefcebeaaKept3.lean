/- A row's address, spelt another way. -/
import Derived.Test.YtbpaaoeefcebeaaKept2
namespace Go.Proofs.Ytbpaaoeefcebeaa
set_option linter.unusedVariables false
open Go.RowKit
theorem sl_at {w : World} {base e b b' n c : Nat} {l : List (Int × Int)} (h : w.ownsRow base e 2 (.slice (some ⟨b, 0, none⟩) n c) n (dcs l)) (hb : b = b') : SlD w w.heap.size (some ⟨b', 0, none⟩) l := by
  subst hb
  exact SlD.of_own h
end Go.Proofs.Ytbpaaoeefcebeaa
