/- Rows of a list of lists: none is longer than its room. -/
import Derived.Test.YtbebalgleiafdabDoorLawSS
import Derived.Test.YtbebalgleiafdabDoorAppI
namespace Go.Proofs.YtbebalgleiafdabDoor
set_option linter.unusedVariables false
open Go.RowKit

/-- no row is longer than its room -/
def CapSS (w : World) (A : Option Addr) (N : Nat) : Prop := ∀ b off j Aj nj cj, A = some ⟨b, off, none⟩ → j < N → w.cell? ⟨b, off + j, none⟩ = some (.slice Aj nj cj) → nj ≤ cj
theorem OwnSS.cap {w : World} {base c : Nat} {A : Option Addr} {rs : List Value} {Ls : List (List Int)} {N : Nat} (h : OwnSS w base A c rs Ls) (hN : Ls.length = N) : CapSS w A N := by
  intro b off j Aj nj cj hA hj hc
  obtain ⟨g, rfl, _, _, hcell⟩ := h.outer (by omega)
  cases hA
  have h1 := hcell j (by omega)
  rw [Nat.zero_add, h1] at hc
  have ho := h.2.2.1 j (by omega)
  obtain ⟨Aj', cj', hv⟩ := own_form ho
  rw [hv] at ho hc
  cases hc
  exact own_capI ho
end Go.Proofs.YtbebalgleiafdabDoor
