/- Contracts of the laws' own helpers over slices of diagonals: copied, compared, marked, held. -/
import Derived.Test.YtfkkbjbgjmaciaaLawI
namespace Go.Proofs.Ytfkkbjbgjmaciaa
set_option linter.unusedVariables false
open Go.RowKit

theorem infoD : (Try.prog.info? 161).map (fun i => (i.zero, i.size, i.bytes)) = some (some (.agg #[.int .i64 0, .int .i64 0]), 2, 16) := by kernel_rfl


theorem dcs_zeros (n : Nat) : (madeCells (Value.agg #[.int .i64 0, .int .i64 0]).cells (n * 2)).toList = dcs (List.replicate n (0, 0)) := by
  have e : (madeCells (Value.agg #[.int .i64 0, .int .i64 0]).cells (n * 2)).toList = List.replicate (n * 2) (.int .i64 0) := by
    apply List.ext_getElem?
    intro j
    show (madeCells #[Value.int .i64 0, Value.int .i64 0] (n * 2)).toList[j]? = _
    by_cases hj : j < n * 2
    · have : j % 2 = 0 ∨ j % 2 = 1 := by omega
      rcases this with h | h <;> simp [madeCells, hj, h]
    · simp [madeCells, hj]
  rw [e]
  clear e
  induction n with
  | zero => rfl
  | succ n ih =>
    have h2 : List.replicate ((n + 1) * 2) (Value.int .i64 0) = Value.int .i64 0 :: Value.int .i64 0 :: List.replicate (n * 2) (Value.int .i64 0) := by
      rw [show (n + 1) * 2 = n * 2 + 1 + 1 by omega]; rfl
    rw [h2, ih]
    rfl

/-- a pair stored into a row of pairs -/
theorem stored2 {w : World} {base e g n cap : Nat} {l : List (Int × Int)} (h : w.ownsRow base e 2 (.slice (some ⟨g, 0, none⟩) n cap) n (dcs l)) (k : Nat) (hk : k < l.length) (x y : Int) :
    ((w.setCell ⟨g, k * 2, none⟩ (.int .i64 x)).setCell ⟨g, k * 2 + 1, none⟩ (.int .i64 y)).ownsRow base e 2 (.slice (some ⟨g, 0, none⟩) n cap) n (dcs (l.set k (x, y))) ∧
    w.grownBy ((w.setCell ⟨g, k * 2, none⟩ (.int .i64 x)).setCell ⟨g, k * 2 + 1, none⟩ (.int .i64 y)) (some g) := by
  obtain ⟨h1, h2⟩ := h.stored (k * 2) (.int .i64 x)
  rw [dcs_set0 l x k hk] at h1
  obtain ⟨h3, h4⟩ := h1.stored (k * 2 + 1) (.int .i64 y)
  rw [dcs_set1 _ y k (by simpa using hk)] at h3
  refine ⟨?_, h2.trans h4⟩
  simpa [hk] using h3


end Go.Proofs.Ytfkkbjbgjmaciaa
