/- Contracts of the laws' own helpers over slices of slices of diagonals: compared, marked, held; and how such lists lie in memory. -/
import Derived.Test.YtlnnnjnboknoeaaLawK2
import Derived.Deep.QuietTactic
import Derived.BigQuiet
import Derived.Deep.RegionHeld3
namespace Go.Proofs.Ytlnnnjnboknoeaa
set_option linter.unusedVariables false
open Go.RowKit

def rowD (Ls : List (List (Int × Int))) (j : Nat) : List (Int × Int) := Ls.getD j []
def rvD (rs : List Value) (j : Nat) : Value := rs.getD j (.slice none 0 0)
/-- a slice's value leads to slices that lead to the lists, all below block B -/
def SlDD (w : World) (B : Nat) (A : Option Addr) (Ls : List (List (Int × Int))) : Prop :=
  0 < Ls.length → ∃ b off, A = some ⟨b, off, none⟩ ∧ b < B ∧ ∀ j, j < Ls.length → ∃ Aj cj, w.cell? ⟨b, off + j, none⟩ = some (.slice Aj (rowD Ls j).length cj) ∧ SlD w B Aj (rowD Ls j)
theorem SlDD.keep {w w' : World} {B : Nat} {A : Option Addr} {Ls : List (List (Int × Int))} (h : SlDD w B A Ls) (hk : ∀ b o, b < B → w'.cell? ⟨b, o, none⟩ = w.cell? ⟨b, o, none⟩) : SlDD w' B A Ls := fun h0 => by
  obtain ⟨b, off, e, hb, hc⟩ := h h0
  refine ⟨b, off, e, hb, fun j hj => ?_⟩
  obtain ⟨Aj, cj, h1, h2⟩ := hc j hj
  exact ⟨Aj, cj, (hk _ _ hb).trans h1, h2.keep hk⟩
theorem SlDD.drewN {w : World} {B : Nat} {A : Option Addr} {Ls : List (List (Int × Int))} (h : SlDD w B A Ls) (z : Nat) : SlDD (w.drewN z) B A Ls := h
theorem SlDD.below {w w' : World} {B : Nat} {A : Option Addr} {Ls : List (List (Int × Int))} (h : SlDD w B A Ls) (hb : Below B w w') : SlDD w' B A Ls := h.keep fun _ _ hp => hb.cell hp
/-- rows of rows of the call's own: the outer one's cells are the slices' values; no two inner ones share a block -/
def OwnDD (w : World) (base : Nat) (A : Option Addr) (c : Nat) (rs : List Value) (Ls : List (List (Int × Int))) : Prop :=
  rs.length = Ls.length ∧ w.ownsRow base 25 1 (.slice A Ls.length c) Ls.length rs ∧ (∀ j, j < Ls.length → w.ownsRow base 49 2 (rvD rs j) (rowD Ls j).length (dcs (rowD Ls j))) ∧
    (∀ i j, i < Ls.length → j < Ls.length → i ≠ j → ∀ k, (rvD rs i).ownBlock = some k → some k ≠ (rvD rs j).ownBlock)
section
variable {w w' : World} {base : Nat} {A : Option Addr} {c : Nat} {rs : List Value} {Ls : List (List (Int × Int))}
theorem OwnDD.nil_ : OwnDD w base none 0 [] [] := ⟨rfl, World.ownsRow_nil _ _ _ _, fun j hj => by simp at hj, fun i j hi => by simp at hi⟩
theorem OwnDD.mono {base' : Nat} (h : OwnDD w base A c rs Ls) (hb : base' ≤ base) : OwnDD w base' A c rs Ls := ⟨h.1, h.2.1.mono hb, fun j hj => (h.2.2.1 j hj).mono hb, h.2.2.2⟩
theorem OwnDD.kept (h : OwnDD w base A c rs Ls) (hb : Below w.heap.size w w') : OwnDD w' base A c rs Ls := ⟨h.1, own_kept h.2.1 hb, fun j hj => own_kept (h.2.2.1 j hj) hb, h.2.2.2⟩
theorem OwnDD.far {row : Option Nat} (h : OwnDD w base A c rs Ls) (hg : w.grownBy w' row) (hr : ∀ k, row = some k → k < base) : OwnDD w' base A c rs Ls := by
  have hne : ∀ {e s n : Nat} {v : Value} {xs : List Value}, w.ownsRow base e s v n xs → ∀ k, v.ownBlock = some k → some k ≠ row := fun ho k hk e => by
    have h1 := (ho.lt k hk).1
    have h2 := hr k e.symm
    omega
  exact ⟨h.1, own_far h.2.1 hg (hne h.2.1), fun j hj => own_far (h.2.2.1 j hj) hg (hne (h.2.2.1 j hj)), h.2.2.2⟩
theorem rvD_get {rs : List Value} {j : Nat} (h : j < rs.length) : rs[j]? = some (rvD rs j) := by
  unfold rvD
  simp [h]
theorem OwnDD.outer (h : OwnDD w base A c rs Ls) (h0 : 0 < Ls.length) : ∃ g, A = some ⟨g, 0, none⟩ ∧ base ≤ g ∧ g < w.heap.size ∧ ∀ j, j < Ls.length → w.cell? ⟨g, j, none⟩ = some (rvD rs j) := by
  obtain ⟨g, cap, hv, hb, hlt⟩ := h.2.1.form h0
  have hA : A = some ⟨g, 0, none⟩ := by injection hv
  subst hA
  refine ⟨g, rfl, hb, hlt, fun j hj => ?_⟩
  have := h.2.1.cellAt j (by omega)
  rw [this, rvD_get (by rw [h.1]; exact hj)]
theorem OwnDD.sl (h : OwnDD w base A c rs Ls) : SlDD w w.heap.size A Ls := fun h0 => by
  obtain ⟨g, rfl, hb, hlt, hc⟩ := h.outer h0
  refine ⟨g, 0, rfl, hlt, fun j hj => ?_⟩
  have ho := h.2.2.1 j hj
  obtain ⟨Aj, cj, hv⟩ := own_form ho
  have hcj := hc j hj
  rw [hv] at hcj ho
  exact ⟨Aj, cj, by rw [Nat.zero_add]; exact hcj, SlD.of_own ho⟩
end


/-- how many pairs the first j lists have -/
def preD (Ls : List (List (Int × Int))) (j : Nat) : Nat := ((Ls.take j).map List.length).sum
theorem preD_zero (Ls : List (List (Int × Int))) : preD Ls 0 = 0 := by simp [preD]
theorem preD_succ (Ls : List (List (Int × Int))) (j : Nat) (h : j < Ls.length) : preD Ls (j + 1) = preD Ls j + (rowD Ls j).length := by
  unfold preD rowD
  rw [List.take_succ_eq_append_getElem h]
  simp only [List.map_append, List.sum_append, List.map_cons, List.map_nil, List.sum_cons, List.sum_nil]
  simp [h]
theorem preD_le (Ls : List (List (Int × Int))) (j d : Nat) (h : j + d ≤ Ls.length) : preD Ls j ≤ preD Ls (j + d) := by
  induction d with
  | zero => exact Nat.le_refl _
  | succ d ih =>
    have := ih (by omega)
    rw [show j + (d + 1) = (j + d) + 1 by omega, preD_succ Ls (j + d) (by omega)]
    omega
/-- the first j lists marked, one after the other, from 1 on -/
def mkD (Ls : List (List (Int × Int))) (j : Nat) : List (List (Int × Int)) := (List.range Ls.length).map fun i => if i < j then marksDk (rowD Ls i).length (1 + 2 * (preD Ls i : Int)) else rowD Ls i
theorem mkD_length (Ls : List (List (Int × Int))) (j : Nat) : (mkD Ls j).length = Ls.length := by simp [mkD]
theorem mkD_row (Ls : List (List (Int × Int))) (j i : Nat) (h : i < Ls.length) : rowD (mkD Ls j) i = if i < j then marksDk (rowD Ls i).length (1 + 2 * (preD Ls i : Int)) else rowD Ls i := by
  conv => lhs; unfold rowD mkD
  simp [h]
theorem mkD_row_length (Ls : List (List (Int × Int))) (j i : Nat) (h : i < Ls.length) : (rowD (mkD Ls j) i).length = (rowD Ls i).length := by
  rw [mkD_row Ls j i h]
  split
  · rw [marksDk_length]
  · rfl
theorem mkD_zero (Ls : List (List (Int × Int))) : mkD Ls 0 = Ls := by
  apply List.ext_getElem
  · exact mkD_length Ls 0
  · intro i h1 h2
    have := mkD_row Ls 0 i h2
    unfold rowD at this
    simpa [h1, h2, mkD_length] using this

/-- what a function gives back that makes a list of lists of diagonals: in new memory, and whether it succeeds -/
def RetDD (w : World) (Ls : List (List (Int × Int))) (ok : Bool) (e : Ending) (w' : World) : Prop :=
  ∃ A c rs, e = .returned (.tuple #[.slice A Ls.length c, .bool ok]) ∧ OwnDD w' w.heap.size A c rs Ls ∧ Below w.heap.size w w'
end Go.Proofs.Ytlnnnjnboknoeaa
