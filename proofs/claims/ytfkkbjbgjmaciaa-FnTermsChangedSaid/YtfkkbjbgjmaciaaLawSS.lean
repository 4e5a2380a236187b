/- Contracts of the laws' own helpers over slices of slices of numbers: compared, marked, held; and how such lists lie in memory. -/
import Derived.Test.YtfkkbjbgjmaciaaLawM
import Derived.Deep.QuietTactic
import Derived.BigQuiet
namespace Go.Proofs.Ytfkkbjbgjmaciaa
set_option linter.unusedVariables false
open Go.RowKit

def rowOf (Ls : List (List Int)) (j : Nat) : List Int := Ls.getD j []
def rvOf (rs : List Value) (j : Nat) : Value := rs.getD j (.slice none 0 0)
/-- a slice's value leads to slices that lead to the lists, all below block B -/
def SlSS (w : World) (B : Nat) (A : Option Addr) (Ls : List (List Int)) : Prop :=
  0 < Ls.length → ∃ b off, A = some ⟨b, off, none⟩ ∧ b < B ∧ ∀ j, j < Ls.length → ∃ Aj cj, w.cell? ⟨b, off + j, none⟩ = some (.slice Aj (rowOf Ls j).length cj) ∧ SlI w B Aj (rowOf Ls j)
theorem SlSS.keep {w w' : World} {B : Nat} {A : Option Addr} {Ls : List (List Int)} (h : SlSS w B A Ls) (hk : ∀ b o, b < B → w'.cell? ⟨b, o, none⟩ = w.cell? ⟨b, o, none⟩) : SlSS w' B A Ls := fun h0 => by
  obtain ⟨b, off, e, hb, hc⟩ := h h0
  refine ⟨b, off, e, hb, fun j hj => ?_⟩
  obtain ⟨Aj, cj, h1, h2⟩ := hc j hj
  exact ⟨Aj, cj, (hk _ _ hb).trans h1, h2.keep hk⟩
theorem SlSS.drewN {w : World} {B : Nat} {A : Option Addr} {Ls : List (List Int)} (h : SlSS w B A Ls) (z : Nat) : SlSS (w.drewN z) B A Ls := h
theorem SlSS.below {w w' : World} {B : Nat} {A : Option Addr} {Ls : List (List Int)} (h : SlSS w B A Ls) (hb : Below B w w') : SlSS w' B A Ls := h.keep fun _ _ hp => hb.cell hp
/-- rows of rows of the call's own: the outer one's cells are the slices' values; no two inner ones share a block -/
def OwnSS (w : World) (base : Nat) (A : Option Addr) (c : Nat) (rs : List Value) (Ls : List (List Int)) : Prop :=
  rs.length = Ls.length ∧ w.ownsRow base 24 1 (.slice A Ls.length c) Ls.length rs ∧ (∀ j, j < Ls.length → w.ownsRow base 3 1 (rvOf rs j) (rowOf Ls j).length (ics (rowOf Ls j))) ∧
    (∀ i j, i < Ls.length → j < Ls.length → i ≠ j → ∀ k, (rvOf rs i).ownBlock = some k → some k ≠ (rvOf rs j).ownBlock)
section
variable {w w' : World} {base : Nat} {A : Option Addr} {c : Nat} {rs : List Value} {Ls : List (List Int)}
theorem OwnSS.nil_ : OwnSS w base none 0 [] [] := ⟨rfl, World.ownsRow_nil _ _ _ _, fun j hj => by simp at hj, fun i j hi => by simp at hi⟩
theorem OwnSS.mono {base' : Nat} (h : OwnSS w base A c rs Ls) (hb : base' ≤ base) : OwnSS w base' A c rs Ls := ⟨h.1, h.2.1.mono hb, fun j hj => (h.2.2.1 j hj).mono hb, h.2.2.2⟩
theorem OwnSS.kept (h : OwnSS w base A c rs Ls) (hb : Below w.heap.size w w') : OwnSS w' base A c rs Ls := ⟨h.1, own_kept h.2.1 hb, fun j hj => own_kept (h.2.2.1 j hj) hb, h.2.2.2⟩
theorem OwnSS.far {row : Option Nat} (h : OwnSS w base A c rs Ls) (hg : w.grownBy w' row) (hr : ∀ k, row = some k → k < base) : OwnSS w' base A c rs Ls := by
  have hne : ∀ {e n : Nat} {v : Value} {xs : List Value}, w.ownsRow base e 1 v n xs → ∀ k, v.ownBlock = some k → some k ≠ row := fun ho k hk e => by
    have h1 := (ho.lt k hk).1
    have h2 := hr k e.symm
    omega
  exact ⟨h.1, own_far h.2.1 hg (hne h.2.1), fun j hj => own_far (h.2.2.1 j hj) hg (hne (h.2.2.1 j hj)), h.2.2.2⟩
theorem rv_get {rs : List Value} {j : Nat} (h : j < rs.length) : rs[j]? = some (rvOf rs j) := by
  unfold rvOf
  simp [h]
theorem OwnSS.outer (h : OwnSS w base A c rs Ls) (h0 : 0 < Ls.length) : ∃ g, A = some ⟨g, 0, none⟩ ∧ base ≤ g ∧ g < w.heap.size ∧ ∀ j, j < Ls.length → w.cell? ⟨g, j, none⟩ = some (rvOf rs j) := by
  obtain ⟨g, cap, hv, hb, hlt⟩ := h.2.1.form h0
  have hA : A = some ⟨g, 0, none⟩ := by injection hv
  subst hA
  refine ⟨g, rfl, hb, hlt, fun j hj => ?_⟩
  have := h.2.1.cellAt j (by omega)
  rw [this, rv_get (by rw [h.1]; exact hj)]
theorem OwnSS.sl (h : OwnSS w base A c rs Ls) : SlSS w w.heap.size A Ls := fun h0 => by
  obtain ⟨g, rfl, hb, hlt, hc⟩ := h.outer h0
  refine ⟨g, 0, rfl, hlt, fun j hj => ?_⟩
  have ho := h.2.2.1 j hj
  obtain ⟨Aj, cj, hv⟩ := own_form ho
  have hcj := hc j hj
  rw [hv] at hcj ho
  exact ⟨Aj, cj, by rw [Nat.zero_add]; exact hcj, SlI.of_own ho⟩
end

/-- how many numbers the first j lists have -/
def pre (Ls : List (List Int)) (j : Nat) : Nat := ((Ls.take j).map List.length).sum
theorem pre_zero (Ls : List (List Int)) : pre Ls 0 = 0 := by simp [pre]
theorem pre_succ (Ls : List (List Int)) (j : Nat) (h : j < Ls.length) : pre Ls (j + 1) = pre Ls j + (rowOf Ls j).length := by
  unfold pre rowOf
  rw [List.take_succ_eq_append_getElem h]
  simp only [List.map_append, List.sum_append, List.map_cons, List.map_nil, List.sum_cons, List.sum_nil]
  simp [h]
theorem pre_le (Ls : List (List Int)) (j d : Nat) (h : j + d ≤ Ls.length) : pre Ls j ≤ pre Ls (j + d) := by
  induction d with
  | zero => exact Nat.le_refl _
  | succ d ih =>
    have := ih (by omega)
    rw [show j + (d + 1) = (j + d) + 1 by omega, pre_succ Ls (j + d) (by omega)]
    omega
/-- the first j lists marked, one after the other, from 1 on -/
def mkd (Ls : List (List Int)) (j : Nat) : List (List Int) := (List.range Ls.length).map fun i => if i < j then marksI (rowOf Ls i).length (1 + (pre Ls i : Int)) else rowOf Ls i
theorem mkd_length (Ls : List (List Int)) (j : Nat) : (mkd Ls j).length = Ls.length := by simp [mkd]
theorem mkd_row (Ls : List (List Int)) (j i : Nat) (h : i < Ls.length) : rowOf (mkd Ls j) i = if i < j then marksI (rowOf Ls i).length (1 + (pre Ls i : Int)) else rowOf Ls i := by
  conv => lhs; unfold rowOf mkd
  simp [h]
theorem mkd_row_length (Ls : List (List Int)) (j i : Nat) (h : i < Ls.length) : (rowOf (mkd Ls j) i).length = (rowOf Ls i).length := by
  rw [mkd_row Ls j i h]
  split
  · rw [marksI_length]
  · rfl
theorem mkd_zero (Ls : List (List Int)) : mkd Ls 0 = Ls := by
  apply List.ext_getElem
  · exact mkd_length Ls 0
  · intro i h1 h2
    have := mkd_row Ls 0 i h2
    unfold rowOf at this
    simpa [h1, h2, mkd_length] using this

def halfK (l : List Int) (k : Nat) (m : Int) : List Int := marksI k m ++ l.drop k
theorem halfK_length (l : List Int) (k : Nat) (m : Int) (h : k ≤ l.length) : (halfK l k m).length = l.length := by simp [halfK, marksI_length]; omega
theorem halfK_zero (l : List Int) (m : Int) : halfK l 0 m = l := by simp [halfK, marksI]
theorem halfK_all (l : List Int) (m : Int) : halfK l l.length m = marksI l.length m := by simp [halfK]
theorem halfK_succ (l : List Int) (k : Nat) (m : Int) (h : k < l.length) : (halfK l k m).set k (m + (k : Int)) = halfK l (k + 1) m := by
  unfold halfK
  rw [marksI_succ, List.set_append_right _ _ (by simp [marksI_length])]
  simp only [marksI_length, Nat.sub_self, List.append_assoc]
  congr 1
  rw [List.drop_eq_getElem_cons h, List.set_cons_zero]
  rfl

/-- what a function gives back that makes a list of lists: in new memory, and whether it succeeds -/
def RetSS (w : World) (Ls : List (List Int)) (ok : Bool) (e : Ending) (w' : World) : Prop :=
  ∃ A c rs, e = .returned (.tuple #[.slice A Ls.length c, .bool ok]) ∧ OwnSS w' w.heap.size A c rs Ls ∧ Below w.heap.size w w'
end Go.Proofs.Ytfkkbjbgjmaciaa
