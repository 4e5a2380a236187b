/- Words of mine for memory: lists of numbers and of pairs of numbers as cells of a row; a slice that reads as such a list. Nothing here speaks of the program. -/
import Derived.Test.YtgdlnjclnngnmaaRows
import Derived.WalkKit
import Derived.OwnWalk
import Derived.Outline
import Derived.WalkLawsBesides
import Derived.Deep.AppendLies
import Derived.Deep.Onto
import Derived.Lib.Hide
namespace Go.Proofs.Ytgdlnjclnngnmaa
open Go.RowKit

/-- the cells of a list of numbers -/
def ics (l : List Int) : List Value := l.map (.int .i64)
/-- the cells of a list of pairs -/
def dcs : List (Int × Int) → List Value
  | [] => []
  | d :: r => .int .i64 d.1 :: .int .i64 d.2 :: dcs r

theorem ics_length (l : List Int) : (ics l).length = l.length := by simp [ics]
theorem ics_get (l : List Int) (j : Nat) (h : j < l.length) : (ics l)[j]? = some (.int .i64 (l.getD j 0)) := by simp [ics, h]
theorem ics_set (l : List Int) (j : Nat) (a : Int) : (ics l).set j (.int .i64 a) = ics (l.set j a) := by simp [ics, List.map_set]
theorem ics_append (l r : List Int) : ics (l ++ r) = ics l ++ ics r := by simp [ics]
theorem ics_take (l : List Int) (n : Nat) : (ics l).take n = ics (l.take n) := by simp [ics]

theorem dcs_length (l : List (Int × Int)) : (dcs l).length = l.length * 2 := by
  induction l with
  | nil => rfl
  | cons d r ih => simp only [dcs, List.length_cons, ih]; omega
theorem dcs_get0 (l : List (Int × Int)) : ∀ j, j < l.length → (dcs l)[j * 2]? = some (.int .i64 (l.getD j (0, 0)).1) := by
  induction l with
  | nil => intro j h; simp at h
  | cons d r ih =>
    intro j h
    cases j with
    | zero => simp [dcs]
    | succ j =>
      have e : (j + 1) * 2 = j * 2 + 1 + 1 := by omega
      rw [e]
      simp only [dcs, List.getElem?_cons_succ, List.getD_cons_succ]
      exact ih j (by simpa using h)
theorem dcs_get1 (l : List (Int × Int)) : ∀ j, j < l.length → (dcs l)[j * 2 + 1]? = some (.int .i64 (l.getD j (0, 0)).2) := by
  induction l with
  | nil => intro j h; simp at h
  | cons d r ih =>
    intro j h
    cases j with
    | zero => simp [dcs]
    | succ j =>
      have e : (j + 1) * 2 + 1 = (j * 2 + 1) + 1 + 1 := by omega
      rw [e]
      simp only [dcs, List.getElem?_cons_succ, List.getD_cons_succ]
      exact ih j (by simpa using h)
theorem dcs_set0 (l : List (Int × Int)) (a : Int) : ∀ j, j < l.length → (dcs l).set (j * 2) (.int .i64 a) = dcs (l.set j (a, (l.getD j (0, 0)).2)) := by
  induction l with
  | nil => intro j h; simp at h
  | cons d r ih =>
    intro j h
    cases j with
    | zero => simp [dcs]
    | succ j =>
      have e : (j + 1) * 2 = j * 2 + 1 + 1 := by omega
      rw [e]
      simp only [dcs, List.set_cons_succ, List.getD_cons_succ]
      rw [ih j (by simpa using h)]
theorem dcs_set1 (l : List (Int × Int)) (b : Int) : ∀ j, j < l.length → (dcs l).set (j * 2 + 1) (.int .i64 b) = dcs (l.set j ((l.getD j (0, 0)).1, b)) := by
  induction l with
  | nil => intro j h; simp at h
  | cons d r ih =>
    intro j h
    cases j with
    | zero => simp [dcs]
    | succ j =>
      have e : (j + 1) * 2 + 1 = (j * 2 + 1) + 1 + 1 := by omega
      rw [e]
      simp only [dcs, List.set_cons_succ, List.getD_cons_succ]
      rw [ih j (by simpa using h)]
theorem dcs_append (l r : List (Int × Int)) : dcs (l ++ r) = dcs l ++ dcs r := by
  induction l with
  | nil => rfl
  | cons d l ih => simp [dcs, ih]

/-- a slice's value leads to the list of pairs, below block B -/
def SlD (w : World) (B : Nat) (A : Option Addr) (l : List (Int × Int)) : Prop :=
  0 < l.length → ∃ b off, A = some ⟨b, off, none⟩ ∧ b < B ∧
    ∀ j, j < l.length → w.cell? ⟨b, off + j * 2, none⟩ = some (.int .i64 (l.getD j (0, 0)).1) ∧ w.cell? ⟨b, off + j * 2 + 1, none⟩ = some (.int .i64 (l.getD j (0, 0)).2)
/-- a slice's value leads to the list of numbers, below block B -/
def SlI (w : World) (B : Nat) (A : Option Addr) (l : List Int) : Prop :=
  0 < l.length → ∃ b off, A = some ⟨b, off, none⟩ ∧ b < B ∧ ∀ j, j < l.length → w.cell? ⟨b, off + j, none⟩ = some (.int .i64 (l.getD j 0))

section
variable {w w' : World} {B B' : Nat} {A : Option Addr}
theorem SlD.nil_ : SlD w B A [] := fun h => by simp at h
theorem SlI.nil_ : SlI w B A [] := fun h => by simp at h
theorem SlD.keep {l : List (Int × Int)} (h : SlD w B A l) (hk : ∀ b o, b < B → w'.cell? ⟨b, o, none⟩ = w.cell? ⟨b, o, none⟩) : SlD w' B A l := fun h0 => by
  obtain ⟨b, off, e, hb, hc⟩ := h h0
  exact ⟨b, off, e, hb, fun j hj => ⟨(hk _ _ hb).trans (hc j hj).1, (hk _ _ hb).trans (hc j hj).2⟩⟩
theorem SlI.keep {l : List Int} (h : SlI w B A l) (hk : ∀ b o, b < B → w'.cell? ⟨b, o, none⟩ = w.cell? ⟨b, o, none⟩) : SlI w' B A l := fun h0 => by
  obtain ⟨b, off, e, hb, hc⟩ := h h0
  exact ⟨b, off, e, hb, fun j hj => (hk _ _ hb).trans (hc j hj)⟩
theorem SlD.below {l : List (Int × Int)} (h : SlD w B A l) (hb : Below B w w') : SlD w' B A l := h.keep fun _ _ hp => hb.cell hp
theorem SlI.below {l : List Int} (h : SlI w B A l) (hb : Below B w w') : SlI w' B A l := h.keep fun _ _ hp => hb.cell hp
theorem SlD.mono {l : List (Int × Int)} (h : SlD w B A l) (hB : B ≤ B') : SlD w B' A l := fun h0 => by
  obtain ⟨b, off, e, hb, hc⟩ := h h0
  exact ⟨b, off, e, by omega, hc⟩
theorem SlI.mono {l : List Int} (h : SlI w B A l) (hB : B ≤ B') : SlI w B' A l := fun h0 => by
  obtain ⟨b, off, e, hb, hc⟩ := h h0
  exact ⟨b, off, e, by omega, hc⟩
theorem SlD.of_own {base : Nat} {e : TypeId} {l : List (Int × Int)} {c : Nat} {n : Nat} (h : w.ownsRow base e 2 (.slice A n c) n (dcs l)) : SlD w w.heap.size A l := fun h0 => by
  have hn : n = l.length := by have := h.1; rw [dcs_length] at this; omega
  subst hn
  obtain ⟨g, cap, hv, _, hlt⟩ := h.form h0
  have hA : A = some ⟨g, 0, none⟩ := by injection hv
  subst hA
  refine ⟨g, 0, rfl, hlt, fun j hj => ⟨?_, ?_⟩⟩
  · rw [Nat.zero_add, h.cellAt _ (by omega), dcs_get0 l j hj]
  · rw [Nat.zero_add, h.cellAt _ (by omega), dcs_get1 l j hj]
theorem SlI.of_own {base : Nat} {e : TypeId} {l : List Int} {c : Nat} {n : Nat} (h : w.ownsRow base e 1 (.slice A n c) n (ics l)) : SlI w w.heap.size A l := fun h0 => by
  have hn : n = l.length := by have := h.1; rw [ics_length] at this; omega
  subst hn
  obtain ⟨g, cap, hv, _, hlt⟩ := h.form h0
  have hA : A = some ⟨g, 0, none⟩ := by injection hv
  subst hA
  refine ⟨g, 0, rfl, hlt, fun j hj => ?_⟩
  rw [Nat.zero_add, h.cellAt _ (by omega), ics_get l j hj]
end

/-- behind a contract that ends in 'Below': old cells and marks read as before -/
theorem bcell {W w1 : World} (hb : Below W.heap.size W w1) : (∀ b o, b < W.heap.size → w1.cell? ⟨b, o, none⟩ = W.cell? ⟨b, o, none⟩) ∧ (∀ b o, b < W.heap.size → w1.frozen? ⟨b, o, none⟩ = W.frozen? ⟨b, o, none⟩) ∧ W.heap.size ≤ w1.heap.size :=
  ⟨fun b o h => hb.cell (p := ⟨b, o, none⟩) h, fun b o h => hb.frozen (p := ⟨b, o, none⟩) h, hb.size⟩

/-- two pairs in blocks of the call's own, B and B + 1; nothing older has turned -/
def Two (w0 : World) (a b c d : Int) (w' : World) : Prop :=
  w'.cell? ⟨w0.heap.size, 0, none⟩ = some (.int .i64 a) ∧ w'.cell? ⟨w0.heap.size, 1, none⟩ = some (.int .i64 b) ∧
  w'.cell? ⟨w0.heap.size + 1, 0, none⟩ = some (.int .i64 c) ∧ w'.cell? ⟨w0.heap.size + 1, 1, none⟩ = some (.int .i64 d) ∧ Below w0.heap.size w0 w' ∧ w0.heap.size + 2 ≤ w'.heap.size
theorem Two.drew {w0 w : World} {a b c d : Int} (h : Two w0 a b c d w) : Two w0 a b c d w.drew :=
  ⟨h.1, h.2.1, h.2.2.1, h.2.2.2.1, h.2.2.2.2.1.drew, h.2.2.2.2.2⟩
theorem Two.kept {w0 w w' : World} {a b c d : Int} (h : Two w0 a b c d w) (hb : Below w.heap.size w w') : Two w0 a b c d w' := by
  obtain ⟨h0, h1, h2, h3, h4, h5⟩ := h
  refine ⟨?_, ?_, ?_, ?_, h4.trans (hb.mono (by omega)), by have := hb.size; omega⟩
  · rw [hb.cell (by show w0.heap.size < _; omega)]; exact h0
  · rw [hb.cell (by show w0.heap.size < _; omega)]; exact h1
  · rw [hb.cell (by show w0.heap.size + 1 < _; omega)]; exact h2
  · rw [hb.cell (by show w0.heap.size + 1 < _; omega)]; exact h3

end Go.Proofs.Ytgdlnjclnngnmaa
