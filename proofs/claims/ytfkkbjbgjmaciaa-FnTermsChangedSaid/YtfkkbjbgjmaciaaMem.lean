/- Words of mine for memory: lists of numbers and of pairs of numbers as cells of a row; a slice that reads as such a list. Nothing here speaks of the program. -/
import Derived.Test.YtfkkbjbgjmaciaaRows
import Derived.Test.YtfkkbjbgjmaciaaRows
import Derived.WalkKit
import Derived.OwnWalk
import Derived.Outline
import Derived.WalkLawsBesides
import Derived.Deep.AppendLies
import Derived.Deep.Onto
import Derived.Lib.Hide
import Derived.Deep.Draws
import Derived.WalkSmall
namespace Go.Proofs.Ytfkkbjbgjmaciaa
set_option linter.unusedVariables false
open Go.RowKit

/-- the cells of a list of numbers -/
def ics (l : List Int) : List Value := l.map (.int .i64)
/-- the cells of a list of pairs -/
def dcs : List (Int × Int) → List Value
  | [] => []
  | d :: r => .int .i64 d.1 :: .int .i64 d.2 :: dcs r

theorem ics_length (l : List Int) : (ics l).length = l.length := by simp [ics]
theorem ics_get (l : List Int) (j : Nat) (h : j < l.length) : (ics l)[j]? = some (.int .i64 (l.getD j 0)) := by simp [ics, h]
theorem ics_set (l : List Int) (j : Nat) (a : Int) : (ics l).set j (.int .i64 a) = ics (l.set j a) := by simp [ics, List.map_set]
theorem ics_append (l r : List Int) : ics (l ++ r) = ics l ++ ics r := by simp [ics]
theorem ics_take (l : List Int) (n : Nat) : (ics l).take n = ics (l.take n) := by simp [ics]

theorem dcs_length (l : List (Int × Int)) : (dcs l).length = l.length * 2 := by
  induction l with
  | nil => rfl
  | cons d r ih => simp only [dcs, List.length_cons, ih]; omega
theorem dcs_get0 (l : List (Int × Int)) : ∀ j, j < l.length → (dcs l)[j * 2]? = some (.int .i64 (l.getD j (0, 0)).1) := by
  induction l with
  | nil => intro j h; simp at h
  | cons d r ih =>
    intro j h
    cases j with
    | zero => simp [dcs]
    | succ j =>
      have e : (j + 1) * 2 = j * 2 + 1 + 1 := by omega
      rw [e]
      simp only [dcs, List.getElem?_cons_succ, List.getD_cons_succ]
      exact ih j (by simpa using h)
theorem dcs_get1 (l : List (Int × Int)) : ∀ j, j < l.length → (dcs l)[j * 2 + 1]? = some (.int .i64 (l.getD j (0, 0)).2) := by
  induction l with
  | nil => intro j h; simp at h
  | cons d r ih =>
    intro j h
    cases j with
    | zero => simp [dcs]
    | succ j =>
      have e : (j + 1) * 2 + 1 = (j * 2 + 1) + 1 + 1 := by omega
      rw [e]
      simp only [dcs, List.getElem?_cons_succ, List.getD_cons_succ]
      exact ih j (by simpa using h)
theorem dcs_set0 (l : List (Int × Int)) (a : Int) : ∀ j, j < l.length → (dcs l).set (j * 2) (.int .i64 a) = dcs (l.set j (a, (l.getD j (0, 0)).2)) := by
  induction l with
  | nil => intro j h; simp at h
  | cons d r ih =>
    intro j h
    cases j with
    | zero => simp [dcs]
    | succ j =>
      have e : (j + 1) * 2 = j * 2 + 1 + 1 := by omega
      rw [e]
      simp only [dcs, List.set_cons_succ, List.getD_cons_succ]
      rw [ih j (by simpa using h)]
theorem dcs_set1 (l : List (Int × Int)) (b : Int) : ∀ j, j < l.length → (dcs l).set (j * 2 + 1) (.int .i64 b) = dcs (l.set j ((l.getD j (0, 0)).1, b)) := by
  induction l with
  | nil => intro j h; simp at h
  | cons d r ih =>
    intro j h
    cases j with
    | zero => simp [dcs]
    | succ j =>
      have e : (j + 1) * 2 + 1 = (j * 2 + 1) + 1 + 1 := by omega
      rw [e]
      simp only [dcs, List.set_cons_succ, List.getD_cons_succ]
      rw [ih j (by simpa using h)]
theorem dcs_append (l r : List (Int × Int)) : dcs (l ++ r) = dcs l ++ dcs r := by
  induction l with
  | nil => rfl
  | cons d l ih => simp [dcs, ih]

/-- a slice's value leads to the list of pairs, below block B -/
def SlD (w : World) (B : Nat) (A : Option Addr) (l : List (Int × Int)) : Prop :=
  0 < l.length → ∃ b off, A = some ⟨b, off, none⟩ ∧ b < B ∧
    ∀ j, j < l.length → w.cell? ⟨b, off + j * 2, none⟩ = some (.int .i64 (l.getD j (0, 0)).1) ∧ w.cell? ⟨b, off + j * 2 + 1, none⟩ = some (.int .i64 (l.getD j (0, 0)).2)
/-- a slice's value leads to the list of numbers, below block B -/
def SlI (w : World) (B : Nat) (A : Option Addr) (l : List Int) : Prop :=
  0 < l.length → ∃ b off, A = some ⟨b, off, none⟩ ∧ b < B ∧ ∀ j, j < l.length → w.cell? ⟨b, off + j, none⟩ = some (.int .i64 (l.getD j 0))

section
variable {w w' : World} {B B' : Nat} {A : Option Addr}
theorem SlD.nil_ : SlD w B A [] := fun h => by simp at h
theorem SlI.nil_ : SlI w B A [] := fun h => by simp at h
theorem SlD.keep {l : List (Int × Int)} (h : SlD w B A l) (hk : ∀ b o, b < B → w'.cell? ⟨b, o, none⟩ = w.cell? ⟨b, o, none⟩) : SlD w' B A l := fun h0 => by
  obtain ⟨b, off, e, hb, hc⟩ := h h0
  exact ⟨b, off, e, hb, fun j hj => ⟨(hk _ _ hb).trans (hc j hj).1, (hk _ _ hb).trans (hc j hj).2⟩⟩
theorem SlI.keep {l : List Int} (h : SlI w B A l) (hk : ∀ b o, b < B → w'.cell? ⟨b, o, none⟩ = w.cell? ⟨b, o, none⟩) : SlI w' B A l := fun h0 => by
  obtain ⟨b, off, e, hb, hc⟩ := h h0
  exact ⟨b, off, e, hb, fun j hj => (hk _ _ hb).trans (hc j hj)⟩
theorem SlD.below {l : List (Int × Int)} (h : SlD w B A l) (hb : Below B w w') : SlD w' B A l := h.keep fun _ _ hp => hb.cell hp
theorem SlI.below {l : List Int} (h : SlI w B A l) (hb : Below B w w') : SlI w' B A l := h.keep fun _ _ hp => hb.cell hp
theorem SlD.take {l : List (Int × Int)} (h : SlD w B A l) (k : Nat) : SlD w B A (l.take k) := fun h0 => by
  have hl : (l.take k).length ≤ l.length := by simp; omega
  obtain ⟨b, off, e, hb, hc⟩ := h (by omega)
  refine ⟨b, off, e, hb, fun j hj => ?_⟩
  have e : (l.take k).getD j (0, 0) = l.getD j (0, 0) := by
    have : j < k := by simp at hj; omega
    simp [this]
  rw [e]
  exact hc j (by omega)
theorem SlI.take {l : List Int} (h : SlI w B A l) (k : Nat) : SlI w B A (l.take k) := fun h0 => by
  have hl : (l.take k).length ≤ l.length := by simp; omega
  obtain ⟨b, off, e, hb, hc⟩ := h (by omega)
  refine ⟨b, off, e, hb, fun j hj => ?_⟩
  have e : (l.take k).getD j 0 = l.getD j 0 := by
    have : j < k := by simp at hj; omega
    simp [this]
  rw [e]
  exact hc j (by omega)
theorem SlD.mono {l : List (Int × Int)} (h : SlD w B A l) (hB : B ≤ B') : SlD w B' A l := fun h0 => by
  obtain ⟨b, off, e, hb, hc⟩ := h h0
  exact ⟨b, off, e, by omega, hc⟩
theorem SlI.mono {l : List Int} (h : SlI w B A l) (hB : B ≤ B') : SlI w B' A l := fun h0 => by
  obtain ⟨b, off, e, hb, hc⟩ := h h0
  exact ⟨b, off, e, by omega, hc⟩
theorem SlD.drewN {l : List (Int × Int)} (h : SlD w B A l) (n : Nat) : SlD (w.drewN n) B A l := h
theorem SlI.drewN {l : List Int} (h : SlI w B A l) (n : Nat) : SlI (w.drewN n) B A l := h
theorem SlD.of_own {base : Nat} {e : TypeId} {l : List (Int × Int)} {c : Nat} {n : Nat} (h : w.ownsRow base e 2 (.slice A n c) n (dcs l)) : SlD w w.heap.size A l := fun h0 => by
  have hn : n = l.length := by have := h.1; rw [dcs_length] at this; omega
  subst hn
  obtain ⟨g, cap, hv, _, hlt⟩ := h.form h0
  have hA : A = some ⟨g, 0, none⟩ := by injection hv
  subst hA
  refine ⟨g, 0, rfl, hlt, fun j hj => ⟨?_, ?_⟩⟩
  · rw [Nat.zero_add, h.cellAt _ (by omega), dcs_get0 l j hj]
  · rw [Nat.zero_add, h.cellAt _ (by omega), dcs_get1 l j hj]
theorem SlI.of_own {base : Nat} {e : TypeId} {l : List Int} {c : Nat} {n : Nat} (h : w.ownsRow base e 1 (.slice A n c) n (ics l)) : SlI w w.heap.size A l := fun h0 => by
  have hn : n = l.length := by have := h.1; rw [ics_length] at this; omega
  subst hn
  obtain ⟨g, cap, hv, _, hlt⟩ := h.form h0
  have hA : A = some ⟨g, 0, none⟩ := by injection hv
  subst hA
  refine ⟨g, 0, rfl, hlt, fun j hj => ?_⟩
  rw [Nat.zero_add, h.cellAt _ (by omega), ics_get l j hj]
end

/-- behind a contract that ends in 'Below': old cells and marks read as before -/
theorem bcell {W w1 : World} (hb : Below W.heap.size W w1) : (∀ b o, b < W.heap.size → w1.cell? ⟨b, o, none⟩ = W.cell? ⟨b, o, none⟩) ∧ (∀ b o, b < W.heap.size → w1.frozen? ⟨b, o, none⟩ = W.frozen? ⟨b, o, none⟩) ∧ W.heap.size ≤ w1.heap.size :=
  ⟨fun b o h => hb.cell (p := ⟨b, o, none⟩) h, fun b o h => hb.frozen (p := ⟨b, o, none⟩) h, hb.size⟩

/-- what is owned is owned still behind what has turned nothing old -/
theorem own_kept {w w' : World} {base e size n : Nat} {v : Value} {xs : List Value} (h : w.ownsRow base e size v n xs) (hb : Below w.heap.size w w') : w'.ownsRow base e size v n xs :=
  h.kept (row := none) ⟨hb.os, hb.tape, hb.output, hb.size, fun k hk _ => hb.block k hk⟩ (by cases v.ownBlock <;> simp)
theorem own_drewN {w : World} {base e size n : Nat} {v : Value} {xs : List Value} (h : w.ownsRow base e size v n xs) (k : Nat) : (w.drewN k).ownsRow base e size v n xs := h
/-- rows of different elements don't share a block -/
theorem own_ne {w : World} {base base' e e' size size' n n' : Nat} {v v' : Value} {xs xs' : List Value} (h : w.ownsRow base e size v n xs) (h' : w.ownsRow base' e' size' v' n' xs') (hne : e ≠ e') : ∀ k, v.ownBlock = some k → some k ≠ v'.ownBlock := by
  intro k hk hk'
  rcases h.2 with ⟨rfl, _⟩ | ⟨g, cap, cur, rfl, _, hh, _⟩
  · simp [Value.ownBlock] at hk
  · rcases h'.2 with ⟨rfl, _⟩ | ⟨g', cap', cur', rfl, _, hh', _⟩
    · simp [Value.ownBlock] at hk'
    · simp [Value.ownBlock] at hk hk'
      subst hk hk'
      rw [hh] at hh'
      injection hh' with hh'
      injection hh' with _ ht
      exact hne ht
/-- a cell that is there is still there behind what has turned nothing old -/
theorem cell_kept {w w' : World} (hb : Below w.heap.size w w') {p : Addr} {v : Value} (h : w.cell? p = some v) : w'.cell? p = some v := (hb.cell (World.block_lt_of_cell? w p h)).trans h
theorem below_kept {B : Nat} {w0 w w' : World} (h : Below B w0 w) (hB : B ≤ w0.heap.size) (hb : Below w.heap.size w w') : Below B w0 w' := h.trans (hb.mono (Nat.le_trans hB h.size))
theorem kept1 {B : Nat} {w0 w w' : World} {p0 : Addr} {v0 : Value} (h : w.cell? p0 = some v0 ∧ Below B w0 w) (hb : Below w.heap.size w w') (hB : B ≤ w0.heap.size) : w'.cell? p0 = some v0 ∧ Below B w0 w' := by
  obtain ⟨h0, hz⟩ := h
  exact ⟨cell_kept hb h0, below_kept hz hB hb⟩
theorem drew1 {B : Nat} {w0 w : World} {p0 : Addr} {v0 : Value} (h : w.cell? p0 = some v0 ∧ Below B w0 w) : w.drew.cell? p0 = some v0 ∧ Below B w0 w.drew := by
  obtain ⟨h0, hz⟩ := h
  exact ⟨h0, hz.drew⟩
theorem kept2 {B : Nat} {w0 w w' : World} {p0 p1 : Addr} {v0 v1 : Value} (h : w.cell? p0 = some v0 ∧ w.cell? p1 = some v1 ∧ Below B w0 w) (hb : Below w.heap.size w w') (hB : B ≤ w0.heap.size) : w'.cell? p0 = some v0 ∧ w'.cell? p1 = some v1 ∧ Below B w0 w' := by
  obtain ⟨h0, h1, hz⟩ := h
  exact ⟨cell_kept hb h0, cell_kept hb h1, below_kept hz hB hb⟩
theorem drew2 {B : Nat} {w0 w : World} {p0 p1 : Addr} {v0 v1 : Value} (h : w.cell? p0 = some v0 ∧ w.cell? p1 = some v1 ∧ Below B w0 w) : w.drew.cell? p0 = some v0 ∧ w.drew.cell? p1 = some v1 ∧ Below B w0 w.drew := by
  obtain ⟨h0, h1, hz⟩ := h
  exact ⟨h0, h1, hz.drew⟩
theorem kept3 {B : Nat} {w0 w w' : World} {p0 p1 p2 : Addr} {v0 v1 v2 : Value} (h : w.cell? p0 = some v0 ∧ w.cell? p1 = some v1 ∧ w.cell? p2 = some v2 ∧ Below B w0 w) (hb : Below w.heap.size w w') (hB : B ≤ w0.heap.size) : w'.cell? p0 = some v0 ∧ w'.cell? p1 = some v1 ∧ w'.cell? p2 = some v2 ∧ Below B w0 w' := by
  obtain ⟨h0, h1, h2, hz⟩ := h
  exact ⟨cell_kept hb h0, cell_kept hb h1, cell_kept hb h2, below_kept hz hB hb⟩
theorem drew3 {B : Nat} {w0 w : World} {p0 p1 p2 : Addr} {v0 v1 v2 : Value} (h : w.cell? p0 = some v0 ∧ w.cell? p1 = some v1 ∧ w.cell? p2 = some v2 ∧ Below B w0 w) : w.drew.cell? p0 = some v0 ∧ w.drew.cell? p1 = some v1 ∧ w.drew.cell? p2 = some v2 ∧ Below B w0 w.drew := by
  obtain ⟨h0, h1, h2, hz⟩ := h
  exact ⟨h0, h1, h2, hz.drew⟩
theorem kept4 {B : Nat} {w0 w w' : World} {p0 p1 p2 p3 : Addr} {v0 v1 v2 v3 : Value} (h : w.cell? p0 = some v0 ∧ w.cell? p1 = some v1 ∧ w.cell? p2 = some v2 ∧ w.cell? p3 = some v3 ∧ Below B w0 w) (hb : Below w.heap.size w w') (hB : B ≤ w0.heap.size) : w'.cell? p0 = some v0 ∧ w'.cell? p1 = some v1 ∧ w'.cell? p2 = some v2 ∧ w'.cell? p3 = some v3 ∧ Below B w0 w' := by
  obtain ⟨h0, h1, h2, h3, hz⟩ := h
  exact ⟨cell_kept hb h0, cell_kept hb h1, cell_kept hb h2, cell_kept hb h3, below_kept hz hB hb⟩
theorem drew4 {B : Nat} {w0 w : World} {p0 p1 p2 p3 : Addr} {v0 v1 v2 v3 : Value} (h : w.cell? p0 = some v0 ∧ w.cell? p1 = some v1 ∧ w.cell? p2 = some v2 ∧ w.cell? p3 = some v3 ∧ Below B w0 w) : w.drew.cell? p0 = some v0 ∧ w.drew.cell? p1 = some v1 ∧ w.drew.cell? p2 = some v2 ∧ w.drew.cell? p3 = some v3 ∧ Below B w0 w.drew := by
  obtain ⟨h0, h1, h2, h3, hz⟩ := h
  exact ⟨h0, h1, h2, h3, hz.drew⟩
theorem kept5 {B : Nat} {w0 w w' : World} {p0 p1 p2 p3 p4 : Addr} {v0 v1 v2 v3 v4 : Value} (h : w.cell? p0 = some v0 ∧ w.cell? p1 = some v1 ∧ w.cell? p2 = some v2 ∧ w.cell? p3 = some v3 ∧ w.cell? p4 = some v4 ∧ Below B w0 w) (hb : Below w.heap.size w w') (hB : B ≤ w0.heap.size) : w'.cell? p0 = some v0 ∧ w'.cell? p1 = some v1 ∧ w'.cell? p2 = some v2 ∧ w'.cell? p3 = some v3 ∧ w'.cell? p4 = some v4 ∧ Below B w0 w' := by
  obtain ⟨h0, h1, h2, h3, h4, hz⟩ := h
  exact ⟨cell_kept hb h0, cell_kept hb h1, cell_kept hb h2, cell_kept hb h3, cell_kept hb h4, below_kept hz hB hb⟩
theorem drew5 {B : Nat} {w0 w : World} {p0 p1 p2 p3 p4 : Addr} {v0 v1 v2 v3 v4 : Value} (h : w.cell? p0 = some v0 ∧ w.cell? p1 = some v1 ∧ w.cell? p2 = some v2 ∧ w.cell? p3 = some v3 ∧ w.cell? p4 = some v4 ∧ Below B w0 w) : w.drew.cell? p0 = some v0 ∧ w.drew.cell? p1 = some v1 ∧ w.drew.cell? p2 = some v2 ∧ w.drew.cell? p3 = some v3 ∧ w.drew.cell? p4 = some v4 ∧ Below B w0 w.drew := by
  obtain ⟨h0, h1, h2, h3, h4, hz⟩ := h
  exact ⟨h0, h1, h2, h3, h4, hz.drew⟩
theorem kept6 {B : Nat} {w0 w w' : World} {p0 p1 p2 p3 p4 p5 : Addr} {v0 v1 v2 v3 v4 v5 : Value} (h : w.cell? p0 = some v0 ∧ w.cell? p1 = some v1 ∧ w.cell? p2 = some v2 ∧ w.cell? p3 = some v3 ∧ w.cell? p4 = some v4 ∧ w.cell? p5 = some v5 ∧ Below B w0 w) (hb : Below w.heap.size w w') (hB : B ≤ w0.heap.size) : w'.cell? p0 = some v0 ∧ w'.cell? p1 = some v1 ∧ w'.cell? p2 = some v2 ∧ w'.cell? p3 = some v3 ∧ w'.cell? p4 = some v4 ∧ w'.cell? p5 = some v5 ∧ Below B w0 w' := by
  obtain ⟨h0, h1, h2, h3, h4, h5, hz⟩ := h
  exact ⟨cell_kept hb h0, cell_kept hb h1, cell_kept hb h2, cell_kept hb h3, cell_kept hb h4, cell_kept hb h5, below_kept hz hB hb⟩
theorem drew6 {B : Nat} {w0 w : World} {p0 p1 p2 p3 p4 p5 : Addr} {v0 v1 v2 v3 v4 v5 : Value} (h : w.cell? p0 = some v0 ∧ w.cell? p1 = some v1 ∧ w.cell? p2 = some v2 ∧ w.cell? p3 = some v3 ∧ w.cell? p4 = some v4 ∧ w.cell? p5 = some v5 ∧ Below B w0 w) : w.drew.cell? p0 = some v0 ∧ w.drew.cell? p1 = some v1 ∧ w.drew.cell? p2 = some v2 ∧ w.drew.cell? p3 = some v3 ∧ w.drew.cell? p4 = some v4 ∧ w.drew.cell? p5 = some v5 ∧ Below B w0 w.drew := by
  obtain ⟨h0, h1, h2, h3, h4, h5, hz⟩ := h
  exact ⟨h0, h1, h2, h3, h4, h5, hz.drew⟩
theorem sld2 {w0 w : World} {B : Nat} {A : Option Addr} {l : List (Int × Int)} {p0 p1 : Addr} {v0 v1 : Value} (h : SlD w0 B A l) (hB : B ≤ w0.heap.size) (k : Nat) (hS : w.cell? p0 = some v0 ∧ w.cell? p1 = some v1 ∧ Below w0.heap.size w0 w) : SlD w B A (l.take k) :=
  (h.below (hS.2.2.mono hB)).take k
theorem sz2 {w0 w : World} {B : Nat} {p0 p1 : Addr} {v0 v1 : Value} (hB : B ≤ w0.heap.size) (hS : w.cell? p0 = some v0 ∧ w.cell? p1 = some v1 ∧ Below w0.heap.size w0 w) : B ≤ w.heap.size := Nat.le_trans hB hS.2.2.size

end Go.Proofs.Ytfkkbjbgjmaciaa
