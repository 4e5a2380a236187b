/- Part 1 of 8 of the proof of the law WordsTold, no condition: one text out of several, since a claim holds 60 files at most. -/
import Derived.Test.YtfkkbjbgjmaciaaRows
import Derived.WalkKit
import Derived.OwnWalk
import Derived.Outline
import Derived.WalkLawsBesides
import Derived.Deep.AppendLies
import Derived.Deep.Onto
import Derived.Lib.Hide
import Derived.Deep.Draws
import Derived.WalkSmall
import Derived.Deep.RegionHeld3
import Derived.Deep.QuietTactic
import Derived.BigQuiet
import Derived.Laws.AppendOwnNone
import Derived.IntWalk
/- Words of mine for memory: lists of numbers and of pairs of numbers as cells of a row; a slice that reads as such a list. Nothing here speaks of the program. -/
namespace Go.Proofs.Ytfkkbjbgjmaciaa
set_option linter.unusedVariables false
open Go.RowKit

/-- the cells of a list of numbers -/
def ics (l : List Int) : List Value := l.map (.int .i64)
/-- the cells of a list of pairs -/
def dcs : List (Int × Int) → List Value
  | [] => []
  | d :: r => .int .i64 d.1 :: .int .i64 d.2 :: dcs r

theorem ics_length (l : List Int) : (ics l).length = l.length := by simp [ics]
theorem ics_get (l : List Int) (j : Nat) (h : j < l.length) : (ics l)[j]? = some (.int .i64 (l.getD j 0)) := by simp [ics, h]
theorem ics_set (l : List Int) (j : Nat) (a : Int) : (ics l).set j (.int .i64 a) = ics (l.set j a) := by simp [ics, List.map_set]
theorem ics_append (l r : List Int) : ics (l ++ r) = ics l ++ ics r := by simp [ics]
theorem ics_take (l : List Int) (n : Nat) : (ics l).take n = ics (l.take n) := by simp [ics]

theorem dcs_length (l : List (Int × Int)) : (dcs l).length = l.length * 2 := by
  induction l with
  | nil => rfl
  | cons d r ih => simp only [dcs, List.length_cons, ih]; omega
theorem dcs_get0 (l : List (Int × Int)) : ∀ j, j < l.length → (dcs l)[j * 2]? = some (.int .i64 (l.getD j (0, 0)).1) := by
  induction l with
  | nil => intro j h; simp at h
  | cons d r ih =>
    intro j h
    cases j with
    | zero => simp [dcs]
    | succ j =>
      have e : (j + 1) * 2 = j * 2 + 1 + 1 := by omega
      rw [e]
      simp only [dcs, List.getElem?_cons_succ, List.getD_cons_succ]
      exact ih j (by simpa using h)
theorem dcs_get1 (l : List (Int × Int)) : ∀ j, j < l.length → (dcs l)[j * 2 + 1]? = some (.int .i64 (l.getD j (0, 0)).2) := by
  induction l with
  | nil => intro j h; simp at h
  | cons d r ih =>
    intro j h
    cases j with
    | zero => simp [dcs]
    | succ j =>
      have e : (j + 1) * 2 + 1 = (j * 2 + 1) + 1 + 1 := by omega
      rw [e]
      simp only [dcs, List.getElem?_cons_succ, List.getD_cons_succ]
      exact ih j (by simpa using h)
theorem dcs_set0 (l : List (Int × Int)) (a : Int) : ∀ j, j < l.length → (dcs l).set (j * 2) (.int .i64 a) = dcs (l.set j (a, (l.getD j (0, 0)).2)) := by
  induction l with
  | nil => intro j h; simp at h
  | cons d r ih =>
    intro j h
    cases j with
    | zero => simp [dcs]
    | succ j =>
      have e : (j + 1) * 2 = j * 2 + 1 + 1 := by omega
      rw [e]
      simp only [dcs, List.set_cons_succ, List.getD_cons_succ]
      rw [ih j (by simpa using h)]
theorem dcs_set1 (l : List (Int × Int)) (b : Int) : ∀ j, j < l.length → (dcs l).set (j * 2 + 1) (.int .i64 b) = dcs (l.set j ((l.getD j (0, 0)).1, b)) := by
  induction l with
  | nil => intro j h; simp at h
  | cons d r ih =>
    intro j h
    cases j with
    | zero => simp [dcs]
    | succ j =>
      have e : (j + 1) * 2 + 1 = (j * 2 + 1) + 1 + 1 := by omega
      rw [e]
      simp only [dcs, List.set_cons_succ, List.getD_cons_succ]
      rw [ih j (by simpa using h)]
theorem dcs_append (l r : List (Int × Int)) : dcs (l ++ r) = dcs l ++ dcs r := by
  induction l with
  | nil => rfl
  | cons d l ih => simp [dcs, ih]

/-- a slice's value leads to the list of pairs, below block B -/
def SlD (w : World) (B : Nat) (A : Option Addr) (l : List (Int × Int)) : Prop :=
  0 < l.length → ∃ b off, A = some ⟨b, off, none⟩ ∧ b < B ∧
    ∀ j, j < l.length → w.cell? ⟨b, off + j * 2, none⟩ = some (.int .i64 (l.getD j (0, 0)).1) ∧ w.cell? ⟨b, off + j * 2 + 1, none⟩ = some (.int .i64 (l.getD j (0, 0)).2)
/-- a slice's value leads to the list of numbers, below block B -/
def SlI (w : World) (B : Nat) (A : Option Addr) (l : List Int) : Prop :=
  0 < l.length → ∃ b off, A = some ⟨b, off, none⟩ ∧ b < B ∧ ∀ j, j < l.length → w.cell? ⟨b, off + j, none⟩ = some (.int .i64 (l.getD j 0))

section
variable {w w' : World} {B B' : Nat} {A : Option Addr}
theorem SlD.nil_ : SlD w B A [] := fun h => by simp at h
theorem SlI.nil_ : SlI w B A [] := fun h => by simp at h
theorem SlD.keep {l : List (Int × Int)} (h : SlD w B A l) (hk : ∀ b o, b < B → w'.cell? ⟨b, o, none⟩ = w.cell? ⟨b, o, none⟩) : SlD w' B A l := fun h0 => by
  obtain ⟨b, off, e, hb, hc⟩ := h h0
  exact ⟨b, off, e, hb, fun j hj => ⟨(hk _ _ hb).trans (hc j hj).1, (hk _ _ hb).trans (hc j hj).2⟩⟩
theorem SlI.keep {l : List Int} (h : SlI w B A l) (hk : ∀ b o, b < B → w'.cell? ⟨b, o, none⟩ = w.cell? ⟨b, o, none⟩) : SlI w' B A l := fun h0 => by
  obtain ⟨b, off, e, hb, hc⟩ := h h0
  exact ⟨b, off, e, hb, fun j hj => (hk _ _ hb).trans (hc j hj)⟩
theorem SlD.below {l : List (Int × Int)} (h : SlD w B A l) (hb : Below B w w') : SlD w' B A l := h.keep fun _ _ hp => hb.cell hp
theorem SlI.below {l : List Int} (h : SlI w B A l) (hb : Below B w w') : SlI w' B A l := h.keep fun _ _ hp => hb.cell hp
theorem SlD.take {l : List (Int × Int)} (h : SlD w B A l) (k : Nat) : SlD w B A (l.take k) := fun h0 => by
  have hl : (l.take k).length ≤ l.length := by simp; omega
  obtain ⟨b, off, e, hb, hc⟩ := h (by omega)
  refine ⟨b, off, e, hb, fun j hj => ?_⟩
  have e : (l.take k).getD j (0, 0) = l.getD j (0, 0) := by
    have : j < k := by simp at hj; omega
    simp [this]
  rw [e]
  exact hc j (by omega)
theorem SlI.take {l : List Int} (h : SlI w B A l) (k : Nat) : SlI w B A (l.take k) := fun h0 => by
  have hl : (l.take k).length ≤ l.length := by simp; omega
  obtain ⟨b, off, e, hb, hc⟩ := h (by omega)
  refine ⟨b, off, e, hb, fun j hj => ?_⟩
  have e : (l.take k).getD j 0 = l.getD j 0 := by
    have : j < k := by simp at hj; omega
    simp [this]
  rw [e]
  exact hc j (by omega)
theorem SlD.mono {l : List (Int × Int)} (h : SlD w B A l) (hB : B ≤ B') : SlD w B' A l := fun h0 => by
  obtain ⟨b, off, e, hb, hc⟩ := h h0
  exact ⟨b, off, e, by omega, hc⟩
theorem SlI.mono {l : List Int} (h : SlI w B A l) (hB : B ≤ B') : SlI w B' A l := fun h0 => by
  obtain ⟨b, off, e, hb, hc⟩ := h h0
  exact ⟨b, off, e, by omega, hc⟩
theorem SlD.drewN {l : List (Int × Int)} (h : SlD w B A l) (n : Nat) : SlD (w.drewN n) B A l := h
theorem SlI.drewN {l : List Int} (h : SlI w B A l) (n : Nat) : SlI (w.drewN n) B A l := h
theorem SlD.of_own {base : Nat} {e : TypeId} {l : List (Int × Int)} {c : Nat} {n : Nat} (h : w.ownsRow base e 2 (.slice A n c) n (dcs l)) : SlD w w.heap.size A l := fun h0 => by
  have hn : n = l.length := by have := h.1; rw [dcs_length] at this; omega
  subst hn
  obtain ⟨g, cap, hv, _, hlt⟩ := h.form h0
  have hA : A = some ⟨g, 0, none⟩ := by injection hv
  subst hA
  refine ⟨g, 0, rfl, hlt, fun j hj => ⟨?_, ?_⟩⟩
  · rw [Nat.zero_add, h.cellAt _ (by omega), dcs_get0 l j hj]
  · rw [Nat.zero_add, h.cellAt _ (by omega), dcs_get1 l j hj]
theorem SlI.of_own {base : Nat} {e : TypeId} {l : List Int} {c : Nat} {n : Nat} (h : w.ownsRow base e 1 (.slice A n c) n (ics l)) : SlI w w.heap.size A l := fun h0 => by
  have hn : n = l.length := by have := h.1; rw [ics_length] at this; omega
  subst hn
  obtain ⟨g, cap, hv, _, hlt⟩ := h.form h0
  have hA : A = some ⟨g, 0, none⟩ := by injection hv
  subst hA
  refine ⟨g, 0, rfl, hlt, fun j hj => ?_⟩
  rw [Nat.zero_add, h.cellAt _ (by omega), ics_get l j hj]
end

/-- behind a contract that ends in 'Below': old cells and marks read as before -/
theorem bcell {W w1 : World} (hb : Below W.heap.size W w1) : (∀ b o, b < W.heap.size → w1.cell? ⟨b, o, none⟩ = W.cell? ⟨b, o, none⟩) ∧ (∀ b o, b < W.heap.size → w1.frozen? ⟨b, o, none⟩ = W.frozen? ⟨b, o, none⟩) ∧ W.heap.size ≤ w1.heap.size :=
  ⟨fun b o h => hb.cell (p := ⟨b, o, none⟩) h, fun b o h => hb.frozen (p := ⟨b, o, none⟩) h, hb.size⟩

/-- what is owned is owned still behind what has turned nothing old -/
theorem own_kept {w w' : World} {base e size n : Nat} {v : Value} {xs : List Value} (h : w.ownsRow base e size v n xs) (hb : Below w.heap.size w w') : w'.ownsRow base e size v n xs :=
  h.kept (row := none) ⟨hb.os, hb.tape, hb.output, hb.size, fun k hk _ => hb.block k hk⟩ (by cases v.ownBlock <;> simp)
theorem own_drewN {w : World} {base e size n : Nat} {v : Value} {xs : List Value} (h : w.ownsRow base e size v n xs) (k : Nat) : (w.drewN k).ownsRow base e size v n xs := h
/-- rows of different elements don't share a block -/
theorem own_ne {w : World} {base base' e e' size size' n n' : Nat} {v v' : Value} {xs xs' : List Value} (h : w.ownsRow base e size v n xs) (h' : w.ownsRow base' e' size' v' n' xs') (hne : e ≠ e') : ∀ k, v.ownBlock = some k → some k ≠ v'.ownBlock := by
  intro k hk hk'
  rcases h.2 with ⟨rfl, _⟩ | ⟨g, cap, cur, rfl, _, hh, _⟩
  · simp [Value.ownBlock] at hk
  · rcases h'.2 with ⟨rfl, _⟩ | ⟨g', cap', cur', rfl, _, hh', _⟩
    · simp [Value.ownBlock] at hk'
    · simp [Value.ownBlock] at hk hk'
      subst hk hk'
      rw [hh] at hh'
      injection hh' with hh'
      injection hh' with _ ht
      exact hne ht
/-- a cell that is there is still there behind what has turned nothing old -/
theorem cell_kept {w w' : World} (hb : Below w.heap.size w w') {p : Addr} {v : Value} (h : w.cell? p = some v) : w'.cell? p = some v := (hb.cell (World.block_lt_of_cell? w p h)).trans h
theorem below_kept {B : Nat} {w0 w w' : World} (h : Below B w0 w) (hB : B ≤ w0.heap.size) (hb : Below w.heap.size w w') : Below B w0 w' := h.trans (hb.mono (Nat.le_trans hB h.size))
theorem kept1 {B : Nat} {w0 w w' : World} {p0 : Addr} {v0 : Value} (h : w.cell? p0 = some v0 ∧ Below B w0 w) (hb : Below w.heap.size w w') (hB : B ≤ w0.heap.size) : w'.cell? p0 = some v0 ∧ Below B w0 w' := by
  obtain ⟨h0, hz⟩ := h
  exact ⟨cell_kept hb h0, below_kept hz hB hb⟩
theorem drew1 {B : Nat} {w0 w : World} {p0 : Addr} {v0 : Value} (h : w.cell? p0 = some v0 ∧ Below B w0 w) : w.drew.cell? p0 = some v0 ∧ Below B w0 w.drew := by
  obtain ⟨h0, hz⟩ := h
  exact ⟨h0, hz.drew⟩
theorem kept2 {B : Nat} {w0 w w' : World} {p0 p1 : Addr} {v0 v1 : Value} (h : w.cell? p0 = some v0 ∧ w.cell? p1 = some v1 ∧ Below B w0 w) (hb : Below w.heap.size w w') (hB : B ≤ w0.heap.size) : w'.cell? p0 = some v0 ∧ w'.cell? p1 = some v1 ∧ Below B w0 w' := by
  obtain ⟨h0, h1, hz⟩ := h
  exact ⟨cell_kept hb h0, cell_kept hb h1, below_kept hz hB hb⟩
theorem drew2 {B : Nat} {w0 w : World} {p0 p1 : Addr} {v0 v1 : Value} (h : w.cell? p0 = some v0 ∧ w.cell? p1 = some v1 ∧ Below B w0 w) : w.drew.cell? p0 = some v0 ∧ w.drew.cell? p1 = some v1 ∧ Below B w0 w.drew := by
  obtain ⟨h0, h1, hz⟩ := h
  exact ⟨h0, h1, hz.drew⟩
theorem kept3 {B : Nat} {w0 w w' : World} {p0 p1 p2 : Addr} {v0 v1 v2 : Value} (h : w.cell? p0 = some v0 ∧ w.cell? p1 = some v1 ∧ w.cell? p2 = some v2 ∧ Below B w0 w) (hb : Below w.heap.size w w') (hB : B ≤ w0.heap.size) : w'.cell? p0 = some v0 ∧ w'.cell? p1 = some v1 ∧ w'.cell? p2 = some v2 ∧ Below B w0 w' := by
  obtain ⟨h0, h1, h2, hz⟩ := h
  exact ⟨cell_kept hb h0, cell_kept hb h1, cell_kept hb h2, below_kept hz hB hb⟩
theorem drew3 {B : Nat} {w0 w : World} {p0 p1 p2 : Addr} {v0 v1 v2 : Value} (h : w.cell? p0 = some v0 ∧ w.cell? p1 = some v1 ∧ w.cell? p2 = some v2 ∧ Below B w0 w) : w.drew.cell? p0 = some v0 ∧ w.drew.cell? p1 = some v1 ∧ w.drew.cell? p2 = some v2 ∧ Below B w0 w.drew := by
  obtain ⟨h0, h1, h2, hz⟩ := h
  exact ⟨h0, h1, h2, hz.drew⟩
theorem kept4 {B : Nat} {w0 w w' : World} {p0 p1 p2 p3 : Addr} {v0 v1 v2 v3 : Value} (h : w.cell? p0 = some v0 ∧ w.cell? p1 = some v1 ∧ w.cell? p2 = some v2 ∧ w.cell? p3 = some v3 ∧ Below B w0 w) (hb : Below w.heap.size w w') (hB : B ≤ w0.heap.size) : w'.cell? p0 = some v0 ∧ w'.cell? p1 = some v1 ∧ w'.cell? p2 = some v2 ∧ w'.cell? p3 = some v3 ∧ Below B w0 w' := by
  obtain ⟨h0, h1, h2, h3, hz⟩ := h
  exact ⟨cell_kept hb h0, cell_kept hb h1, cell_kept hb h2, cell_kept hb h3, below_kept hz hB hb⟩
theorem drew4 {B : Nat} {w0 w : World} {p0 p1 p2 p3 : Addr} {v0 v1 v2 v3 : Value} (h : w.cell? p0 = some v0 ∧ w.cell? p1 = some v1 ∧ w.cell? p2 = some v2 ∧ w.cell? p3 = some v3 ∧ Below B w0 w) : w.drew.cell? p0 = some v0 ∧ w.drew.cell? p1 = some v1 ∧ w.drew.cell? p2 = some v2 ∧ w.drew.cell? p3 = some v3 ∧ Below B w0 w.drew := by
  obtain ⟨h0, h1, h2, h3, hz⟩ := h
  exact ⟨h0, h1, h2, h3, hz.drew⟩
theorem kept5 {B : Nat} {w0 w w' : World} {p0 p1 p2 p3 p4 : Addr} {v0 v1 v2 v3 v4 : Value} (h : w.cell? p0 = some v0 ∧ w.cell? p1 = some v1 ∧ w.cell? p2 = some v2 ∧ w.cell? p3 = some v3 ∧ w.cell? p4 = some v4 ∧ Below B w0 w) (hb : Below w.heap.size w w') (hB : B ≤ w0.heap.size) : w'.cell? p0 = some v0 ∧ w'.cell? p1 = some v1 ∧ w'.cell? p2 = some v2 ∧ w'.cell? p3 = some v3 ∧ w'.cell? p4 = some v4 ∧ Below B w0 w' := by
  obtain ⟨h0, h1, h2, h3, h4, hz⟩ := h
  exact ⟨cell_kept hb h0, cell_kept hb h1, cell_kept hb h2, cell_kept hb h3, cell_kept hb h4, below_kept hz hB hb⟩
theorem drew5 {B : Nat} {w0 w : World} {p0 p1 p2 p3 p4 : Addr} {v0 v1 v2 v3 v4 : Value} (h : w.cell? p0 = some v0 ∧ w.cell? p1 = some v1 ∧ w.cell? p2 = some v2 ∧ w.cell? p3 = some v3 ∧ w.cell? p4 = some v4 ∧ Below B w0 w) : w.drew.cell? p0 = some v0 ∧ w.drew.cell? p1 = some v1 ∧ w.drew.cell? p2 = some v2 ∧ w.drew.cell? p3 = some v3 ∧ w.drew.cell? p4 = some v4 ∧ Below B w0 w.drew := by
  obtain ⟨h0, h1, h2, h3, h4, hz⟩ := h
  exact ⟨h0, h1, h2, h3, h4, hz.drew⟩
theorem kept6 {B : Nat} {w0 w w' : World} {p0 p1 p2 p3 p4 p5 : Addr} {v0 v1 v2 v3 v4 v5 : Value} (h : w.cell? p0 = some v0 ∧ w.cell? p1 = some v1 ∧ w.cell? p2 = some v2 ∧ w.cell? p3 = some v3 ∧ w.cell? p4 = some v4 ∧ w.cell? p5 = some v5 ∧ Below B w0 w) (hb : Below w.heap.size w w') (hB : B ≤ w0.heap.size) : w'.cell? p0 = some v0 ∧ w'.cell? p1 = some v1 ∧ w'.cell? p2 = some v2 ∧ w'.cell? p3 = some v3 ∧ w'.cell? p4 = some v4 ∧ w'.cell? p5 = some v5 ∧ Below B w0 w' := by
  obtain ⟨h0, h1, h2, h3, h4, h5, hz⟩ := h
  exact ⟨cell_kept hb h0, cell_kept hb h1, cell_kept hb h2, cell_kept hb h3, cell_kept hb h4, cell_kept hb h5, below_kept hz hB hb⟩
theorem drew6 {B : Nat} {w0 w : World} {p0 p1 p2 p3 p4 p5 : Addr} {v0 v1 v2 v3 v4 v5 : Value} (h : w.cell? p0 = some v0 ∧ w.cell? p1 = some v1 ∧ w.cell? p2 = some v2 ∧ w.cell? p3 = some v3 ∧ w.cell? p4 = some v4 ∧ w.cell? p5 = some v5 ∧ Below B w0 w) : w.drew.cell? p0 = some v0 ∧ w.drew.cell? p1 = some v1 ∧ w.drew.cell? p2 = some v2 ∧ w.drew.cell? p3 = some v3 ∧ w.drew.cell? p4 = some v4 ∧ w.drew.cell? p5 = some v5 ∧ Below B w0 w.drew := by
  obtain ⟨h0, h1, h2, h3, h4, h5, hz⟩ := h
  exact ⟨h0, h1, h2, h3, h4, h5, hz.drew⟩
theorem sld2 {w0 w : World} {B : Nat} {A : Option Addr} {l : List (Int × Int)} {p0 p1 : Addr} {v0 v1 : Value} (h : SlD w0 B A l) (hB : B ≤ w0.heap.size) (k : Nat) (hS : w.cell? p0 = some v0 ∧ w.cell? p1 = some v1 ∧ Below w0.heap.size w0 w) : SlD w B A (l.take k) :=
  (h.below (hS.2.2.mono hB)).take k
theorem sz2 {w0 w : World} {B : Nat} {p0 p1 : Addr} {v0 v1 : Value} (hB : B ≤ w0.heap.size) (hS : w.cell? p0 = some v0 ∧ w.cell? p1 = some v1 ∧ Below w0.heap.size w0 w) : B ≤ w.heap.size := Nat.le_trans hB hS.2.2.size

end Go.Proofs.Ytfkkbjbgjmaciaa

/- Contracts of the functions of chapter 1 that only compute with numbers: corners, diagonals, crossings; no conditions. -/
namespace Go.Proofs.Ytfkkbjbgjmaciaa
set_option linter.unusedVariables false
open Go.RowKit

theorem ret_bool {a b : Bool} (h : a = b) : Ending.returned (.bool a) = .returned (.bool b) := by rw [h]
theorem ret_int {k : IntKind} {a b : Int} (h : a = b) : Ending.returned (.int k a) = .returned (.int k b) := by rw [h]

/-- a number of corners -/
def poB (n : Int) : Bool := decide (3 ≤ n ∧ n ≤ 12)
/-- within bounds -/
def inB (n lo hi : Int) : Bool := decide (lo ≤ n ∧ n ≤ hi)
/-- a diagonal of a polygon of n corners -/
def dgB (n lo hi : Int) : Bool := decide (3 ≤ n ∧ n ≤ 12 ∧ 0 ≤ lo ∧ hi < n ∧ 2 ≤ hi - lo ∧ hi - lo ≤ n - 2)
/-- two diagonals that cross -/
def crB (a b c d : Int) : Bool := decide ((a < c ∧ c < b ∧ b < d) ∨ (c < a ∧ a < d ∧ d < b))
/-- one diagonal comes before another one -/
def ltB (a b c d : Int) : Bool := decide (a < c ∨ (a = c ∧ b < d))

theorem dgB_iff {n lo hi : Int} : dgB n lo hi = true ↔ (3 ≤ n ∧ n ≤ 12 ∧ 0 ≤ lo ∧ hi < n ∧ 2 ≤ hi - lo ∧ hi - lo ≤ n - 2) := by unfold dgB; simp


theorem impl_isPolygon (n : Int) (b : Bool) (w : World) (h : poB n = b) :
    Calls Try.prog 206 #[.int .i64 n] w fun e w' => e = .returned (.bool b) ∧ w = w' := by
  subst h
  go_enter Try.func206, Try.ntmps206
  go_wp2
  all_goals go_ret
  all_goals refine ⟨ret_bool ?_, rfl⟩
  all_goals (unfold poB; rw [Bool.eq_iff_iff]; simp; try omega)






end Go.Proofs.Ytfkkbjbgjmaciaa

/- Triangulations as a Bool on lists of pairs: plain mathematics. -/
namespace Go.Proofs.Ytfkkbjbgjmaciaa
set_option linter.unusedVariables false

/-- the sign of a comparison of two numbers; the first one that is not 0 -/
def sgnI (a b : Int) : Int := if a < b then -1 else if b < a then 1 else 0
def orI (a b : Int) : Int := if a = 0 then b else a
/-- the sign of a comparison of two diagonals -/
def cmpD (a b c d : Int) : Int := if a < c then -1 else if c < a then 1 else if b < d then -1 else if d < b then 1 else 0
theorem cmpD_ge (a b c d : Int) : decide (0 ≤ cmpD a b c d) = !ltB a b c d := by
  unfold cmpD ltB
  by_cases h1 : a < c
  · simp [h1]
  · by_cases h2 : c < a
    · simp [h1, h2]; omega
    · have : a = c := by omega
      subst this
      by_cases h3 : b < d
      · simp [h3]
      · by_cases h4 : d < b
        · simp [h3, h4]
        · simp [h3, h4]

theorem orI_sgn (a b c d : Int) : orI (sgnI a c) (sgnI b d) = cmpD a b c d := by
  unfold orI sgnI cmpD
  by_cases h1 : a < c
  · simp [h1]
  · by_cases h2 : c < a
    · simp [h1, h2]
    · simp [h1, h2]

/-- a diagonal crosses one of a list -/
def anyCross (d : Int × Int) (l : List (Int × Int)) : Bool := l.any fun e => crB d.1 d.2 e.1 e.2
theorem anyCross_nil (d : Int × Int) : anyCross d [] = false := rfl
theorem anyCross_take (d : Int × Int) (l : List (Int × Int)) (k : Nat) (h : k < l.length) :
    anyCross d (l.take (k + 1)) = (anyCross d (l.take k) || crB d.1 d.2 (l.getD k (0, 0)).1 (l.getD k (0, 0)).2) := by
  unfold anyCross
  rw [List.take_succ_eq_append_getElem h, List.any_append]
  simp [h]
theorem anyCross_hit (d : Int × Int) (l : List (Int × Int)) (k : Nat) (h : k < l.length) (hc : crB d.1 d.2 (l.getD k (0, 0)).1 (l.getD k (0, 0)).2 = true) : anyCross d l = true := by
  unfold anyCross
  rw [List.any_eq_true]
  refine ⟨l[k], List.getElem_mem h, ?_⟩
  have e : l.getD k (0, 0) = l[k] := by simp [h]
  rw [e] at hc
  exact hc

/-- the i-th one of a list is a diagonal, crosses none ahead of it, and comes behind the one ahead of it -/
def okAt (n : Int) (ds : List (Int × Int)) (i : Nat) : Bool :=
  dgB n (ds.getD i (0, 0)).1 (ds.getD i (0, 0)).2 && !anyCross (ds.getD i (0, 0)) (ds.take i) &&
    (decide (i = 0) || ltB (ds.getD (i - 1) (0, 0)).1 (ds.getD (i - 1) (0, 0)).2 (ds.getD i (0, 0)).1 (ds.getD i (0, 0)).2)
def upTo (n : Int) (ds : List (Int × Int)) (k : Nat) : Bool := (List.range k).all (okAt n ds)
theorem upTo_zero (n : Int) (ds : List (Int × Int)) : upTo n ds 0 = true := rfl
theorem upTo_succ (n : Int) (ds : List (Int × Int)) (k : Nat) : upTo n ds (k + 1) = (upTo n ds k && okAt n ds k) := by
  simp [upTo, List.range_succ]
theorem upTo_false (n : Int) (ds : List (Int × Int)) (k m : Nat) (h : k < m) (hk : okAt n ds k = false) : upTo n ds m = false := by
  unfold upTo
  rw [List.all_eq_false]
  exact ⟨k, by simpa using h, by simp [hk]⟩
/-- a list of diagonals, in order, none crossing another one -/
def uncB (n : Int) (ds : List (Int × Int)) : Bool := upTo n ds ds.length
/-- a triangulation -/
def triB (n : Int) (ds : List (Int × Int)) : Bool := poB n && decide ((ds.length : Int) = n - 3) && uncB n ds

/- lists of diagonals in order; crossings told apart from order -/
theorem bool_ext {a b : Bool} (h : a = true ↔ b = true) : a = b := by
  cases a <;> cases b <;> simp_all
def ordAt (n : Int) (ds : List (Int × Int)) (i : Nat) : Bool := dgB n (ds.getD i (0, 0)).1 (ds.getD i (0, 0)).2 && (decide (i = 0) || ltB (ds.getD (i - 1) (0, 0)).1 (ds.getD (i - 1) (0, 0)).2 (ds.getD i (0, 0)).1 (ds.getD i (0, 0)).2)
def ordTo (n : Int) (ds : List (Int × Int)) (k : Nat) : Bool := (List.range k).all (ordAt n ds)
theorem ordTo_zero (n : Int) (ds : List (Int × Int)) : ordTo n ds 0 = true := rfl
theorem ordTo_succ (n : Int) (ds : List (Int × Int)) (k : Nat) : ordTo n ds (k + 1) = (ordTo n ds k && ordAt n ds k) := by simp [ordTo, List.range_succ]
theorem ordTo_false (n : Int) (ds : List (Int × Int)) (k m : Nat) (h : k < m) (hk : ordAt n ds k = false) : ordTo n ds m = false := by
  unfold ordTo
  rw [List.all_eq_false]
  exact ⟨k, by simpa using h, by simp [hk]⟩
def ordB (n : Int) (ds : List (Int × Int)) : Bool := ordTo n ds ds.length
def ncTo (ds : List (Int × Int)) (k : Nat) : Bool := (List.range k).all fun i => !anyCross (ds.getD i (0, 0)) (ds.take i)
theorem ncTo_zero (ds : List (Int × Int)) : ncTo ds 0 = true := rfl
theorem ncTo_succ (ds : List (Int × Int)) (k : Nat) : ncTo ds (k + 1) = (ncTo ds k && !anyCross (ds.getD k (0, 0)) (ds.take k)) := by simp [ncTo, List.range_succ]
theorem ncTo_false (ds : List (Int × Int)) (k m : Nat) (h : k < m) (hk : anyCross (ds.getD k (0, 0)) (ds.take k) = true) : ncTo ds m = false := by
  unfold ncTo
  rw [List.all_eq_false]
  exact ⟨k, by simpa using h, by rw [hk]; simp⟩
theorem uncB_split (n : Int) (ds : List (Int × Int)) : uncB n ds = (ordB n ds && ncTo ds ds.length) := by
  unfold uncB upTo ordB ordTo ncTo
  refine bool_ext ?_
  rw [Bool.and_eq_true, List.all_eq_true, List.all_eq_true, List.all_eq_true]
  have key : ∀ i, okAt n ds i = true ↔ (ordAt n ds i = true ∧ (!anyCross (ds.getD i (0, 0)) (ds.take i)) = true) := fun i => by
    unfold okAt ordAt
    generalize dgB n _ _ = a
    generalize anyCross _ _ = b
    generalize (decide (i = 0) || _) = c
    cases a <;> cases b <;> cases c <;> simp
  constructor
  · intro h
    exact ⟨fun i hi => ((key i).1 (h i hi)).1, fun i hi => ((key i).1 (h i hi)).2⟩
  · rintro ⟨h1, h2⟩ i hi
    exact (key i).2 ⟨h1 i hi, h2 i hi⟩
end Go.Proofs.Ytfkkbjbgjmaciaa

/- Pairs in order: plain mathematics (insertion; a sorted permutation is the one). -/
namespace Go.Proofs.Ytfkkbjbgjmaciaa
set_option linter.unusedVariables false

/-- the order of pairs -/
def leP (d e : Int × Int) : Prop := d.1 < e.1 ∨ (d.1 = e.1 ∧ d.2 ≤ e.2)
theorem leP_anti {d e : Int × Int} (h : leP d e) (h' : leP e d) : d = e := by
  unfold leP at h h'
  apply Prod.ext <;> omega
theorem leP_trans {d e f : Int × Int} (h : leP d e) (h' : leP e f) : leP d f := by
  unfold leP at *
  omega
theorem ltB_true {d e : Int × Int} (h : ltB d.1 d.2 e.1 e.2 = true) : leP d e := by
  unfold ltB at h
  unfold leP
  simp at h
  omega
theorem ltB_false {d e : Int × Int} (h : ltB d.1 d.2 e.1 e.2 = false) : leP e d := by
  unfold ltB at h
  unfold leP
  simp at h
  omega

/-- x put in ahead of the first one that isn't less -/
def ins (x : Int × Int) : List (Int × Int) → List (Int × Int)
  | [] => [x]
  | y :: r => if ltB y.1 y.2 x.1 x.2 then y :: ins x r else x :: y :: r
theorem ins_perm (x : Int × Int) (l : List (Int × Int)) : (ins x l).Perm (x :: l) := by
  induction l with
  | nil => exact List.Perm.refl _
  | cons y r ih =>
    unfold ins
    split
    · exact (ih.cons y).trans (List.Perm.swap x y r)
    · exact List.Perm.refl _
theorem ins_sorted (x : Int × Int) (l : List (Int × Int)) (h : l.Pairwise leP) : (ins x l).Pairwise leP := by
  induction l with
  | nil => simp [ins]
  | cons y r ih =>
    unfold ins
    rw [List.pairwise_cons] at h
    cases hy : ltB y.1 y.2 x.1 x.2
    · simp only [Bool.false_eq_true, if_false]
      rw [List.pairwise_cons]
      refine ⟨fun z hz => ?_, by rw [List.pairwise_cons]; exact h⟩
      have hyx := ltB_false hy
      rcases List.mem_cons.1 hz with rfl | hz
      · exact hyx
      · exact leP_trans hyx (h.1 z hz)
    · simp only [if_true]
      rw [List.pairwise_cons]
      refine ⟨fun z hz => ?_, ih h.2⟩
      have hm := (ins_perm x r).mem_iff.1 hz
      rcases List.mem_cons.1 hm with rfl | hm
      · exact ltB_true hy
      · exact h.1 z hm
/-- the pairs in order -/
def sortD (l : List (Int × Int)) : List (Int × Int) := l.foldl (fun s d => ins d s) []
theorem sortD_spec (l : List (Int × Int)) : (sortD l).Pairwise leP ∧ (sortD l).Perm l := by
  unfold sortD
  have : ∀ (l s : List (Int × Int)), s.Pairwise leP → (l.foldl (fun s d => ins d s) s).Pairwise leP ∧ (l.foldl (fun s d => ins d s) s).Perm (s ++ l) := by
    intro l
    induction l with
    | nil => intro s h; simpa using h
    | cons d r ih =>
      intro s h
      rw [List.foldl_cons]
      obtain ⟨h1, h2⟩ := ih (ins d s) (ins_sorted d s h)
      refine ⟨h1, h2.trans ?_⟩
      refine ((ins_perm d s).append_right r).trans ?_
      rw [List.cons_append]
      exact List.perm_middle.symm
  have := this l [] List.Pairwise.nil
  simpa using this
theorem sortD_unique {l r : List (Int × Int)} (h : r.Pairwise leP) (hp : r.Perm l) : r = sortD l := by
  obtain ⟨h1, h2⟩ := sortD_spec l
  exact List.Perm.eq_of_pairwise (fun a b _ _ => leP_anti) h h1 (hp.trans h2.symm)
theorem sortD_length (l : List (Int × Int)) : (sortD l).length = l.length := (sortD_spec l).2.length_eq

/-- inside a round of the insertion sort: x stands at place j of the sorted beginning -/
def inn (P : List (Int × Int)) (x : Int × Int) (j : Nat) (rest : List (Int × Int)) : List (Int × Int) := P.take j ++ x :: (P.drop j ++ rest)
theorem inn_length (P : List (Int × Int)) (x : Int × Int) (j : Nat) (rest : List (Int × Int)) : (inn P x j rest).length = P.length + 1 + rest.length := by
  simp [inn]; omega
theorem inn_at (P : List (Int × Int)) (x : Int × Int) (j : Nat) (rest : List (Int × Int)) (h : j ≤ P.length) : (inn P x j rest).getD j (0, 0) = x := by
  unfold inn
  have e : (P.take j).length = j := by simp; omega
  rw [List.getD_eq_getElem?_getD, List.getElem?_append_right (by omega), e, Nat.sub_self]
  rfl
theorem inn_before (P : List (Int × Int)) (x : Int × Int) (j : Nat) (rest : List (Int × Int)) (h : j ≤ P.length) (h0 : 0 < j) : (inn P x j rest).getD (j - 1) (0, 0) = P.getD (j - 1) (0, 0) := by
  unfold inn
  have e : (P.take j).length = j := by simp; omega
  rw [List.getD_eq_getElem?_getD, List.getElem?_append_left (by omega), List.getElem?_take, if_pos (by omega), List.getD_eq_getElem?_getD]
theorem inn_swap (P : List (Int × Int)) (x : Int × Int) (j : Nat) (rest : List (Int × Int)) (h : j ≤ P.length) (h0 : 0 < j) :
    ((inn P x j rest).set j (P.getD (j - 1) (0, 0))).set (j - 1) x = inn P x (j - 1) rest := by
  obtain ⟨i, rfl⟩ : ∃ i, j = i + 1 := ⟨j - 1, by omega⟩
  have hi : i < P.length := by omega
  have e : (P.take (i + 1)).length = i + 1 := by simp; omega
  have e2 : (P.take i).length = i := by simp; omega
  unfold inn
  rw [List.set_append_right _ _ (by omega), e, Nat.sub_self, List.set_cons_zero, Nat.add_sub_cancel]
  rw [List.take_succ_eq_append_getElem hi, List.append_assoc, List.set_append_right _ _ (by omega), e2, Nat.sub_self]
  have e3 : P.getD i (0, 0) = P[i] := by simp [hi]
  rw [e3, List.singleton_append, List.set_cons_zero, List.drop_eq_getElem_cons hi]
  rfl

/-- the loop inside: what stands behind place j is not less than x -/
def Inn (P : List (Int × Int)) (x : Int × Int) (j : Nat) : Prop := P.Pairwise leP ∧ j ≤ P.length ∧ ∀ y ∈ P.drop j, leP x y
theorem Inn.step {P : List (Int × Int)} {x : Int × Int} {j : Nat} (h : Inn P x j) (h0 : 0 < j) (hl : ltB x.1 x.2 (P.getD (j - 1) (0, 0)).1 (P.getD (j - 1) (0, 0)).2 = true) : Inn P x (j - 1) := by
  obtain ⟨h1, h2, h3⟩ := h
  refine ⟨h1, by omega, ?_⟩
  obtain ⟨i, rfl⟩ : ∃ i, j = i + 1 := ⟨j - 1, by omega⟩
  rw [Nat.add_sub_cancel] at *
  have hi : i < P.length := by omega
  rw [List.drop_eq_getElem_cons hi]
  intro y hy
  have e3 : P.getD i (0, 0) = P[i] := by simp [hi]
  rw [e3] at hl
  rcases List.mem_cons.1 hy with rfl | hy
  · exact ltB_true hl
  · exact h3 y hy
theorem Inn.stop {P : List (Int × Int)} {x : Int × Int} {j : Nat} (h : Inn P x j) (hs : j = 0 ∨ ltB x.1 x.2 (P.getD (j - 1) (0, 0)).1 (P.getD (j - 1) (0, 0)).2 = false) :
    (P.take j ++ x :: P.drop j).Pairwise leP := by
  obtain ⟨h1, h2, h3⟩ := h
  have hP := h1
  rw [← List.take_append_drop j P, List.pairwise_append] at hP
  obtain ⟨hA, hB, hAB⟩ := hP
  rw [List.pairwise_append, List.pairwise_cons]
  refine ⟨hA, ⟨h3, hB⟩, fun a ha b hb => ?_⟩
  have hax : leP a x := by
    rcases hs with rfl | hs
    · simp at ha
    · by_cases h0 : j = 0
      · subst h0; simp at ha
      · obtain ⟨i, rfl⟩ : ∃ i, j = i + 1 := ⟨j - 1, by omega⟩
        rw [Nat.add_sub_cancel] at hs
        have hi : i < P.length := by omega
        have e3 : P.getD i (0, 0) = P[i] := by simp [hi]
        rw [e3] at hs
        have hlast := ltB_false hs
        obtain ⟨k, hk, rfl⟩ := List.getElem_of_mem ha
        rw [List.getElem_take]
        have hk2 : k < i + 1 := by simp at hk; omega
        by_cases hki : k = i
        · subst hki; exact hlast
        · exact leP_trans (List.pairwise_iff_getElem.1 h1 k i (by omega) hi (by omega)) hlast
  rcases List.mem_cons.1 hb with rfl | hb
  · exact hax
  · exact hAB a ha b hb
theorem inn_perm (P : List (Int × Int)) (x : Int × Int) (j : Nat) : (P.take j ++ x :: P.drop j).Perm (P ++ [x]) := by
  refine List.perm_middle.trans ?_
  rw [List.take_append_drop]
  exact (List.perm_append_comm (l₁ := [x]) (l₂ := P))
end Go.Proofs.Ytfkkbjbgjmaciaa

/- Ears cut off a list of numbers, again and again: plain mathematics; the model's way (which stops at a number below 1) and the program's tell the same. -/
namespace Go.Proofs.Ytfkkbjbgjmaciaa
set_option linter.unusedVariables false

/-- the place of the first 1 among the first k numbers, or -1 -/
def at1 (l : List Int) : Nat → Int
  | 0 => -1
  | k + 1 => if l.getD k 0 = 1 ∧ at1 l k < 0 then (k : Int) else at1 l k
theorem at1_lt (l : List Int) (k : Nat) : -1 ≤ at1 l k ∧ at1 l k < k := by
  induction k with
  | zero => simp [at1]
  | succ k ih => unfold at1; split <;> omega
theorem at1_one (l : List Int) (k : Nat) (h : 0 ≤ at1 l k) : l.getD (at1 l k).toNat 0 = 1 := by
  induction k with
  | zero => simp [at1] at h
  | succ k ih =>
    unfold at1 at h ⊢
    split
    · rename_i hc
      simp only [Int.toNat_natCast]
      exact hc.1
    · rename_i hc
      rw [if_neg hc] at h
      exact ih h
theorem at1_stay (l : List Int) (k j : Nat) (h : 0 ≤ at1 l k) : at1 l (k + j) = at1 l k := by
  induction j with
  | zero => rfl
  | succ j ih =>
    rw [← Nat.add_assoc]
    conv => lhs; unfold at1
    rw [if_neg (by omega)]
    exact ih
theorem at1_hit (l : List Int) (k m : Nat) (h : at1 l k < 0) (hx : l.getD k 0 = 1) (hm : k < m) : at1 l m = (k : Int) := by
  have e : at1 l (k + 1) = (k : Int) := by
    unfold at1
    rw [if_pos ⟨hx, h⟩]
  obtain ⟨j, rfl⟩ : ∃ j, m = k + 1 + j := ⟨m - (k + 1), by omega⟩
  rw [at1_stay l (k + 1) j (by omega), e]
theorem at1_miss (l : List Int) (k : Nat) (hx : l.getD k 0 ≠ 1) : at1 l (k + 1) = at1 l k := by
  conv => lhs; unfold at1
  rw [if_neg (by intro h; exact hx h.1)]

/-- one less at a place -/
def decr (l : List Int) (i : Nat) : List Int := l.set i (l.getD i 0 - 1)
theorem decr_length (l : List Int) (i : Nat) : (decr l i).length = l.length := by simp [decr]
theorem decr_get (l : List Int) (i j : Nat) (hj : j < l.length) : (decr l i).getD j 0 = if i = j then l.getD j 0 - 1 else l.getD j 0 := by
  unfold decr
  simp only [List.getD_eq_getElem?_getD, List.getElem?_set]
  by_cases e : i = j
  · subst e; simp [hj]
  · simp [e]
/-- both neighbours, around, one less -/
def dec2 (l : List Int) (k : Nat) : List Int := decr (decr l ((k + l.length - 1) % l.length)) ((k + 1) % l.length)
theorem dec2_length (l : List Int) (k : Nat) : (dec2 l k).length = l.length := by simp [dec2, decr_length]
/-- the ear at k cut off -/
def cutL (l : List Int) (k : Nat) : List Int := (dec2 l k).eraseIdx k
theorem cutL_length (l : List Int) (k : Nat) (h : k < l.length) : (cutL l k).length = l.length - 1 := by
  simp [cutL, List.length_eraseIdx, dec2_length, h]
theorem erase_get (l : List Int) (k j : Nat) : (l.eraseIdx k).getD j 0 = if j < k then l.getD j 0 else l.getD (j + 1) 0 := by
  simp only [List.getD_eq_getElem?_getD, List.getElem?_eraseIdx]
  split <;> rfl

theorem around (k m : Nat) (hm : 4 ≤ m) (hk : k < m) : (k + m - 1) % m < m ∧ (k + 1) % m < m ∧ (k + m - 1) % m ≠ k ∧ (k + 1) % m ≠ k ∧ (k + m - 1) % m ≠ (k + 1) % m := by
  have e1 : (k + m - 1) % m = if k = 0 then m - 1 else k - 1 := by
    split
    · subst_vars; rw [Nat.zero_add]; exact Nat.mod_eq_of_lt (by omega)
    · rw [show k + m - 1 = (k - 1) + m by omega, Nat.add_mod_right]; exact Nat.mod_eq_of_lt (by omega)
  have e2 : (k + 1) % m = if k + 1 = m then 0 else k + 1 := by
    split
    · rename_i h; rw [h, Nat.mod_self]
    · exact Nat.mod_eq_of_lt (by omega)
  rw [e1, e2]
  split <;> split <;> omega
theorem dec2_get (l : List Int) (k j : Nat) (hm : 4 ≤ l.length) (hk : k < l.length) (hj : j < l.length) : l.getD j 0 - 1 ≤ (dec2 l k).getD j 0 ∧ (dec2 l k).getD j 0 ≤ l.getD j 0 := by
  obtain ⟨_, _, _, _, hne⟩ := around k l.length hm hk
  unfold dec2
  rw [decr_get _ _ _ (by rw [decr_length]; exact hj), decr_get _ _ _ hj]
  split <;> split <;> omega
/-- each number that isn't the ear goes on, at most one less -/
theorem cutL_has (l : List Int) (k i : Nat) (hm : 4 ≤ l.length) (hk : k < l.length) (hi : i < l.length) (hne : i ≠ k) : ∃ j, j < (cutL l k).length ∧ (cutL l k).getD j 0 = (dec2 l k).getD i 0 := by
  rw [cutL_length l k hk]
  unfold cutL
  by_cases h : i < k
  · exact ⟨i, by omega, by rw [erase_get, if_pos h]⟩
  · refine ⟨i - 1, by omega, ?_⟩
    rw [erase_get, if_neg (by omega), show i - 1 + 1 = i by omega]
theorem cutL_from (l : List Int) (k j : Nat) (hk : k < l.length) (hj : j < (cutL l k).length) : ∃ i, i < l.length ∧ i ≠ k ∧ (cutL l k).getD j 0 = (dec2 l k).getD i 0 := by
  rw [cutL_length l k hk] at hj
  unfold cutL
  by_cases h : j < k
  · exact ⟨j, by omega, by omega, by rw [erase_get, if_pos h]⟩
  · exact ⟨j + 1, by omega, by omega, by rw [erase_get, if_neg h]⟩

/-- the diagonal that an ear is cut off by -/
def earD (cs : List Int) (m k : Nat) : Int × Int :=
  (min (cs.getD ((k + m - 1) % m) 0) (cs.getD ((k + 1) % m) 0), max (cs.getD ((k + m - 1) % m) 0) (cs.getD ((k + 1) % m) 0))

/-- the program's way: f ears are cut off -/
def ofI : Nat → List Int → List Int → List (Int × Int) → List (Int × Int) × Bool
  | 0, l, _, out => if l = [1, 1, 1] then (sortD out, true) else ([], false)
  | f + 1, l, cs, out => if at1 l l.length < 0 then ([], false) else
      ofI f (cutL l (at1 l l.length).toNat) (cs.eraseIdx (at1 l l.length).toNat) (out ++ [earD cs l.length (at1 l l.length).toNat])
/-- some number falls below 1 beside the ear at k -/
def lowB (l : List Int) (k : Nat) : Bool := decide ((dec2 l k).getD ((k + l.length - 1) % l.length) 0 < 1 ∨ (dec2 l k).getD ((k + 1) % l.length) 0 < 1)
/-- the model's way -/
def ofS : Nat → List Int → List Int → List (Int × Int) → List (Int × Int) × Bool
  | 0, l, _, out => (sortD out, decide (l = [1, 1, 1]))
  | f + 1, l, cs, out => if at1 l l.length < 0 then ([], false) else if lowB l (at1 l l.length).toNat = true then ([], false) else
      ofS f (cutL l (at1 l l.length).toNat) (cs.eraseIdx (at1 l l.length).toNat) (out ++ [earD cs l.length (at1 l l.length).toNat])
def norm (r : List (Int × Int) × Bool) : List (Int × Int) × Bool := if r.2 = true then r else ([], false)

theorem ofI_bad (f : Nat) : ∀ (l cs : List Int) (out : List (Int × Int)), l.length = f + 3 → (∃ i, i < l.length ∧ (l.getD i 0 < 1 ∨ (f : Int) + 1 < l.getD i 0)) → ofI f l cs out = ([], false) := by
  induction f with
  | zero =>
    intro l cs out hl ⟨i, hi, hx⟩
    unfold ofI
    rw [if_neg]
    rintro rfl
    have : i = 0 ∨ i = 1 ∨ i = 2 := by simp at hi; omega
    rcases this with rfl | rfl | rfl <;> simp at hx
  | succ f ih =>
    intro l cs out hl ⟨i, hi, hx⟩
    unfold ofI
    by_cases h : at1 l l.length < 0
    · rw [if_pos h]
    · rw [if_neg h]
      have h1 := at1_one l l.length (by omega)
      have h2 := at1_lt l l.length
      have hk : (at1 l l.length).toNat < l.length := by omega
      generalize (at1 l l.length).toNat = k at *
      have hne : i ≠ k := by rintro rfl; rw [h1] at hx; omega
      obtain ⟨j, hj, e⟩ := cutL_has l k i (by omega) hk hi hne
      have hd := dec2_get l k i (by omega) hk hi
      refine ih _ _ _ (by rw [cutL_length l k hk]; omega) ⟨j, hj, ?_⟩
      rw [e]
      omega
theorem ofS_ofI (f : Nat) : ∀ (l cs : List Int) (out : List (Int × Int)), l.length = f + 3 → (∀ i, i < l.length → 1 ≤ l.getD i 0) → norm (ofS f l cs out) = ofI f l cs out := by
  induction f with
  | zero =>
    intro l cs out hl _
    unfold ofS ofI norm
    by_cases h : l = [1, 1, 1] <;> simp [h]
  | succ f ih =>
    intro l cs out hl hx
    unfold ofS ofI
    by_cases h : at1 l l.length < 0
    · rw [if_pos h, if_pos h]; rfl
    · rw [if_neg h, if_neg h]
      have h1 := at1_one l l.length (by omega)
      have h2 := at1_lt l l.length
      have hk : (at1 l l.length).toNat < l.length := by omega
      generalize (at1 l l.length).toNat = k at *
      obtain ⟨a1, a2, a3, a4, a5⟩ := around k l.length (by omega) hk
      have hcl : (cutL l k).length = f + 3 := by rw [cutL_length l k hk]; omega
      cases hlow : lowB l k
      · simp only [Bool.false_eq_true, if_false]
        refine ih _ _ _ hcl (fun j hj => ?_)
        obtain ⟨i, hi, hne, e⟩ := cutL_from l k j hk hj
        rw [e]
        unfold lowB at hlow
        simp only [decide_eq_false_iff_not, not_or] at hlow
        by_cases e1 : i = (k + l.length - 1) % l.length
        · rw [e1]; omega
        · by_cases e2 : i = (k + 1) % l.length
          · rw [e2]; omega
          · have := hx i hi
            unfold dec2
            rw [decr_get _ _ _ (by rw [decr_length]; exact hi), decr_get _ _ _ hi, if_neg (by omega), if_neg (by omega)]
            exact this
      · simp only [if_true]
        symm
        refine ofI_bad f _ _ _ hcl ?_
        unfold lowB at hlow
        simp only [decide_eq_true_eq] at hlow
        rcases hlow with hlow | hlow
        · obtain ⟨j, hj, e⟩ := cutL_has l k _ (by omega) hk a1 a3
          exact ⟨j, hj, .inl (by rw [e]; exact hlow)⟩
        · obtain ⟨j, hj, e⟩ := cutL_has l k _ (by omega) hk a2 a4
          exact ⟨j, hj, .inl (by rw [e]; exact hlow)⟩

/-- 0, 1, 2, .. -/
def iota (n : Nat) : List Int := (List.range n).map fun (i : Nat) => (i : Int)
theorem iota_length (n : Nat) : (iota n).length = n := by simp [iota]
theorem iota_get (n j : Nat) (h : j < n) : (iota n).getD j 0 = (j : Int) := by simp [iota, h]
theorem iota_succ (n : Nat) : iota (n + 1) = iota n ++ [(n : Int)] := by simp [iota, List.range_succ]
theorem iota_take (n k : Nat) (h : k ≤ n) : (iota n).take k = iota k := by
  unfold iota
  rw [← List.map_take, List.take_range, Nat.min_eq_left h]

/-- the numbers lie within bounds -/
def allB (l : List Int) (lo hi : Int) : Bool := l.all fun x => decide (lo ≤ x ∧ x ≤ hi)
theorem allB_iff {l : List Int} {lo hi : Int} : allB l lo hi = true ↔ ∀ i, i < l.length → lo ≤ l.getD i 0 ∧ l.getD i 0 ≤ hi := by
  unfold allB
  rw [List.all_eq_true]
  constructor
  · intro h i hi
    have := h _ (List.getElem_mem hi)
    simp at this
    simpa [hi] using this
  · intro h x hx
    obtain ⟨i, hi, rfl⟩ := List.getElem_of_mem hx
    have := h i hi
    simp [hi] at this
    simpa using this
/-- it could be a quiddity -/
def couldB (q : List Int) : Bool := poB q.length && allB q 1 ((q.length : Int) - 2)
/-- the triangulation with a quiddity, if there is one -/
def triOf (q : List Int) : List (Int × Int) × Bool := if couldB q = true then ofI (q.length - 3) q (iota q.length) [] else ([], false)
/-- what the model's helper tells -/
def poOfS (q : List Int) : List (Int × Int) × Bool := if poB q.length = true ∧ allB q 1 12 = true then ofS (q.length - 3) q (iota q.length) [] else ([], false)
theorem norm_poOfS (q : List Int) : norm (poOfS q) = triOf q := by
  unfold poOfS triOf couldB
  by_cases hp : poB q.length = true
  · have hn : 3 ≤ (q.length : Int) ∧ (q.length : Int) ≤ 12 := by unfold poB at hp; simpa using hp
    by_cases ha : allB q 1 12 = true
    · rw [if_pos ⟨hp, ha⟩]
      rw [ofS_ofI _ _ _ _ (by omega) (fun i hi => (allB_iff.1 ha i hi).1)]
      cases hc : allB q 1 ((q.length : Int) - 2)
      · rw [if_neg (by simp)]
        have : ∃ i, i < q.length ∧ ¬ (1 ≤ q.getD i 0 ∧ q.getD i 0 ≤ (q.length : Int) - 2) := by
          by_cases hx : ∃ i, i < q.length ∧ ¬ (1 ≤ q.getD i 0 ∧ q.getD i 0 ≤ (q.length : Int) - 2)
          · exact hx
          · exfalso
            have : allB q 1 ((q.length : Int) - 2) = true := allB_iff.2 (fun i hi => Classical.byContradiction fun hn => hx ⟨i, hi, hn⟩)
            rw [hc] at this
            cases this
        obtain ⟨i, hi, hx⟩ := this
        exact ofI_bad _ _ _ _ (by omega) ⟨i, hi, by omega⟩
      · rw [if_pos (by simp [hp])]
    · rw [if_neg (by intro h; exact ha h.2)]
      have hc : allB q 1 ((q.length : Int) - 2) = false := by
        cases hc : allB q 1 ((q.length : Int) - 2)
        · rfl
        · exact absurd (allB_iff.2 (fun i hi => by have := allB_iff.1 hc i hi; omega)) ha
      rw [hc]
      simp [norm]
  · rw [if_neg (by intro h; exact hp h.1), if_neg (by simp [hp])]
    rfl
theorem norm_snd (r : List (Int × Int) × Bool) : (norm r).2 = r.2 := by
  unfold norm
  split
  · rfl
  · rename_i h; simpa using (Bool.not_eq_true _ ▸ h : r.2 = false).symm
/-- a list is a quiddity -/
def isQ (q : List Int) : Bool := (triOf q).2
theorem isQ_poOfS (q : List Int) : (poOfS q).2 = isQ q := by rw [isQ, ← norm_poOfS, norm_snd]
theorem isQ_len {q : List Int} (h : isQ q = true) : 3 ≤ q.length ∧ q.length ≤ 12 := by
  unfold isQ triOf at h
  split at h
  · rename_i hc
    unfold couldB poB at hc
    simp at hc
    omega
  · simp at h
theorem isQ_get {q : List Int} (h : isQ q = true) (i : Nat) (hi : i < q.length) : 1 ≤ q.getD i 0 ∧ q.getD i 0 ≤ (q.length : Int) - 2 := by
  unfold isQ triOf at h
  split at h
  · rename_i hc
    unfold couldB at hc
    rw [Bool.and_eq_true] at hc
    exact allB_iff.1 hc.2 i hi
  · simp at h
theorem triOf_no {q : List Int} (h : isQ q = false) : triOf q = ([], false) := by
  have e := norm_poOfS q
  rw [← e]
  unfold norm
  rw [isQ_poOfS, h]
  rfl
theorem ofI_length (f : Nat) : ∀ l cs out, (ofI f l cs out).1.length ≤ out.length + f := by
  induction f with
  | zero =>
    intro l cs out
    unfold ofI
    split
    · rw [sortD_length]; omega
    · simp
  | succ f ih =>
    intro l cs out
    unfold ofI
    split
    · simp
    · have := ih (cutL l (at1 l l.length).toNat) (cs.eraseIdx (at1 l l.length).toNat) (out ++ [earD cs l.length (at1 l l.length).toNat])
      simp at this
      omega
theorem triOf_length (q : List Int) : (triOf q).1.length ≤ 1000000000 := by
  cases h : isQ q
  · rw [triOf_no h]; simp
  · have := isQ_len h
    unfold triOf
    split
    · have := ofI_length (q.length - 3) q (iota q.length) []
      simp at this
      omega
    · simp
end Go.Proofs.Ytfkkbjbgjmaciaa

/- Matrices of two rows and two columns: plain mathematics. -/
namespace Go.Proofs.Ytfkkbjbgjmaciaa
set_option linter.unusedVariables false

/-- four numbers, row by row -/
structure M4 where
  a : Int
  b : Int
  c : Int
  d : Int

theorem M4.same {m k : M4} (h1 : m.a = k.a) (h2 : m.b = k.b) (h3 : m.c = k.c) (h4 : m.d = k.d) : m = k := by
  cases m; cases k; simp_all
def M4.one : M4 := ⟨1, 0, 0, 1⟩
def M4.zero : M4 := ⟨0, 0, 0, 0⟩
def M4.mul (m k : M4) : M4 := ⟨m.a * k.a + m.b * k.c, m.a * k.b + m.b * k.d, m.c * k.a + m.d * k.c, m.c * k.b + m.d * k.d⟩
def M4.inv (m : M4) : M4 := ⟨m.d, -m.b, -m.c, m.a⟩
/-- the same four numbers -/
def M4.eqB (m k : M4) : Bool := decide (m.a = k.a ∧ m.b = k.b ∧ m.c = k.c ∧ m.d = k.d)
theorem M4.eqB_iff {m k : M4} : m.eqB k = true ↔ m = k := by
  unfold M4.eqB
  rw [decide_eq_true_eq]
  constructor
  · rintro ⟨h1, h2, h3, h4⟩; exact M4.same h1 h2 h3 h4
  · rintro rfl; exact ⟨rfl, rfl, rfl, rfl⟩
/-- numbers of a matrix -/
def bigB (a b c d : Int) : Bool := allB [a, b, c, d] (-1000000000) 1000000000
theorem bigB_iff {a b c d : Int} : bigB a b c d = true ↔ ((-1000000000 ≤ a ∧ a ≤ 1000000000) ∧ (-1000000000 ≤ b ∧ b ≤ 1000000000) ∧ (-1000000000 ≤ c ∧ c ≤ 1000000000) ∧ (-1000000000 ≤ d ∧ d ≤ 1000000000)) := by
  unfold bigB allB
  simp
/-- a matrix -/
def mxB (a b c d : Int) : Bool := bigB a b c d && decide (a * d - b * c = 1)
theorem mxB_iff {a b c d : Int} : mxB a b c d = true ↔ ((-1000000000 ≤ a ∧ a ≤ 1000000000) ∧ (-1000000000 ≤ b ∧ b ≤ 1000000000) ∧ (-1000000000 ≤ c ∧ c ≤ 1000000000) ∧ (-1000000000 ≤ d ∧ d ≤ 1000000000)) ∧ a * d - b * c = 1 := by
  unfold mxB
  rw [Bool.and_eq_true, bigB_iff, decide_eq_true_eq]
def M4.ok (m : M4) : Bool := mxB m.a m.b m.c m.d
theorem M4.ok_iff {m : M4} : m.ok = true ↔ ((-1000000000 ≤ m.a ∧ m.a ≤ 1000000000) ∧ (-1000000000 ≤ m.b ∧ m.b ≤ 1000000000) ∧ (-1000000000 ≤ m.c ∧ m.c ≤ 1000000000) ∧ (-1000000000 ≤ m.d ∧ m.d ≤ 1000000000)) ∧ m.a * m.d - m.b * m.c = 1 := mxB_iff
/-- a product of two numbers that are not too great -/
theorem prodBd {x y P Q : Int} (hx : -P ≤ x ∧ x ≤ P) (hy : -Q ≤ y ∧ y ≤ Q) : -(P * Q) ≤ x * y ∧ x * y ≤ P * Q := by
  have hP : 0 ≤ P := by omega
  have hQ : 0 ≤ Q := by omega
  have h1 : x * y ≤ P * Q ∧ -(P * Q) ≤ x * y := by
    rcases Int.le_total 0 x with h | h
    · rcases Int.le_total 0 y with g | g
      · exact ⟨Int.mul_le_mul hx.2 hy.2 g hP, by have := Int.mul_nonneg h g; have := Int.mul_nonneg hP hQ; omega⟩
      · have e1 := Int.mul_le_mul hx.2 (show -y ≤ Q by omega) (by omega) hP
        have e2 : x * -y = -(x * y) := Int.mul_neg _ _
        have e3 := Int.mul_nonneg h (show 0 ≤ -y by omega)
        have e4 := Int.mul_nonneg hP hQ
        omega
    · rcases Int.le_total 0 y with g | g
      · have e1 := Int.mul_le_mul (show -x ≤ P by omega) hy.2 g hP
        have e2 : -x * y = -(x * y) := Int.neg_mul _ _
        have e3 := Int.mul_nonneg (show 0 ≤ -x by omega) g
        have e4 := Int.mul_nonneg hP hQ
        omega
      · have e1 := Int.mul_le_mul (show -x ≤ P by omega) (show -y ≤ Q by omega) (by omega) hP
        have e2 : -x * -y = x * y := Int.neg_mul_neg _ _
        have e3 := Int.mul_nonneg (show 0 ≤ -x by omega) (show 0 ≤ -y by omega)
        have e4 := Int.mul_nonneg hP hQ
        omega
  exact ⟨h1.2, h1.1⟩
theorem prodBig {x y : Int} (hx : -1000000000 ≤ x ∧ x ≤ 1000000000) (hy : -1000000000 ≤ y ∧ y ≤ 1000000000) : -1000000000000000000 ≤ x * y ∧ x * y ≤ 1000000000000000000 := by
  have := prodBd hx hy
  omega

/-- all numbers within P -/
def M4.In (m : M4) (P : Int) : Prop := (-P ≤ m.a ∧ m.a ≤ P) ∧ (-P ≤ m.b ∧ m.b ≤ P) ∧ (-P ≤ m.c ∧ m.c ≤ P) ∧ (-P ≤ m.d ∧ m.d ≤ P)
theorem M4.ok_in {m : M4} (h : m.ok = true) : m.In 1000000000 := (M4.ok_iff.1 h).1
theorem M4.In.mono {m : M4} {P Q : Int} (h : m.In P) (hPQ : P ≤ Q) : m.In Q := by
  obtain ⟨h1, h2, h3, h4⟩ := h
  unfold M4.In
  omega
theorem M4.In.mul {m k : M4} {P Q : Int} (hm : m.In P) (hk : k.In Q) : (m.mul k).In (2 * (P * Q)) := by
  obtain ⟨h1, h2, h3, h4⟩ := hm
  obtain ⟨k1, k2, k3, k4⟩ := hk
  have a1 := prodBd h1 k1
  have a2 := prodBd h2 k3
  have a3 := prodBd h1 k2
  have a4 := prodBd h2 k4
  have a5 := prodBd h3 k1
  have a6 := prodBd h4 k3
  have a7 := prodBd h3 k2
  have a8 := prodBd h4 k4
  unfold M4.In M4.mul
  dsimp only
  generalize P * Q = R at *
  omega
theorem M4.In.inv {m : M4} {P : Int} (hm : m.In P) : m.inv.In P := by
  obtain ⟨h1, h2, h3, h4⟩ := hm
  unfold M4.In M4.inv
  dsimp only
  omega
theorem M4.one_in : M4.one.In 1 := by unfold M4.In M4.one; dsimp only; omega
theorem M4.zero_in : M4.zero.In 0 := by unfold M4.In M4.zero; dsimp only; omega
theorem M4.one_ok : M4.one.ok = true := M4.ok_iff.2 (by unfold M4.one; dsimp only; omega)
theorem M4.zero_ok : M4.zero.ok = false := by
  cases h : M4.zero.ok
  · rfl
  · have := (M4.ok_iff.1 h).2
    simp [M4.zero] at this
theorem M4.inv_ok {m : M4} (h : m.ok = true) : m.inv.ok = true := by
  obtain ⟨h1, h2⟩ := M4.ok_iff.1 h
  refine M4.ok_iff.2 ⟨(M4.In.inv h1), ?_⟩
  unfold M4.inv
  dsimp only
  have e1 : -m.b * -m.c = m.b * m.c := Int.neg_mul_neg _ _
  have e2 : m.d * m.a = m.a * m.d := Int.mul_comm _ _
  rw [e1, e2]
  exact h2
theorem M4.one_mul (m : M4) : M4.one.mul m = m := by
  apply M4.same <;> simp [M4.mul, M4.one]
theorem M4.zero_mul (m : M4) : M4.zero.mul m = M4.zero := by
  apply M4.same <;> simp [M4.mul, M4.zero]

/-- the product, or zeros if it is no matrix -/
def M4.within (m k : M4) : M4 := if (m.mul k).ok = true then m.mul k else M4.zero
theorem M4.within_yes {m k : M4} (h : (m.mul k).ok = true) : m.within k = m.mul k := if_pos h
theorem M4.within_no {m k : M4} (h : (m.mul k).ok = false) : m.within k = M4.zero := if_neg (by rw [h]; simp)
theorem M4.zero_within (m : M4) : M4.zero.within m = M4.zero := by
  unfold M4.within
  rw [M4.zero_mul, M4.zero_ok]
  rfl
theorem M4.within_ok (m k : M4) : (m.within k).ok = (m.mul k).ok := by
  cases h : (m.mul k).ok
  · rw [M4.within_no h]; exact M4.zero_ok
  · rw [M4.within_yes h]; exact h
theorem M4.within_in (m k : M4) : (m.within k).In 1000000000 := by
  cases h : (m.mul k).ok
  · rw [M4.within_no h]; exact M4.zero_in.mono (by omega)
  · rw [M4.within_yes h]; exact M4.ok_in h
theorem M4.one_within {m : M4} (h : m.ok = true) : M4.one.within m = m := by
  rw [M4.within_yes (by rw [M4.one_mul]; exact h), M4.one_mul]
/-- a matrix, or zeros with 'no' -/
def M4.fit (m : M4) : M4 := if m.ok = true then m else M4.zero
theorem M4.fit_yes {m : M4} (h : m.ok = true) : m.fit = m := if_pos h
theorem M4.fit_no {m : M4} (h : m.ok = false) : m.fit = M4.zero := if_neg (by rw [h]; simp)

/-- powers, zeros from where on they are no matrix -/
def M4.pw (m : M4) : Nat → M4
  | 0 => M4.one
  | k + 1 => (m.pw k).within m
theorem M4.pw_succ (m : M4) (k : Nat) : m.pw (k + 1) = (m.pw k).within m := rfl
theorem M4.pw_in (m : M4) (k : Nat) : (m.pw k).In 1000000000 := by
  cases k with
  | zero => exact M4.one_in.mono (by omega)
  | succ k => exact M4.within_in _ _
theorem M4.pw_stay (m : M4) (k : Nat) (h : m.pw k = M4.zero) : ∀ j, m.pw (k + j) = M4.zero := by
  intro j
  induction j with
  | zero => exact h
  | succ j ih => rw [← Nat.add_assoc, M4.pw_succ, ih, M4.zero_within]
theorem M4.pw_no (m : M4) (k : Nat) (h : ((m.pw k).mul m).ok = false) : ∀ j, k < j → m.pw j = M4.zero := by
  intro j hj
  obtain ⟨i, rfl⟩ : ∃ i, j = (k + 1) + i := ⟨j - (k + 1), by omega⟩
  exact M4.pw_stay m (k + 1) (by rw [M4.pw_succ, M4.within_no h]) i
theorem M4.one_ne_zero : ¬ M4.zero = M4.one := by
  intro h
  have : M4.zero.a = M4.one.a := by rw [h]
  simp [M4.zero, M4.one] at this
end Go.Proofs.Ytfkkbjbgjmaciaa

/- Contracts of the laws' own helpers over slices of numbers: compared, marked, held, copied, sized. -/
namespace Go.Proofs.Ytfkkbjbgjmaciaa
set_option linter.unusedVariables false
open Go.RowKit


/-- the marks from k on -/
def marksI (n : Nat) (k : Int) : List Int := (List.range n).map fun (i : Nat) => k + (i : Int)
theorem marksI_length (n : Nat) (k : Int) : (marksI n k).length = n := by simp [marksI]
theorem marksI_get (n : Nat) (k : Int) (j : Nat) (h : j < n) : (marksI n k).getD j 0 = k + (j : Int) := by simp [marksI, h]


/-- behind k marks: the first k are marks from 1 on, the others as they were -/
def halfI (l : List Int) (k : Nat) : List Int := marksI k 1 ++ l.drop k
theorem halfI_length (l : List Int) (k : Nat) (h : k ≤ l.length) : (halfI l k).length = l.length := by simp [halfI, marksI_length]; omega
theorem halfI_zero (l : List Int) : halfI l 0 = l := by simp [halfI, marksI]
theorem halfI_all (l : List Int) : halfI l l.length = marksI l.length 1 := by simp [halfI]
theorem marksI_succ (k : Nat) (a : Int) : marksI (k + 1) a = marksI k a ++ [a + (k : Int)] := by simp [marksI, List.range_succ]
theorem halfI_succ (l : List Int) (k : Nat) (h : k < l.length) : (halfI l k).set k ((k : Int) + 1) = halfI l (k + 1) := by
  unfold halfI
  rw [marksI_succ, List.set_append_right _ _ (by simp [marksI_length])]
  simp only [marksI_length, Nat.sub_self, List.append_assoc]
  congr 1
  rw [List.drop_eq_getElem_cons h, List.set_cons_zero, Int.add_comm]
  rfl




/-- a slice's value that owns its numbers reads as them -/
theorem own_form {w : World} {base e size n : Nat} {v : Value} {xs : List Value} (h : w.ownsRow base e size v n xs) : ∃ A c, v = .slice A n c := by
  rcases h.2 with ⟨rfl, rfl⟩ | ⟨g, cap, cur, rfl, _⟩
  · exact ⟨none, 0, rfl⟩
  · exact ⟨_, _, rfl⟩

theorem infoI : (Try.prog.info? 3).map (fun i => (i.zero, i.size, i.bytes)) = some (some (.int .i64 0), 1, 8) := by kernel_rfl

/-- behind k copies -/
def copyI (l : List Int) (k : Nat) : List Int := l.take k ++ List.replicate (l.length - k) 0
theorem copyI_length (l : List Int) (k : Nat) (h : k ≤ l.length) : (copyI l k).length = l.length := by simp [copyI]; omega
theorem copyI_zero (l : List Int) : copyI l 0 = List.replicate l.length 0 := by simp [copyI]
theorem copyI_all (l : List Int) : copyI l l.length = l := by simp [copyI]
theorem copyI_succ (l : List Int) (k : Nat) (h : k < l.length) : (copyI l k).set k (l.getD k 0) = copyI l (k + 1) := by
  unfold copyI
  have hk : (l.take k).length = k := by simp; omega
  rw [List.set_append_right _ _ (by omega), hk, Nat.sub_self, show l.length - k = (l.length - (k + 1)) + 1 by omega, List.replicate_succ, List.set_cons_zero,
    List.take_succ_eq_append_getElem h, List.append_assoc]
  simp [h]

end Go.Proofs.Ytfkkbjbgjmaciaa

/- Contracts of the laws' own helpers over slices of diagonals: copied, compared, marked, held. -/
namespace Go.Proofs.Ytfkkbjbgjmaciaa
set_option linter.unusedVariables false
open Go.RowKit

theorem infoD : (Try.prog.info? 161).map (fun i => (i.zero, i.size, i.bytes)) = some (some (.agg #[.int .i64 0, .int .i64 0]), 2, 16) := by kernel_rfl


theorem dcs_zeros (n : Nat) : (madeCells (Value.agg #[.int .i64 0, .int .i64 0]).cells (n * 2)).toList = dcs (List.replicate n (0, 0)) := by
  have e : (madeCells (Value.agg #[.int .i64 0, .int .i64 0]).cells (n * 2)).toList = List.replicate (n * 2) (.int .i64 0) := by
    apply List.ext_getElem?
    intro j
    show (madeCells #[Value.int .i64 0, Value.int .i64 0] (n * 2)).toList[j]? = _
    by_cases hj : j < n * 2
    · have : j % 2 = 0 ∨ j % 2 = 1 := by omega
      rcases this with h | h <;> simp [madeCells, hj, h]
    · simp [madeCells, hj]
  rw [e]
  clear e
  induction n with
  | zero => rfl
  | succ n ih =>
    have h2 : List.replicate ((n + 1) * 2) (Value.int .i64 0) = Value.int .i64 0 :: Value.int .i64 0 :: List.replicate (n * 2) (Value.int .i64 0) := by
      rw [show (n + 1) * 2 = n * 2 + 1 + 1 by omega]; rfl
    rw [h2, ih]
    rfl

/-- a pair stored into a row of pairs -/
theorem stored2 {w : World} {base e g n cap : Nat} {l : List (Int × Int)} (h : w.ownsRow base e 2 (.slice (some ⟨g, 0, none⟩) n cap) n (dcs l)) (k : Nat) (hk : k < l.length) (x y : Int) :
    ((w.setCell ⟨g, k * 2, none⟩ (.int .i64 x)).setCell ⟨g, k * 2 + 1, none⟩ (.int .i64 y)).ownsRow base e 2 (.slice (some ⟨g, 0, none⟩) n cap) n (dcs (l.set k (x, y))) ∧
    w.grownBy ((w.setCell ⟨g, k * 2, none⟩ (.int .i64 x)).setCell ⟨g, k * 2 + 1, none⟩ (.int .i64 y)) (some g) := by
  obtain ⟨h1, h2⟩ := h.stored (k * 2) (.int .i64 x)
  rw [dcs_set0 l x k hk] at h1
  obtain ⟨h3, h4⟩ := h1.stored (k * 2 + 1) (.int .i64 y)
  rw [dcs_set1 _ y k (by simpa using hk)] at h3
  refine ⟨?_, h2.trans h4⟩
  simpa [hk] using h3


end Go.Proofs.Ytfkkbjbgjmaciaa

/- The laws' own helpers over diagonals: marked and held; and how a function's results in new memory are told. -/
namespace Go.Proofs.Ytfkkbjbgjmaciaa
set_option linter.unusedVariables false
open Go.RowKit



/-- what a function gives back that makes a list of numbers: the list in new memory, and whether it succeeds -/
def RetI (w : World) (L : List Int) (ok : Bool) (e : Ending) (w' : World) : Prop :=
  ∃ A c, e = .returned (.tuple #[.slice A L.length c, .bool ok]) ∧ w'.ownsRow w.heap.size 3 1 (.slice A L.length c) L.length (ics L) ∧ Below w.heap.size w w'
def RetD (w : World) (L : List (Int × Int)) (ok : Bool) (e : Ending) (w' : World) : Prop :=
  ∃ A c, e = .returned (.tuple #[.slice A L.length c, .bool ok]) ∧ w'.ownsRow w.heap.size 161 2 (.slice A L.length c) L.length (dcs L) ∧ Below w.heap.size w w'
/-- the same of a list alone -/
def GivI (w : World) (L : List Int) (e : Ending) (w' : World) : Prop :=
  ∃ A c, e = .returned (.slice A L.length c) ∧ w'.ownsRow w.heap.size 3 1 (.slice A L.length c) L.length (ics L) ∧ Below w.heap.size w w'
def GivD (w : World) (L : List (Int × Int)) (e : Ending) (w' : World) : Prop :=
  ∃ A c, e = .returned (.slice A L.length c) ∧ w'.ownsRow w.heap.size 161 2 (.slice A L.length c) L.length (dcs L) ∧ Below w.heap.size w w'

/-- a row in another block is as it was -/
theorem own_far {w w' : World} {base e size n : Nat} {v : Value} {xs : List Value} {row : Option Nat} (h : w.ownsRow base e size v n xs) (hg : w.grownBy w' row) (hne : ∀ k, v.ownBlock = some k → some k ≠ row) : w'.ownsRow base e size v n xs := by
  refine h.kept hg ?_
  cases hv : v.ownBlock with
  | none => exact .inl rfl
  | some k => exact .inr (by intro e; exact hne k hv e)
theorem below_grown {B : Nat} {w0 w w' : World} {row : Option Nat} (h : Below B w0 w) (hg : w.grownBy w' row) (hB : B ≤ w0.heap.size) (hr : ∀ k, row = some k → B ≤ k) : Below B w0 w' := h.grown hg (Nat.le_trans hB h.size) hr

theorem ne_old {w : World} {base e size n : Nat} {v : Value} {xs : List Value} (h : w.ownsRow base e size v n xs) : ∀ k, v.ownBlock = some k → some k ≠ some w.heap.size := fun k hk e => by
  have := (h.lt k hk).2
  injection e with e
  omega
theorem ne_new {w w' : World} {e size n g : Nat} {v : Value} {xs : List Value} (h : w'.ownsRow w.heap.size e size v n xs) (hg : g < w.heap.size) : ∀ k, v.ownBlock = some k → some k ≠ some g := fun k hk e => by
  have := (h.lt k hk).1
  injection e with e
  omega
theorem ne_two {w w' : World} {b e size n : Nat} {v v2 : Value} {xs : List Value} (h : ∀ k, v2.ownBlock = some k → b ≤ k ∧ k < w.heap.size) (h' : w'.ownsRow w.heap.size e size v n xs) : ∀ k, v2.ownBlock = some k → some k ≠ v.ownBlock := fun k hk e => by
  have := (h k hk).2
  have := (h'.lt k e.symm).1
  omega
theorem above {w w' : World} {B e size n : Nat} {v : Value} {xs : List Value} (h : w'.ownsRow w.heap.size e size v n xs) (hB : B ≤ w.heap.size) : ∀ k, v.ownBlock = some k → B ≤ k := fun k hk => by
  have := (h.lt k hk).1
  omega

theorem above_blk {B g n c : Nat} (h : B ≤ g) : ∀ k, (Value.slice (some ⟨g, 0, none⟩) n c).ownBlock = some k → B ≤ k := fun k hk => by
  simp [Value.ownBlock] at hk
  omega

end Go.Proofs.Ytfkkbjbgjmaciaa

/- append of one element to a list of the call's own: numbers, pairs. -/
namespace Go.Proofs.Ytfkkbjbgjmaciaa
set_option linter.unusedVariables false
open Go.RowKit

section
variable {ops : Array Oper} {rest : List Oper} {o : Oper} {a : Act} {Q : Exit → Act → World → Prop}

theorem append1I (w : World) (hgd : o.guard = none) (s x : Operand) (ho : o.op = .call { callee := .builtin .append, args := #[s, x], argTypes := #[24, 24] })
    (base : Nat) (v : Value) (L : List Int) (hs : a.eval s = v) (hown : w.ownsRow base 3 1 v L.length (ics L)) (g : Nat) (y : Int) (hx : a.eval x = .slice (some ⟨g, 0, none⟩) 1 1)
    (hc : w.cell? ⟨g, 0, none⟩ = some (.int .i64 y)) (hlen : L.length ≤ 1000000) (hbase : base ≤ w.heap.size)
    (h : ∀ A' c' w', w'.ownsRow base 3 1 (.slice A' (L.length + 1) c') (L.length + 1) (ics (L ++ [y])) → w.grownBy w' v.ownBlock → wpList Try.prog ops Q rest (a.put o.dst (.slice A' (L.length + 1) c')) w') :
    wpList Try.prog ops Q (o :: rest) a w := by
  obtain ⟨i0, hi, hz0, hz1, hz2⟩ := info_parts infoI
  refine wpList_append_own w hgd s x 24 ho base 3 i0 (.int .i64 0) 1 8 Try.underlying24 hi hz0 hz1 hz2 rfl (by decide) v L.length (ics L) hs hown ⟨g, 0, none⟩ 1 1 (ics [y]) hx rfl ?_ ?_ ?_ ?_ hbase ?_
  · intro j u hu
    match j, hu with
    | 0, hu =>
      rw [Addr.add_zero', hc]
      simpa [ics] using hu
  · intro u hu
    simp [ics] at hu
    subst hu
    rfl
  · unfold maxLen; omega
  · omega
  · intro v' w' hown' hg _
    rw [← ics_append] at hown'
    obtain ⟨A', c', rfl⟩ := own_form hown'
    exact h A' c' w' hown' hg

theorem append1D (w : World) (hgd : o.guard = none) (s x : Operand) (ho : o.op = .call { callee := .builtin .append, args := #[s, x], argTypes := #[150, 150] })
    (base : Nat) (v : Value) (L : List (Int × Int)) (hs : a.eval s = v) (hown : w.ownsRow base 161 2 v L.length (dcs L)) (g : Nat) (y z : Int) (hx : a.eval x = .slice (some ⟨g, 0, none⟩) 1 1)
    (hc : w.cell? ⟨g, 0, none⟩ = some (.int .i64 y)) (hc' : w.cell? ⟨g, 1, none⟩ = some (.int .i64 z)) (hlen : L.length ≤ 1000000) (hbase : base ≤ w.heap.size)
    (h : ∀ A' c' w', w'.ownsRow base 161 2 (.slice A' (L.length + 1) c') (L.length + 1) (dcs (L ++ [(y, z)])) → w.grownBy w' v.ownBlock → wpList Try.prog ops Q rest (a.put o.dst (.slice A' (L.length + 1) c')) w') :
    wpList Try.prog ops Q (o :: rest) a w := by
  obtain ⟨i0, hi, hz0, hz1, hz2⟩ := info_parts infoD
  refine wpList_append_own w hgd s x 150 ho base 161 i0 (.agg #[.int .i64 0, .int .i64 0]) 2 16 Try.underlying150 hi hz0 hz1 hz2 rfl (by decide) v L.length (dcs L) hs hown ⟨g, 0, none⟩ 1 1 (dcs [(y, z)]) hx rfl ?_ ?_ ?_ ?_ hbase ?_
  · intro j u hu
    match j, hu with
    | 0, hu =>
      rw [Addr.add_zero', hc]
      simpa [dcs] using hu
    | 1, hu =>
      rw [Addr.add_lit, Nat.zero_add, hc']
      simpa [dcs] using hu
  · intro u hu
    simp [dcs] at hu
    rcases hu with rfl | rfl <;> rfl
  · unfold maxLen; omega
  · omega
  · intro v' w' hown' hg _
    rw [← dcs_append] at hown'
    obtain ⟨A', c', rfl⟩ := own_form hown'
    exact h A' c' w' hown' hg
theorem append1In (w : World) (hgd : o.guard = none) (s x : Operand) (ho : o.op = .call { callee := .builtin .append, args := #[s, x], argTypes := #[24, 24] })
    (base : Nat) (v : Value) (n : Nat) (L : List Int) (hn : L.length = n) (hs : a.eval s = v) (hown : w.ownsRow base 3 1 v n (ics L)) (g : Nat) (y : Int) (hx : a.eval x = .slice (some ⟨g, 0, none⟩) 1 1)
    (hc : w.cell? ⟨g, 0, none⟩ = some (.int .i64 y)) (hlen : n ≤ 1000000) (hbase : base ≤ w.heap.size)
    (h : ∀ A' c' w', w'.ownsRow base 3 1 (.slice A' (n + 1) c') (n + 1) (ics (L ++ [y])) → w.grownBy w' v.ownBlock → wpList Try.prog ops Q rest (a.put o.dst (.slice A' (n + 1) c')) w') :
    wpList Try.prog ops Q (o :: rest) a w := by
  subst hn
  exact append1I w hgd s x ho base v L hs hown g y hx hc hlen hbase h
theorem append1Dn (w : World) (hgd : o.guard = none) (s x : Operand) (ho : o.op = .call { callee := .builtin .append, args := #[s, x], argTypes := #[150, 150] })
    (base : Nat) (v : Value) (n : Nat) (L : List (Int × Int)) (hn : L.length = n) (hs : a.eval s = v) (hown : w.ownsRow base 161 2 v n (dcs L)) (g : Nat) (y z : Int) (hx : a.eval x = .slice (some ⟨g, 0, none⟩) 1 1)
    (hc : w.cell? ⟨g, 0, none⟩ = some (.int .i64 y)) (hc' : w.cell? ⟨g, 1, none⟩ = some (.int .i64 z)) (hlen : n ≤ 1000000) (hbase : base ≤ w.heap.size)
    (h : ∀ A' c' w', w'.ownsRow base 161 2 (.slice A' (n + 1) c') (n + 1) (dcs (L ++ [(y, z)])) → w.grownBy w' v.ownBlock → wpList Try.prog ops Q rest (a.put o.dst (.slice A' (n + 1) c')) w') :
    wpList Try.prog ops Q (o :: rest) a w := by
  subst hn
  exact append1D w hgd s x ho base v L hs hown g y z hx hc hc' hlen hbase h
end

/-- the indices of the first k numbers that are 1 -/
def onesF (q : List Int) (k : Nat) : List Int := ((List.range k).filter fun i => q.getD i 0 == 1).map fun (i : Nat) => (i : Int)
theorem onesF_zero (q : List Int) : onesF q 0 = [] := rfl
theorem onesF_hit (q : List Int) (k : Nat) (h : q.getD k 0 = 1) : onesF q (k + 1) = onesF q k ++ [(k : Int)] := by
  unfold onesF
  rw [List.range_succ, List.filter_append]
  simp [h]
  simp at h
  simp [h]
theorem onesF_miss (q : List Int) (k : Nat) (h : q.getD k 0 ≠ 1) : onesF q (k + 1) = onesF q k := by
  unfold onesF
  rw [List.range_succ, List.filter_append]
  simp
  simpa using h
theorem onesF_le (q : List Int) (k : Nat) : (onesF q k).length ≤ k := by
  unfold onesF
  rw [List.length_map]
  have := List.length_filter_le (fun i => q.getD i 0 == 1) (List.range k)
  simpa using this

end Go.Proofs.Ytfkkbjbgjmaciaa

/- append of a slice of numbers that reads as a list (a nil one, an empty one too), onto a row of the call's own: plain, and as a step of a drawn region. -/
namespace Go.Proofs.Ytfkkbjbgjmaciaa
set_option linter.unusedVariables false
open Go.RowKit

theorem one_ics {l : List Int} : ∀ u ∈ ics l, u.oneCell' = true := by
  intro u hu
  simp only [ics, List.mem_map] at hu
  obtain ⟨x, _, rfl⟩ := hu
  rfl
theorem SlI.news {w : World} {B b off : Nat} {l : List Int} (h : SlI w B (some ⟨b, off, none⟩) l) : ∀ j u, (ics l)[j]? = some u → w.cell? ((⟨b, off, none⟩ : Addr).add j) = some u := by
  intro j u hu
  have hj : j < l.length := by
    have := (List.getElem?_eq_some_iff.1 hu).1
    rwa [ics_length] at this
  obtain ⟨b', off', e, _, hc⟩ := h (by omega)
  cases e
  rw [Addr.add_lit]
  rw [ics_get l j hj] at hu
  rw [← hu]
  exact hc j hj

section
variable {ops : Array Oper} {rest : List Oper} {o : Oper} {a : Act} {Q : Exit → Act → World → Prop}
theorem wp_appendNI {K : Act → World → Prop} (w : World) (s x : Operand) (ho : o.op = .call { callee := .builtin .append, args := #[s, x], argTypes := #[24, 24] })
    (base : Nat) (v : Value) (n : Nat) (L : List Int) (hn : L.length = n) (hs : a.eval s = v) (hown : w.ownsRow base 3 1 v n (ics L)) (A : Option Addr) (m c : Nat) (r : List Int) (B N : Nat) (hN : N = n + m) (hx : a.eval x = .slice A m c) (hm : r.length = m)
    (hr : SlI w B A r) (hlen : n ≤ 1000000) (hlr : m ≤ 1000000) (hbase : base ≤ w.heap.size)
    (h : ∀ A' c' w', w'.ownsRow base 3 1 (.slice A' N c') N (ics (L ++ r)) → w.grownBy w' v.ownBlock → K (a.put o.dst (.slice A' N c')) w') :
    o.wp Try.prog a w K Q := by
  subst hN hn
  obtain ⟨i0, hi, hz0, hz1, hz2⟩ := info_parts infoI
  have fin : ∀ v' w', w'.ownsRow base 3 1 v' (L.length + m) (ics L ++ ics r) → w.grownBy w' v.ownBlock → K (a.put o.dst v') w' := by
    intro v' w' ho' hg
    rw [← ics_append] at ho'
    obtain ⟨A', c', rfl⟩ := own_form ho'
    exact h A' c' w' ho' hg
  by_cases h0 : 0 < r.length
  · obtain ⟨b, off, rfl, _, _⟩ := hr h0
    exact wp_append_own w s x 24 ho base 3 i0 (.int .i64 0) 1 8 Try.underlying24 hi hz0 hz1 hz2 rfl (by decide) v L.length (ics L) hs hown ⟨b, off, none⟩ m c (ics r) hx (by rw [ics_length, hm, Nat.mul_one]) hr.news one_ics
      (by unfold maxLen; omega) (by omega) hbase (fun v' w' h1 h2 _ => fin v' w' h1 h2)
  · obtain rfl : r = [] := List.eq_nil_of_length_eq_zero (by omega)
    obtain rfl : m = 0 := hm.symm
    cases A with
    | some ad =>
      exact wp_append_own w s x 24 ho base 3 i0 (.int .i64 0) 1 8 Try.underlying24 hi hz0 hz1 hz2 rfl (by decide) v L.length (ics L) hs hown ad 0 c (ics []) hx rfl (fun j u hu => by simp [ics] at hu) one_ics
        (by unfold maxLen; omega) (by omega) hbase (fun v' w' h1 h2 _ => fin v' w' h1 h2)
    | none =>
      obtain ⟨v', hrun⟩ : ∃ v', (Builtin.append_ #[24, 24] o.type #[v, .slice none 0 c]).run Try.prog w = .ok v' w ∧ v' = v := by
        refine ⟨v, ?_, rfl⟩
        rcases hown.2 with ⟨rfl, hn⟩ | ⟨g, cap, cur, rfl, _, _, hnc, _⟩
        · simp [Builtin.append_, run_underlying Try.underlying24, sizeOf, typeInfo, hi, Builtin.lenOf, Builtin.firstCells]
        · simp [Builtin.append_, run_underlying Try.underlying24, sizeOf, typeInfo, hi, Builtin.lenOf, Builtin.firstCells, hnc, storeCells]
      obtain ⟨hrun, rfl⟩ := hrun
      unfold Oper.wp execOp
      simp only [ho, resolve, invoke, builtin, Sem.run_bind, Sem.run_pure, Result.andThen_ok, List.map_toArray, List.map_cons, List.map_nil, hs, hx, hrun]
      exact fin v' w (by simpa [ics] using hown) (World.grownBy.refl w _)
theorem wpList_appendNI (w : World) (hgd : o.guard = none) (s x : Operand) (ho : o.op = .call { callee := .builtin .append, args := #[s, x], argTypes := #[24, 24] })
    (base : Nat) (v : Value) (n : Nat) (L : List Int) (hn : L.length = n) (hs : a.eval s = v) (hown : w.ownsRow base 3 1 v n (ics L)) (A : Option Addr) (m c : Nat) (r : List Int) (B N : Nat) (hN : N = n + m) (hx : a.eval x = .slice A m c) (hm : r.length = m)
    (hr : SlI w B A r) (hlen : n ≤ 1000000) (hlr : m ≤ 1000000) (hbase : base ≤ w.heap.size)
    (h : ∀ A' c' w', w'.ownsRow base 3 1 (.slice A' N c') N (ics (L ++ r)) → w.grownBy w' v.ownBlock → wpList Try.prog ops Q rest (a.put o.dst (.slice A' N c')) w') :
    wpList Try.prog ops Q (o :: rest) a w :=
  wpList_plain hgd fun _ hK => wp_appendNI w s x ho base v n L hn hs hown A m c r B N hN hx hm hr hlen hlr hbase fun A' c' w' h1 h2 => hK _ _ (h A' c' w' h1 h2)
theorem step_appendNI {K : Act → World → Prop} {E : Prop} (w : World) (hgd : o.guard = none) (s x : Operand) (ho : o.op = .call { callee := .builtin .append, args := #[s, x], argTypes := #[24, 24] })
    (base : Nat) (v : Value) (n : Nat) (L : List Int) (hn : L.length = n) (hs : a.eval s = v) (hown : w.ownsRow base 3 1 v n (ics L)) (A : Option Addr) (m c : Nat) (r : List Int) (B N : Nat) (hN : N = n + m) (hx : a.eval x = .slice A m c) (hm : r.length = m)
    (hr : SlI w B A r) (hlen : n ≤ 1000000) (hlr : m ≤ 1000000) (hbase : base ≤ w.heap.size)
    (h : ∀ A' c' w', w'.ownsRow base 3 1 (.slice A' N c') N (ics (L ++ r)) → w.grownBy w' v.ownBlock → K (a.put o.dst (.slice A' N c')) w') :
    if Region.wanted o (yielded ops a.tmps) = true then Oper.wp Try.prog o a w K Q else E := by
  have hw : Region.wanted o (yielded ops a.tmps) = true := by simp [Region.wanted, hgd]
  rw [if_pos hw]
  exact wp_appendNI w s x ho base v n L hn hs hown A m c r B N hN hx hm hr hlen hlr hbase h
end

/-- the rest of a slice from k on, whatever the address that an empty rest bears -/
theorem SlI.cutIf {w : World} {B b off c : Nat} {l : List Int} {a0 : Addr} (h : SlI w B (some ⟨b, off, none⟩) l) (k : Nat) (hc : l.length ≤ c) : SlI w B (some (if c = k then a0 else ⟨b, off + k, none⟩)) (l.drop k) := fun h0 => by
  have hl : k < l.length := by simp at h0; omega
  obtain ⟨b', off', e, hb, hcell⟩ := h (by omega)
  cases e
  rw [if_neg (by omega)]
  refine ⟨b, off + k, rfl, hb, fun j hj => ?_⟩
  have hj2 : k + j < l.length := by simp at hj; omega
  have e : (l.drop k).getD j 0 = l.getD (k + j) 0 := by simp [List.getD_eq_getElem?_getD]
  rw [e, show off + k + j = off + (k + j) by omega]
  exact hcell (k + j) hj2
theorem own_madeI (w : World) {B : Nat} (hB : B ≤ w.heap.size) : (w.alloc (.cells #[] 3)).ownsRow B 3 1 (.slice (some ⟨w.heap.size, 0, none⟩) 0 0) 0 (ics []) :=
  World.ownsRow_made w #[] 0 hB (by decide) rfl
theorem own_capI {w : World} {base e size n c : Nat} {A : Option Addr} {xs : List Value} (h : w.ownsRow base e size (.slice A n c) n xs) : n ≤ c := by
  rcases h.2 with ⟨h', hn⟩ | ⟨g, cap, cur, h', _, _, hnc, _⟩
  · omega
  · injection h' with _ _ hc
    omega
end Go.Proofs.Ytfkkbjbgjmaciaa

/- Contracts of the model's small helpers over lists of numbers. -/
namespace Go.Proofs.Ytfkkbjbgjmaciaa
set_option linter.unusedVariables false
open Go.RowKit

theorem spec_l1In' (n lo hi : Int) (w : World) : Calls Try.prog 104 #[.int .i64 n, .int .i64 lo, .int .i64 hi] w fun e w' => e = .returned (.bool (inB n lo hi)) ∧ w = w' := by
  go_enter Try.func104, Try.ntmps104
  go_wp2
  all_goals go_ret
  all_goals refine ⟨ret_bool ?_, rfl⟩
  all_goals (unfold inB; rw [Bool.eq_iff_iff]; simp; try omega)

theorem spec_l1Own (A : Option Addr) (n c B : Nat) (l : List Int) (w : World) (hn : l.length = n) (h : SlI w B A l) (hB : B ≤ w.heap.size) (hl : n ≤ 1000000) :
    Calls Try.prog 114 #[.slice A n c] w (GivI w l) := by
  have own0 := own_madeI w (B := w.heap.size) (Nat.le_refl _)
  have hb0 : Below w.heap.size w (w.alloc (.cells #[] 3)) := (Below.refl w.heap.size w).alloc (Nat.le_refl _) _
  have hs := h.below (hb0.mono hB)
  have Hn := Lib.hid hn
  have Hs := Lib.hid hs
  have Hb0 := Lib.hid hb0
  clear hn h hs hb0
  go_enter Try.func114, Try.ntmps114
  go_wp2_with (at_builtin; refine wpList_appendNI _ rfl _ _ rfl w.heap.size (.slice (some ⟨w.heap.size, 0, none⟩) 0 0) 0 [] rfl rfl own0 A n c l B n (Nat.zero_add n).symm rfl Hn.out Hs.out (by omega) hl Hb0.out.size ?_; intro A3 c3 w3 own3 hg3)
  have hb3 := Hb0.out.grown hg3 Hb0.out.size (above_blk (Nat.le_refl _))
  have hres : GivI w l (.returned (.slice A3 n c3)) w3 := by
    have e := Hn.out
    subst e
    exact ⟨A3, c3, rfl, own3, hb3⟩
  have Hres := Lib.hid hres
  clear hres own3 hg3 hb3 own0
  go_wp2
  go_ret
  exact Hres.out

theorem allB_take (l : List Int) (lo hi : Int) (k : Nat) (h : k < l.length) : allB (l.take (k + 1)) lo hi = (allB (l.take k) lo hi && decide (lo ≤ l.getD k 0 ∧ l.getD k 0 ≤ hi)) := by
  unfold allB
  rw [List.take_succ_eq_append_getElem h, List.all_append]
  simp [h]
theorem allB_bad (l : List Int) (lo hi : Int) (k : Nat) (h : k < l.length) (hx : inB (l.getD k 0) lo hi = false) : allB l lo hi = false := by
  cases hc : allB l lo hi
  · rfl
  · have := allB_iff.1 hc k h
    unfold inB at hx
    rw [decide_eq_false_iff_not] at hx
    exact absurd this hx

theorem spec_l1All (A : Option Addr) (c B : Nat) (l : List Int) (lo hi : Int) (w : World) (h : SlI w B A l) (hl : l.length ≤ 1000000000) :
    Calls Try.prog 168 #[.slice A l.length c, .int .i64 lo, .int .i64 hi] w fun e w' => e = .returned (.bool (allB l lo hi)) ∧ w = w' := by
  go_enter Try.func168, Try.ntmps168
  go_wp2
  go_loop [8, 11] (fun _ i => ∃ k : Nat, k ≤ l.length ∧ i = .int .i64 k ∧ allB (l.take k) lo hi = true) (fun _ i => l.length - (intOf i).toNat)
  case atStart => exact ⟨0, Nat.zero_le _, rfl, by simp [allB]⟩
  case round =>
    obtain ⟨k, hk, rfl, hno⟩ := hrel
    have Hno := Lib.hid hno
    clear hno
    by_cases hlt : k < l.length
    · obtain ⟨b', off, rfl, hbB, hc⟩ := h (by omega)
      have g0 := hc k hlt
      have i0 : (0 : Int) ≤ (k : Int) := by omega
      have i1 : (k : Int) < (l.length : Int) := by omega
      have hst := allB_take l lo hi k hlt
      have hbad := allB_bad l lo hi k hlt
      clear hc h
      generalize l.getD k 0 = x at *
      have Hst := Lib.hid hst
      have Hbad := Lib.hid hbad
      clear hst hbad
      go_wp2_with fail
      refine (spec_l1In' _ _ _ _).mono ?_
      rintro e w1 ⟨rfl, rfl⟩
      clear g0
      cases hx : inB x lo hi
      · go_wp2
        go_ret
        exact ⟨ret_bool (Hbad.out hx).symm, rfl⟩
      · go_wp2
        go_round
        case rel => exact ⟨k + 1, by omega, by go_num, by rw [Hst.out, Hno.out]; unfold inB at hx; simpa using hx⟩
        case measure => simp [intOf]; omega
    · obtain rfl : k = l.length := by omega
      have hno := Hno.out
      rw [List.take_length] at hno
      have Hno2 := Lib.hid hno
      clear hno
      go_wp2
      go_ret
      exact ⟨ret_bool Hno2.out.symm, rfl⟩
end Go.Proofs.Ytfkkbjbgjmaciaa

/- Contracts of chapter 4's small functions, the model's and the program's. -/
namespace Go.Proofs.Ytfkkbjbgjmaciaa
set_option linter.unusedVariables false
open Go.RowKit

theorem below2 (w : World) (x y : Obj) : Below w.heap.size w ((w.alloc x).alloc y) := ((Below.refl _ _).alloc (Nat.le_refl _) _).alloc (by simp) _

theorem spec_mxGood (a b c d : Int) (w : World) :
    Calls Try.prog 142 #[.agg #[.int .i64 a, .int .i64 b, .int .i64 c, .int .i64 d]] w fun e w' => e = .returned (.bool (mxB a b c d)) ∧ Below w.heap.size w w' := by
  go_enter Try.func142, Try.ntmps142
  go_wp2_with fail
  have hs : SlI ((w.alloc (Obj.cells #[.int .i64 a, .int .i64 b, .int .i64 c, .int .i64 d] 53)).alloc (Obj.cells #[.int .i64 a, .int .i64 b, .int .i64 c, .int .i64 d] 3)) (w.heap.size + 2) (some ⟨w.heap.size + 1, 0, none⟩) [a, b, c, d] := fun _ => ⟨_, _, rfl, by omega, fun j hj => by
    have h : j = 0 ∨ j = 1 ∨ j = 2 ∨ j = 3 := by simp at hj; omega
    rcases h with rfl | rfl | rfl | rfl <;> simp [go_sem]⟩
  refine (spec_l1All _ _ _ [a, b, c, d] _ _ _ hs (by simp)).mono ?_
  clear hs
  rintro e w1 ⟨rfl, rfl⟩
  cases hbig : allB [a, b, c, d] (-1000000000) 1000000000
  · have HR := Lib.hid (show mxB a b c d = false by unfold mxB bigB; rw [hbig]; rfl)
    clear hbig
    go_wp2
    go_ret
    exact ⟨ret_bool HR.out.symm, below2 _ _ _⟩
  · have hb : bigB a b c d = true := hbig
    obtain ⟨⟨a1, a2⟩, ⟨b1, b2⟩, ⟨c1, c2⟩, ⟨d1, d2⟩⟩ := bigB_iff.1 hb
    obtain ⟨p1, p2⟩ := prodBig ⟨a1, a2⟩ ⟨d1, d2⟩
    obtain ⟨q1, q2⟩ := prodBig ⟨b1, b2⟩ ⟨c1, c2⟩
    have HR := Lib.hid (show mxB a b c d = decide (a * d - b * c = 1) by unfold mxB; rw [hb]; rfl)
    clear hbig hb
    go_wp2
    go_ret
    exact ⟨ret_bool (by rw [HR.out]; rw [Bool.eq_iff_iff]; simp), below2 _ _ _⟩
theorem impl_squareOf (a b c d : Int) (w : World) :
    Calls Try.prog 137 #[.agg #[.int .i64 a, .int .i64 b, .int .i64 c, .int .i64 d]] w fun e w' => e = .returned (.agg #[.int .i64 a, .int .i64 b, .int .i64 c, .int .i64 d]) ∧ Below w.heap.size w w' := by
  go_enter Try.func137, Try.ntmps137
  go_wp2
  exact bodyPost_ret (v := .agg #[.int .i64 a, .int .i64 b, .int .i64 c, .int .i64 d]) (by simp [results, Try.results137, go_sem]) rfl ⟨rfl, below2 _ _ _⟩
theorem impl_unitSquare (w : World) :
    Calls Try.prog 138 #[] w fun e w' => e = .returned (.agg #[.int .i64 1, .int .i64 0, .int .i64 0, .int .i64 1]) ∧ Below w.heap.size w w' := by
  go_enter Try.func138, Try.ntmps138
  go_wp2
  exact bodyPost_ret (v := .agg #[.int .i64 1, .int .i64 0, .int .i64 0, .int .i64 1]) (by simp [results, Try.results138, go_sem]) rfl ⟨rfl, (Below.refl _ _).alloc (Nat.le_refl _) _⟩
theorem spec_mxOne (w : World) :
    Calls Try.prog 132 #[] w fun e w' => e = .returned (.agg #[.int .i64 1, .int .i64 0, .int .i64 0, .int .i64 1]) ∧ Below w.heap.size w w' := by
  go_enter Try.func132, Try.ntmps132
  go_wp2
  exact bodyPost_ret (v := .agg #[.int .i64 1, .int .i64 0, .int .i64 0, .int .i64 1]) (by simp [results, Try.results132, go_sem]) rfl ⟨rfl, (Below.refl _ _).alloc (Nat.le_refl _) _⟩
theorem impl_IsMatrix (a b c d : Int) (w : World) :
    Calls Try.prog 136 #[.agg #[.int .i64 a, .int .i64 b, .int .i64 c, .int .i64 d]] w fun e w' => e = .returned (.bool (mxB a b c d)) ∧ Below w.heap.size w w' := by
  go_enter Try.func136, Try.ntmps136
  go_wp2_with fail
  refine (impl_squareOf a b c d _).mono ?_
  rintro e w1 ⟨rfl, hb1⟩
  obtain ⟨hc1, hf1, hz1⟩ := bcell hb1
  have hy : w.heap.size < w1.heap.size := by simp at hz1; omega
  have hb2 := ((Below.refl w.heap.size w).alloc (Nat.le_refl _) _).trans (hb1.mono (by simp))
  have i0 : ∀ w, (Instr.index 111 (.agg #[.int .i64 a, .int .i64 b, .int .i64 c, .int .i64 d]) (.int .i64 0)).run Try.prog w = .ok (.int .i64 a) w := fun _ => by kernel_rfl
  have i1 : ∀ w, (Instr.index 111 (.agg #[.int .i64 a, .int .i64 b, .int .i64 c, .int .i64 d]) (.int .i64 1)).run Try.prog w = .ok (.int .i64 b) w := fun _ => by kernel_rfl
  have i2 : ∀ w, (Instr.index 111 (.agg #[.int .i64 a, .int .i64 b, .int .i64 c, .int .i64 d]) (.int .i64 2)).run Try.prog w = .ok (.int .i64 c) w := fun _ => by kernel_rfl
  have i3 : ∀ w, (Instr.index 111 (.agg #[.int .i64 a, .int .i64 b, .int .i64 c, .int .i64 d]) (.int .i64 3)).run Try.prog w = .ok (.int .i64 d) w := fun _ => by kernel_rfl
  clear hb1
  by_cases hbig : bigB a b c d = true
  · obtain ⟨⟨a1, a2⟩, ⟨b1, b2⟩, ⟨c1, c2⟩, ⟨d1, d2⟩⟩ := bigB_iff.1 hbig
    obtain ⟨p1, p2⟩ := prodBig ⟨a1, a2⟩ ⟨d1, d2⟩
    obtain ⟨q1, q2⟩ := prodBig ⟨b1, b2⟩ ⟨c1, c2⟩
    have HR := Lib.hid (show mxB a b c d = decide (a * d - b * c = 1) by unfold mxB; rw [hbig]; rfl)
    clear hbig
    go_wp2
    refine wp_loop_rounds 5 ?_
    rw [rounds_succ]
    go_wp2
    rw [rounds_succ]
    go_wp2
    rw [rounds_succ]
    go_wp2
    rw [rounds_succ]
    go_wp2
    rw [rounds_succ]
    go_wp2
    go_ret
    exact ⟨ret_bool (by rw [HR.out]; rw [Bool.eq_iff_iff]; simp), hb2⟩
  · have hno : mxB a b c d = false := by unfold mxB; rw [Bool.not_eq_true] at hbig; rw [hbig]; rfl
    have HR := Lib.hid hno
    have hbig2 := fun h => hbig (bigB_iff.2 h)
    have HB := Lib.hid hbig2
    clear hbig hbig2 hno
    go_wp2
    refine wp_loop_rounds 5 ?_
    rw [rounds_succ]
    go_wp2
    all_goals try (rw [rounds_succ]; go_wp2)
    all_goals try (rw [rounds_succ]; go_wp2)
    all_goals try (rw [rounds_succ]; go_wp2)
    all_goals try (rw [rounds_succ]; go_wp2)
    all_goals go_ret
    all_goals first
      | exact ⟨ret_bool HR.out.symm, hb2⟩
      | (exfalso; apply HB.out; simp at *; omega)
end Go.Proofs.Ytfkkbjbgjmaciaa

/- Chapter 4: products, inverses, and what is a matrix, the model's and the program's. -/
namespace Go.Proofs.Ytfkkbjbgjmaciaa
set_option linter.unusedVariables false
open Go.RowKit

theorem mulFacts {a b c d e f g h P Q : Int} (hm : M4.In ⟨a, b, c, d⟩ P) (hk : M4.In ⟨e, f, g, h⟩ Q) (hPQ : P * Q ≤ 4000000000000000000) :
    ((-4000000000000000000 ≤ a * e ∧ a * e ≤ 4000000000000000000) ∧ (-4000000000000000000 ≤ b * g ∧ b * g ≤ 4000000000000000000)) ∧
    ((-4000000000000000000 ≤ a * f ∧ a * f ≤ 4000000000000000000) ∧ (-4000000000000000000 ≤ b * h ∧ b * h ≤ 4000000000000000000)) ∧
    ((-4000000000000000000 ≤ c * e ∧ c * e ≤ 4000000000000000000) ∧ (-4000000000000000000 ≤ d * g ∧ d * g ≤ 4000000000000000000)) ∧
    ((-4000000000000000000 ≤ c * f ∧ c * f ≤ 4000000000000000000) ∧ (-4000000000000000000 ≤ d * h ∧ d * h ≤ 4000000000000000000)) := by
  obtain ⟨h1, h2, h3, h4⟩ := hm
  obtain ⟨k1, k2, k3, k4⟩ := hk
  have a1 := prodBd h1 k1
  have a2 := prodBd h2 k3
  have a3 := prodBd h1 k2
  have a4 := prodBd h2 k4
  have a5 := prodBd h3 k1
  have a6 := prodBd h4 k3
  have a7 := prodBd h3 k2
  have a8 := prodBd h4 k4
  dsimp only at *
  generalize P * Q = R at *
  omega

theorem spec_mxTimes (a b c d e f g h P Q : Int) (w : World) (hm : M4.In ⟨a, b, c, d⟩ P) (hk : M4.In ⟨e, f, g, h⟩ Q) (hPQ : P * Q ≤ 4000000000000000000) :
    Calls Try.prog 134 #[.agg #[.int .i64 a, .int .i64 b, .int .i64 c, .int .i64 d], .agg #[.int .i64 e, .int .i64 f, .int .i64 g, .int .i64 h]] w fun r w' =>
      r = .returned (.agg #[.int .i64 (a * e + b * g), .int .i64 (a * f + b * h), .int .i64 (c * e + d * g), .int .i64 (c * f + d * h)]) ∧ Below w.heap.size w w' := by
  obtain ⟨⟨⟨p1, p2⟩, ⟨p3, p4⟩⟩, ⟨⟨p5, p6⟩, ⟨p7, p8⟩⟩, ⟨⟨q1, q2⟩, ⟨q3, q4⟩⟩, ⟨⟨q5, q6⟩, ⟨q7, q8⟩⟩⟩ := mulFacts hm hk hPQ
  clear hm hk hPQ
  go_enter Try.func134, Try.ntmps134
  go_wp2
  exact bodyPost_ret (v := .agg #[.int .i64 (a * e + b * g), .int .i64 (a * f + b * h), .int .i64 (c * e + d * g), .int .i64 (c * f + d * h)]) (by simp [results, Try.results134, go_sem]) rfl ⟨rfl, ((Below.refl _ _).alloc (Nat.le_refl _) _).alloc (by simp) _ |>.alloc (by simp; omega) _⟩
theorem impl_times (a b c d e f g h P Q : Int) (w : World) (hm : M4.In ⟨a, b, c, d⟩ P) (hk : M4.In ⟨e, f, g, h⟩ Q) (hPQ : P * Q ≤ 4000000000000000000) :
    Calls Try.prog 131 #[.agg #[.int .i64 a, .int .i64 b, .int .i64 c, .int .i64 d], .agg #[.int .i64 e, .int .i64 f, .int .i64 g, .int .i64 h]] w fun r w' =>
      r = .returned (.agg #[.int .i64 (a * e + b * g), .int .i64 (a * f + b * h), .int .i64 (c * e + d * g), .int .i64 (c * f + d * h)]) ∧ Below w.heap.size w w' := by
  obtain ⟨⟨⟨p1, p2⟩, ⟨p3, p4⟩⟩, ⟨⟨p5, p6⟩, ⟨p7, p8⟩⟩, ⟨⟨q1, q2⟩, ⟨q3, q4⟩⟩, ⟨⟨q5, q6⟩, ⟨q7, q8⟩⟩⟩ := mulFacts hm hk hPQ
  clear hm hk hPQ
  go_enter Try.func131, Try.ntmps131
  go_wp2
  exact bodyPost_ret (v := .agg #[.int .i64 (a * e + b * g), .int .i64 (a * f + b * h), .int .i64 (c * e + d * g), .int .i64 (c * f + d * h)]) (by simp [results, Try.results131, go_sem]) rfl ⟨rfl, ((Below.refl _ _).alloc (Nat.le_refl _) _).alloc (by simp) _ |>.alloc (by simp; omega) _⟩
theorem below_set4 {B g : Nat} {w0 w : World} {x0 x1 x2 x3 : Value} (h : Below B w0 w) (hg : B ≤ g) : Below B w0 ((((w.setCell ⟨g, 0, none⟩ x0).setCell ⟨g, 1, none⟩ x1).setCell ⟨g, 2, none⟩ x2).setCell ⟨g, 3, none⟩ x3) :=
  (((h.setCell (p := ⟨g, 0, none⟩) hg _).setCell (p := ⟨g, 1, none⟩) hg _).setCell (p := ⟨g, 2, none⟩) hg _).setCell (p := ⟨g, 3, none⟩) hg _
theorem spec_mxIf_yes (a b c d : Int) (w : World) (h : mxB a b c d = true) :
    Calls Try.prog 135 #[.agg #[.int .i64 a, .int .i64 b, .int .i64 c, .int .i64 d]] w fun r w' =>
      r = .returned (.tuple #[.agg #[.int .i64 a, .int .i64 b, .int .i64 c, .int .i64 d], .bool true]) ∧ Below w.heap.size w w' := by
  have hc := spec_mxGood a b c d
  rw [h] at hc
  have Hc := Lib.hid hc
  clear hc h
  go_enter Try.func135, Try.ntmps135
  go_wp2_with fail
  refine (Hc.out _).mono ?_
  rintro e w1 ⟨rfl, hb1⟩
  obtain ⟨hc1, hf1, hz1⟩ := bcell hb1
  have hy2 : w.heap.size + 1 < w1.heap.size := by simp at hz1; omega
  have hy1 : w.heap.size + 1 < w1.heap.size := by omega
  have hy0 : w.heap.size < w1.heap.size := by omega
  have hd := (below2 w _ _).trans (hb1.mono (by simp; omega))
  clear hb1 Hc
  go_wp2
  exact bodyPost_ret (v := .tuple #[.agg #[.int .i64 a, .int .i64 b, .int .i64 c, .int .i64 d], .bool true]) (by simp [results, Try.results135, go_sem, hc1, hf1, hy0, hy1, hy2]) rfl ⟨rfl, below_set4 hd (by omega)⟩
theorem spec_mxIf_no (a b c d : Int) (w : World) (h : mxB a b c d = false) :
    Calls Try.prog 135 #[.agg #[.int .i64 a, .int .i64 b, .int .i64 c, .int .i64 d]] w fun r w' =>
      r = .returned (.tuple #[.agg #[.int .i64 0, .int .i64 0, .int .i64 0, .int .i64 0], .bool false]) ∧ Below w.heap.size w w' := by
  have hc := spec_mxGood a b c d
  rw [h] at hc
  have Hc := Lib.hid hc
  clear hc h
  go_enter Try.func135, Try.ntmps135
  go_wp2_with fail
  refine (Hc.out _).mono ?_
  rintro e w1 ⟨rfl, hb1⟩
  obtain ⟨hc1, hf1, hz1⟩ := bcell hb1
  have hy2 : w.heap.size + 1 < w1.heap.size := by simp at hz1; omega
  have hy1 : w.heap.size + 1 < w1.heap.size := by omega
  have hy0 : w.heap.size < w1.heap.size := by omega
  have hd := (below2 w _ _).trans (hb1.mono (by simp; omega))
  clear hb1 Hc
  go_wp2
  exact bodyPost_ret (v := .tuple #[.agg #[.int .i64 0, .int .i64 0, .int .i64 0, .int .i64 0], .bool false]) (by simp [results, Try.results135, go_sem, hc1, hf1, hy0, hy1, hy2]) rfl ⟨rfl, below_set4 hd (by omega)⟩
theorem impl_matrixOf_yes (a b c d : Int) (w : World) (h : mxB a b c d = true) :
    Calls Try.prog 129 #[.agg #[.int .i64 a, .int .i64 b, .int .i64 c, .int .i64 d]] w fun r w' =>
      r = .returned (.tuple #[.agg #[.int .i64 a, .int .i64 b, .int .i64 c, .int .i64 d], .bool true]) ∧ Below w.heap.size w w' := by
  have hc := impl_IsMatrix a b c d
  rw [h] at hc
  have Hc := Lib.hid hc
  clear hc h
  go_enter Try.func129, Try.ntmps129
  go_wp2_with fail
  refine (Hc.out _).mono ?_
  rintro e w1 ⟨rfl, hb1⟩
  obtain ⟨hc1, hf1, hz1⟩ := bcell hb1
  have hy2 : w.heap.size + 2 < w1.heap.size := by simp at hz1; omega
  have hy1 : w.heap.size + 1 < w1.heap.size := by omega
  have hy0 : w.heap.size < w1.heap.size := by omega
  have hd := ((below2 w _ _).alloc (by simp; omega) _).trans (hb1.mono (by simp; omega))
  clear hb1 Hc
  go_wp2
  exact bodyPost_ret (v := .tuple #[.agg #[.int .i64 a, .int .i64 b, .int .i64 c, .int .i64 d], .bool true]) (by simp [results, Try.results129, go_sem, hc1, hf1, hy0, hy1, hy2]) rfl ⟨rfl, below_set4 hd (by omega)⟩
theorem impl_matrixOf_no (a b c d : Int) (w : World) (h : mxB a b c d = false) :
    Calls Try.prog 129 #[.agg #[.int .i64 a, .int .i64 b, .int .i64 c, .int .i64 d]] w fun r w' =>
      r = .returned (.tuple #[.agg #[.int .i64 0, .int .i64 0, .int .i64 0, .int .i64 0], .bool false]) ∧ Below w.heap.size w w' := by
  have hc := impl_IsMatrix a b c d
  rw [h] at hc
  have Hc := Lib.hid hc
  clear hc h
  go_enter Try.func129, Try.ntmps129
  go_wp2_with fail
  refine (Hc.out _).mono ?_
  rintro e w1 ⟨rfl, hb1⟩
  obtain ⟨hc1, hf1, hz1⟩ := bcell hb1
  have hy2 : w.heap.size + 2 < w1.heap.size := by simp at hz1; omega
  have hy1 : w.heap.size + 1 < w1.heap.size := by omega
  have hy0 : w.heap.size < w1.heap.size := by omega
  have hd := ((below2 w _ _).alloc (by simp; omega) _).trans (hb1.mono (by simp; omega))
  clear hb1 Hc
  go_wp2
  exact bodyPost_ret (v := .tuple #[.agg #[.int .i64 0, .int .i64 0, .int .i64 0, .int .i64 0], .bool false]) (by simp [results, Try.results129, go_sem, hc1, hf1, hy0, hy1, hy2]) rfl ⟨rfl, below_set4 hd (by omega)⟩
theorem impl_inverse (a b c d : Int) (w : World) (hb : -1000000000 ≤ b ∧ b ≤ 1000000000) (hc : -1000000000 ≤ c ∧ c ≤ 1000000000) :
    Calls Try.prog 140 #[.agg #[.int .i64 a, .int .i64 b, .int .i64 c, .int .i64 d]] w fun r w' =>
      r = .returned (.agg #[.int .i64 d, .int .i64 (-b), .int .i64 (-c), .int .i64 a]) ∧ Below w.heap.size w w' := by
  obtain ⟨b1, b2⟩ := hb
  obtain ⟨c1, c2⟩ := hc
  go_enter Try.func140, Try.ntmps140
  go_wp2
  exact bodyPost_ret (v := .agg #[.int .i64 d, .int .i64 (-b), .int .i64 (-c), .int .i64 a]) (by simp [results, Try.results140, go_sem]) rfl ⟨rfl, below2 _ _ _⟩
end Go.Proofs.Ytfkkbjbgjmaciaa

/- What chapter 4's laws share: a box of four numbers, kept; the laws' own comparison. -/
namespace Go.Proofs.Ytfkkbjbgjmaciaa
set_option linter.unusedVariables false
open Go.RowKit

/-- four numbers lie in a block -/
def Bx (w : World) (g : Nat) (a b c d : Int) : Prop :=
  w.cell? ⟨g, 0, none⟩ = some (.int .i64 a) ∧ w.cell? ⟨g, 1, none⟩ = some (.int .i64 b) ∧ w.cell? ⟨g, 2, none⟩ = some (.int .i64 c) ∧ w.cell? ⟨g, 3, none⟩ = some (.int .i64 d)
theorem Bx.new (w : World) (t : TypeId) (a b c d : Int) : Bx (w.alloc (.cells #[.int .i64 a, .int .i64 b, .int .i64 c, .int .i64 d] t)) w.heap.size a b c d := by
  unfold Bx
  simp [go_sem]
theorem Bx.lt {w : World} {g : Nat} {a b c d : Int} (h : Bx w g a b c d) : g < w.heap.size := World.block_lt_of_cell? w _ h.1
theorem Bx.kept {w w' : World} {g : Nat} {a b c d : Int} (h : Bx w g a b c d) (hb : Below w.heap.size w w') : Bx w' g a b c d :=
  ⟨cell_kept hb h.1, cell_kept hb h.2.1, cell_kept hb h.2.2.1, cell_kept hb h.2.2.2⟩
theorem Bx.alloc {w : World} {g : Nat} {a b c d : Int} (h : Bx w g a b c d) (o : Obj) : Bx (w.alloc o) g a b c d :=
  h.kept ((Below.refl _ _).alloc (Nat.le_refl _) _)
theorem Bx.drew {w : World} {g : Nat} {a b c d : Int} (h : Bx w g a b c d) : Bx w.drew g a b c d := h
theorem Bx.drewN {w : World} {g : Nat} {a b c d : Int} (h : Bx w g a b c d) (n : Nat) : Bx (w.drewN n) g a b c d := h
theorem below_alloc1 {B : Nat} {w0 w : World} (h : Below B w0 w) (hB : B ≤ w0.heap.size) (o : Obj) : Below B w0 (w.alloc o) := h.alloc (Nat.le_trans hB h.size) _
end Go.Proofs.Ytfkkbjbgjmaciaa

/- multiplyAll: products of squares, in order: by times, and by timesWithin. -/
namespace Go.Proofs.Ytfkkbjbgjmaciaa
set_option linter.unusedVariables false
open Go.RowKit

/-- what lies in a block may be written -/
def Fz (w : World) (g : Nat) : Prop := w.frozen? ⟨g, 0, none⟩ = false ∧ w.frozen? ⟨g, 1, none⟩ = false ∧ w.frozen? ⟨g, 2, none⟩ = false ∧ w.frozen? ⟨g, 3, none⟩ = false
theorem Fz.new (w : World) (t : TypeId) (a b c d : Int) : Fz (w.alloc (.cells #[.int .i64 a, .int .i64 b, .int .i64 c, .int .i64 d] t)) w.heap.size := by
  unfold Fz
  simp [go_sem]
theorem Fz.kept {w w' : World} {g : Nat} (h : Fz w g) (hg : g < w.heap.size) (hb : Below w.heap.size w w') : Fz w' g :=
  ⟨(hb.frozen (p := ⟨g, 0, none⟩) hg).trans h.1, (hb.frozen (p := ⟨g, 1, none⟩) hg).trans h.2.1, (hb.frozen (p := ⟨g, 2, none⟩) hg).trans h.2.2.1, (hb.frozen (p := ⟨g, 3, none⟩) hg).trans h.2.2.2⟩
/-- four numbers are stored in a block -/
def sto4 (w : World) (g : Nat) (a b c d : Int) : World := (((w.setCell ⟨g, 0, none⟩ (.int .i64 a)).setCell ⟨g, 1, none⟩ (.int .i64 b)).setCell ⟨g, 2, none⟩ (.int .i64 c)).setCell ⟨g, 3, none⟩ (.int .i64 d)
theorem bx_sto4 {w : World} {g : Nat} {a b c d : Int} (h : Bx w g a b c d) (e f i j : Int) : Bx (sto4 w g e f i j) g e f i j := by
  have hg := h.lt
  obtain ⟨h0, h1, h2, h3⟩ := h
  unfold sto4 Bx
  simp [go_sem, h0, h1, h2, h3]
theorem bx_sto4_far {w : World} {g g' : Nat} {a b c d : Int} (h : Bx w g' a b c d) (hne : g' ≠ g) (e f i j : Int) : Bx (sto4 w g e f i j) g' a b c d := by
  obtain ⟨h0, h1, h2, h3⟩ := h
  unfold sto4 Bx
  simp [go_sem, h0, h1, h2, h3, hne]
theorem fz_sto4 {w : World} {g g' : Nat} (h : Fz w g') (e f i j : Int) : Fz (sto4 w g e f i j) g' := by
  obtain ⟨h0, h1, h2, h3⟩ := h
  unfold sto4 Fz
  simp [go_sem, h0, h1, h2, h3]
theorem below_put4 {B g : Nat} {w0 w : World} (h : Below B w0 w) (hg : B ≤ g) (a b c d : Int) : Below B w0 (sto4 w g a b c d) := below_set4 h hg

/-- a slice's value leads to the squares, below block B -/
def SlQ (w : World) (B : Nat) (A : Option Addr) (L : List M4) : Prop :=
  0 < L.length → ∃ b off, A = some ⟨b, off, none⟩ ∧ b < B ∧
    ∀ j, j < L.length → w.cell? ⟨b, off + j * 4, none⟩ = some (.int .i64 (L.getD j M4.one).a) ∧ w.cell? ⟨b, off + j * 4 + 1, none⟩ = some (.int .i64 (L.getD j M4.one).b) ∧
      w.cell? ⟨b, off + j * 4 + 2, none⟩ = some (.int .i64 (L.getD j M4.one).c) ∧ w.cell? ⟨b, off + j * 4 + 3, none⟩ = some (.int .i64 (L.getD j M4.one).d)
theorem SlQ.below {w w' : World} {B : Nat} {A : Option Addr} {L : List M4} (h : SlQ w B A L) (hb : Below B w w') : SlQ w' B A L := fun h0 => by
  obtain ⟨b, off, e, hB, hc⟩ := h h0
  exact ⟨b, off, e, hB, fun j hj => ⟨(hb.cell hB).trans (hc j hj).1, (hb.cell hB).trans (hc j hj).2.1, (hb.cell hB).trans (hc j hj).2.2.1, (hb.cell hB).trans (hc j hj).2.2.2⟩⟩
theorem SlQ.mono {w : World} {B B' : Nat} {A : Option Addr} {L : List M4} (h : SlQ w B A L) (hB : B ≤ B') : SlQ w B' A L := fun h0 => by
  obtain ⟨b, off, e, hb, hc⟩ := h h0
  exact ⟨b, off, e, by omega, hc⟩
/-- the product, in order -/
def prodF (f : M4 → M4 → M4) (L : List M4) : M4 := L.foldl f M4.one
theorem prodF_take (f : M4 → M4 → M4) (L : List M4) (k : Nat) (h : k < L.length) : prodF f (L.take (k + 1)) = f (prodF f (L.take k)) (L.getD k M4.one) := by
  unfold prodF
  rw [List.take_succ_eq_append_getElem h, List.foldl_append]
  simp [h]

/-- a square comes back -/
def RetQ (m : M4) (w : World) (e : Ending) (w' : World) : Prop := e = .returned (.agg #[.int .i64 m.a, .int .i64 m.b, .int .i64 m.c, .int .i64 m.d]) ∧ Below w.heap.size w w'

set_option maxHeartbeats 1600000 in
theorem impl_mulAll_T (A : Option Addr) (n c B : Nat) (L : List M4) (w : World) (hn : L.length = n) (h : SlQ w B A L) (hB : B ≤ w.heap.size) (hl : n ≤ 1000000)
    (hbd : ∀ k, k < L.length → ∃ P Q, (prodF M4.mul (L.take k)).In P ∧ (L.getD k M4.one).In Q ∧ P * Q ≤ 4000000000000000000) :
    Calls Try.prog 130 #[.func (.func 131) #[] #[], .slice A n c] w (RetQ (prodF M4.mul L) w) := by
  subst hn
  have Hbd := Lib.hid hbd
  clear hbd
  go_enter Try.func130, Try.ntmps130
  go_wp2_with fail
  refine (impl_unitSquare _).mono ?_
  rintro e1 w1 ⟨rfl, hb1⟩
  have R1 := (Bx.new w 111 0 0 0 0).kept hb1
  have F1 := (Fz.new w 111 0 0 0 0).kept (Bx.new w 111 0 0 0 0).lt hb1
  have R2 := R1.lt
  have hd := ((Below.refl w.heap.size w).alloc (Nat.le_refl _) _).trans (hb1.mono (by simp))
  obtain ⟨g, hg⟩ : ∃ g, g = w1.heap.size := ⟨_, rfl⟩
  obtain ⟨wz, hwz⟩ : ∃ wz, wz = w1.alloc (.cells #[.int .i64 1, .int .i64 0, .int .i64 0, .int .i64 1] 111) := ⟨_, rfl⟩
  have Q1 : Bx wz g 1 0 0 1 := by rw [hwz, hg]; exact Bx.new w1 _ 1 0 0 1
  have Q2 : Fz wz g := by rw [hwz, hg]; exact Fz.new w1 _ 1 0 0 1
  have R3 : Bx wz w.heap.size 0 0 0 0 := by rw [hwz]; exact R1.alloc _
  have F3 : Fz wz w.heap.size := by rw [hwz]; exact F1.kept R1.lt ((Below.refl _ _).alloc (Nat.le_refl _) _)
  have hdz : Below w.heap.size w wz := by rw [hwz]; exact below_alloc1 hd (Nat.le_refl _) _
  have hgz : w.heap.size < g := by rw [hg]; exact R2
  have Hq1 := Lib.hid Q1
  have Hq2 := Lib.hid Q2
  have Hr3 := Lib.hid R3
  have Hf3 := Lib.hid F3
  have Hdz := Lib.hid hdz
  clear R1 F1 R2 hd hb1 Q1 Q2 R3 F3 hdz
  go_wp2
  rw [← hwz, ← hg]
  clear hwz hg
  go_loopw [11] (fun i wr => ∃ k : Nat, k ≤ L.length ∧ i = .int .i64 k ∧ Bx wr g (prodF M4.mul (L.take k)).a (prodF M4.mul (L.take k)).b (prodF M4.mul (L.take k)).c (prodF M4.mul (L.take k)).d ∧ Fz wr g ∧ Bx wr w.heap.size 0 0 0 0 ∧ Fz wr w.heap.size ∧ Below w.heap.size w wr) (fun i _ => L.length - (intOf i).toNat)
  case atStart => exact ⟨0, Nat.zero_le _, rfl, Hq1.out, Hq2.out, Hr3.out, Hf3.out, Hdz.out⟩
  case round =>
    clear Hq1 Hq2 Hr3 Hf3 Hdz
    obtain ⟨k, hk, rfl, hq, hfq, hr, hfr, hb⟩ := hrel
    by_cases hlt : k < L.length
    · obtain ⟨b', off, rfl, hbB, hcell⟩ := h (by omega)
      obtain ⟨x0, x1, x2, x3⟩ := hcell k hlt
      have i0 : (0 : Int) ≤ (k : Int) := by omega
      have i1 : (k : Int) < (L.length : Int) := by omega
      have hst := prodF_take M4.mul L k hlt
      obtain ⟨P, Q, hP, hQ, hPQ⟩ := Hbd.out k hlt
      clear hcell h
      generalize prodF M4.mul (L.take k) = m at *
      generalize L.getD k M4.one = x at *
      obtain ⟨a, b, c', d⟩ := m
      obtain ⟨e, f, i, j⟩ := x
      dsimp only at *
      have Hst := Lib.hid hst
      replace x0 : wr.cell? ⟨b', off + k * 4, none⟩ = some (.int .i64 e) := (hb.cell (p := ⟨b', _, none⟩) (show b' < w.heap.size by omega)).trans x0
      replace x1 : wr.cell? ⟨b', off + k * 4 + 1, none⟩ = some (.int .i64 f) := (hb.cell (p := ⟨b', _, none⟩) (show b' < w.heap.size by omega)).trans x1
      replace x2 : wr.cell? ⟨b', off + k * 4 + 2, none⟩ = some (.int .i64 i) := (hb.cell (p := ⟨b', _, none⟩) (show b' < w.heap.size by omega)).trans x2
      replace x3 : wr.cell? ⟨b', off + k * 4 + 3, none⟩ = some (.int .i64 j) := (hb.cell (p := ⟨b', _, none⟩) (show b' < w.heap.size by omega)).trans x3
      have y0 := hr.lt
      have y1 := hq.lt
      have y2 : b' < wr.heap.size := by omega
      have Hr := Lib.hid hr
      have Hq := Lib.hid hq
      have Hfr := Lib.hid hfr
      have Hfq := Lib.hid hfq
      have Hb := Lib.hid hb
      obtain ⟨q0, q1, q2, q3⟩ := hq
      clear hst hr hfr hfq hb
      go_wp2_with fail
      refine (impl_times a b c' d e f i j P Q _ hP hQ hPQ).mono ?_
      rintro e1 w2 ⟨rfl, hb2⟩
      have G1 := (Hq.out.alloc _).kept hb2
      have G2 := (Hfq.out.kept y1 ((Below.refl _ _).alloc (Nat.le_refl _) _)).kept (by simp; omega) hb2
      have G3 := (Hr.out.alloc _).kept hb2
      have G4 := (Hfr.out.kept y0 ((Below.refl _ _).alloc (Nat.le_refl _) _)).kept (by simp; omega) hb2
      have G5 := below_kept (below_alloc1 Hb.out (Nat.le_refl _) _) (Nat.le_refl _) hb2
      have y3 := G1.lt
      have G6 := Lib.hid (bx_sto4 G1 (a * e + b * i) (a * f + b * j) (c' * e + d * i) (c' * f + d * j))
      have G7 := Lib.hid (fz_sto4 (g := g) G2 (a * e + b * i) (a * f + b * j) (c' * e + d * i) (c' * f + d * j))
      have G8 := Lib.hid (bx_sto4_far G3 (show w.heap.size ≠ g by omega) (a * e + b * i) (a * f + b * j) (c' * e + d * i) (c' * f + d * j))
      have G9 := Lib.hid (fz_sto4 (g := g) G4 (a * e + b * i) (a * f + b * j) (c' * e + d * i) (c' * f + d * j))
      have G10 := Lib.hid (below_put4 (g := g) G5 (by omega) (a * e + b * i) (a * f + b * j) (c' * e + d * i) (c' * f + d * j))
      obtain ⟨q0, q1, q2, q3⟩ := G1
      obtain ⟨f0, f1, f2, f3⟩ := G2
      clear hb2 G3 G4 G5 x0 x1 x2 x3
      go_wp2
      go_roundw
      case rel => exact ⟨k + 1, by omega, by go_num, by rw [Hst.out]; exact G6.out, G7.out, G8.out, G9.out, G10.out⟩
      case measure => simp [intOf]; omega
    · obtain rfl : k = L.length := by omega
      rw [List.take_length] at hq
      clear h
      obtain ⟨q0, q1, q2, q3⟩ := hq
      obtain ⟨f0, f1, f2, f3⟩ := hfr
      have hE := below_put4 (g := w.heap.size) hb (Nat.le_refl _) (prodF M4.mul L).a (prodF M4.mul L).b (prodF M4.mul L).c (prodF M4.mul L).d
      have hR := bx_sto4 hr (prodF M4.mul L).a (prodF M4.mul L).b (prodF M4.mul L).c (prodF M4.mul L).d
      unfold sto4 at hE hR
      have hRz : RetQ (prodF M4.mul L) w (.returned (.agg #[.int .i64 (prodF M4.mul L).a, .int .i64 (prodF M4.mul L).b, .int .i64 (prodF M4.mul L).c, .int .i64 (prodF M4.mul L).d])) _ := ⟨rfl, hE⟩
      have HR := Lib.hid hRz
      clear hRz hE
      generalize (prodF M4.mul L).a = a at *
      generalize (prodF M4.mul L).b = b at *
      generalize (prodF M4.mul L).c = c1 at *
      generalize (prodF M4.mul L).d = d at *
      obtain ⟨r0, r1, r2, r3⟩ := hr
      go_wp2
      refine bodyPost_ret (v := .agg #[.int .i64 a, .int .i64 b, .int .i64 c1, .int .i64 d]) ?hr rfl ?hR
      case hr => simp [results, Try.results130, go_sem, r0, r1, r2, r3]
      case hR => exact HR.out

end Go.Proofs.Ytfkkbjbgjmaciaa
