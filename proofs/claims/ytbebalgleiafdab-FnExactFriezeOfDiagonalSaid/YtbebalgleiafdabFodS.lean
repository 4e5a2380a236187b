/- The model's FriezeOfDiagonal. -/
import Derived.Test.YtbebalgleiafdabFodM
import Derived.Test.YtbebalgleiafdabQcM
import Derived.Test.YtbebalgleiafdabIsQuiddityW
import Derived.Test.YtbebalgleiafdabEntryOfW
import Derived.Test.YtbebalgleiafdabAppI
import Derived.Deep.QuietTactic
import Derived.BigQuiet
namespace Go.Proofs.Ytbebalgleiafdab
set_option linter.unusedVariables false
open Go.RowKit

def arL (l : List Int) : List Int := ([0] ++ l) ++ [0]
theorem arL_length (l : List Int) : (arL l).length = l.length + 2 := by simp [arL]
def nuL (l : List Int) (j : Nat) : Int := (arL l).getD (j - 1) 0 + (arL l).getD (j + 1) 0
def quL (l : List Int) (j : Nat) : Int := (nuL l j).tdiv ((arL l).getD j 0)
/-- the quotients from 1 to m laid into a row -/
def qP (l : List Int) : Nat → List Int
  | 0 => List.replicate (l.length + 1) 0
  | m + 1 => (qP l m).set (m + 1) (quL l (m + 1))
theorem qP_length (l : List Int) (m : Nat) : (qP l m).length = l.length + 1 := by
  induction m with
  | zero => simp [qP]
  | succ m ih => simp [qP, ih]
def totL (l : List Int) : Nat → Int
  | 0 => 0
  | m + 1 => totL l m + quL l (m + 1)
def divB (l : List Int) (m : Nat) : Bool := (List.range m).all fun j => decide ((nuL l (j + 1)).tmod ((arL l).getD (j + 1) 0) = 0)
theorem divB_succ (l : List Int) (m : Nat) : divB l (m + 1) = (divB l m && decide ((nuL l (m + 1)).tmod ((arL l).getD (m + 1) 0) = 0)) := by simp [divB, List.range_succ]
theorem divB_no {l : List Int} {k m : Nat} (h : k < m) (hx : ¬(nuL l (k + 1)).tmod ((arL l).getD (k + 1) 0) = 0) : divB l m = false := by
  unfold divB
  rw [List.all_eq_false]
  exact ⟨k, by simpa using h, by simpa using hx⟩
def fdL (l : List Int) : List Int := (qP l l.length).set 0 (3 * ((l.length : Int) + 1) - 6 - totL l l.length)
theorem fdL_length (l : List Int) : (fdL l).length = l.length + 1 := by simp [fdL, qP_length]
def entB (l q : List Int) (m : Nat) : Bool := (List.range m).all fun j => decide (ent q 0 ((j : Int) + 1) = l.getD j 0)
theorem entB_succ (l q : List Int) (m : Nat) : entB l q (m + 1) = (entB l q m && decide (ent q 0 ((m : Int) + 1) = l.getD m 0)) := by simp [entB, List.range_succ]
theorem entB_no {l q : List Int} {k m : Nat} (h : k < m) (hx : ¬ent q 0 ((k : Int) + 1) = l.getD k 0) : entB l q m = false := by
  unfold entB
  rw [List.all_eq_false]
  exact ⟨k, by simpa using h, by simpa using hx⟩
def fdB (l : List Int) : Bool := (inB (l.length : Int) 3 11 && allB l 1 100000) && divB l l.length && isQ (fdL l) && entB l (fdL l) l.length
def fdR (l : List Int) : List Int := if fdB l = true then fdL l else []
theorem fdR_yes {l : List Int} (h : fdB l = true) : fdR l = fdL l := if_pos h
theorem fdR_no {l : List Int} (h : fdB l = false) : fdR l = [] := if_neg (by rw [h]; simp)
theorem fdI_none {l : List Int} {w w' : World} (h : fdB l = false) (hb : Below w.heap.size w w') : RetI w (fdR l) (fdB l) (.returned (.tuple #[.slice none 0 0, .bool false])) w' := by
  rw [fdR_no h, h]
  exact ⟨none, 0, rfl, World.ownsRow_nil _ _ _ _, hb⟩
theorem fdB_len {l : List Int} (h : (inB (l.length : Int) 3 11 && allB l 1 100000) = false) : fdB l = false := by unfold fdB; rw [h]; rfl
theorem fdB_div {l : List Int} (h : divB l l.length = false) : fdB l = false := by unfold fdB; rw [h]; simp
theorem fdB_q {l : List Int} (h : isQ (fdL l) = false) : fdB l = false := by unfold fdB; rw [h]; simp
theorem fdB_e {l : List Int} (h : entB l (fdL l) l.length = false) : fdB l = false := by unfold fdB; rw [h]; simp
theorem arL_bd {l : List Int} (h : allB l 1 100000 = true) : ∀ j, 0 ≤ (arL l).getD j 0 ∧ (arL l).getD j 0 ≤ 100000 := by
  intro j
  unfold arL
  simp only [List.getD_eq_getElem?_getD]
  by_cases h1 : j < ([0] ++ l).length
  · rw [List.getElem?_append_left h1]
    cases j with
    | zero => simp
    | succ j =>
      have hj : j < l.length := by simp at h1; omega
      have := allB_iff.1 h j hj
      simp [hj] at this ⊢
      omega
  · rw [List.getElem?_append_right (by omega)]
    cases h2 : j - ([0] ++ l).length with
    | zero => simp
    | succ i => simp
theorem arL_mid {l : List Int} (h : allB l 1 100000 = true) {j : Nat} (h1 : 1 ≤ j) (h2 : j ≤ l.length) : 1 ≤ (arL l).getD j 0 := by
  obtain ⟨i, rfl⟩ : ∃ i, j = i + 1 := ⟨j - 1, by omega⟩
  have hj : i < l.length := by omega
  have := allB_iff.1 h i hj
  have e : (arL l).getD (i + 1) 0 = l.getD i 0 := by
    unfold arL
    simp only [List.getD_eq_getElem?_getD]
    rw [List.getElem?_append_left (by simp; omega)]
    simp
  omega
theorem quL_bd {l : List Int} (h : allB l 1 100000 = true) {j : Nat} (h1 : 1 ≤ j) (h2 : j ≤ l.length) : 0 ≤ quL l j ∧ quL l j ≤ 200000 ∧ 0 ≤ nuL l j ∧ nuL l j ≤ 200000 := by
  have a := arL_bd h (j - 1)
  have b := arL_bd h (j + 1)
  have c := arL_mid h h1 h2
  have e : 0 ≤ nuL l j ∧ nuL l j ≤ 200000 := by unfold nuL; omega
  refine ⟨?_, ?_, e.1, e.2⟩
  · unfold quL; exact Int.tdiv_nonneg e.1 (by omega)
  · unfold quL
    rw [Int.tdiv_eq_ediv_of_nonneg e.1]
    have := Int.ediv_le_self ((arL l).getD j 0) e.1
    omega
theorem totL_bd {l : List Int} (h : allB l 1 100000 = true) : ∀ m, m ≤ l.length → 0 ≤ totL l m ∧ totL l m ≤ 200000 * (m : Int) := by
  intro m
  induction m with
  | zero => intro _; simp [totL]
  | succ m ih =>
    intro hm
    have := ih (by omega)
    have := quL_bd h (j := m + 1) (by omega) hm
    unfold totL
    omega
end Go.Proofs.Ytbebalgleiafdab
