/- What the program tries for FriezeOfDiagonal, beside the model's: plain mathematics. -/
import Derived.Test.YtbebalgleiafdabFodS
import Derived.Test.YtbebalgleiafdabClo
import Derived.Test.YtbebalgleiafdabDiagonalOfFriezeW
namespace Go.Proofs.Ytbebalgleiafdab
set_option linter.unusedVariables false
open Go.RowKit

def pqL (l : List Int) (j : Nat) : Int := (wrap64 (nuL l j)).tdiv ((arL l).getD j 0)
/-- the program's row after m rounds -/
def pP (l : List Int) : Nat → List Int
  | 0 => (List.replicate (l.length + 1) 0).set 0 (3 * ((l.length : Int) + 1) - 6)
  | m + 1 => ((pP l m).set (m + 1) (pqL l (m + 1))).set 0 (wrap64 ((pP l m).getD 0 0 - pqL l (m + 1)))
theorem pP_length (l : List Int) (m : Nat) : (pP l m).length = l.length + 1 := by
  induction m with
  | zero => simp [pP]
  | succ m ih => simp [pP, ih]
def posB (l : List Int) : Bool := l.all fun x => decide (1 ≤ x)
theorem posB_iff {l : List Int} : posB l = true ↔ ∀ j, j < l.length → 1 ≤ l.getD j 0 := by
  unfold posB
  rw [List.all_eq_true]
  constructor
  · intro h j hj
    have := h l[j] (List.getElem_mem hj)
    simp [hj] at this ⊢
    exact this
  · intro h x hx
    obtain ⟨i, hi, rfl⟩ := List.getElem_of_mem hx
    have := h i hi
    simp [hi] at this ⊢
    exact this
def pB (l : List Int) : Bool := (inB (l.length : Int) 3 11 && posB l) && (isQ (pP l l.length) && decide (diL (pP l l.length) 0 l.length = l))

theorem pP_fd {l : List Int} (h : allB l 1 100000 = true) (hl : l.length ≤ 11) : ∀ m, m ≤ l.length → pP l m = (qP l m).set 0 (3 * ((l.length : Int) + 1) - 6 - totL l m) := by
  intro m
  induction m with
  | zero => intro _; simp [pP, qP, totL]
  | succ m ih =>
    intro hm
    have hb := quL_bd h (j := m + 1) (by omega) hm
    have ht := totL_bd h m (by omega)
    have e1 : pqL l (m + 1) = quL l (m + 1) := by
      unfold pqL quL
      rw [wrap_in _ (by omega)]
    have e2 : (pP l m).getD 0 0 = 3 * ((l.length : Int) + 1) - 6 - totL l m := by
      rw [ih (by omega)]
      have : 0 < (qP l m).length := by rw [qP_length]; omega
      simp [this]
    show ((pP l m).set (m + 1) (pqL l (m + 1))).set 0 (wrap64 ((pP l m).getD 0 0 - pqL l (m + 1))) = ((qP l m).set (m + 1) (quL l (m + 1))).set 0 (3 * ((l.length : Int) + 1) - 6 - (totL l m + quL l (m + 1)))
    rw [e2, e1, ih (by omega), wrap_in _ (by omega), List.set_comm _ _ (by omega), List.set_set, List.set_comm _ _ (by omega)]
    congr 1
    omega
theorem pP_all {l : List Int} (h : allB l 1 100000 = true) (hl : l.length ≤ 11) : pP l l.length = fdL l := pP_fd h hl _ (Nat.le_refl _)

theorem diL_get (q : List Int) (i : Int) (m j : Nat) (h : j < m) : (diL q i m).getD j 0 = ent q i (i + ((j : Int) + 1)) := by
  unfold diL
  simp [h]
theorem ent0 (q : List Int) (s : Nat) : ent q 0 (s : Int) = (entS q 0 s).2 := by
  unfold ent
  rw [show ((s : Int) - 0).toNat = s by omega]
theorem arL_at {l : List Int} {j : Nat} (h : j < l.length) : (arL l).getD (j + 1) 0 = l.getD j 0 := by
  unfold arL
  simp only [List.getD_eq_getElem?_getD]
  rw [List.getElem?_append_left (by simp; omega)]
  simp
theorem arL_zero (l : List Int) : (arL l).getD 0 0 = 0 := by
  unfold arL
  simp
theorem arL_last (l : List Int) : (arL l).getD (l.length + 1) 0 = 0 := by
  unfold arL
  simp only [List.getD_eq_getElem?_getD]
  rw [List.getElem?_append_right (by simp)]
  simp

/-- a list of numbers of at least 1 that is a quiddity's diagonal: small, and each divides -/
theorem diag_of {l q : List Int} (hq : isQ q = true) (hl : q.length = l.length + 1) (hp : posB l = true) (hd : diL q 0 l.length = l) : allB l 1 100000 = true ∧ divB l l.length = true := by
  have hn := isQ_len hq
  have hg : ∀ s, 1 ≤ s → s ≤ l.length → (entS q 0 s).2 = l.getD (s - 1) 0 := by
    intro s h1 h2
    have h3 := diL_get q 0 l.length (s - 1) (by omega)
    rw [hd] at h3
    rw [h3, ← ent0]
    congr 1
    omega
  have hp' : ∀ s, 1 ≤ s → s + 1 ≤ q.length → 1 ≤ (entS q 0 s).2 := by
    intro s h1 h2
    rw [hg s h1 (by omega)]
    exact posB_iff.1 hp (s - 1) (by omega)
  have hs := diag_small hq hp'
  have hlast : (entS q 0 (l.length + 1)).2 = 0 := by
    rw [← ent0]
    have := ent_end0 hq
    rw [hl] at this
    exact this
  have har : ∀ j, j ≤ l.length + 1 → (arL l).getD j 0 = (entS q 0 j).2 := by
    intro j hj
    by_cases h0 : j = 0
    · subst h0; rw [arL_zero]; rfl
    · by_cases h1 : j = l.length + 1
      · subst h1; rw [arL_last, hlast]
      · obtain ⟨i, rfl⟩ : ∃ i, j = i + 1 := ⟨j - 1, by omega⟩
        rw [arL_at (by omega), hg (i + 1) (by omega) (by omega)]
        rfl
  have hbd : ∀ s, 1 ≤ s → s ≤ l.length → 1 ≤ (entS q 0 s).2 ∧ (entS q 0 s).2 ≤ 100000 := by
    intro s h1 h2
    obtain ⟨a1, a2, a3, a4⟩ := hs s h1 (by omega)
    have k1 := prK_small hq (k := s - 1) (by omega)
    have := hp' s h1 (by omega)
    omega
  have hrec : ∀ s, 1 ≤ s → s ≤ l.length → (entS q 0 (s + 1)).2 = q.getD s 0 * (entS q 0 s).2 - (entS q 0 s).1 := by
    intro s h1 h2
    obtain ⟨a1, a2, a3, a4⟩ := hs s h1 (by omega)
    have h7 := hbd s h1 h2
    have h8 := isQ_get hq s (by omega)
    have hm : (mdI (0 + (s : Int)) q.length).toNat = s := by rw [mdI_eq, Int.zero_add, Int.emod_eq_of_lt (by omega) (by omega)]; omega
    show wrap64 (wrap64 (q.getD (mdI (0 + (s : Int)) q.length).toNat 0 * (entS q 0 s).2) - (entS q 0 s).1) = _
    rw [hm]
    have b1 : q.getD s 0 * (entS q 0 s).2 ≤ 10 * 100000 := Int.mul_le_mul (by omega) (by omega) (by omega) (by omega)
    have b2 : 0 ≤ q.getD s 0 * (entS q 0 s).2 := Int.mul_nonneg (by omega) (by omega)
    rw [wrap_in (q.getD s 0 * (entS q 0 s).2) (by omega), wrap_in _ (by omega)]
  constructor
  · rw [allB_iff]
    intro j hj
    have h1 := hbd (j + 1) (by omega) (by omega)
    rw [hg (j + 1) (by omega) (by omega)] at h1
    simpa using h1
  · unfold divB
    rw [List.all_eq_true]
    intro j hj
    have hj' : j < l.length := by simpa using hj
    have h1 := hrec (j + 1) (by omega) (by omega)
    have e0 : (entS q 0 (j + 1)).1 = (entS q 0 j).2 := rfl
    have e1 : nuL l (j + 1) = q.getD (j + 1) 0 * (arL l).getD (j + 1) 0 := by
      unfold nuL
      rw [Nat.add_sub_cancel, har j (by omega), har (j + 1) (by omega), har (j + 1 + 1) (by omega), h1, e0]
      omega
    rw [e1, decide_eq_true_eq]
    exact Int.mul_tmod_left _ _

theorem entB_iff {l q : List Int} : entB l q l.length = true ↔ diL q 0 l.length = l := by
  constructor
  · intro h
    refine List.ext_getElem (by rw [diL_length]) fun j h1 h2 => ?_
    unfold entB at h
    rw [List.all_eq_true] at h
    have h3 := h j (by simpa using h2)
    rw [decide_eq_true_eq] at h3
    have h4 := diL_get q 0 l.length j h2
    rw [Int.zero_add, h3] at h4
    simp [h1, h2] at h4
    exact h4
  · intro h
    unfold entB
    rw [List.all_eq_true]
    intro j hj
    have hj' : j < l.length := by simpa using hj
    have h4 := diL_get q 0 l.length j hj'
    rw [h, Int.zero_add] at h4
    rw [decide_eq_true_eq]
    exact h4.symm
theorem posB_of {l : List Int} (h : allB l 1 100000 = true) : posB l = true := posB_iff.2 fun j hj => (allB_iff.1 h j hj).1
theorem pB_eq (l : List Int) : pB l = fdB l := by
  rw [Bool.eq_iff_iff]
  constructor
  · intro h
    unfold pB at h
    simp only [Bool.and_eq_true, decide_eq_true_eq] at h
    obtain ⟨⟨hi, hp⟩, hq, hd⟩ := h
    have hlen := inB_iff'.1 hi
    obtain ⟨h1, h2⟩ := diag_of hq (pP_length l _) hp hd
    have e := pP_all h1 (by omega)
    rw [e] at hq hd
    unfold fdB
    rw [hi, h1, h2, hq, entB_iff.2 hd]
    rfl
  · intro h
    unfold fdB at h
    simp only [Bool.and_eq_true] at h
    obtain ⟨⟨⟨⟨hi, h1⟩, h2⟩, hq⟩, he⟩ := h
    have hlen := inB_iff'.1 hi
    have e := pP_all h1 (by omega)
    unfold pB
    rw [hi, posB_of h1, e, hq, entB_iff.1 he]
    simp
theorem pB_fd {l : List Int} (h : pB l = true) : pP l l.length = fdL l := by
  rw [pB_eq] at h
  unfold fdB at h
  simp only [Bool.and_eq_true] at h
  obtain ⟨⟨⟨⟨hi, h1⟩, h2⟩, hq⟩, he⟩ := h
  have hlen := inB_iff'.1 hi
  exact pP_all h1 (by omega)
end Go.Proofs.Ytbebalgleiafdab
