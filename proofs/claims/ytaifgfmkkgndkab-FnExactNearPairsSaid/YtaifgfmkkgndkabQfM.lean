/- The quiddity of a polygon of fractions: mathematics. -/
import Derived.Test.YtaifgfmkkgndkabCorn
namespace Go.Proofs.Ytaifgfmkkgndkab
set_option linter.unusedVariables false
open Go.RowKit

theorem chn_of : ∀ (l : List (Int × Int)), (∀ i, i + 1 < l.length → crs (l.getD i (0, 0)) (l.getD (i + 1) (0, 0)) = 1) → chn l
  | [], _ => trivial
  | [_], _ => trivial
  | a :: b :: r, h => ⟨by simpa using h 0 (by simp), chn_of (b :: r) (fun i hi => by
      have := h (i + 1) (by simp at hi ⊢; omega)
      simpa using this)⟩
theorem pol_chn {l : List (Int × Int)} (h : polB l = true) : chn l ∧ nng l ∧ l.head? = some (0, 1) ∧ l.getLast? = some (1, 0) := by
  obtain ⟨h1, h2, h3, h4, h5⟩ := polB_iff.1 h
  refine ⟨chn_of l fun i hi => riseT_at h3 (by omega), fun p hp => ?_, ?_, ?_⟩
  · unfold allG at h2
    rw [List.all_eq_true] at h2
    have := nbB_iff.1 (h2 p hp)
    omega
  · rw [List.head?_eq_getElem?]
    rw [List.getD_eq_getElem?_getD] at h4
    have : l[0]? = some l[0] := List.getElem?_eq_getElem (by omega)
    rw [this] at h4 ⊢
    simpa using h4
  · rw [List.getLast?_eq_getElem?]
    rw [List.getD_eq_getElem?_getD] at h5
    have : l[l.length - 1]? = some (l[l.length - 1]'(by omega)) := List.getElem?_eq_getElem (by omega)
    rw [this] at h5 ⊢
    simpa using h5
theorem pol_bd {l : List (Int × Int)} (h : polB l = true) (k : Nat) : (0 ≤ (l.getD k (0, 0)).1 ∧ (l.getD k (0, 0)).1 ≤ 1000000) ∧ 0 ≤ (l.getD k (0, 0)).2 ∧ (l.getD k (0, 0)).2 ≤ 1000000 := by
  by_cases hk : k < l.length
  · have := nbB_iff.1 (allG_at (polB_iff.1 h).2.1 hk)
    omega
  · have e : l.getD k (0, 0) = (0, 0) := by simp [List.getD_eq_getElem?_getD, List.getElem?_eq_none (show l.length ≤ k by omega)]
    rw [e]
    simp
/-- the cross of those around the corner j + 1 -/
def qfc (l : List (Int × Int)) (j : Nat) : Int := crs (((-1, 0) :: l).getD j (0, 0)) (l.getD (j + 1) (0, 0))
def qfL (l : List (Int × Int)) (k : Nat) : List Int := (List.range k).map (qfc l)
/-- the quiddity -/
def qf (l : List (Int × Int)) : List Int := (l.getD (l.length - 2) (0, 0)).1 :: qfL l (l.length - 1)
theorem qfL_length (l : List (Int × Int)) (k : Nat) : (qfL l k).length = k := by simp [qfL]
theorem qf_length {l : List (Int × Int)} (h : 1 ≤ l.length) : (qf l).length = l.length := by
  unfold qf
  rw [List.length_cons, qfL_length]
  omega
theorem qfL_get (l : List (Int × Int)) {k j : Nat} (h : j < k) : (qfL l k).getD j 0 = qfc l j := by simp [qfL, h]
theorem qf_step {l : List (Int × Int)} (h : polB l = true) {j : Nat} (hj : j + 1 < l.length) :
    1 ≤ (l.getD j (0, 0)).2 ∧ (0 ≤ (((-1, 0) :: l).getD j (0, 0)).2 ∧ (((-1, 0) :: l).getD j (0, 0)).2 ≤ 1000000) ∧ ((((-1, 0) :: l).getD j (0, 0)).2 + (l.getD (j + 1) (0, 0)).2) / (l.getD j (0, 0)).2 = qfc l j ∧ 0 ≤ qfc l j ∧ qfc l j ≤ 2000000 := by
  obtain ⟨h1, h2, h3, h4, h5⟩ := polB_iff.1 h
  have e2 := riseT_at h3 (k := j) (by omega)
  have e1 : crs (((-1, 0) :: l).getD j (0, 0)) (l.getD j (0, 0)) = 1 := by
    cases j with
    | zero => rw [h4]; simp [crs]
    | succ j => simpa using riseT_at h3 (k := j) (by omega)
  have b2 := pol_bd h j
  have b3 := pol_bd h (j + 1)
  have b1 : 0 ≤ (((-1, 0) :: l).getD j (0, 0)).2 ∧ (((-1, 0) :: l).getD j (0, 0)).2 ≤ 1000000 := by
    cases j with
    | zero => simp
    | succ j => simpa using (pol_bd h j).2
  unfold qfc
  generalize ((-1, 0) :: l).getD j (0, 0) = x at *
  generalize l.getD j (0, 0) = y at *
  generalize l.getD (j + 1) (0, 0) = z at *
  have hy : 1 ≤ y.2 := by
    rcases (show y.2 = 0 ∨ 1 ≤ y.2 by omega) with g | g
    · have := Int.mul_nonneg b2.1.1 b3.2.1
      unfold crs at e2
      rw [g] at e2
      omega
    · exact g
  have e3 : x.2 + z.2 = crs x z * y.2 := by unfold crs at *; grind
  have e4 : (x.2 + z.2) / y.2 = crs x z := by rw [e3]; exact Int.mul_ediv_cancel _ (by omega)
  refine ⟨hy, b1, e4, ?_, ?_⟩
  · rw [← e4]; exact Int.ediv_nonneg (by omega) (by omega)
  · rw [← e4]; have := Int.ediv_le_self y.2 (show 0 ≤ x.2 + z.2 by omega); omega
theorem sumC_range : ∀ (m : List (Int × Int)), sumC m = ((List.range (m.length - 2)).map fun j => crs (m.getD j (0, 0)) (m.getD (j + 2) (0, 0))).sum
  | [] => rfl
  | [_] => rfl
  | [_, _] => rfl
  | x :: y :: z :: r => by
    have ih := sumC_range (y :: z :: r)
    simp only [sumC, ih, List.length_cons]
    rw [show r.length + 1 + 1 + 1 - 2 = r.length + 1 by omega, show r.length + 1 + 1 - 2 = r.length by omega, List.range_succ_eq_map]
    simp only [List.map_cons, List.sum_cons, List.map_map]
    rfl
theorem lb1_getD : ∀ (l : List (Int × Int)), 2 ≤ l.length → lb1 l = l.getD (l.length - 2) (0, 0)
  | [], h => by simp at h
  | [_], h => by simp at h
  | [a, b], _ => rfl
  | a :: b :: c :: r, _ => by
    have ih := lb1_getD (b :: c :: r) (by simp)
    simp only [lb1, ih, List.length_cons]
    rw [show r.length + 1 + 1 + 1 - 2 = (r.length + 1 + 1 - 2) + 1 by omega, List.getD_cons_succ]
theorem qf_sum {l : List (Int × Int)} (h : polB l = true) : (qfL l (l.length - 1)).sum + (l.getD (l.length - 2) (0, 0)).1 = 3 * (l.length : Int) - 6 := by
  obtain ⟨c1, c2, c3, c4⟩ := pol_chn h
  have hl := (polB_iff.1 h).1
  have := sumC_all l.length l rfl (by omega) c1 c2 c3 c4
  rw [lb1_getD l (by omega), sumC_range, List.length_cons] at this
  rw [← this, show l.length + 1 - 2 = l.length - 1 by omega]
  rfl
theorem qfL_sum_succ (l : List (Int × Int)) (k : Nat) : (qfL l (k + 1)).sum = (qfL l k).sum + qfc l k := by
  unfold qfL
  rw [List.range_succ, List.map_append, List.sum_append]
  simp
theorem qfL_sum_bd {l : List (Int × Int)} (h : polB l = true) : ∀ k, k + 1 ≤ l.length → 0 ≤ (qfL l k).sum ∧ (qfL l k).sum ≤ 2000000 * (k : Int)
  | 0, _ => by simp [qfL]
  | k + 1, hk => by
    have ih := qfL_sum_bd h k (by omega)
    have := qf_step h (j := k) (by omega)
    rw [qfL_sum_succ]
    omega
/-- the corner's number as the program finds it -/
theorem qf_at {l : List (Int × Int)} (h : polB l = true) {k a b : Nat} (hk : k < l.length) (ha : a = (k + l.length - 1) % l.length) (hb : b = (k + 1) % l.length) :
    crs ((crn l).getD (min a b) (0, 0)) ((crn l).getD (max a b) (0, 0)) = (qf l).getD k 0 := by
  obtain ⟨h1, h2, h3, h4, h5⟩ := polB_iff.1 h
  have hk3 : k = 0 ∨ (1 ≤ k ∧ k + 1 < l.length) ∨ (1 ≤ k ∧ k + 1 = l.length) := by omega
  rcases hk3 with rfl | ⟨g1, g2⟩ | ⟨g1, g2⟩
  · have ea : a = l.length - 1 := by rw [ha, Nat.zero_add]; exact Nat.mod_eq_of_lt (by omega)
    have eb : b = 1 := by rw [hb]; exact Nat.mod_eq_of_lt (by omega)
    rw [ea, eb, Nat.min_eq_right (by omega), Nat.max_eq_left (by omega), crn_at (by omega) (by omega), crn_at (by omega) (by omega)]
    rw [show l.length - 1 = (l.length - 2) + 1 by omega, List.getD_cons_succ, show (1 : Nat) = 0 + 1 from rfl, List.getD_cons_succ, h4]
    unfold qf
    rw [List.getD_cons_zero]
    unfold crs
    simp
  · have ea : a = k - 1 := by
      rw [ha, show k + l.length - 1 = (k - 1) + l.length by omega, Nat.add_mod_right]
      exact Nat.mod_eq_of_lt (by omega)
    have eb : b = k + 1 := by rw [hb]; exact Nat.mod_eq_of_lt (by omega)
    obtain ⟨j, rfl⟩ : ∃ j, k = j + 1 := ⟨k - 1, by omega⟩
    rw [ea, eb, show j + 1 - 1 = j by omega, Nat.min_eq_left (by omega), Nat.max_eq_right (by omega), crn_at (by omega) (by omega), crn_at (by omega) (by omega), List.getD_cons_succ]
    unfold qf
    rw [List.getD_cons_succ, qfL_get l (by omega)]
    rfl
  · have ea : a = k - 1 := by
      rw [ha, show k + l.length - 1 = (k - 1) + l.length by omega, Nat.add_mod_right]
      exact Nat.mod_eq_of_lt (by omega)
    have eb : b = 0 := by rw [hb, g2]; exact Nat.mod_self _
    obtain ⟨j, rfl⟩ : ∃ j, k = j + 1 := ⟨k - 1, by omega⟩
    rw [ea, eb, show j + 1 - 1 = j by omega, Nat.min_eq_right (by omega), Nat.max_eq_left (by omega), crn_at (by omega) (by omega), crn_at (by omega) (by omega)]
    unfold qf
    rw [List.getD_cons_succ, qfL_get l (by omega)]
    unfold qfc
    rw [List.getD_cons_zero, show j + 1 = l.length - 1 by omega, h5]
    unfold crs
    simp
theorem crn_sm {l : List (Int × Int)} (h : polB l = true) (k : Nat) (hk : k < l.length) : Sm ((crn l).getD k (0, 0)).1 ∧ Sm ((crn l).getD k (0, 0)).2 := by
  rw [crn_at hk (by omega)]
  unfold Sm
  cases k with
  | zero => simp
  | succ k =>
    have := pol_bd h k
    rw [List.getD_cons_succ]
    omega
end Go.Proofs.Ytaifgfmkkgndkab
