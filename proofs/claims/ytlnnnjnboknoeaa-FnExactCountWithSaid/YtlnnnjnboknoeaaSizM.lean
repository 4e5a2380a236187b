/- Sizes of pieces, from the least to the greatest: plain mathematics. -/
import Derived.Test.YtlnnnjnboknoeaaPcN
namespace Go.Proofs.Ytlnnnjnboknoeaa
set_option linter.unusedVariables false

/-- one size, once for each list that has it -/
def szT (T : List (List Int)) (s : Nat) : List Int := (T.filter fun P => P.length == s).map fun _ => (s : Int)
/-- the sizes 3, 4, .., k of them -/
def szU (T : List (List Int)) (k : Nat) : List Int := (List.range k).flatMap fun j => szT T (j + 3)
theorem szU_zero (T : List (List Int)) : szU T 0 = [] := rfl
theorem szU_succ (T : List (List Int)) (k : Nat) : szU T (k + 1) = szU T k ++ szT T (k + 3) := by simp [szU, List.range_succ]
/-- the first j lists looked at -/
def szH (T : List (List Int)) (s j : Nat) : List Int := szT (T.take j) s
theorem szH_zero (T : List (List Int)) (s : Nat) : szH T s 0 = [] := rfl
theorem szH_all (T : List (List Int)) (s : Nat) : szH T s T.length = szT T s := by unfold szH; rw [List.take_length]
theorem szH_yes {T : List (List Int)} {s j : Nat} (hj : j < T.length) (h : (rowOf T j).length = s) : szH T s (j + 1) = szH T s j ++ [(s : Int)] := by
  unfold szH szT
  rw [List.take_succ_eq_append_getElem hj, List.filter_append, List.map_append]
  have e : rowOf T j = T[j] := by simp [rowOf, hj]
  rw [e] at h
  congr 1
  rw [List.filter_cons, if_pos (by simpa using h)]
  rfl
theorem szH_no {T : List (List Int)} {s j : Nat} (hj : j < T.length) (h : (rowOf T j).length ≠ s) : szH T s (j + 1) = szH T s j := by
  unfold szH szT
  rw [List.take_succ_eq_append_getElem hj, List.filter_append, List.map_append]
  have e : rowOf T j = T[j] := by simp [rowOf, hj]
  rw [e] at h
  rw [List.filter_cons, if_neg (by simpa using h)]
  simp
def lens (T : List (List Int)) : List Int := T.map fun P => (P.length : Int)
theorem szU_perm {T : List (List Int)} (h3 : ∀ P ∈ T, 3 ≤ P.length) : ∀ k, (szU T k).Perm (lens (T.filter fun P => decide (P.length < k + 3))) := by
  intro k
  induction k with
  | zero =>
    have e : T.filter (fun P => decide (P.length < 0 + 3)) = [] := by
      rw [List.filter_eq_nil_iff]
      intro P hP
      have := h3 P hP
      simp; omega
    rw [e]
    exact List.Perm.refl _
  | succ k ih =>
    rw [szU_succ]
    have h1 := List.filter_append_perm (fun P : List Int => decide (P.length < k + 3)) (T.filter fun P => decide (P.length < k + 1 + 3))
    rw [List.filter_filter, List.filter_filter] at h1
    have e1 : T.filter (fun P => decide (P.length < k + 3) && decide (P.length < k + 1 + 3)) = T.filter fun P => decide (P.length < k + 3) := by
      refine List.filter_congr fun P _ => ?_
      rw [← Bool.decide_and, decide_eq_decide]
      omega
    have e2 : T.filter (fun P => (!decide (P.length < k + 3)) && decide (P.length < k + 1 + 3)) = T.filter fun P => P.length == k + 3 := by
      refine List.filter_congr fun P _ => bool_ext ?_
      simp
      omega
    rw [e1, e2] at h1
    have h2 := h1.map fun P : List Int => (P.length : Int)
    rw [List.map_append] at h2
    have e3 : (T.filter fun P => P.length == k + 3).map (fun P => (P.length : Int)) = szT T (k + 3) := by
      unfold szT
      refine List.map_congr_left fun P hP => ?_
      have := (List.mem_filter.1 hP).2
      simp at this
      omega
    rw [e3] at h2
    exact (ih.append (List.Perm.refl _)).trans h2
theorem szU_sort (T : List (List Int)) (k : Nat) : (szU T k).Pairwise (· ≤ ·) := by
  unfold szU
  rw [List.pairwise_flatMap]
  refine ⟨fun j _ => ?_, ?_⟩
  · unfold szT
    rw [List.pairwise_map]
    exact List.pairwise_of_forall fun _ _ => Int.le_refl _
  · refine List.pairwise_lt_range.imp fun hlt x hx y hy => ?_
    unfold szT at hx hy
    simp only [List.mem_map] at hx hy
    obtain ⟨_, _, rfl⟩ := hx
    obtain ⟨_, _, rfl⟩ := hy
    omega
/-- what is in order and has the lists' lengths is the list of sizes -/
theorem szU_eq {T : List (List Int)} {k : Nat} (h3 : ∀ P ∈ T, 3 ≤ P.length ∧ P.length < k + 3) : (lens T).mergeSort (fun x y => decide (x ≤ y)) = szU T k := by
  have e : T.filter (fun P => decide (P.length < k + 3)) = T := by
    rw [List.filter_eq_self]
    intro P hP
    simpa using (h3 P hP).2
  have hp := szU_perm (fun P hP => (h3 P hP).1) k
  rw [e] at hp
  refine List.Perm.eq_of_pairwise (le := fun x y : Int => x ≤ y) (fun a b _ _ h1 h2 => by omega) ?_ (szU_sort T k) ((List.mergeSort_perm _ _).trans hp.symm)
  have := List.pairwise_mergeSort (le := fun x y : Int => decide (x ≤ y)) (fun a b c h1 h2 => by simp at *; omega) (fun a b => by simp; omega) (lens T)
  exact this.imp fun h => by simpa using h
theorem szU_length {T : List (List Int)} {k : Nat} (h3 : ∀ P ∈ T, 3 ≤ P.length ∧ P.length < k + 3) : (szU T k).length = T.length := by
  rw [← szU_eq h3, List.length_mergeSort]
  simp [lens]
theorem mem_szU {T : List (List Int)} {k : Nat} (h3 : ∀ P ∈ T, 3 ≤ P.length ∧ P.length < k + 3) {x : Int} : x ∈ szU T k ↔ ∃ P ∈ T, (P.length : Int) = x := by
  rw [← szU_eq h3, List.mem_mergeSort]
  simp [lens]

/-- the lengths told so far -/
def lnH (T : List (List Int)) (k : Nat) : List Int := (lens T).take k ++ List.replicate (T.length - k) 0
theorem lens_length (T : List (List Int)) : (lens T).length = T.length := by simp [lens]
theorem lnH_length (T : List (List Int)) (k : Nat) (h : k ≤ T.length) : (lnH T k).length = T.length := by simp [lnH, lens]; omega
theorem lnH_zero (T : List (List Int)) : lnH T 0 = List.replicate T.length 0 := by simp [lnH]
theorem lnH_all (T : List (List Int)) : lnH T T.length = lens T := by
  unfold lnH
  rw [List.take_of_length_le (by rw [lens_length]; exact Nat.le_refl _), Nat.sub_self]
  simp
theorem lnH_set (T : List (List Int)) (k : Nat) (h : k < T.length) : (lnH T k).set k ((rowOf T k).length : Int) = lnH T (k + 1) := by
  unfold lnH
  have hl : ((lens T).take k).length = k := by simp [lens]; omega
  rw [List.set_append_right _ _ (by omega), hl, Nat.sub_self, show T.length - k = (T.length - (k + 1)) + 1 by omega, List.replicate_succ, List.set_cons_zero, List.take_succ_eq_append_getElem (by rw [lens_length]; exact h), List.append_assoc]
  have e : (lens T)[k]'(by rw [lens_length]; exact h) = ((rowOf T k).length : Int) := by simp [lens, rowOf, h]
  rw [e]
  rfl

/-- all pieces have a size -/
def eqS (T : List (List Int)) (s : Int) : Bool := T.all fun P => decide ((P.length : Int) = s)
theorem eqS_iff {T : List (List Int)} {s : Int} : eqS T s = true ↔ ∀ P ∈ T, (P.length : Int) = s := by
  unfold eqS
  simp
theorem eqS_no {T : List (List Int)} {s : Int} {j : Nat} (hj : j < T.length) (h : ((rowOf T j).length : Int) ≠ s) : eqS T s = false := by
  cases he : eqS T s
  · rfl
  · exact absurd (eqS_iff.1 he _ (by
      have e : rowOf T j = T[j] := by simp [rowOf, hj]
      rw [e]; exact List.getElem_mem _)) h
theorem eqS_yes {T : List (List Int)} {s : Int} (h : ∀ j, j < T.length → ((rowOf T j).length : Int) = s) : eqS T s = true := by
  rw [eqS_iff]
  intro P hP
  obtain ⟨j, hj, rfl⟩ := List.getElem_of_mem hP
  have := h j hj
  simpa [rowOf, hj] using this
/-- the least and the greatest size tell whether all are the same -/
theorem eqS_ends {T : List (List Int)} {k : Nat} (h3 : ∀ P ∈ T, 3 ≤ P.length ∧ P.length < k + 3) (h0 : 0 < T.length) (s : Int) :
    (decide ((szU T k).getD 0 0 = s) && decide ((szU T k).getD (T.length - 1) 0 = s)) = eqS T s := by
  have hl := szU_length h3
  have hs := szU_sort T k
  refine bool_ext ?_
  rw [Bool.and_eq_true, decide_eq_true_eq, decide_eq_true_eq, eqS_iff]
  have e0 : (szU T k).getD 0 0 = (szU T k)[0]'(by omega) := by simp [show 0 < (szU T k).length by omega]
  have e1 : (szU T k).getD (T.length - 1) 0 = (szU T k)[T.length - 1]'(by omega) := by simp [show T.length - 1 < (szU T k).length by omega]
  constructor
  · rintro ⟨a, b⟩ P hP
    obtain ⟨j, hj, ej⟩ := List.getElem_of_mem ((mem_szU h3).2 ⟨P, hP, rfl⟩)
    rw [e0] at a
    rw [e1] at b
    have h1 : (szU T k)[0]'(by omega) ≤ (szU T k)[j] := by
      by_cases hz : j = 0
      · subst hz; exact Int.le_refl _
      · exact List.pairwise_iff_getElem.1 hs 0 j (by omega) hj (by omega)
    have h2 : (szU T k)[j] ≤ (szU T k)[T.length - 1]'(by omega) := by
      by_cases hz : j = T.length - 1
      · subst hz; exact Int.le_refl _
      · exact List.pairwise_iff_getElem.1 hs j (T.length - 1) hj (by omega) (by omega)
    omega
  · intro h
    rw [e0, e1]
    constructor
    · obtain ⟨P, hP, e⟩ := (mem_szU h3).1 (List.getElem_mem (show 0 < (szU T k).length by omega))
      rw [← e]; exact h P hP
    · obtain ⟨P, hP, e⟩ := (mem_szU h3).1 (List.getElem_mem (show T.length - 1 < (szU T k).length by omega))
      rw [← e]; exact h P hP
end Go.Proofs.Ytlnnnjnboknoeaa
