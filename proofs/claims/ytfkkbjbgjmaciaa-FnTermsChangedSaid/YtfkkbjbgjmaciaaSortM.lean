/- Pairs in order: plain mathematics (insertion; a sorted permutation is the one). -/
import Derived.Test.YtfkkbjbgjmaciaaTriM
namespace Go.Proofs.Ytfkkbjbgjmaciaa
set_option linter.unusedVariables false

/-- the order of pairs -/
def leP (d e : Int × Int) : Prop := d.1 < e.1 ∨ (d.1 = e.1 ∧ d.2 ≤ e.2)
theorem leP_anti {d e : Int × Int} (h : leP d e) (h' : leP e d) : d = e := by
  unfold leP at h h'
  apply Prod.ext <;> omega
theorem leP_trans {d e f : Int × Int} (h : leP d e) (h' : leP e f) : leP d f := by
  unfold leP at *
  omega
theorem ltB_true {d e : Int × Int} (h : ltB d.1 d.2 e.1 e.2 = true) : leP d e := by
  unfold ltB at h
  unfold leP
  simp at h
  omega
theorem ltB_false {d e : Int × Int} (h : ltB d.1 d.2 e.1 e.2 = false) : leP e d := by
  unfold ltB at h
  unfold leP
  simp at h
  omega

/-- x put in ahead of the first one that isn't less -/
def ins (x : Int × Int) : List (Int × Int) → List (Int × Int)
  | [] => [x]
  | y :: r => if ltB y.1 y.2 x.1 x.2 then y :: ins x r else x :: y :: r
theorem ins_perm (x : Int × Int) (l : List (Int × Int)) : (ins x l).Perm (x :: l) := by
  induction l with
  | nil => exact List.Perm.refl _
  | cons y r ih =>
    unfold ins
    split
    · exact (ih.cons y).trans (List.Perm.swap x y r)
    · exact List.Perm.refl _
theorem ins_sorted (x : Int × Int) (l : List (Int × Int)) (h : l.Pairwise leP) : (ins x l).Pairwise leP := by
  induction l with
  | nil => simp [ins]
  | cons y r ih =>
    unfold ins
    rw [List.pairwise_cons] at h
    cases hy : ltB y.1 y.2 x.1 x.2
    · simp only [Bool.false_eq_true, if_false]
      rw [List.pairwise_cons]
      refine ⟨fun z hz => ?_, by rw [List.pairwise_cons]; exact h⟩
      have hyx := ltB_false hy
      rcases List.mem_cons.1 hz with rfl | hz
      · exact hyx
      · exact leP_trans hyx (h.1 z hz)
    · simp only [if_true]
      rw [List.pairwise_cons]
      refine ⟨fun z hz => ?_, ih h.2⟩
      have hm := (ins_perm x r).mem_iff.1 hz
      rcases List.mem_cons.1 hm with rfl | hm
      · exact ltB_true hy
      · exact h.1 z hm
/-- the pairs in order -/
def sortD (l : List (Int × Int)) : List (Int × Int) := l.foldl (fun s d => ins d s) []
theorem sortD_spec (l : List (Int × Int)) : (sortD l).Pairwise leP ∧ (sortD l).Perm l := by
  unfold sortD
  have : ∀ (l s : List (Int × Int)), s.Pairwise leP → (l.foldl (fun s d => ins d s) s).Pairwise leP ∧ (l.foldl (fun s d => ins d s) s).Perm (s ++ l) := by
    intro l
    induction l with
    | nil => intro s h; simpa using h
    | cons d r ih =>
      intro s h
      rw [List.foldl_cons]
      obtain ⟨h1, h2⟩ := ih (ins d s) (ins_sorted d s h)
      refine ⟨h1, h2.trans ?_⟩
      refine ((ins_perm d s).append_right r).trans ?_
      rw [List.cons_append]
      exact List.perm_middle.symm
  have := this l [] List.Pairwise.nil
  simpa using this
theorem sortD_unique {l r : List (Int × Int)} (h : r.Pairwise leP) (hp : r.Perm l) : r = sortD l := by
  obtain ⟨h1, h2⟩ := sortD_spec l
  exact List.Perm.eq_of_pairwise (fun a b _ _ => leP_anti) h h1 (hp.trans h2.symm)
theorem sortD_length (l : List (Int × Int)) : (sortD l).length = l.length := (sortD_spec l).2.length_eq

/-- inside a round of the insertion sort: x stands at place j of the sorted beginning -/
def inn (P : List (Int × Int)) (x : Int × Int) (j : Nat) (rest : List (Int × Int)) : List (Int × Int) := P.take j ++ x :: (P.drop j ++ rest)
theorem inn_length (P : List (Int × Int)) (x : Int × Int) (j : Nat) (rest : List (Int × Int)) : (inn P x j rest).length = P.length + 1 + rest.length := by
  simp [inn]; omega
theorem inn_at (P : List (Int × Int)) (x : Int × Int) (j : Nat) (rest : List (Int × Int)) (h : j ≤ P.length) : (inn P x j rest).getD j (0, 0) = x := by
  unfold inn
  have e : (P.take j).length = j := by simp; omega
  rw [List.getD_eq_getElem?_getD, List.getElem?_append_right (by omega), e, Nat.sub_self]
  rfl
theorem inn_before (P : List (Int × Int)) (x : Int × Int) (j : Nat) (rest : List (Int × Int)) (h : j ≤ P.length) (h0 : 0 < j) : (inn P x j rest).getD (j - 1) (0, 0) = P.getD (j - 1) (0, 0) := by
  unfold inn
  have e : (P.take j).length = j := by simp; omega
  rw [List.getD_eq_getElem?_getD, List.getElem?_append_left (by omega), List.getElem?_take, if_pos (by omega), List.getD_eq_getElem?_getD]
theorem inn_swap (P : List (Int × Int)) (x : Int × Int) (j : Nat) (rest : List (Int × Int)) (h : j ≤ P.length) (h0 : 0 < j) :
    ((inn P x j rest).set j (P.getD (j - 1) (0, 0))).set (j - 1) x = inn P x (j - 1) rest := by
  obtain ⟨i, rfl⟩ : ∃ i, j = i + 1 := ⟨j - 1, by omega⟩
  have hi : i < P.length := by omega
  have e : (P.take (i + 1)).length = i + 1 := by simp; omega
  have e2 : (P.take i).length = i := by simp; omega
  unfold inn
  rw [List.set_append_right _ _ (by omega), e, Nat.sub_self, List.set_cons_zero, Nat.add_sub_cancel]
  rw [List.take_succ_eq_append_getElem hi, List.append_assoc, List.set_append_right _ _ (by omega), e2, Nat.sub_self]
  have e3 : P.getD i (0, 0) = P[i] := by simp [hi]
  rw [e3, List.singleton_append, List.set_cons_zero, List.drop_eq_getElem_cons hi]
  rfl

/-- the loop inside: what stands behind place j is not less than x -/
def Inn (P : List (Int × Int)) (x : Int × Int) (j : Nat) : Prop := P.Pairwise leP ∧ j ≤ P.length ∧ ∀ y ∈ P.drop j, leP x y
theorem Inn.step {P : List (Int × Int)} {x : Int × Int} {j : Nat} (h : Inn P x j) (h0 : 0 < j) (hl : ltB x.1 x.2 (P.getD (j - 1) (0, 0)).1 (P.getD (j - 1) (0, 0)).2 = true) : Inn P x (j - 1) := by
  obtain ⟨h1, h2, h3⟩ := h
  refine ⟨h1, by omega, ?_⟩
  obtain ⟨i, rfl⟩ : ∃ i, j = i + 1 := ⟨j - 1, by omega⟩
  rw [Nat.add_sub_cancel] at *
  have hi : i < P.length := by omega
  rw [List.drop_eq_getElem_cons hi]
  intro y hy
  have e3 : P.getD i (0, 0) = P[i] := by simp [hi]
  rw [e3] at hl
  rcases List.mem_cons.1 hy with rfl | hy
  · exact ltB_true hl
  · exact h3 y hy
theorem Inn.stop {P : List (Int × Int)} {x : Int × Int} {j : Nat} (h : Inn P x j) (hs : j = 0 ∨ ltB x.1 x.2 (P.getD (j - 1) (0, 0)).1 (P.getD (j - 1) (0, 0)).2 = false) :
    (P.take j ++ x :: P.drop j).Pairwise leP := by
  obtain ⟨h1, h2, h3⟩ := h
  have hP := h1
  rw [← List.take_append_drop j P, List.pairwise_append] at hP
  obtain ⟨hA, hB, hAB⟩ := hP
  rw [List.pairwise_append, List.pairwise_cons]
  refine ⟨hA, ⟨h3, hB⟩, fun a ha b hb => ?_⟩
  have hax : leP a x := by
    rcases hs with rfl | hs
    · simp at ha
    · by_cases h0 : j = 0
      · subst h0; simp at ha
      · obtain ⟨i, rfl⟩ : ∃ i, j = i + 1 := ⟨j - 1, by omega⟩
        rw [Nat.add_sub_cancel] at hs
        have hi : i < P.length := by omega
        have e3 : P.getD i (0, 0) = P[i] := by simp [hi]
        rw [e3] at hs
        have hlast := ltB_false hs
        obtain ⟨k, hk, rfl⟩ := List.getElem_of_mem ha
        rw [List.getElem_take]
        have hk2 : k < i + 1 := by simp at hk; omega
        by_cases hki : k = i
        · subst hki; exact hlast
        · exact leP_trans (List.pairwise_iff_getElem.1 h1 k i (by omega) hi (by omega)) hlast
  rcases List.mem_cons.1 hb with rfl | hb
  · exact hax
  · exact hAB a ha b hb
theorem inn_perm (P : List (Int × Int)) (x : Int × Int) (j : Nat) : (P.take j ++ x :: P.drop j).Perm (P ++ [x]) := by
  refine List.perm_middle.trans ?_
  rw [List.take_append_drop]
  exact (List.perm_append_comm (l₁ := [x]) (l₂ := P))
end Go.Proofs.Ytfkkbjbgjmaciaa
