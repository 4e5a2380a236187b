/- Puzzles made by numbers: an ear put on a quiddity keeps it one; the numbers told; places that become gaps: plain mathematics. -/
import Derived.Test.YtnoddecligmjbaaRevM
import Derived.Test.YtnoddecligmjbaaGluS
import Derived.Test.YtnoddecligmjbaaPzC
namespace Go.Proofs.Ytnoddecligmjbaa
set_option linter.unusedVariables false

theorem gluP_get (q : List Int) (p j : Nat) (h : p ≤ q.length) : (gluP q p).getD j 0 = if j < p then q.getD j 0 else if j = p then 1 else q.getD (j - 1) 0 := by
  have hl : (q.take p).length = p := by simp; omega
  unfold gluP
  simp only [List.getD_eq_getElem?_getD, List.append_assoc]
  by_cases h1 : j < p
  · rw [if_pos h1, List.getElem?_append_left (by omega)]
    simp [h1]
  · rw [if_neg h1, List.getElem?_append_right (by omega), hl]
    by_cases h2 : j = p
    · rw [if_pos h2]
      simp [h2]
    · rw [if_neg h2]
      obtain ⟨d, hd⟩ : ∃ d, j - p = d + 1 := ⟨j - p - 1, by omega⟩
      rw [hd]
      simp
      rw [show p + d = j - 1 by omega]
theorem gInc_get (l : List Int) (k j : Nat) (hj : j < l.length) : (gInc l k).getD j 0 = if k = j then l.getD j 0 + 1 else l.getD j 0 := by
  unfold gInc
  simp only [List.getD_eq_getElem?_getD]
  by_cases h : k = j
  · subst h
    simp [hj]
  · simp [h, List.getElem?_set_ne h]
theorem glueL_get (q : List Int) (t j : Nat) (h : t < q.length) (hj : j < q.length + 1) : (glueL q t).getD j 0 = (if j < t + 1 then q.getD j 0 else if j = t + 1 then 1 else q.getD (j - 1) 0) + (if t = j then 1 else 0) + (if (t + 2) % (q.length + 1) = j then 1 else 0) := by
  unfold glueL
  have h1 : (gluP q (t + 1)).length = q.length + 1 := gluP_length q (t + 1) (by omega)
  rw [gInc_get _ _ _ (by rw [gInc_length, h1]; exact hj), gInc_get _ _ _ (by rw [h1]; exact hj), gluP_get q (t + 1) j (by omega)]
  by_cases h2 : t = j <;> by_cases h3 : (t + 2) % (q.length + 1) = j <;> simp only [h2, h3, if_true, if_false] <;> omega
theorem cut_glue (q : List Int) (t : Nat) (h3 : 3 ≤ q.length) (h : t < q.length) : cutL (glueL q t) (t + 1) = q := by
  have hl := glueL_length q t (by omega)
  refine ext_getD (by rw [cutL_length _ _ (by omega), hl]; omega) fun j hj => ?_
  rw [cutL_length _ _ (by omega), hl] at hj
  have hm : (t + 2) % (q.length + 1) = if t + 2 = q.length + 1 then 0 else t + 2 := by
    split
    · next e => rw [e]; exact Nat.mod_self _
    · exact Nat.mod_eq_of_lt (by omega)
  rw [cutL_at _ _ _ (by omega) (by omega) (by omega), hl]
  have hpre : preL (q.length + 1) (t + 1) = t := by unfold preL; rw [if_neg (by omega)]; omega
  have hsuc : sucL (q.length + 1) (t + 1) = (t + 2) % (q.length + 1) := by
    rw [hm]
    unfold sucL
    split <;> omega
  unfold nbL
  rw [hpre, hsuc]
  rcases up_eq (t + 1) j with ⟨e1, e2⟩ | ⟨e1, e2⟩
  · rw [e2, glueL_get q t j h (by omega), if_pos e1]
    have e3 : (if j = t then (1 : Int) else 0) = if t = j then 1 else 0 := by split <;> split <;> omega
    have e4 : (if j = (t + 2) % (q.length + 1) then (1 : Int) else 0) = if (t + 2) % (q.length + 1) = j then 1 else 0 := by split <;> split <;> omega
    rw [e3, e4]
    omega
  · rw [e2, glueL_get q t (j + 1) h (by omega), if_neg (by omega), if_neg (by omega), Nat.add_sub_cancel]
    have e3 : (if j + 1 = t then (1 : Int) else 0) = if t = j + 1 then 1 else 0 := by split <;> split <;> omega
    have e4 : (if j + 1 = (t + 2) % (q.length + 1) then (1 : Int) else 0) = if (t + 2) % (q.length + 1) = j + 1 then 1 else 0 := by split <;> split <;> omega
    rw [e3, e4]
    omega
theorem glue_isQ {q : List Int} {t : Nat} (hq : isQ q = true) (h11 : q.length ≤ 11) (ht : t < q.length) : isQ (glueL q t) = true := by
  obtain ⟨h3, _⟩ := isQ_len hq
  have hl := glueL_length q t (by omega)
  have hb := fun i hi => isQ_get hq i hi
  rw [isQ_red] at hq ⊢
  rw [Bool.and_eq_true] at hq ⊢
  obtain ⟨f, hf⟩ : ∃ f, q.length = f + 3 := ⟨q.length - 3, by omega⟩
  have h1 : (glueL q t).getD (t + 1) 0 = 1 := by
    rw [glueL_get q t (t + 1) ht (by omega), if_neg (by omega), if_pos rfl, if_neg (by omega), if_neg]
    · rfl
    · intro e
      have : (t + 2) % (q.length + 1) = if t + 2 = q.length + 1 then 0 else t + 2 := by
        split
        · next e => rw [e]; exact Nat.mod_self _
        · exact Nat.mod_eq_of_lt (by omega)
      rw [this] at e
      split at e <;> omega
  constructor
  · unfold couldB poB
    rw [Bool.and_eq_true, hl]
    refine ⟨by simp; omega, allB_iff.2 fun i hi => ?_⟩
    rw [hl] at hi
    rw [glueL_get q t i ht hi]
    have hr : 1 ≤ (if i < t + 1 then q.getD i 0 else if i = t + 1 then 1 else q.getD (i - 1) 0) ∧ (if i < t + 1 then q.getD i 0 else if i = t + 1 then 1 else q.getD (i - 1) 0) ≤ (q.length : Int) - 2 := by
      split
      · exact hb i (by omega)
      · split
        · omega
        · exact hb (i - 1) (by omega)
    have hne : t ≠ (t + 2) % (q.length + 1) := by
      intro e
      have : (t + 2) % (q.length + 1) = if t + 2 = q.length + 1 then 0 else t + 2 := by
        split
        · next e => rw [e]; exact Nat.mod_self _
        · exact Nat.mod_eq_of_lt (by omega)
      rw [this] at e
      split at e <;> omega
    generalize (if i < t + 1 then q.getD i 0 else if i = t + 1 then 1 else q.getD (i - 1) 0) = x at *
    generalize (t + 2) % (q.length + 1) = r at *
    have : ¬(t = i ∧ r = i) := fun ⟨a, b⟩ => hne (a.trans b.symm)
    split <;> split <;> omega
  · rw [hl]
    have h5 : red f (cutL (glueL q t) (t + 1)) = true := by
      rw [cut_glue q t h3 ht]
      have := hq.2
      rw [hf] at this
      simpa using this
    have h6 := red_ear (anyEar f) (l := glueL q t) (by omega) (i := t + 1) (by omega) h1 h5
    rw [show q.length + 1 - 3 = f + 1 by omega]
    exact h6

/-- the next number -/
def mkZ (z : Int) : Int := (z * 187 + 3301) % 10007
theorem mkZ_bd {z : Int} (h : 0 ≤ z) : 0 ≤ mkZ z ∧ mkZ z ≤ 10006 := by
  unfold mkZ
  omega
theorem mkM_bd {z : Int} {m : Nat} (h : 0 ≤ z) (hm : 0 < m) : 0 ≤ mkZ z % (m : Int) ∧ mkZ z % (m : Int) < (m : Int) := by
  exact ⟨Int.emod_nonneg _ (by omega), Int.emod_lt_of_pos _ (by omega)⟩
/-- ears put on, so often -/
def mkA : Nat → Int → List Int → Int × List Int
  | 0, z, q => (z, q)
  | f + 1, z, q => mkA f (mkZ z) (glueL q (mkZ z % (q.length : Int)).toNat)
/-- gaps made, so often -/
def mkS (z : Int) (q : List Int) : List Int := q.set ((fullF q q.length).getD (mkZ z % ((fullF q q.length).length : Int)).toNat 0).toNat 0
def mkB : Nat → Int → List Int → List Int
  | 0, _, q => q
  | g + 1, z, q => mkB g (mkZ z) (mkS z q)
theorem mkS_length (z : Int) (q : List Int) : (mkS z q).length = q.length := by simp [mkS]
theorem mkB_length : ∀ (g : Nat) (z : Int) (q : List Int), (mkB g z q).length = q.length := by
  intro g
  induction g with
  | zero => intro z q; rfl
  | succ g ih => intro z q; rw [mkB, ih, mkS_length]
theorem mkA_isQ : ∀ (f : Nat) (z : Int) (q : List Int), 0 ≤ z → isQ q = true → q.length + f ≤ 12 → isQ (mkA f z q).2 = true ∧ (mkA f z q).2.length = q.length + f ∧ 0 ≤ (mkA f z q).1 := by
  intro f
  induction f with
  | zero => intro z q hz hq _; exact ⟨hq, rfl, hz⟩
  | succ f ih =>
    intro z q hz hq hl
    obtain ⟨h3, _⟩ := isQ_len hq
    obtain ⟨m0, m1⟩ := mkM_bd (m := q.length) hz (by omega)
    have ht : (mkZ z % (q.length : Int)).toNat < q.length := by omega
    have hg := glueL_length q _ (show (mkZ z % (q.length : Int)).toNat + 1 ≤ q.length by omega)
    obtain ⟨r1, r2, r3⟩ := ih (mkZ z) _ (mkZ_bd hz).1 (glue_isQ hq (by omega) ht) (by rw [hg]; omega)
    rw [hg] at r2
    exact ⟨r1, by rw [mkA, r2]; omega, r3⟩
theorem fullF_same (q : List Int) (k : Nat) (r : List Int) (h : ∀ i, i < k → (q.getD i 0 = 0 ↔ r.getD i 0 = 0)) : fullF q k = fullF r k := by
  induction k with
  | zero => rfl
  | succ k ih =>
    have ih' := ih fun i hi => h i (by omega)
    by_cases hx : q.getD k 0 = 0
    · rw [fullF_miss q k hx, fullF_miss r k ((h k (by omega)).1 hx), ih']
    · rw [fullF_hit q k hx, fullF_hit r k (fun e => hx ((h k (by omega)).2 e)), ih']
theorem set_getI (q : List Int) (p i : Nat) (hp : p < q.length) : (q.set p 0).getD i 0 = if i = p then 0 else q.getD i 0 := by
  simp only [List.getD_eq_getElem?_getD]
  by_cases h : i = p
  · subst h
    simp [hp]
  · simp [h, List.getElem?_set_ne (Ne.symm h)]
theorem fullF_set (q : List Int) (p : Nat) (hp : p < q.length) (hx : q.getD p 0 ≠ 0) : ∀ k, p < k → (fullF (q.set p 0) k).length + 1 = (fullF q k).length := by
  intro k
  induction k with
  | zero => intro h; omega
  | succ k ih =>
    intro hk
    by_cases hpk : p = k
    · subst hpk
      rw [fullF_miss (q.set p 0) p (by rw [set_getI q p p hp, if_pos rfl]), fullF_hit q p hx, fullF_same (q.set p 0) p q (fun i hi => by rw [set_getI q p i hp, if_neg (by omega)])]
      simp
    · have ih' := ih (by omega)
      have e := set_getI q p k hp
      rw [if_neg (by omega)] at e
      by_cases hz : q.getD k 0 = 0
      · rw [fullF_miss q k hz, fullF_miss _ k (by rw [e]; exact hz)]
        exact ih'
      · rw [fullF_hit q k hz, fullF_hit _ k (by rw [e]; exact hz)]
        simp
        omega
theorem mkS_full (z : Int) (q : List Int) (hz : 0 ≤ z) (h : 0 < (fullF q q.length).length) : (fullF (mkS z q) q.length).length + 1 = (fullF q q.length).length := by
  obtain ⟨m0, m1⟩ := mkM_bd (m := (fullF q q.length).length) hz h
  obtain ⟨p, e, hp, hx⟩ := fullF_get q q.length (mkZ z % ((fullF q q.length).length : Int)).toNat (by omega)
  unfold mkS
  rw [e]
  exact fullF_set q p hp hx q.length hp
theorem full_all {q : List Int} (h : ∀ i, i < q.length → q.getD i 0 ≠ 0) : ∀ k, k ≤ q.length → (fullF q k).length = k := by
  intro k
  induction k with
  | zero => intro _; rfl
  | succ k ih =>
    intro hk
    rw [fullF_hit q k (h k (by omega)), List.length_append, ih (by omega)]
    rfl
def mkOk (n g s : Int) : Bool := inB n 3 9 && inB g 0 n && inB s 0 9999
def mkR (n g s : Int) : List Int := if mkOk n g s = true then mkB g.toNat (mkA (n.toNat - 3) s [1, 1, 1]).1 (mkA (n.toNat - 3) s [1, 1, 1]).2 else []
theorem tri_isQ : isQ [1, 1, 1] = true := by decide +kernel
end Go.Proofs.Ytnoddecligmjbaa
