/- Quiddities behind a flip: plain mathematics. -/
import Derived.Test.YtbpaaoeefcebeaaFlipM
namespace Go.Proofs.Ytbpaaoeefcebeaa
set_option linter.unusedVariables false

theorem getD_set (l : List Int) (i j : Nat) (v : Int) (hj : j < l.length) : (l.set i v).getD j 0 = if i = j then v else l.getD j 0 := by
  simp only [List.getD_eq_getElem?_getD, List.getElem?_set]
  by_cases h : i = j
  · subst h; simp [hj]
  · simp [h]
theorem getI {l : List Int} {i : Nat} (h : i < l.length) : l[i] = l.getD i 0 := by simp [h]
theorem bump_at (l : List Int) (i j : Nat) (hj : j < l.length) : (bump l i).getD j 0 = l.getD j 0 + if i = j then 1 else 0 := by
  unfold bump
  rw [getD_set l i j _ hj]
  by_cases h : i = j
  · subst h; simp
  · simp [h]
theorem quid_count (j : Nat) : ∀ (ds : List (Int × Int)) (q : List Int), j < q.length → (∀ d ∈ ds, 0 ≤ d.1 ∧ d.1 < d.2) → (ds.foldl bump2 q).getD j 0 = q.getD j 0 + ((ds.countP fun d => decide (d.1 = (j : Int) ∨ d.2 = (j : Int)) : Nat) : Int) := by
  intro ds
  induction ds with
  | nil => intro q _ _; simp
  | cons d r ih =>
    intro q hq h
    have hd := h d (by simp)
    rw [List.foldl_cons, ih _ (by rw [bump2_length]; exact hq) (fun d hd => h d (by simp [hd])), List.countP_cons]
    unfold bump2
    rw [bump_at _ _ _ (by rw [bump_length]; exact hq), bump_at _ _ _ hq]
    by_cases h1 : d.1 = (j : Int)
    · have e1 : d.1.toNat = j := by omega
      have e2 : ¬d.2.toNat = j := by omega
      simp [h1, e1, e2]
      omega
    · have e1 : ¬d.1.toNat = j := by omega
      by_cases h2 : d.2 = (j : Int)
      · have e2 : d.2.toNat = j := by omega
        simp [h2, e1, e2]
        omega
      · have e2 : ¬d.2.toNat = j := by omega
        simp [h1, h2, e1, e2]
theorem quidF_at {m j : Nat} {ds : List (Int × Int)} (hj : j < m) (h : ∀ d ∈ ds, 0 ≤ d.1 ∧ d.1 < d.2) : (quidF m ds).getD j 0 = 1 + ((ds.countP fun d => decide (d.1 = (j : Int) ∨ d.2 = (j : Int)) : Nat) : Int) := by
  unfold quidF
  rw [quid_count j ds _ (by simpa using hj) h]
  simp [hj]
/-- what a flip of d, by which e comes in, adds to the numbers of m corners -/
def chL (m : Nat) (d e : Int × Int) : List Int := ((((List.replicate m (0 : Int)).set d.1.toNat (-1)).set d.2.toNat (-1)).set e.1.toNat 1).set e.2.toNat 1
theorem chL_length (m : Nat) (d e : Int × Int) : (chL m d e).length = m := by simp [chL]
theorem chL_at {m j : Nat} {d e : Int × Int} (hj : j < m) (hd : 0 ≤ d.1 ∧ 0 ≤ d.2) (he : 0 ≤ e.1 ∧ 0 ≤ e.2) (hne : e.1 ≠ d.1 ∧ e.1 ≠ d.2 ∧ e.2 ≠ d.1 ∧ e.2 ≠ d.2) :
    (chL m d e).getD j 0 = (if e.1 = (j : Int) ∨ e.2 = (j : Int) then 1 else 0) - (if d.1 = (j : Int) ∨ d.2 = (j : Int) then 1 else 0) := by
  unfold chL
  rw [getD_set _ _ _ _ (by simpa using hj), getD_set _ _ _ _ (by simpa using hj), getD_set _ _ _ _ (by simpa using hj), getD_set _ _ _ _ (by simpa using hj)]
  have h0 : (List.replicate m (0 : Int)).getD j 0 = 0 := by simp [hj]
  rw [h0]
  have t1 : e.2.toNat = j ↔ e.2 = (j : Int) := by omega
  have t2 : e.1.toNat = j ↔ e.1 = (j : Int) := by omega
  have t3 : d.2.toNat = j ↔ d.2 = (j : Int) := by omega
  have t4 : d.1.toNat = j ↔ d.1 = (j : Int) := by omega
  simp only [t1, t2, t3, t4]
  by_cases c1 : e.2 = (j : Int)
  · have d1 : ¬d.1 = (j : Int) := by omega
    have d2 : ¬d.2 = (j : Int) := by omega
    simp [c1, d1, d2]
  · by_cases c2 : e.1 = (j : Int)
    · have d1 : ¬d.1 = (j : Int) := by omega
      have d2 : ¬d.2 = (j : Int) := by omega
      simp [c1, c2, d1, d2]
    · by_cases c3 : d.2 = (j : Int)
      · simp [c1, c2, c3]
      · by_cases c4 : d.1 = (j : Int)
        · simp [c1, c2, c3, c4]
        · simp [c1, c2, c3, c4]
theorem quid_flip {n : Nat} {l : List (Int × Int)} (T : Tri n l) {d : Int × Int} (hm : d ∈ l) {j : Nat} (hj : j < n) : (quidF n (flipL n l d)).getD j 0 - (quidF n l).getD j 0 = (chL n d (oth n l d)).getD j 0 := by
  have ho := oth_is T hm
  have hF := flip_tri T hm
  have hdg := T.dg d hm
  have h0 := ho.low
  have h1 := ho.mid
  have hp := ho.pos
  rw [quidF_at hj (fun d hd => by have := hF.dg d hd; omega), quidF_at hj (fun d hd => by have := T.dg d hd; omega), chL_at hj (by omega) (by omega) (by omega)]
  rw [(flip_perm n l d).countP_eq, (perm_erase T.nodup hm).countP_eq, List.countP_append, List.countP_cons, List.countP_cons, List.countP_nil]
  simp only [decide_eq_true_eq]
  split <;> split <;> omega

/-- the first k numbers of a less those of b -/
def subK (a b : List Int) (k : Nat) : List Int := (List.range a.length).map fun i => if i < k then a.getD i 0 - b.getD i 0 else a.getD i 0
theorem subK_length (a b : List Int) (k : Nat) : (subK a b k).length = a.length := by simp [subK]
theorem subK_at {a b : List Int} {k i : Nat} (hi : i < a.length) : (subK a b k).getD i 0 = if i < k then a.getD i 0 - b.getD i 0 else a.getD i 0 := by
  unfold subK
  simp [hi]
theorem subK_zero (a b : List Int) : subK a b 0 = a := by
  apply List.ext_getElem
  · exact subK_length a b 0
  · intro i h1 h2
    have := subK_at (a := a) (b := b) (k := 0) (i := i) h2
    simp only [List.getD_eq_getElem?_getD, List.getElem?_eq_getElem h1, Option.getD_some, Nat.not_lt_zero, if_false, List.getElem?_eq_getElem h2] at this
    exact this
theorem subK_set {a b : List Int} {k : Nat} (hk : k < a.length) : (subK a b k).set k ((subK a b k).getD k 0 - b.getD k 0) = subK a b (k + 1) := by
  apply List.ext_getElem
  · rw [List.length_set, subK_length, subK_length]
  · intro i h1 h2
    rw [subK_length] at h2
    have e1 := getD_set (subK a b k) k i ((subK a b k).getD k 0 - b.getD k 0) (by rw [subK_length]; exact h2)
    have e2 := subK_at (a := a) (b := b) (k := k + 1) h2
    have e3 := subK_at (a := a) (b := b) (k := k) h2
    have e4 := subK_at (a := a) (b := b) (k := k) hk
    rw [if_neg (by omega)] at e4
    have h3 : i < (subK a b (k + 1)).length := by rw [subK_length]; exact h2
    have g1 := getI h1
    have g2 := getI h3
    rw [g1, g2, e1, e2]
    by_cases h : k = i
    · subst h
      rw [if_pos rfl, if_pos (by omega), e4]
    · rw [if_neg h, e3]
      by_cases hlt : i < k
      · rw [if_pos hlt, if_pos (by omega)]
      · rw [if_neg hlt, if_neg (by omega)]
theorem subK_all {n : Nat} {l : List (Int × Int)} (T : Tri n l) {d : Int × Int} (hm : d ∈ l) : subK (quidF n (flipL n l d)) (quidF n l) n = chL n d (oth n l d) := by
  apply List.ext_getElem
  · rw [subK_length, quidF_length, chL_length]
  · intro i h1 h2
    have hi : i < n := by rw [chL_length] at h2; exact h2
    have e := subK_at (a := quidF n (flipL n l d)) (b := quidF n l) (k := n) (i := i) (by rw [quidF_length]; exact hi)
    rw [if_pos hi, quid_flip T hm hi] at e
    simpa only [List.getD_eq_getElem?_getD, List.getElem?_eq_getElem h1, List.getElem?_eq_getElem h2, Option.getD_some] using e
theorem quid_small {n : Nat} {l : List (Int × Int)} (hl : l.length ≤ 12) (j : Nat) : 0 ≤ (quidF n l).getD j 0 ∧ (quidF n l).getD j 0 ≤ 100 := by
  have := quidF_bound n l l.length j
  rw [List.take_length] at this
  omega
noncomputable def qcR (n : Int) (l : List (Int × Int)) (d : Int × Int) : List Int := if (triB n l && decide (d ∈ l)) = true then chL n.toNat d (oth n l d) else []
theorem qcR_yes {n : Int} {l : List (Int × Int)} {d : Int × Int} (h : (triB n l && decide (d ∈ l)) = true) : qcR n l d = chL n.toNat d (oth n l d) := by unfold qcR; rw [if_pos h]
theorem qcR_no {n : Int} {l : List (Int × Int)} {d : Int × Int} (h : (triB n l && decide (d ∈ l)) = false) : qcR n l d = [] := by unfold qcR; rw [h]; rfl
theorem qcR_length (n : Int) (l : List (Int × Int)) (d : Int × Int) : (qcR n l d).length ≤ 1000000000 := by
  cases h : (triB n l && decide (d ∈ l))
  · rw [qcR_no h]; simp
  · rw [qcR_yes h, chL_length]
    rw [Bool.and_eq_true] at h
    have := (tri_of h.1).n12
    omega
end Go.Proofs.Ytbpaaoeefcebeaa
