/- Quiddities counted from diagonals: plain mathematics. -/
import Derived.Test.YtfkkbjbgjmaciaaTriM
namespace Go.Proofs.Ytfkkbjbgjmaciaa
set_option linter.unusedVariables false

def bump (l : List Int) (i : Nat) : List Int := l.set i (l.getD i 0 + 1)
theorem bump_length (l : List Int) (i : Nat) : (bump l i).length = l.length := by simp [bump]
def bump2 (q : List Int) (d : Int × Int) : List Int := bump (bump q d.1.toNat) d.2.toNat
theorem bump2_length (l : List Int) (d : Int × Int) : (bump2 l d).length = l.length := by simp [bump2, bump_length]
/-- the numbers of m corners behind some diagonals -/
def quidF (m : Nat) (ds : List (Int × Int)) : List Int := ds.foldl bump2 (List.replicate m 1)
theorem quidF_nil (m : Nat) : quidF m [] = List.replicate m 1 := rfl
theorem quidF_take (m : Nat) (ds : List (Int × Int)) (k : Nat) (h : k < ds.length) : quidF m (ds.take (k + 1)) = bump2 (quidF m (ds.take k)) (ds.getD k (0, 0)) := by
  unfold quidF
  rw [List.take_succ_eq_append_getElem h, List.foldl_append]
  simp [h]
theorem quidF_length (m : Nat) (ds : List (Int × Int)) : (quidF m ds).length = m := by
  unfold quidF
  have : ∀ (ds : List (Int × Int)) (q : List Int), (ds.foldl bump2 q).length = q.length := by
    intro ds
    induction ds with
    | nil => intro q; rfl
    | cons d r ih => intro q; rw [List.foldl_cons, ih, bump2_length]
  rw [this]; simp

theorem bump_bound (l : List Int) (i : Nat) (b : Int) (hb : 0 ≤ b) (h : ∀ j, 0 ≤ l.getD j 0 ∧ l.getD j 0 ≤ b) : ∀ j, 0 ≤ (bump l i).getD j 0 ∧ (bump l i).getD j 0 ≤ b + 1 := by
  intro j
  have hj := h j
  have hi := h i
  unfold bump
  simp only [List.getD_eq_getElem?_getD, List.getElem?_set] at *
  by_cases e : i = j
  · subst e
    by_cases hl : i < l.length
    · simp [hl] at *; omega
    · simp [hl] at *; omega
  · simp [e] at *; omega
theorem quidF_bound (m : Nat) (ds : List (Int × Int)) (k : Nat) : ∀ j, 0 ≤ (quidF m (ds.take k)).getD j 0 ∧ (quidF m (ds.take k)).getD j 0 ≤ 1 + 2 * (k : Int) := by
  induction k with
  | zero =>
    intro j
    simp only [List.take_zero, quidF_nil, List.getD_eq_getElem?_getD, List.getElem?_replicate]
    by_cases h : j < m <;> simp [h]
  | succ k ih =>
    by_cases h : k < ds.length
    · rw [quidF_take m ds k h]
      intro j
      have h1 := bump_bound _ (ds.getD k (0, 0)).1.toNat _ (by omega) ih
      have h2 := bump_bound _ (ds.getD k (0, 0)).2.toNat _ (by omega) h1
      have := h2 j
      unfold bump2
      omega
    · rw [List.take_of_length_le (by omega)]
      rw [List.take_of_length_le (by omega)] at ih
      intro j
      have := ih j
      omega

theorem bump_take (l : List Int) (i n : Nat) (h : i < n) : (bump l i).take n = bump (l.take n) i := by
  unfold bump
  rw [List.take_set]
  congr 1
  simp [h]
theorem quidF_cut (m n : Nat) (hn : n ≤ m) (ds : List (Int × Int)) (h : ∀ d ∈ ds, d.1.toNat < n ∧ d.2.toNat < n) : (quidF m ds).take n = quidF n ds := by
  unfold quidF
  have : ∀ (ds : List (Int × Int)) (q : List Int), (∀ d ∈ ds, d.1.toNat < n ∧ d.2.toNat < n) → (ds.foldl bump2 q).take n = ds.foldl bump2 (q.take n) := by
    intro ds
    induction ds with
    | nil => intro q _; rfl
    | cons d r ih =>
      intro q h
      rw [List.foldl_cons, ih _ (fun d hd => h d (by simp [hd])), List.foldl_cons]
      congr 1
      have := h d (by simp)
      unfold bump2
      rw [bump_take _ _ _ this.2, bump_take _ _ _ this.1]
  rw [this ds _ h]
  simp [Nat.min_eq_left hn]

theorem upTo_at (n : Int) (ds : List (Int × Int)) (m : Nat) (h : upTo n ds m = true) (i : Nat) (hi : i < m) : okAt n ds i = true := by
  unfold upTo at h
  rw [List.all_eq_true] at h
  exact h i (by simpa using hi)
theorem tri_at {n : Int} {ds : List (Int × Int)} (h : triB n ds = true) (i : Nat) (hi : i < ds.length) : dgB n (ds.getD i (0, 0)).1 (ds.getD i (0, 0)).2 = true := by
  unfold triB uncB at h
  simp only [Bool.and_eq_true] at h
  have := upTo_at n ds _ h.2 i hi
  unfold okAt at this
  simp only [Bool.and_eq_true] at this
  exact this.1.1
theorem tri_n {n : Int} {ds : List (Int × Int)} (h : triB n ds = true) : 3 ≤ n ∧ n ≤ 12 ∧ (ds.length : Int) = n - 3 := by
  unfold triB poB at h
  simp only [Bool.and_eq_true, decide_eq_true_eq] at h
  omega
theorem tri_mem {n : Int} {ds : List (Int × Int)} (h : triB n ds = true) : ∀ d ∈ ds, 0 ≤ d.1 ∧ d.1 + 2 ≤ d.2 ∧ d.2 < n := by
  intro d hd
  obtain ⟨i, hi, rfl⟩ := List.getElem_of_mem hd
  have := tri_at h i hi
  have e : ds.getD i (0, 0) = ds[i] := by simp [hi]
  rw [e, dgB_iff] at this
  omega

/-- the quiddity of a triangulation; none of another list -/
def quidL (n : Int) (ds : List (Int × Int)) : List Int := if triB n ds = true then quidF n.toNat ds else []
end Go.Proofs.Ytfkkbjbgjmaciaa
