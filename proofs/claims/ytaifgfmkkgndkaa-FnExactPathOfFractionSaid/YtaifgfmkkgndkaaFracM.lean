/- Fractions of continuants: plain mathematics; what the loops need. -/
import Derived.Test.YtaifgfmkkgndkaaContM
namespace Go.Proofs.Ytaifgfmkkgndkaa
set_option linter.unusedVariables false

theorem drop_cons (l : List Int) (k : Nat) (h : k < l.length) : l.drop k = l.getD k 0 :: l.drop (k + 1) := by
  rw [List.drop_eq_getElem_cons h]
  simp [h]
theorem frac_cons (s x : Int) (r : List Int) (hr : r ≠ []) : frac s (x :: r) = match frac s r with
      | none => none
      | some (n, d) => if n = 0 then none else if n < 0 then some (-(x * n + s * d), -n) else some (x * n + s * d, n) := by
  cases r with
  | nil => exact absurd rfl hr
  | cons y r' => rfl
theorem frac_one (s x : Int) : frac s [x] = some (x, 1) := rfl
theorem drop_ne {l : List Int} {k : Nat} (h : k < l.length) : l.drop k ≠ [] := by
  intro e
  have := congrArg List.length e
  simp at this
  omega
/-- the state of the model's loop in front of place k: none ahead means none at all -/
theorem frac_none (s : Int) (l : List Int) (k : Nat) (h : frac s (l.drop k) = none) (hk : k < l.length) : frac s l = none := by
  induction k with
  | zero => simpa using h
  | succ k ih =>
    refine ih ?_ (by omega)
    rw [drop_cons l k (by omega), frac_cons s _ _ (drop_ne hk), h]
theorem frac_bd {s : Int} (hs : s = 1 ∨ s = -1) (l : List Int) : ∀ n d, Small l → frac s l = some (n, d) → (-pw l.length ≤ n ∧ n ≤ pw l.length) ∧ (1 ≤ d ∧ d ≤ pw l.length) := by
  induction l with
  | nil => intro n d _ h; simp [frac] at h
  | cons x r ih =>
    intro n d hsm h
    obtain ⟨hx, hr⟩ := hsm.cons
    have hp := pw_pos r.length
    show (-(31 * pw r.length) ≤ n ∧ n ≤ 31 * pw r.length) ∧ (1 ≤ d ∧ d ≤ 31 * pw r.length)
    by_cases he : r = []
    · subst he
      rw [frac_one] at h
      injection h with h
      injection h with h1 h2
      subst h1 h2
      have : pw ([] : List Int).length = 1 := rfl
      omega
    · rw [frac_cons s x r he] at h
      cases hf : frac s r with
      | none => rw [hf] at h; cases h
      | some p =>
        obtain ⟨n1, d1⟩ := p
        rw [hf] at h
        dsimp only at h
        obtain ⟨b1, b2⟩ := ih n1 d1 hr hf
        have b3 := (step_bd hs hx (show -pw r.length ≤ d1 ∧ d1 ≤ pw r.length by omega) b1).2
        split at h
        · cases h
        · split at h
          · injection h with h
            injection h with h1 h2
            omega
          · injection h with h
            injection h with h1 h2
            omega
/-- what a round of the model's loop does -/
theorem frac_round {s : Int} (hs : s = 1 ∨ s = -1) (l : List Int) (hsm : Small l) (hl : l.length ≤ 10) (k : Nat) (hk : k + 1 < l.length) (n d : Int) (h : frac s (l.drop (k + 1)) = some (n, d)) :
    (-26439622160671 ≤ n ∧ n ≤ 26439622160671) ∧ (1 ≤ d ∧ d ≤ 26439622160671) ∧ (-793188664820130 ≤ l.getD k 0 * n ∧ l.getD k 0 * n ≤ 793188664820130) ∧ (-26439622160671 ≤ s * d ∧ s * d ≤ 26439622160671) ∧
    (n = 0 → frac s l = none) ∧ (n < 0 → frac s (l.drop k) = some (-(l.getD k 0 * n + s * d), -n)) ∧ (0 < n → frac s (l.drop k) = some (l.getD k 0 * n + s * d, n)) := by
  obtain ⟨b1, b2⟩ := frac_bd hs (l.drop (k + 1)) n d (hsm.drop _) h
  have e : (l.drop (k + 1)).length ≤ 9 := by simp; omega
  have hp := pw_mono e
  rw [pw9] at hp
  have b3 : -26439622160671 ≤ n ∧ n ≤ 26439622160671 := by omega
  have b4 := mul_bd (hsm.get k (by omega)) b3
  have b5 : -26439622160671 ≤ s * d ∧ s * d ≤ 26439622160671 := by rcases hs with rfl | rfl <;> omega
  have hd := drop_cons l k (by omega)
  have hf := frac_cons s (l.getD k 0) (l.drop (k + 1)) (drop_ne hk)
  rw [h] at hf
  dsimp only at hf
  refine ⟨b3, by omega, by omega, b5, fun h0 => ?_, fun h0 => ?_, fun h0 => ?_⟩
  · refine frac_none s l k ?_ (by omega)
    rw [hd, hf, if_pos h0]
  · rw [hd, hf, if_neg (by omega), if_pos h0]
  · rw [hd, hf, if_neg (by omega), if_neg (by omega)]
/-- the model's fraction as three results -/
def frR (s : Int) (l : List Int) : Int × Int × Bool := match frac s l with
  | none => (0, 0, false)
  | some (n, d) => (n, d, true)
theorem divZ_cons (x : Int) (r : List Int) (hr : r ≠ []) : divZ (x :: r) = (decide (ctv (-1) r = 0) || divZ r) := by
  cases r with
  | nil => exact absurd rfl hr
  | cons y r' => rfl
theorem divZ_end (l : List Int) (k : Nat) (h : l.length ≤ k + 1) : divZ (l.drop k) = false := by
  cases e : l.drop k with
  | nil => rfl
  | cons x r =>
    have h2 := congrArg List.length e
    simp at h2
    obtain rfl : r = [] := List.eq_nil_of_length_eq_zero (by omega)
    rfl
theorem divZ_step (l : List Int) (k : Nat) (h : k + 1 < l.length) : divZ (l.drop k) = (decide (ctv (-1) (l.drop (k + 1)) = 0) || divZ (l.drop (k + 1))) := by
  rw [drop_cons l k (by omega), divZ_cons _ _ (drop_ne h)]
theorem frR_minus (l : List Int) (h : 0 < l.length) : frR (-1) l = if divZ l = true then (0, 0, false) else (sgn (ctv (-1) (l.drop 1)) (ctv (-1) l), sgn (ctv (-1) (l.drop 1)) (ctv (-1) (l.drop 1)), true) := by
  cases l with
  | nil => simp at h
  | cons x r =>
    unfold frR
    rw [frac_minus r x]
    cases divZ (x :: r) <;> simp
theorem frR_plus (l : List Int) (h : 0 < l.length) (hp : Pos l) : frR 1 l = (ctv 1 l, ctv 1 (l.drop 1), true) := by
  cases l with
  | nil => simp at h
  | cons x r =>
    unfold frR
    rw [frac_plus r x hp]
    rfl
/-- the least number among the first ones -/
def minF (l : List Int) : Nat → Int
  | 0 => l.getD 0 0
  | k + 1 => min (minF l k) (l.getD (k + 1) 0)
theorem minF_ge (l : List Int) (m : Int) (k : Nat) : m ≤ minF l k ↔ ∀ i, i ≤ k → m ≤ l.getD i 0 := by
  induction k with
  | zero =>
    constructor
    · intro h i hi
      obtain rfl : i = 0 := by omega
      exact h
    · intro h; exact h 0 (by omega)
  | succ k ih =>
    show m ≤ min (minF l k) (l.getD (k + 1) 0) ↔ _
    rw [Int.le_min, ih]
    constructor
    · rintro ⟨h1, h2⟩ i hi
      by_cases e : i = k + 1
      · subst e; exact h2
      · exact h1 i (by omega)
    · intro h
      exact ⟨fun i hi => h i (by omega), h (k + 1) (by omega)⟩
/-- terms, at least one, all of them at least 1 -/
def posB (l : List Int) : Bool := good l && decide (0 < l.length) && allB l 1 30
theorem posB_iff {l : List Int} : posB l = true ↔ good l = true ∧ 0 < l.length ∧ allB l 1 30 = true := by
  unfold posB
  rw [Bool.and_eq_true, Bool.and_eq_true, decide_eq_true_eq, and_assoc]
theorem posB_pos {l : List Int} (h : posB l = true) : Pos l := by
  intro x hx
  obtain ⟨i, hi, rfl⟩ := List.getElem_of_mem hx
  have := (allB_iff.1 (posB_iff.1 h).2.2 i hi).1
  simpa [hi] using this
theorem posB_min {l : List Int} (hg : good l = true) (h0 : 0 < l.length) : decide (1 ≤ minF l (l.length - 1)) = allB l 1 30 := by
  rw [Bool.eq_iff_iff, decide_eq_true_eq, minF_ge, allB_iff]
  constructor
  · intro h i hi
    have := (good_iff.1 hg).2 i hi
    exact ⟨h i (by omega), this.2⟩
  · intro h i hi
    exact (h i (by omega)).1
end Go.Proofs.Ytaifgfmkkgndkaa
