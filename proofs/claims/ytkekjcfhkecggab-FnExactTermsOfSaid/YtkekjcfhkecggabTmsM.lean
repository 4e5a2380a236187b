/- The parts of a continuant: plain mathematics. -/
import Derived.Test.YtkekjcfhkecggabPutM
namespace Go.Proofs.Ytkekjcfhkecggab
set_option linter.unusedVariables false

def prodL (l : List Int) : Int := l.foldl (fun p x => p * x) 1
theorem foldl_mul (l : List Int) : ∀ p : Int, l.foldl (fun p x => p * x) p = p * prodL l := by
  induction l with
  | nil => intro p; simp [prodL]
  | cons x r ih =>
    intro p
    unfold prodL
    rw [List.foldl_cons, List.foldl_cons, ih (p * x), ih (1 * x), Int.one_mul, Int.mul_assoc]
theorem prodL_cons (x : Int) (r : List Int) : prodL (x :: r) = x * prodL r := by
  conv => lhs; unfold prodL
  rw [List.foldl_cons, foldl_mul, Int.one_mul]
/-- the parts behind the first one: at each place a pair -/
def tmsL : List Int → Int → List Int
  | x :: y :: r, p => (((-p) * prodL r) :: tmsL r (-p)) ++ tmsL (y :: r) (p * x)
  | _, _ => []
def tms (l : List Int) (p : Int) : List Int := (p * prodL l) :: tmsL l p
theorem tmsL_two (x y : Int) (r : List Int) (p : Int) : tmsL (x :: y :: r) p = tms r (-p) ++ tmsL (y :: r) (p * x) := by
  unfold tms
  rw [tmsL]
theorem tmsL_one (x p : Int) : tmsL [x] p = [] := by rw [tmsL]; simp
theorem tmsL_nil (p : Int) : tmsL [] p = [] := by rw [tmsL]; simp
theorem drop_two {l : List Int} {k : Nat} (h : k + 1 < l.length) : l.drop k = l.getD k 0 :: l.getD (k + 1) 0 :: l.drop (k + 2) := by
  rw [List.drop_eq_getElem_cons (by omega), List.drop_eq_getElem_cons h]
  simp [h, show k < l.length by omega]
theorem drop_one {l : List Int} {k : Nat} (h : k < l.length) : l.drop k = l.getD k 0 :: l.drop (k + 1) := by
  rw [List.drop_eq_getElem_cons h]
  simp [h]
theorem tmsL_step {l : List Int} {k : Nat} (p : Int) (h : k + 1 < l.length) : tmsL (l.drop k) p = tms (l.drop (k + 2)) (-p) ++ tmsL (l.drop (k + 1)) (p * l.getD k 0) := by
  rw [drop_two h, tmsL_two, drop_one h]
theorem tmsL_end {l : List Int} {k : Nat} (p : Int) (h : l.length ≤ k + 1) : tmsL (l.drop k) p = [] := by
  cases e : l.drop k with
  | nil => exact tmsL_nil p
  | cons x r =>
    have h2 := congrArg List.length e
    simp at h2
    obtain rfl : r = [] := List.eq_nil_of_length_eq_zero (by omega)
    exact tmsL_one x p
/-- how many parts there are at most: 2 to the power of the length -/
theorem tms_len : ∀ (n : Nat) (l : List Int) (p : Int), l.length ≤ n → (tmsL l p).length + 1 ≤ 2 ^ n := by
  intro n
  induction n with
  | zero =>
    intro l p h
    obtain rfl : l = [] := List.eq_nil_of_length_eq_zero (by omega)
    rw [tmsL_nil]; decide
  | succ n ih =>
    intro l p h
    have hp : 1 ≤ 2 ^ n := Nat.one_le_two_pow
    match l, h with
    | [], _ => rw [tmsL_nil, Nat.pow_succ]; simp; omega
    | [x], _ => rw [tmsL_one, Nat.pow_succ]; simp; omega
    | x :: y :: r, h =>
      rw [tmsL_two, Nat.pow_succ]
      have h1 := ih r (-p) (by simp at h; omega)
      have h2 := ih (y :: r) (p * x) (by simpa using h)
      unfold tms
      simp only [List.length_append, List.length_cons]
      omega
/-- bounds: 30 to the power of what is left -/
def p30 : Nat → Int
  | 0 => 1
  | k + 1 => 30 * p30 k
theorem p30_pos (k : Nat) : 1 ≤ p30 k := by
  induction k with
  | zero => decide
  | succ k ih => unfold p30; omega
theorem p30_10 : p30 10 = 590490000000000 := by decide
theorem p30_mono {j k : Nat} (h : j ≤ k) : p30 j ≤ p30 k := by
  induction k with
  | zero => obtain rfl : j = 0 := by omega
            exact Int.le_refl _
  | succ k ih =>
    by_cases e : j = k + 1
    · subst e; exact Int.le_refl _
    · have := ih (by omega)
      have := p30_pos k
      show p30 j ≤ 30 * p30 k
      omega
/-- a number that has taken in k terms -/
def Bd (k : Nat) (v : Int) : Prop := -p30 k ≤ v ∧ v ≤ p30 k
theorem Bd.num {k : Nat} {v : Int} (h : Bd k v) (hk : k ≤ 10) : -590490000000000 ≤ v ∧ v ≤ 590490000000000 := by
  have := p30_mono hk
  rw [p30_10] at this
  unfold Bd at h
  omega
theorem Bd.mul {k : Nat} {v x : Int} (h : Bd k v) (hx : -30 ≤ x ∧ x ≤ 30) : Bd (k + 1) (v * x) := by
  have := mul_bd hx h
  rw [Int.mul_comm x v] at this
  exact this
theorem Bd.neg {k : Nat} {v : Int} (h : Bd k v) : Bd k (-v) := by unfold Bd at *; omega
theorem Bd.mono {j k : Nat} {v : Int} (h : Bd j v) (hk : j ≤ k) : Bd k v := by
  have := p30_mono hk
  unfold Bd at *
  omega
theorem Bd.one : Bd 0 1 := by unfold Bd p30; omega
theorem prod_take (l : List Int) (k : Nat) (h : k < l.length) : prodL (l.take (k + 1)) = prodL (l.take k) * l.getD k 0 := by
  rw [take_snoc' l k h]
  unfold prodL
  rw [List.foldl_append]
  rfl
theorem prod_bd (l : List Int) (h : Small l) : ∀ k, k ≤ l.length → Bd k (prodL (l.take k)) := by
  intro k
  induction k with
  | zero => intro _; exact Bd.one
  | succ k ih =>
    intro hk
    rw [prod_take l k (by omega)]
    exact (ih (by omega)).mul (h.get k (by omega))
theorem Bd.prod {j k : Nat} {v w : Int} (h : Bd j v) (h' : Bd k w) : Bd (j + k) (v * w) := by
  have e : p30 (j + k) = p30 j * p30 k := by
    induction k with
    | zero => show p30 j = p30 j * 1; omega
    | succ k ih =>
      show 30 * p30 (j + k) = p30 j * (30 * p30 k)
      rw [Int.mul_left_comm]
      congr 1
      have : ∀ k, p30 (j + k) = p30 j * p30 k := by
        intro k
        induction k with
        | zero => show p30 j = p30 j * 1; omega
        | succ k ih => show 30 * p30 (j + k) = p30 j * (30 * p30 k); rw [Int.mul_left_comm, ih]
      exact this k
  have h1 : v.natAbs * w.natAbs ≤ (p30 j).natAbs * (p30 k).natAbs := Nat.mul_le_mul (by unfold Bd at h; omega) (by unfold Bd at h'; omega)
  have h2 : (v * w).natAbs = v.natAbs * w.natAbs := Int.natAbs_mul v w
  have h3 : (p30 j * p30 k).natAbs = (p30 j).natAbs * (p30 k).natAbs := Int.natAbs_mul _ _
  have h4 := p30_pos (j + k)
  unfold Bd
  rw [e] at h4 ⊢
  generalize v * w = a at *
  generalize p30 j * p30 k = b at *
  generalize v.natAbs * w.natAbs = c at *
  generalize (p30 j).natAbs * (p30 k).natAbs = d at *
  omega
def tmR' (l : List Int) : List Int := if good l = true then tms l 1 else []
theorem tmR'_length (l : List Int) : (tmR' l).length ≤ 1000000000 := by
  unfold tmR'
  split
  · rename_i h
    have h1 := tms_len 10 l 1 (good_iff.1 h).1
    have e : (2 : Nat) ^ 10 = 1024 := by decide
    unfold tms
    rw [List.length_cons]
    omega
  · simp
end Go.Proofs.Ytkekjcfhkecggab
