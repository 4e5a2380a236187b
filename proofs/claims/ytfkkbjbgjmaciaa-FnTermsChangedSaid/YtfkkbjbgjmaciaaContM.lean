/- Continuants: plain mathematics. The model tells them from the left in one loop; the program calls itself; fractions are quotients of them. -/
import Derived.Test.YtfkkbjbgjmaciaaOfM
namespace Go.Proofs.Ytfkkbjbgjmaciaa
set_option linter.unusedVariables false

/-- the continuant but for the last term, and the continuant, of a list, with a sign -/
def ctS (s : Int) (l : List Int) : Int × Int := l.foldl (fun p x => (p.2, x * p.2 + s * p.1)) (0, 1)
def ctv (s : Int) (l : List Int) : Int := (ctS s l).2
/-- terms -/
def good (l : List Int) : Bool := decide (l.length ≤ 10) && allB l (-30) 30
theorem good_iff {l : List Int} : good l = true ↔ l.length ≤ 10 ∧ ∀ i, i < l.length → -30 ≤ l.getD i 0 ∧ l.getD i 0 ≤ 30 := by
  unfold good
  rw [Bool.and_eq_true, decide_eq_true_eq, allB_iff]
def Small (l : List Int) : Prop := ∀ x ∈ l, -30 ≤ x ∧ x ≤ 30
theorem good_small {l : List Int} (h : good l = true) : Small l := by
  intro x hx
  obtain ⟨i, hi, rfl⟩ := List.getElem_of_mem hx
  have := (good_iff.1 h).2 i hi
  simpa [hi] using this
theorem Small.get {l : List Int} (h : Small l) (i : Nat) (hi : i < l.length) : -30 ≤ l.getD i 0 ∧ l.getD i 0 ≤ 30 := by
  have e : l.getD i 0 = l[i] := by simp [hi]
  rw [e]
  exact h _ (List.getElem_mem hi)
theorem Small.take {l : List Int} (h : Small l) (k : Nat) : Small (l.take k) := fun x hx => h x (List.mem_of_mem_take hx)
theorem Small.drop {l : List Int} (h : Small l) (k : Nat) : Small (l.drop k) := fun x hx => h x (List.mem_of_mem_drop hx)
theorem Small.cons {x : Int} {l : List Int} (h : Small (x :: l)) : (-30 ≤ x ∧ x ≤ 30) ∧ Small l := ⟨h x (by simp), fun y hy => h y (by simp [hy])⟩

theorem ctS_nil (s : Int) : ctS s [] = (0, 1) := rfl
theorem ctv_nil (s : Int) : ctv s [] = 1 := rfl
theorem ctv_one (s x : Int) : ctv s [x] = x := by simp [ctv, ctS]
theorem ctS_snoc (s : Int) (l : List Int) (x : Int) : ctS s (l ++ [x]) = ((ctS s l).2, x * (ctS s l).2 + s * (ctS s l).1) := by
  unfold ctS
  rw [List.foldl_append]
  rfl
theorem take_snoc' (l : List Int) (k : Nat) (h : k < l.length) : l.take (k + 1) = l.take k ++ [l.getD k 0] := by
  rw [List.take_succ_eq_append_getElem h]
  simp [h]
theorem ctS_take (s : Int) (l : List Int) (k : Nat) (h : k < l.length) : ctS s (l.take (k + 1)) = ((ctS s (l.take k)).2, l.getD k 0 * (ctS s (l.take k)).2 + s * (ctS s (l.take k)).1) := by
  rw [take_snoc' l k h, ctS_snoc]
theorem ctv_take (s : Int) (l : List Int) (k : Nat) (h : k + 1 < l.length) : ctv s (l.take (k + 2)) = l.getD (k + 1) 0 * ctv s (l.take (k + 1)) + s * ctv s (l.take k) := by
  unfold ctv
  rw [ctS_take s l (k + 1) h, ctS_take s l k (by omega)]

/-- bounds: 31 to the power of the length -/
def pw : Nat → Int
  | 0 => 1
  | k + 1 => 31 * pw k
theorem pw_pos (k : Nat) : 1 ≤ pw k := by
  induction k with
  | zero => decide
  | succ k ih => unfold pw; omega
theorem pw_mono {j k : Nat} (h : j ≤ k) : pw j ≤ pw k := by
  induction k with
  | zero => obtain rfl : j = 0 := by omega
            exact Int.le_refl _
  | succ k ih =>
    by_cases e : j = k + 1
    · subst e; exact Int.le_refl _
    · have := ih (by omega)
      have := pw_pos k
      show pw j ≤ 31 * pw k
      omega
theorem mul_bd {x v B : Int} (hx : -30 ≤ x ∧ x ≤ 30) (hv : -B ≤ v ∧ v ≤ B) : -(30 * B) ≤ x * v ∧ x * v ≤ 30 * B := by
  have hB : 0 ≤ B := by omega
  have h1 : x.natAbs * v.natAbs ≤ 30 * B.natAbs := Nat.mul_le_mul (by omega) (by omega)
  have h2 : (x * v).natAbs = x.natAbs * v.natAbs := Int.natAbs_mul x v
  generalize x * v = p at *
  generalize x.natAbs * v.natAbs = q at *
  omega
theorem step_bd {s x p q B : Int} (hs : s = 1 ∨ s = -1) (hx : -30 ≤ x ∧ x ≤ 30) (hp : -B ≤ p ∧ p ≤ B) (hq : -B ≤ q ∧ q ≤ B) : (-(30 * B) ≤ x * q ∧ x * q ≤ 30 * B) ∧ (-(31 * B) ≤ x * q + s * p ∧ x * q + s * p ≤ 31 * B) := by
  have h := mul_bd hx hq
  generalize x * q = r at *
  rcases hs with rfl | rfl
  all_goals omega
theorem ctS_bd {s : Int} (hs : s = 1 ∨ s = -1) (l : List Int) (h : Small l) : (-pw l.length ≤ (ctS s l).1 ∧ (ctS s l).1 ≤ pw l.length) ∧ (-pw l.length ≤ (ctS s l).2 ∧ (ctS s l).2 ≤ pw l.length) := by
  have H : ∀ k, k ≤ l.length → (-pw k ≤ (ctS s (l.take k)).1 ∧ (ctS s (l.take k)).1 ≤ pw k) ∧ (-pw k ≤ (ctS s (l.take k)).2 ∧ (ctS s (l.take k)).2 ≤ pw k) := by
    intro k
    induction k with
    | zero => intro _; simp [ctS, pw]
    | succ k ih =>
      intro hk
      obtain ⟨h1, h2⟩ := ih (by omega)
      have h3 := step_bd hs (h.get k (by omega)) h1 h2
      have hp := pw_pos k
      rw [ctS_take s l k (by omega)]
      dsimp only
      show (-(31 * pw k) ≤ _ ∧ _ ≤ 31 * pw k) ∧ (-(31 * pw k) ≤ _ ∧ _ ≤ 31 * pw k)
      refine ⟨⟨?_, ?_⟩, h3.2⟩ <;> omega
  have := H l.length (Nat.le_refl _)
  rwa [List.take_length] at this
theorem pw9 : pw 9 = 26439622160671 := by decide
theorem pw10 : pw 10 = 819628286980801 := by decide
theorem ctv_bd {s : Int} (hs : s = 1 ∨ s = -1) (l : List Int) (h : Small l) (hl : l.length ≤ 10) : -819628286980801 ≤ ctv s l ∧ ctv s l ≤ 819628286980801 := by
  have h1 := (ctS_bd hs l h).2
  have h2 := pw_mono hl
  rw [pw10] at h2
  unfold ctv
  omega
theorem ctv_bd9 {s : Int} (hs : s = 1 ∨ s = -1) (l : List Int) (h : Small l) (hl : l.length ≤ 9) : -26439622160671 ≤ ctv s l ∧ ctv s l ≤ 26439622160671 := by
  have h1 := (ctS_bd hs l h).2
  have h2 := pw_mono hl
  rw [pw9] at h2
  unfold ctv
  omega
/-- what the model's loop needs at each step -/
theorem ctS_round {s : Int} (hs : s = 1 ∨ s = -1) (l : List Int) (h : Small l) (hl : l.length ≤ 10) (k : Nat) (hk : k < l.length) :
    (-26439622160671 ≤ (ctS s (l.take k)).1 ∧ (ctS s (l.take k)).1 ≤ 26439622160671) ∧ (-26439622160671 ≤ (ctS s (l.take k)).2 ∧ (ctS s (l.take k)).2 ≤ 26439622160671) ∧
    (-793188664820130 ≤ l.getD k 0 * (ctS s (l.take k)).2 ∧ l.getD k 0 * (ctS s (l.take k)).2 ≤ 793188664820130) := by
  have h1 := ctS_bd hs (l.take k) (h.take k)
  have e : (l.take k).length = k := by simp; omega
  rw [e] at h1
  have h2 := pw_mono (show k ≤ 9 by omega)
  rw [pw9] at h2
  have h3 : -26439622160671 ≤ (ctS s (l.take k)).2 ∧ (ctS s (l.take k)).2 ≤ 26439622160671 := by omega
  have h4 := mul_bd (h.get k hk) h3
  refine ⟨by omega, h3, by omega⟩

/-! ### from the left -/
def ctF (s : Int) (p : Int × Int) (l : List Int) : Int × Int := l.foldl (fun p x => (p.2, x * p.2 + s * p.1)) p
theorem ctF_cons (s : Int) (p : Int × Int) (x : Int) (l : List Int) : ctF s p (x :: l) = ctF s (p.2, x * p.2 + s * p.1) l := rfl
theorem ctF_lin (s : Int) (l : List Int) : ∀ a b : Int, (ctF s (a, b) l).2 = a * (ctF s (1, 0) l).2 + b * (ctF s (0, 1) l).2 := by
  induction l with
  | nil => intro a b; simp [ctF]
  | cons x l ih =>
    intro a b
    simp only [ctF_cons]
    rw [ih b (x * b + s * a), ih 0 (x * 0 + s * 1), ih 1 (x * 1 + s * 0)]
    simp only [Int.mul_zero, Int.mul_one, Int.zero_add, Int.add_zero, Int.zero_mul, Int.one_mul, Int.add_mul, Int.mul_add, Int.mul_assoc]
    have e1 : x * (b * (ctF s (0, 1) l).2) = b * (x * (ctF s (0, 1) l).2) := Int.mul_left_comm _ _ _
    have e2 : s * (a * (ctF s (0, 1) l).2) = a * (s * (ctF s (0, 1) l).2) := Int.mul_left_comm _ _ _
    omega
theorem ctv_cons (s x : Int) (l : List Int) : ctv s (x :: l) = x * ctv s l + s * (match l with | [] => 0 | _ :: r => ctv s r) := by
  have e : ctv s (x :: l) = (ctF s (1, x) l).2 := by
    show (ctF s (1, x * 1 + s * 0) l).2 = _
    rw [Int.mul_one, Int.mul_zero, Int.add_zero]
  have e0 : ctv s l = (ctF s (0, 1) l).2 := rfl
  rw [e, ctF_lin s l 1 x, ← e0, Int.one_mul]
  cases l with
  | nil => simp [ctF, ctv_nil]
  | cons y r =>
    have e1 : (ctF s (1, 0) (y :: r)).2 = s * ctv s r := by
      rw [ctF_cons]
      show (ctF s (0, y * 0 + s * 1) r).2 = _
      rw [Int.mul_zero, Int.zero_add, Int.mul_one, ctF_lin s r 0 s, Int.zero_mul, Int.zero_add]
      rfl
    rw [e1]
    show s * ctv s r + x * ctv s (y :: r) = x * ctv s (y :: r) + s * ctv s r
    omega

/-! ### fractions -/
/-- the model's fraction: numerator and denominator, from behind; none if a division is by 0 -/
def frac (s : Int) : List Int → Option (Int × Int)
  | [] => none
  | x :: r => match r with
    | [] => some (x, 1)
    | _ :: _ => match frac s r with
      | none => none
      | some (n, d) => if n = 0 then none else if n < 0 then some (-(x * n + s * d), -n) else some (x * n + s * d, n)
/-- one of the divisions is by 0 -/
def divZ : List Int → Bool
  | [] => false
  | x :: r => match r with
    | [] => false
    | _ :: _ => decide (ctv (-1) r = 0) || divZ r
def sgn (v x : Int) : Int := if v < 0 then -x else x
theorem frac_minus : ∀ (l : List Int) (x : Int), frac (-1) (x :: l) = if divZ (x :: l) = true then none else some (sgn (ctv (-1) l) (ctv (-1) (x :: l)), sgn (ctv (-1) l) (ctv (-1) l)) := by
  intro l
  induction l with
  | nil => intro x; simp [frac, divZ, ctv_nil, ctv_one, sgn]
  | cons y r ih =>
    intro x
    have e1 : frac (-1) (x :: y :: r) = match frac (-1) (y :: r) with
      | none => none
      | some (n, d) => if n = 0 then none else if n < 0 then some (-(x * n + -1 * d), -n) else some (x * n + -1 * d, n) := rfl
    have e2 : divZ (x :: y :: r) = (decide (ctv (-1) (y :: r) = 0) || divZ (y :: r)) := rfl
    rw [e1, ih y, e2]
    cases hz : divZ (y :: r)
    · rw [if_neg (by simp)]
      dsimp only
      have e3 : ctv (-1) (x :: y :: r) = x * ctv (-1) (y :: r) + -1 * ctv (-1) r := ctv_cons (-1) x (y :: r)
      have hr : ctv (-1) r ≠ 0 := by
        cases r with
        | nil => rw [ctv_nil]; decide
        | cons z r' =>
          intro h
          have : divZ (y :: z :: r') = (decide (ctv (-1) (z :: r') = 0) || divZ (z :: r')) := rfl
          rw [this, h] at hz
          simp at hz
      generalize ctv (-1) (y :: r) = k1 at *
      generalize ctv (-1) r = k2 at *
      rw [e3]
      unfold sgn
      by_cases h1 : k1 = 0
      · subst h1
        simp
      · have h2 : ¬ (if k2 < 0 then -k1 else k1) = 0 := by split <;> omega
        rw [if_neg h2]
        have e5 : x * -k1 = -(x * k1) := Int.mul_neg _ _
        simp only [h1, decide_false, Bool.or_false, Bool.false_eq_true, if_false]
        by_cases h3 : k2 < 0
        · simp only [if_pos h3]
          rw [e5]
          by_cases h4 : k1 < 0
          · rw [if_neg (by omega)]
            simp only [if_pos h4]
            congr 1
            ext1 <;> dsimp only <;> omega
          · rw [if_pos (by omega)]
            simp only [if_neg h4]
            congr 1
            ext1 <;> dsimp only <;> omega
        · simp only [if_neg h3]
          by_cases h4 : k1 < 0
          · simp only [if_pos h4]
          · simp only [if_neg h4]
    · simp
/-- all terms at least 1 -/
def Pos (l : List Int) : Prop := ∀ x ∈ l, 1 ≤ x
theorem ctv_pos (l : List Int) (h : Pos l) : 1 ≤ ctv 1 l ∧ ∀ x, 1 ≤ x → 1 ≤ ctv 1 (x :: l) := by
  induction l with
  | nil => exact ⟨by rw [ctv_nil]; decide, fun x hx => by rw [ctv_one]; exact hx⟩
  | cons y r ih =>
    have hr : Pos r := fun z hz => h z (by simp [hz])
    obtain ⟨h1, h2⟩ := ih hr
    have h3 := h2 y (h y (by simp))
    refine ⟨h3, fun x hx => ?_⟩
    have e : ctv 1 (x :: y :: r) = x * ctv 1 (y :: r) + 1 * ctv 1 r := ctv_cons 1 x (y :: r)
    rw [e]
    have : 1 * 1 ≤ x * ctv 1 (y :: r) := Int.mul_le_mul hx h3 (by omega) (by omega)
    omega
theorem frac_plus : ∀ (l : List Int) (x : Int), Pos (x :: l) → frac 1 (x :: l) = some (ctv 1 (x :: l), ctv 1 l) := by
  intro l
  induction l with
  | nil => intro x _; simp [frac, ctv_nil, ctv_one]
  | cons y r ih =>
    intro x hp
    have hp2 : Pos (y :: r) := fun z hz => hp z (by simp only [List.mem_cons] at hz ⊢; exact Or.inr hz)
    have e1 : frac 1 (x :: y :: r) = match frac 1 (y :: r) with
      | none => none
      | some (n, d) => if n = 0 then none else if n < 0 then some (-(x * n + 1 * d), -n) else some (x * n + 1 * d, n) := rfl
    have h1 := (ctv_pos (y :: r) hp2).1
    have e3 : ctv 1 (x :: y :: r) = x * ctv 1 (y :: r) + 1 * ctv 1 r := ctv_cons 1 x (y :: r)
    rw [e1, ih y hp2]
    dsimp only
    rw [if_neg (by omega), if_neg (by omega), e3]

/-! ### terms of a fraction -/
/-- the terms, one after the other, as long as they are terms -/
def tmF (rd : Int → Int → Int × Int) : Nat → Int → Int → List Int → Option (List Int)
  | 0, _, _, _ => none
  | f + 1, num, den, out => if den = 0 then some out else if good (out ++ [(rd num den).1]) = true then tmF rd f den (rd num den).2 (out ++ [(rd num den).1]) else none
def upI (num den : Int) : Int × Int := ((num + den - 1) / den, (num + den - 1) / den * den - num)
def dnI (num den : Int) : Int × Int := (num / den, num % den)
theorem up_bd {num den M : Int} (hn : 0 ≤ num ∧ num ≤ M) (hd : 1 ≤ den ∧ den ≤ M) : 0 ≤ (num + den - 1) / den ∧ (num + den - 1) / den ≤ 2 * M ∧ (num + den - 1) / den * den ≤ num + den - 1 ∧ 0 ≤ (num + den - 1) / den * den - num ∧ (num + den - 1) / den * den - num < den := by
  have h1 : 0 ≤ num + den - 1 := by omega
  have h2 := Int.emod_add_mul_ediv (num + den - 1) den
  have h3 := Int.emod_nonneg (num + den - 1) (show den ≠ 0 by omega)
  have h4 := Int.emod_lt_of_pos (num + den - 1) (show 0 < den by omega)
  have h5 : (num + den - 1) / den * den = den * ((num + den - 1) / den) := Int.mul_comm _ _
  have h6 := Int.ediv_nonneg h1 (show 0 ≤ den by omega)
  have h7 := Int.ediv_le_self den h1
  rw [h5]
  generalize den * ((num + den - 1) / den) = p at *
  generalize (num + den - 1) / den = q at *
  generalize (num + den - 1) % den = r at *
  omega
theorem dn_bd {num den M : Int} (hn : 0 ≤ num ∧ num ≤ M) (hd : 1 ≤ den ∧ den ≤ M) : 0 ≤ num / den ∧ num / den ≤ M ∧ 0 ≤ num % den ∧ num % den < den := by
  have h3 := Int.emod_nonneg num (show den ≠ 0 by omega)
  have h4 := Int.emod_lt_of_pos num (show 0 < den by omega)
  have h6 := Int.ediv_nonneg hn.1 (show 0 ≤ den by omega)
  have h7 := Int.ediv_le_self den hn.1
  omega
theorem tmF_len (rd : Int → Int → Int × Int) : ∀ (f : Nat) (num den : Int) (out r : List Int), out.length ≤ 10 → tmF rd f num den out = some r → r.length ≤ 10 := by
  intro f
  induction f with
  | zero => intro _ _ _ _ _ h; simp [tmF] at h
  | succ f ih =>
    intro num den out r ho h
    unfold tmF at h
    split at h
    · injection h with h; subst h; exact ho
    · split at h
      · rename_i hg
        exact ih _ _ _ _ (good_iff.1 hg).1 h
      · cases h
/-- the greatest common divisor by the program's and the model's loop -/
theorem gcd_step (a b : Nat) (hb : 0 < b) : Nat.gcd b (a % b) = Nat.gcd a b := by
  rw [Nat.gcd_comm b (a % b), ← Nat.gcd_rec b a, Nat.gcd_comm]
def coB (a b : Int) : Bool := decide (1 ≤ a ∧ a ≤ 1000000) && decide (1 ≤ b ∧ b ≤ 1000000) && decide (Nat.gcd a.toNat b.toNat = 1)
end Go.Proofs.Ytfkkbjbgjmaciaa
