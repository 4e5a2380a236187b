/- Part 2 of 8 of the proof of the law WordsTold, no condition: one text out of several, since a claim holds 60 files at most. -/
import Derived.Test.YtfkkbjbgjmaciaaWordsToldP1
import Derived.OwnWalk
import Derived.Laws.IdiomStrings
import Derived.Deep.QuietTactic
import Derived.BigQuiet
import Derived.Deep.DeepCutAuto
/- Continuants: plain mathematics. The model tells them from the left in one loop; the program calls itself; fractions are quotients of them. -/
namespace Go.Proofs.Ytfkkbjbgjmaciaa
set_option linter.unusedVariables false

/-- the continuant but for the last term, and the continuant, of a list, with a sign -/
def ctS (s : Int) (l : List Int) : Int × Int := l.foldl (fun p x => (p.2, x * p.2 + s * p.1)) (0, 1)
def ctv (s : Int) (l : List Int) : Int := (ctS s l).2
/-- terms -/
def good (l : List Int) : Bool := decide (l.length ≤ 10) && allB l (-30) 30
theorem good_iff {l : List Int} : good l = true ↔ l.length ≤ 10 ∧ ∀ i, i < l.length → -30 ≤ l.getD i 0 ∧ l.getD i 0 ≤ 30 := by
  unfold good
  rw [Bool.and_eq_true, decide_eq_true_eq, allB_iff]
def Small (l : List Int) : Prop := ∀ x ∈ l, -30 ≤ x ∧ x ≤ 30
theorem good_small {l : List Int} (h : good l = true) : Small l := by
  intro x hx
  obtain ⟨i, hi, rfl⟩ := List.getElem_of_mem hx
  have := (good_iff.1 h).2 i hi
  simpa [hi] using this
theorem Small.get {l : List Int} (h : Small l) (i : Nat) (hi : i < l.length) : -30 ≤ l.getD i 0 ∧ l.getD i 0 ≤ 30 := by
  have e : l.getD i 0 = l[i] := by simp [hi]
  rw [e]
  exact h _ (List.getElem_mem hi)
theorem Small.take {l : List Int} (h : Small l) (k : Nat) : Small (l.take k) := fun x hx => h x (List.mem_of_mem_take hx)
theorem Small.drop {l : List Int} (h : Small l) (k : Nat) : Small (l.drop k) := fun x hx => h x (List.mem_of_mem_drop hx)
theorem Small.cons {x : Int} {l : List Int} (h : Small (x :: l)) : (-30 ≤ x ∧ x ≤ 30) ∧ Small l := ⟨h x (by simp), fun y hy => h y (by simp [hy])⟩

theorem ctS_nil (s : Int) : ctS s [] = (0, 1) := rfl
theorem ctv_nil (s : Int) : ctv s [] = 1 := rfl
theorem ctv_one (s x : Int) : ctv s [x] = x := by simp [ctv, ctS]
theorem ctS_snoc (s : Int) (l : List Int) (x : Int) : ctS s (l ++ [x]) = ((ctS s l).2, x * (ctS s l).2 + s * (ctS s l).1) := by
  unfold ctS
  rw [List.foldl_append]
  rfl
theorem take_snoc' (l : List Int) (k : Nat) (h : k < l.length) : l.take (k + 1) = l.take k ++ [l.getD k 0] := by
  rw [List.take_succ_eq_append_getElem h]
  simp [h]
theorem ctS_take (s : Int) (l : List Int) (k : Nat) (h : k < l.length) : ctS s (l.take (k + 1)) = ((ctS s (l.take k)).2, l.getD k 0 * (ctS s (l.take k)).2 + s * (ctS s (l.take k)).1) := by
  rw [take_snoc' l k h, ctS_snoc]
theorem ctv_take (s : Int) (l : List Int) (k : Nat) (h : k + 1 < l.length) : ctv s (l.take (k + 2)) = l.getD (k + 1) 0 * ctv s (l.take (k + 1)) + s * ctv s (l.take k) := by
  unfold ctv
  rw [ctS_take s l (k + 1) h, ctS_take s l k (by omega)]

/-- bounds: 31 to the power of the length -/
def pw : Nat → Int
  | 0 => 1
  | k + 1 => 31 * pw k
theorem pw_pos (k : Nat) : 1 ≤ pw k := by
  induction k with
  | zero => decide
  | succ k ih => unfold pw; omega
theorem pw_mono {j k : Nat} (h : j ≤ k) : pw j ≤ pw k := by
  induction k with
  | zero => obtain rfl : j = 0 := by omega
            exact Int.le_refl _
  | succ k ih =>
    by_cases e : j = k + 1
    · subst e; exact Int.le_refl _
    · have := ih (by omega)
      have := pw_pos k
      show pw j ≤ 31 * pw k
      omega
theorem mul_bd {x v B : Int} (hx : -30 ≤ x ∧ x ≤ 30) (hv : -B ≤ v ∧ v ≤ B) : -(30 * B) ≤ x * v ∧ x * v ≤ 30 * B := by
  have hB : 0 ≤ B := by omega
  have h1 : x.natAbs * v.natAbs ≤ 30 * B.natAbs := Nat.mul_le_mul (by omega) (by omega)
  have h2 : (x * v).natAbs = x.natAbs * v.natAbs := Int.natAbs_mul x v
  generalize x * v = p at *
  generalize x.natAbs * v.natAbs = q at *
  omega
theorem step_bd {s x p q B : Int} (hs : s = 1 ∨ s = -1) (hx : -30 ≤ x ∧ x ≤ 30) (hp : -B ≤ p ∧ p ≤ B) (hq : -B ≤ q ∧ q ≤ B) : (-(30 * B) ≤ x * q ∧ x * q ≤ 30 * B) ∧ (-(31 * B) ≤ x * q + s * p ∧ x * q + s * p ≤ 31 * B) := by
  have h := mul_bd hx hq
  generalize x * q = r at *
  rcases hs with rfl | rfl
  all_goals omega
theorem ctS_bd {s : Int} (hs : s = 1 ∨ s = -1) (l : List Int) (h : Small l) : (-pw l.length ≤ (ctS s l).1 ∧ (ctS s l).1 ≤ pw l.length) ∧ (-pw l.length ≤ (ctS s l).2 ∧ (ctS s l).2 ≤ pw l.length) := by
  have H : ∀ k, k ≤ l.length → (-pw k ≤ (ctS s (l.take k)).1 ∧ (ctS s (l.take k)).1 ≤ pw k) ∧ (-pw k ≤ (ctS s (l.take k)).2 ∧ (ctS s (l.take k)).2 ≤ pw k) := by
    intro k
    induction k with
    | zero => intro _; simp [ctS, pw]
    | succ k ih =>
      intro hk
      obtain ⟨h1, h2⟩ := ih (by omega)
      have h3 := step_bd hs (h.get k (by omega)) h1 h2
      have hp := pw_pos k
      rw [ctS_take s l k (by omega)]
      dsimp only
      show (-(31 * pw k) ≤ _ ∧ _ ≤ 31 * pw k) ∧ (-(31 * pw k) ≤ _ ∧ _ ≤ 31 * pw k)
      refine ⟨⟨?_, ?_⟩, h3.2⟩ <;> omega
  have := H l.length (Nat.le_refl _)
  rwa [List.take_length] at this
theorem pw9 : pw 9 = 26439622160671 := by decide
theorem pw10 : pw 10 = 819628286980801 := by decide
theorem ctv_bd {s : Int} (hs : s = 1 ∨ s = -1) (l : List Int) (h : Small l) (hl : l.length ≤ 10) : -819628286980801 ≤ ctv s l ∧ ctv s l ≤ 819628286980801 := by
  have h1 := (ctS_bd hs l h).2
  have h2 := pw_mono hl
  rw [pw10] at h2
  unfold ctv
  omega
theorem ctv_bd9 {s : Int} (hs : s = 1 ∨ s = -1) (l : List Int) (h : Small l) (hl : l.length ≤ 9) : -26439622160671 ≤ ctv s l ∧ ctv s l ≤ 26439622160671 := by
  have h1 := (ctS_bd hs l h).2
  have h2 := pw_mono hl
  rw [pw9] at h2
  unfold ctv
  omega
/-- what the model's loop needs at each step -/
theorem ctS_round {s : Int} (hs : s = 1 ∨ s = -1) (l : List Int) (h : Small l) (hl : l.length ≤ 10) (k : Nat) (hk : k < l.length) :
    (-26439622160671 ≤ (ctS s (l.take k)).1 ∧ (ctS s (l.take k)).1 ≤ 26439622160671) ∧ (-26439622160671 ≤ (ctS s (l.take k)).2 ∧ (ctS s (l.take k)).2 ≤ 26439622160671) ∧
    (-793188664820130 ≤ l.getD k 0 * (ctS s (l.take k)).2 ∧ l.getD k 0 * (ctS s (l.take k)).2 ≤ 793188664820130) := by
  have h1 := ctS_bd hs (l.take k) (h.take k)
  have e : (l.take k).length = k := by simp; omega
  rw [e] at h1
  have h2 := pw_mono (show k ≤ 9 by omega)
  rw [pw9] at h2
  have h3 : -26439622160671 ≤ (ctS s (l.take k)).2 ∧ (ctS s (l.take k)).2 ≤ 26439622160671 := by omega
  have h4 := mul_bd (h.get k hk) h3
  refine ⟨by omega, h3, by omega⟩

/-! ### from the left -/
def ctF (s : Int) (p : Int × Int) (l : List Int) : Int × Int := l.foldl (fun p x => (p.2, x * p.2 + s * p.1)) p
theorem ctF_cons (s : Int) (p : Int × Int) (x : Int) (l : List Int) : ctF s p (x :: l) = ctF s (p.2, x * p.2 + s * p.1) l := rfl
theorem ctF_lin (s : Int) (l : List Int) : ∀ a b : Int, (ctF s (a, b) l).2 = a * (ctF s (1, 0) l).2 + b * (ctF s (0, 1) l).2 := by
  induction l with
  | nil => intro a b; simp [ctF]
  | cons x l ih =>
    intro a b
    simp only [ctF_cons]
    rw [ih b (x * b + s * a), ih 0 (x * 0 + s * 1), ih 1 (x * 1 + s * 0)]
    simp only [Int.mul_zero, Int.mul_one, Int.zero_add, Int.add_zero, Int.zero_mul, Int.one_mul, Int.add_mul, Int.mul_add, Int.mul_assoc]
    have e1 : x * (b * (ctF s (0, 1) l).2) = b * (x * (ctF s (0, 1) l).2) := Int.mul_left_comm _ _ _
    have e2 : s * (a * (ctF s (0, 1) l).2) = a * (s * (ctF s (0, 1) l).2) := Int.mul_left_comm _ _ _
    omega
theorem ctv_cons (s x : Int) (l : List Int) : ctv s (x :: l) = x * ctv s l + s * (match l with | [] => 0 | _ :: r => ctv s r) := by
  have e : ctv s (x :: l) = (ctF s (1, x) l).2 := by
    show (ctF s (1, x * 1 + s * 0) l).2 = _
    rw [Int.mul_one, Int.mul_zero, Int.add_zero]
  have e0 : ctv s l = (ctF s (0, 1) l).2 := rfl
  rw [e, ctF_lin s l 1 x, ← e0, Int.one_mul]
  cases l with
  | nil => simp [ctF, ctv_nil]
  | cons y r =>
    have e1 : (ctF s (1, 0) (y :: r)).2 = s * ctv s r := by
      rw [ctF_cons]
      show (ctF s (0, y * 0 + s * 1) r).2 = _
      rw [Int.mul_zero, Int.zero_add, Int.mul_one, ctF_lin s r 0 s, Int.zero_mul, Int.zero_add]
      rfl
    rw [e1]
    show s * ctv s r + x * ctv s (y :: r) = x * ctv s (y :: r) + s * ctv s r
    omega

/-! ### fractions -/
/-- the model's fraction: numerator and denominator, from behind; none if a division is by 0 -/
def frac (s : Int) : List Int → Option (Int × Int)
  | [] => none
  | x :: r => match r with
    | [] => some (x, 1)
    | _ :: _ => match frac s r with
      | none => none
      | some (n, d) => if n = 0 then none else if n < 0 then some (-(x * n + s * d), -n) else some (x * n + s * d, n)
/-- one of the divisions is by 0 -/
def divZ : List Int → Bool
  | [] => false
  | x :: r => match r with
    | [] => false
    | _ :: _ => decide (ctv (-1) r = 0) || divZ r
def sgn (v x : Int) : Int := if v < 0 then -x else x
theorem frac_minus : ∀ (l : List Int) (x : Int), frac (-1) (x :: l) = if divZ (x :: l) = true then none else some (sgn (ctv (-1) l) (ctv (-1) (x :: l)), sgn (ctv (-1) l) (ctv (-1) l)) := by
  intro l
  induction l with
  | nil => intro x; simp [frac, divZ, ctv_nil, ctv_one, sgn]
  | cons y r ih =>
    intro x
    have e1 : frac (-1) (x :: y :: r) = match frac (-1) (y :: r) with
      | none => none
      | some (n, d) => if n = 0 then none else if n < 0 then some (-(x * n + -1 * d), -n) else some (x * n + -1 * d, n) := rfl
    have e2 : divZ (x :: y :: r) = (decide (ctv (-1) (y :: r) = 0) || divZ (y :: r)) := rfl
    rw [e1, ih y, e2]
    cases hz : divZ (y :: r)
    · rw [if_neg (by simp)]
      dsimp only
      have e3 : ctv (-1) (x :: y :: r) = x * ctv (-1) (y :: r) + -1 * ctv (-1) r := ctv_cons (-1) x (y :: r)
      have hr : ctv (-1) r ≠ 0 := by
        cases r with
        | nil => rw [ctv_nil]; decide
        | cons z r' =>
          intro h
          have : divZ (y :: z :: r') = (decide (ctv (-1) (z :: r') = 0) || divZ (z :: r')) := rfl
          rw [this, h] at hz
          simp at hz
      generalize ctv (-1) (y :: r) = k1 at *
      generalize ctv (-1) r = k2 at *
      rw [e3]
      unfold sgn
      by_cases h1 : k1 = 0
      · subst h1
        simp
      · have h2 : ¬ (if k2 < 0 then -k1 else k1) = 0 := by split <;> omega
        rw [if_neg h2]
        have e5 : x * -k1 = -(x * k1) := Int.mul_neg _ _
        simp only [h1, decide_false, Bool.or_false, Bool.false_eq_true, if_false]
        by_cases h3 : k2 < 0
        · simp only [if_pos h3]
          rw [e5]
          by_cases h4 : k1 < 0
          · rw [if_neg (by omega)]
            simp only [if_pos h4]
            congr 1
            ext1 <;> dsimp only <;> omega
          · rw [if_pos (by omega)]
            simp only [if_neg h4]
            congr 1
            ext1 <;> dsimp only <;> omega
        · simp only [if_neg h3]
          by_cases h4 : k1 < 0
          · simp only [if_pos h4]
          · simp only [if_neg h4]
    · simp
/-- all terms at least 1 -/
def Pos (l : List Int) : Prop := ∀ x ∈ l, 1 ≤ x
theorem ctv_pos (l : List Int) (h : Pos l) : 1 ≤ ctv 1 l ∧ ∀ x, 1 ≤ x → 1 ≤ ctv 1 (x :: l) := by
  induction l with
  | nil => exact ⟨by rw [ctv_nil]; decide, fun x hx => by rw [ctv_one]; exact hx⟩
  | cons y r ih =>
    have hr : Pos r := fun z hz => h z (by simp [hz])
    obtain ⟨h1, h2⟩ := ih hr
    have h3 := h2 y (h y (by simp))
    refine ⟨h3, fun x hx => ?_⟩
    have e : ctv 1 (x :: y :: r) = x * ctv 1 (y :: r) + 1 * ctv 1 r := ctv_cons 1 x (y :: r)
    rw [e]
    have : 1 * 1 ≤ x * ctv 1 (y :: r) := Int.mul_le_mul hx h3 (by omega) (by omega)
    omega
theorem frac_plus : ∀ (l : List Int) (x : Int), Pos (x :: l) → frac 1 (x :: l) = some (ctv 1 (x :: l), ctv 1 l) := by
  intro l
  induction l with
  | nil => intro x _; simp [frac, ctv_nil, ctv_one]
  | cons y r ih =>
    intro x hp
    have hp2 : Pos (y :: r) := fun z hz => hp z (by simp only [List.mem_cons] at hz ⊢; exact Or.inr hz)
    have e1 : frac 1 (x :: y :: r) = match frac 1 (y :: r) with
      | none => none
      | some (n, d) => if n = 0 then none else if n < 0 then some (-(x * n + 1 * d), -n) else some (x * n + 1 * d, n) := rfl
    have h1 := (ctv_pos (y :: r) hp2).1
    have e3 : ctv 1 (x :: y :: r) = x * ctv 1 (y :: r) + 1 * ctv 1 r := ctv_cons 1 x (y :: r)
    rw [e1, ih y hp2]
    dsimp only
    rw [if_neg (by omega), if_neg (by omega), e3]

/-! ### terms of a fraction -/
/-- the terms, one after the other, as long as they are terms -/
def tmF (rd : Int → Int → Int × Int) : Nat → Int → Int → List Int → Option (List Int)
  | 0, _, _, _ => none
  | f + 1, num, den, out => if den = 0 then some out else if good (out ++ [(rd num den).1]) = true then tmF rd f den (rd num den).2 (out ++ [(rd num den).1]) else none
def upI (num den : Int) : Int × Int := ((num + den - 1) / den, (num + den - 1) / den * den - num)
def dnI (num den : Int) : Int × Int := (num / den, num % den)
theorem up_bd {num den M : Int} (hn : 0 ≤ num ∧ num ≤ M) (hd : 1 ≤ den ∧ den ≤ M) : 0 ≤ (num + den - 1) / den ∧ (num + den - 1) / den ≤ 2 * M ∧ (num + den - 1) / den * den ≤ num + den - 1 ∧ 0 ≤ (num + den - 1) / den * den - num ∧ (num + den - 1) / den * den - num < den := by
  have h1 : 0 ≤ num + den - 1 := by omega
  have h2 := Int.emod_add_mul_ediv (num + den - 1) den
  have h3 := Int.emod_nonneg (num + den - 1) (show den ≠ 0 by omega)
  have h4 := Int.emod_lt_of_pos (num + den - 1) (show 0 < den by omega)
  have h5 : (num + den - 1) / den * den = den * ((num + den - 1) / den) := Int.mul_comm _ _
  have h6 := Int.ediv_nonneg h1 (show 0 ≤ den by omega)
  have h7 := Int.ediv_le_self den h1
  rw [h5]
  generalize den * ((num + den - 1) / den) = p at *
  generalize (num + den - 1) / den = q at *
  generalize (num + den - 1) % den = r at *
  omega
theorem dn_bd {num den M : Int} (hn : 0 ≤ num ∧ num ≤ M) (hd : 1 ≤ den ∧ den ≤ M) : 0 ≤ num / den ∧ num / den ≤ M ∧ 0 ≤ num % den ∧ num % den < den := by
  have h3 := Int.emod_nonneg num (show den ≠ 0 by omega)
  have h4 := Int.emod_lt_of_pos num (show 0 < den by omega)
  have h6 := Int.ediv_nonneg hn.1 (show 0 ≤ den by omega)
  have h7 := Int.ediv_le_self den hn.1
  omega
theorem tmF_len (rd : Int → Int → Int × Int) : ∀ (f : Nat) (num den : Int) (out r : List Int), out.length ≤ 10 → tmF rd f num den out = some r → r.length ≤ 10 := by
  intro f
  induction f with
  | zero => intro _ _ _ _ _ h; simp [tmF] at h
  | succ f ih =>
    intro num den out r ho h
    unfold tmF at h
    split at h
    · injection h with h; subst h; exact ho
    · split at h
      · rename_i hg
        exact ih _ _ _ _ (good_iff.1 hg).1 h
      · cases h
/-- the greatest common divisor by the program's and the model's loop -/
theorem gcd_step (a b : Nat) (hb : 0 < b) : Nat.gcd b (a % b) = Nat.gcd a b := by
  rw [Nat.gcd_comm b (a % b), ← Nat.gcd_rec b a, Nat.gcd_comm]
def coB (a b : Int) : Bool := decide (1 ≤ a ∧ a ≤ 1000000) && decide (1 ≤ b ∧ b ≤ 1000000) && decide (Nat.gcd a.toNat b.toNat = 1)
end Go.Proofs.Ytfkkbjbgjmaciaa

/- Matrices of lists of terms: plain mathematics. -/
namespace Go.Proofs.Ytfkkbjbgjmaciaa
set_option linter.unusedVariables false

/-- the matrix of a number -/
def sqT (t : Int) : M4 := ⟨t, -1, 1, 0⟩
/-- the matrix of a list, by its continuants -/
def mlR (l : List Int) : M4 :=
  if l.length = 0 then M4.one else ⟨ctv (-1) l, -ctv (-1) (l.take (l.length - 1)), ctv (-1) (l.drop 1), if 1 < l.length then -ctv (-1) ((l.drop 1).take (l.length - 2)) else 0⟩

theorem foldSq (l : List Int) : ∀ p q : Int × Int, (l.map sqT).foldl M4.mul ⟨p.2, -p.1, q.2, -q.1⟩ = ⟨(ctF (-1) p l).2, -(ctF (-1) p l).1, (ctF (-1) q l).2, -(ctF (-1) q l).1⟩ := by
  induction l with
  | nil => intro p q; rfl
  | cons x r ih =>
    intro p q
    rw [List.map_cons, List.foldl_cons, ctF_cons, ctF_cons]
    rw [← ih (p.2, x * p.2 + -1 * p.1) (q.2, x * q.2 + -1 * q.1)]
    congr 1
    apply M4.same <;> simp only [M4.mul, sqT, Int.mul_one, Int.mul_zero, Int.add_zero, Int.mul_neg]
    · rw [Int.mul_comm p.2 x]; omega
    · rw [Int.mul_comm q.2 x]; omega
theorem ctS_prev (l : List Int) (h : 0 < l.length) : (ctS (-1) l).1 = ctv (-1) (l.take (l.length - 1)) := by
  have e := ctS_take (-1) l (l.length - 1) (by omega)
  rw [show l.length - 1 + 1 = l.length by omega, List.take_length] at e
  rw [e]
  rfl
theorem prodSq (l : List Int) : prodF M4.mul (l.map sqT) = mlR l := by
  unfold prodF mlR
  have e0 : M4.one = ⟨((0, 1) : Int × Int).2, -((0, 1) : Int × Int).1, ((-1, 0) : Int × Int).2, -((-1, 0) : Int × Int).1⟩ := rfl
  conv => lhs; rw [e0]
  rw [foldSq l (0, 1) (-1, 0)]
  cases l with
  | nil => rfl
  | cons x r =>
    rw [if_neg (by simp)]
    have e1 : ctF (-1) (0, 1) (x :: r) = ctS (-1) (x :: r) := rfl
    have e2 : ctF (-1) (-1, 0) (x :: r) = ctS (-1) r := by
      rw [ctF_cons]
      show ctF (-1) (0, x * 0 + -1 * -1) r = ctS (-1) r
      rw [Int.mul_zero]
      rfl
    have e3 := ctS_prev (x :: r) (by simp)
    rw [e1, e2, e3]
    apply M4.same
    · rfl
    · rfl
    · rfl
    · dsimp only
      cases r with
      | nil => rfl
      | cons y s =>
        rw [if_pos (by simp), ctS_prev (y :: s) (by simp)]
        rfl
theorem sq_in {t : Int} (h : -30 ≤ t ∧ t ≤ 30) : (sqT t).In 30 := by
  unfold M4.In sqT
  dsimp only
  omega
theorem prodSq_in (l : List Int) (hs : Small l) : ∀ k, k ≤ l.length → (prodF M4.mul ((l.map sqT).take k)).In (60 ^ k) := by
  intro k
  induction k with
  | zero => intro _; exact M4.one_in
  | succ k ih =>
    intro hk
    rw [prodF_take M4.mul (l.map sqT) k (by rw [List.length_map]; omega)]
    have e : (l.map sqT).getD k M4.one = sqT (l.getD k 0) := by simp [show k < l.length by omega]
    rw [e]
    refine ((ih (by omega)).mul (sq_in (hs.get k (by omega)))).mono ?_
    rw [Int.pow_succ]
    omega
theorem pow60 {k : Nat} (h : k < 10) : (60 : Int) ^ k * 30 ≤ 4000000000000000000 := by
  have h2 : k = 0 ∨ k = 1 ∨ k = 2 ∨ k = 3 ∨ k = 4 ∨ k = 5 ∨ k = 6 ∨ k = 7 ∨ k = 8 ∨ k = 9 := by omega
  rcases h2 with rfl | rfl | rfl | rfl | rfl | rfl | rfl | rfl | rfl | rfl <;> decide
theorem prodSq_bd (l : List Int) (hs : Small l) (h10 : l.length ≤ 10) : ∀ k, k < (l.map sqT).length → ∃ P Q, (prodF M4.mul ((l.map sqT).take k)).In P ∧ ((l.map sqT).getD k M4.one).In Q ∧ P * Q ≤ 4000000000000000000 := by
  intro k hk
  rw [List.length_map] at hk
  refine ⟨60 ^ k, 30, prodSq_in l hs k (by omega), ?_, pow60 (by omega)⟩
  have e : (l.map sqT).getD k M4.one = sqT (l.getD k 0) := by simp [hk]
  rw [e]
  exact sq_in (hs.get k hk)
end Go.Proofs.Ytfkkbjbgjmaciaa

/- What chapter 4's texts share, for seats without the law of products: boxes kept, a matrix that comes back. -/
namespace Go.Proofs.Ytfkkbjbgjmaciaa
set_option linter.unusedVariables false
open Go.RowKit

/-- two boxes, and the world below which they lie -/
theorem twoOf {wa w' : World} {ga gb : Nat} {a b c d e f g h : Int} (hA : Bx wa ga a b c d) (hB : Bx wa gb e f g h) (hb : Below wa.heap.size wa w') :
    w'.cell? ⟨ga, 0, none⟩ = some (.int .i64 a) ∧ w'.cell? ⟨ga, 1, none⟩ = some (.int .i64 b) ∧ w'.cell? ⟨ga, 2, none⟩ = some (.int .i64 c) ∧ w'.cell? ⟨ga, 3, none⟩ = some (.int .i64 d) ∧
      w'.cell? ⟨gb, 0, none⟩ = some (.int .i64 e) ∧ w'.cell? ⟨gb, 1, none⟩ = some (.int .i64 f) ∧ w'.cell? ⟨gb, 2, none⟩ = some (.int .i64 g) ∧ w'.cell? ⟨gb, 3, none⟩ = some (.int .i64 h) ∧ Below wa.heap.size wa w' := by
  obtain ⟨a0, a1, a2, a3⟩ := hA.kept hb
  obtain ⟨b0, b1, b2, b3⟩ := hB.kept hb
  exact ⟨a0, a1, a2, a3, b0, b1, b2, b3, hb⟩
theorem twoBelow {wa w' : World} {p0 p1 p2 p3 p4 p5 p6 p7 : Addr} {v0 v1 v2 v3 v4 v5 v6 v7 : Value} (h : w'.cell? p0 = some v0 ∧ w'.cell? p1 = some v1 ∧ w'.cell? p2 = some v2 ∧ w'.cell? p3 = some v3 ∧
      w'.cell? p4 = some v4 ∧ w'.cell? p5 = some v5 ∧ w'.cell? p6 = some v6 ∧ w'.cell? p7 = some v7 ∧ Below wa.heap.size wa w') : Below wa.heap.size wa w' := h.2.2.2.2.2.2.2.2

/-- a new box of zeros, which may be written -/
def Zb (w : World) (g : Nat) : Prop := Bx w g 0 0 0 0 ∧ Fz w g
theorem Zb.new (w : World) (t : TypeId) : Zb (w.alloc (.cells #[.int .i64 0, .int .i64 0, .int .i64 0, .int .i64 0] t)) w.heap.size := ⟨Bx.new w t 0 0 0 0, Fz.new w t 0 0 0 0⟩
theorem Zb.newd (w : World) (t : TypeId) : Zb (w.alloc (.cells #[.int .i64 0, .int .i64 0, .int .i64 0, .int .i64 0] t)).drew w.heap.size := ⟨Bx.new w t 0 0 0 0, Fz.new w t 0 0 0 0⟩
theorem Zb.bx {w : World} {g : Nat} (h : Zb w g) : Bx w g 0 0 0 0 := h.1
theorem Zb.kept {w w' : World} {g : Nat} (h : Zb w g) (hb : Below w.heap.size w w') : Zb w' g := ⟨h.1.kept hb, h.2.kept h.1.lt hb⟩

theorem bx_set4 {w : World} {g : Nat} {a b c d : Int} (h : Bx w g a b c d) (e f i j : Int) : Bx ((((w.setCell ⟨g, 0, none⟩ (.int .i64 e)).setCell ⟨g, 1, none⟩ (.int .i64 f)).setCell ⟨g, 2, none⟩ (.int .i64 i)).setCell ⟨g, 3, none⟩ (.int .i64 j)) g e f i j := bx_sto4 h e f i j

theorem below3 (w : World) (x y z : Obj) : Below w.heap.size w (((w.alloc x).alloc y).alloc z) := (below2 w x y).alloc (by simp; omega) _
/-- a matrix comes back, if it is one -/
def RetMx (m : M4) (w : World) (e : Ending) (w' : World) : Prop := e = .returned (.tuple #[.agg #[.int .i64 m.fit.a, .int .i64 m.fit.b, .int .i64 m.fit.c, .int .i64 m.fit.d], .bool m.ok]) ∧ Below w.heap.size w w'
theorem retMx_no {m : M4} {w w' : World} (h : m.ok = false) (hb : Below w.heap.size w w') : RetMx m w (.returned (.tuple #[.agg #[.int .i64 0, .int .i64 0, .int .i64 0, .int .i64 0], .bool false])) w' := by
  unfold RetMx; rw [M4.fit_no h, h]; exact ⟨rfl, hb⟩
theorem retMx_yes {m : M4} {p q r s : Int} {w w' : World} (e : m = ⟨p, q, r, s⟩) (h : m.ok = true) (hb : Below w.heap.size w w') : RetMx m w (.returned (.tuple #[.agg #[.int .i64 p, .int .i64 q, .int .i64 r, .int .i64 s], .bool true])) w' := by
  unfold RetMx; rw [M4.fit_yes h, h, e]; exact ⟨rfl, hb⟩
theorem retMx_any {m : M4} {w w' : World} (hb : Below w.heap.size w w') : RetMx m w (.returned (.tuple #[.agg #[.int .i64 m.fit.a, .int .i64 m.fit.b, .int .i64 m.fit.c, .int .i64 m.fit.d], .bool m.ok])) w' := ⟨rfl, hb⟩
theorem spec_mxIf (m : M4) (w : World) : Calls Try.prog 135 #[.agg #[.int .i64 m.a, .int .i64 m.b, .int .i64 m.c, .int .i64 m.d]] w (RetMx m w) := by
  obtain ⟨a, b, c, d⟩ := m
  cases h : (M4.mk a b c d).ok
  · exact (spec_mxIf_no a b c d w h).mono fun _ _ ⟨e, hb⟩ => e ▸ retMx_no h hb
  · exact (spec_mxIf_yes a b c d w h).mono fun _ _ ⟨e, hb⟩ => e ▸ retMx_yes rfl h hb
theorem impl_matrixOf (m : M4) (w : World) : Calls Try.prog 129 #[.agg #[.int .i64 m.a, .int .i64 m.b, .int .i64 m.c, .int .i64 m.d]] w (RetMx m w) := by
  obtain ⟨a, b, c, d⟩ := m
  cases h : (M4.mk a b c d).ok
  · exact (impl_matrixOf_no a b c d w h).mono fun _ _ ⟨e, hb⟩ => e ▸ retMx_no h hb
  · exact (impl_matrixOf_yes a b c d w h).mono fun _ _ ⟨e, hb⟩ => e ▸ retMx_yes rfl h hb
theorem spec_mxIf_as (m F : M4) (ok : Bool) (hF : m.fit = F) (hk : m.ok = ok) (w : World) : Calls Try.prog 135 #[.agg #[.int .i64 m.a, .int .i64 m.b, .int .i64 m.c, .int .i64 m.d]] w fun r w' => r = .returned (.tuple #[.agg #[.int .i64 F.a, .int .i64 F.b, .int .i64 F.c, .int .i64 F.d], .bool ok]) ∧ Below w.heap.size w w' := by
  subst hF hk
  exact spec_mxIf m w
theorem impl_matrixOf_as (m F : M4) (ok : Bool) (hF : m.fit = F) (hk : m.ok = ok) (w : World) : Calls Try.prog 129 #[.agg #[.int .i64 m.a, .int .i64 m.b, .int .i64 m.c, .int .i64 m.d]] w fun r w' => r = .returned (.tuple #[.agg #[.int .i64 F.a, .int .i64 F.b, .int .i64 F.c, .int .i64 F.d], .bool ok]) ∧ Below w.heap.size w w' := by
  subst hF hk
  exact impl_matrixOf m w
end Go.Proofs.Ytfkkbjbgjmaciaa

/- The program's matrix of a list: squares in a slice of its own, multiplied in order. -/
namespace Go.Proofs.Ytfkkbjbgjmaciaa
set_option linter.unusedVariables false
open Go.RowKit

/-- a row of squares that the call has made -/
def Qw (w : World) (base g n : Nat) (L : List M4) : Prop := L.length = n ∧ ∃ xs : List Value, w.ownsRow base 111 4 (.slice (some ⟨g, 0, none⟩) n n) n xs ∧
  ∀ j, j < n → xs[j * 4]? = some (.int .i64 (L.getD j M4.one).a) ∧ xs[j * 4 + 1]? = some (.int .i64 (L.getD j M4.one).b) ∧ xs[j * 4 + 2]? = some (.int .i64 (L.getD j M4.one).c) ∧ xs[j * 4 + 3]? = some (.int .i64 (L.getD j M4.one).d)
theorem Qw.cell {w : World} {base g n : Nat} {L : List M4} (h : Qw w base g n L) (j : Nat) (hj : j < n) :
    w.cell? ⟨g, j * 4, none⟩ = some (.int .i64 (L.getD j M4.one).a) ∧ w.cell? ⟨g, j * 4 + 1, none⟩ = some (.int .i64 (L.getD j M4.one).b) ∧ w.cell? ⟨g, j * 4 + 2, none⟩ = some (.int .i64 (L.getD j M4.one).c) ∧ w.cell? ⟨g, j * 4 + 3, none⟩ = some (.int .i64 (L.getD j M4.one).d) := by
  obtain ⟨_, xs, ho, hx⟩ := h
  obtain ⟨x0, x1, x2, x3⟩ := hx j hj
  exact ⟨(ho.cellAt _ (by omega)).trans x0, (ho.cellAt _ (by omega)).trans x1, (ho.cellAt _ (by omega)).trans x2, (ho.cellAt _ (by omega)).trans x3⟩
theorem Qw.frozen {w : World} {base g n : Nat} {L : List M4} (h : Qw w base g n L) (j : Nat) : w.frozen? ⟨g, j, none⟩ = false := by
  obtain ⟨_, xs, ho, _⟩ := h
  exact ho.frozenAt j
theorem Qw.lt {w : World} {base g n : Nat} {L : List M4} (h : Qw w base g n L) : base ≤ g ∧ g < w.heap.size := by
  obtain ⟨_, xs, ho, _⟩ := h
  exact ho.lt g rfl
theorem Qw.kept {w w' : World} {base g n : Nat} {L : List M4} (h : Qw w base g n L) (hb : Below w.heap.size w w') : Qw w' base g n L := by
  obtain ⟨e, xs, ho, hx⟩ := h
  exact ⟨e, xs, own_kept ho hb, hx⟩
theorem Qw.far {w w' : World} {base g n : Nat} {L : List M4} (h : Qw w base g n L) {k : Nat} (hg : w.grownBy w' (some k)) (hne : k ≠ g) : Qw w' base g n L := by
  obtain ⟨e, xs, ho, hx⟩ := h
  exact ⟨e, xs, own_far ho hg (fun z hz e => by cases hz; cases e; exact hne rfl), hx⟩
theorem Qw.slq {w : World} {base g n : Nat} {L : List M4} (h : Qw w base g n L) : SlQ w w.heap.size (some ⟨g, 0, none⟩) L := fun _ => by
  refine ⟨g, 0, rfl, h.lt.2, fun j hj => ?_⟩
  have hc := h.cell j (by rw [← h.1]; exact hj)
  rw [Nat.zero_add]
  exact hc
theorem Qw.stored {w : World} {base g n : Nat} {L : List M4} (h : Qw w base g n L) (k : Nat) (hk : k < n) (a b c d : Int) :
    Qw ((((w.setCell ⟨g, k * 4, none⟩ (.int .i64 a)).setCell ⟨g, k * 4 + 1, none⟩ (.int .i64 b)).setCell ⟨g, k * 4 + 2, none⟩ (.int .i64 c)).setCell ⟨g, k * 4 + 3, none⟩ (.int .i64 d)) base g n (L.set k ⟨a, b, c, d⟩) := by
  obtain ⟨e, xs, ho, hx⟩ := h
  have hl := ho.1
  have o4 := ((((ho.stored (k * 4) (.int .i64 a)).1.stored (k * 4 + 1) (.int .i64 b)).1.stored (k * 4 + 2) (.int .i64 c)).1.stored (k * 4 + 3) (.int .i64 d)).1
  refine ⟨by rw [List.length_set]; exact e, _, o4, fun j hj => ?_⟩
  by_cases hjk : j = k
  · subst hjk
    have e1 : (L.set j ⟨a, b, c, d⟩).getD j M4.one = ⟨a, b, c, d⟩ := by simp [e, hj]
    rw [e1]
    refine ⟨?_, ?_, ?_, ?_⟩ <;> simp only [List.getElem?_set] <;> simp <;> omega
  · have e1 : (L.set k ⟨a, b, c, d⟩).getD j M4.one = L.getD j M4.one := by simp [List.getElem?_set, Ne.symm hjk]
    rw [e1]
    obtain ⟨x0, x1, x2, x3⟩ := hx j hj
    refine ⟨?_, ?_, ?_, ?_⟩
    · rw [List.getElem?_set_ne (by omega), List.getElem?_set_ne (by omega), List.getElem?_set_ne (by omega), List.getElem?_set_ne (by omega)]; exact x0
    · rw [List.getElem?_set_ne (by omega), List.getElem?_set_ne (by omega), List.getElem?_set_ne (by omega), List.getElem?_set_ne (by omega)]; exact x1
    · rw [List.getElem?_set_ne (by omega), List.getElem?_set_ne (by omega), List.getElem?_set_ne (by omega), List.getElem?_set_ne (by omega)]; exact x2
    · rw [List.getElem?_set_ne (by omega), List.getElem?_set_ne (by omega), List.getElem?_set_ne (by omega), List.getElem?_set_ne (by omega)]; exact x3
theorem Qw.made {w : World} {base g n : Nat} (h : w.ownsRow base 111 4 (.slice (some ⟨g, 0, none⟩) n n) n (madeCells (Value.agg #[.int .i64 0, .int .i64 0, .int .i64 0, .int .i64 0]).cells (n * 4)).toList) : Qw w base g n (List.replicate n M4.zero) := by
  refine ⟨by simp, _, h, fun j hj => ?_⟩
  have e1 : (List.replicate n M4.zero).getD j M4.one = M4.zero := by simp [hj]
  rw [e1]
  have hc : (Value.agg #[.int .i64 0, .int .i64 0, .int .i64 0, .int .i64 0]).cells = #[Value.int .i64 0, .int .i64 0, .int .i64 0, .int .i64 0] := by rfl
  rw [hc]
  unfold madeCells M4.zero
  have hz : ∀ i, i < n * 4 → ((Array.range (n * 4)).map (#[Value.int .i64 0, .int .i64 0, .int .i64 0, .int .i64 0][· % (#[Value.int .i64 0, .int .i64 0, .int .i64 0, .int .i64 0] : Array Value).size]!)).toList[i]? = some (Value.int .i64 0) := by
    intro i hi
    have h4 : i % 4 = 0 ∨ i % 4 = 1 ∨ i % 4 = 2 ∨ i % 4 = 3 := by omega
    simp only [Array.toList_map, List.getElem?_map, Array.toList_range, List.getElem?_range hi, Option.map_some]
    show some (#[Value.int .i64 0, .int .i64 0, .int .i64 0, .int .i64 0][i % 4]!) = _
    rcases h4 with h4 | h4 | h4 | h4 <;> rw [h4] <;> rfl
  exact ⟨hz _ (by omega), hz _ (by omega), hz _ (by omega), hz _ (by omega)⟩
theorem infoQ : (Try.prog.info? 111).map (fun i => (i.zero, i.size, i.bytes)) = some (some (.agg #[.int .i64 0, .int .i64 0, .int .i64 0, .int .i64 0]), 4, 32) := by kernel_rfl
end Go.Proofs.Ytfkkbjbgjmaciaa

/- Words of the letters l and r: plain mathematics, and what is told of a byte. -/
namespace Go.Proofs.Ytfkkbjbgjmaciaa
set_option linter.unusedVariables false
open Go.RowKit

/-- a text's bytes as numbers -/
def wl (s : ByteArray) : List Int := s.data.toList.map fun b => (b.toNat : Int)
theorem wl_length (s : ByteArray) : (wl s).length = s.size := by
  unfold wl
  rw [List.length_map, Array.length_toList]
  rfl
theorem wl_get (s : ByteArray) (k : Nat) (h : k < s.size) : (wl s).getD k 0 = ((s[k]'h).toNat : Int) := by
  have h2 : k < s.data.toList.length := by rw [Array.length_toList]; exact h
  unfold wl
  rw [List.getD_eq_getElem?_getD, List.getElem?_map, List.getElem?_eq_getElem h2]
  rfl
/-- a letter's square -/
def letM (x : Int) : M4 := if x = 108 then ⟨1, 0, 1, 1⟩ else ⟨1, 1, 0, 1⟩
def okLet (x : Int) : Bool := decide (x = 108 ∨ x = 114)
theorem okLet_yes {x : Int} (h : okLet x = true) : x = 108 ∨ x = 114 := by simpa [okLet] using h
theorem okLet_no {x : Int} (h : okLet x = false) : ¬ x = 108 ∧ ¬ x = 114 := by simpa [okLet] using h
theorem letM_in (x : Int) : (letM x).In 1 := by
  unfold letM M4.In
  split <;> simp
/-- a word -/
def okW (l : List Int) : Bool := decide (l.length ≤ 40) && l.all okLet
theorem okW_iff {l : List Int} : okW l = true ↔ l.length ≤ 40 ∧ ∀ k, k < l.length → okLet (l.getD k 0) = true := by
  unfold okW
  rw [Bool.and_eq_true, decide_eq_true_eq, List.all_eq_true]
  constructor
  · rintro ⟨h1, h2⟩
    refine ⟨h1, fun k hk => ?_⟩
    have e : l.getD k 0 = l[k] := by simp [hk]
    rw [e]
    exact h2 _ (List.getElem_mem hk)
  · rintro ⟨h1, h2⟩
    refine ⟨h1, fun x hx => ?_⟩
    obtain ⟨k, hk, rfl⟩ := List.getElem_of_mem hx
    have e : l.getD k 0 = l[k] := by simp [hk]
    rw [← e]
    exact h2 k hk
theorem okW_bad {l : List Int} {k : Nat} (hk : k < l.length) (h : okLet (l.getD k 0) = false) : okW l = false := by
  cases ho : okW l
  · rfl
  · have := (okW_iff.1 ho).2 k hk
    rw [h] at this
    cases this
theorem okW_long {l : List Int} (h : 40 < l.length) : okW l = false := by
  cases ho : okW l
  · rfl
  · have := (okW_iff.1 ho).1
    omega
/-- a word's matrix -/
def wordM (l : List Int) : M4 := prodF M4.mul (l.map letM)
theorem word_in (l : List Int) : ∀ k, k ≤ l.length → (prodF M4.mul ((l.map letM).take k)).In (2 ^ k) := by
  intro k
  induction k with
  | zero => intro _; exact M4.one_in
  | succ k ih =>
    intro hk
    rw [prodF_take M4.mul (l.map letM) k (by rw [List.length_map]; omega)]
    have e : (l.map letM).getD k M4.one = letM (l.getD k 0) := by simp [show k < l.length by omega]
    rw [e]
    refine ((ih (by omega)).mul (letM_in _)).mono ?_
    rw [Int.pow_succ]
    omega
theorem pow2le : ∀ k : Fin 41, (2 : Int) ^ k.1 * 1 ≤ 4000000000000000000 := by decide +kernel
theorem word_bd (l : List Int) (h40 : l.length ≤ 40) : ∀ k, k < (l.map letM).length → ∃ P Q, (prodF M4.mul ((l.map letM).take k)).In P ∧ ((l.map letM).getD k M4.one).In Q ∧ P * Q ≤ 4000000000000000000 := by
  intro k hk
  rw [List.length_map] at hk
  refine ⟨2 ^ k, 1, word_in l k (by omega), ?_, pow2le ⟨k, by omega⟩⟩
  have e : (l.map letM).getD k M4.one = letM (l.getD k 0) := by simp [hk]
  rw [e]
  exact letM_in _
/-- what comes back for a text -/
def wR (l : List Int) : M4 := if okW l = true then (wordM l).fit else M4.zero
def wOk (l : List Int) : Bool := okW l && (wordM l).ok
def WEnd (l : List Int) (w : World) (e : Ending) (w' : World) : Prop := e = .returned (.tuple #[.agg #[.int .i64 (wR l).a, .int .i64 (wR l).b, .int .i64 (wR l).c, .int .i64 (wR l).d], .bool (wOk l)]) ∧ Below w.heap.size w w'
theorem wEnd_no {l : List Int} {w w' : World} (h : okW l = false) (hb : Below w.heap.size w w') : WEnd l w (.returned (.tuple #[.agg #[.int .i64 0, .int .i64 0, .int .i64 0, .int .i64 0], .bool false])) w' := by
  have e1 : wR l = M4.zero := if_neg (by rw [h]; simp)
  have e2 : wOk l = false := by unfold wOk; rw [h]; rfl
  unfold WEnd
  rw [e1, e2]
  exact ⟨rfl, hb⟩
theorem wEnd_yes {l : List Int} {F : M4} {ok : Bool} {w w' : World} (h : okW l = true) (hF : (wordM l).fit = F) (hk : (wordM l).ok = ok) (hb : Below w.heap.size w w') :
    WEnd l w (.returned (.tuple #[.agg #[.int .i64 F.a, .int .i64 F.b, .int .i64 F.c, .int .i64 F.d], .bool ok])) w' := by
  have e1 : wR l = F := by unfold wR; rw [if_pos h, hF]
  have e2 : wOk l = ok := by unfold wOk; rw [h, hk]; rfl
  unfold WEnd
  rw [e1, e2]
  exact ⟨rfl, hb⟩
/-- the first letters' squares, zeros behind them -/
def wF (l : List Int) (k : Nat) : List M4 := (l.take k).map letM ++ List.replicate (l.length - k) M4.zero
theorem wF_zero (l : List Int) : wF l 0 = List.replicate l.length M4.zero := by simp [wF]
theorem wF_all (l : List Int) : wF l l.length = l.map letM := by simp [wF]
theorem wF_set (l : List Int) (k : Nat) (h : k < l.length) : (wF l k).set k (letM (l.getD k 0)) = wF l (k + 1) := by
  unfold wF
  have e : l.length - k = (l.length - (k + 1)) + 1 := by omega
  rw [e, List.replicate_succ, List.set_append_right _ _ (by simp; omega)]
  have e2 : k - (List.map letM (List.take k l)).length = 0 := by simp; omega
  rw [e2, List.set_cons_zero, List.take_succ_eq_append_getElem h, List.map_append, List.append_assoc]
  congr 1
  simp [h]
theorem spec_mxLetter_l (w : World) : Calls Try.prog 133 #[.int .u8 108] w fun e w' => e = .returned (.tuple #[.agg #[.int .i64 1, .int .i64 0, .int .i64 1, .int .i64 1], .bool true]) ∧ Below w.heap.size w w' := by
  have hd := Lib.hid (fun o => below_set4 (g := w.heap.size) (x0 := .int .i64 1) (x1 := .int .i64 0) (x2 := .int .i64 1) (x3 := .int .i64 1) ((Below.refl w.heap.size w).alloc (Nat.le_refl _) o) (Nat.le_refl _))
  have hd2 := Lib.hid (fun o => (Below.refl w.heap.size w).alloc (Nat.le_refl _) o)
  go_enter Try.func133, Try.ntmps133
  go_wp2
  refine bodyPost_ret (v := .tuple #[.agg #[.int .i64 1, .int .i64 0, .int .i64 1, .int .i64 1], .bool true]) (by simp [results, Try.results133, go_sem]) rfl ⟨rfl, ?_⟩
  first | exact hd2.out _ | exact hd.out _
theorem spec_mxLetter_r (w : World) : Calls Try.prog 133 #[.int .u8 114] w fun e w' => e = .returned (.tuple #[.agg #[.int .i64 1, .int .i64 1, .int .i64 0, .int .i64 1], .bool true]) ∧ Below w.heap.size w w' := by
  have hd2 := Lib.hid (fun o => (Below.refl w.heap.size w).alloc (Nat.le_refl _) o)
  go_enter Try.func133, Try.ntmps133
  go_wp2
  refine bodyPost_ret (v := .tuple #[.agg #[.int .i64 1, .int .i64 1, .int .i64 0, .int .i64 1], .bool true]) (by simp [results, Try.results133, go_sem]) rfl ⟨rfl, ?_⟩
  exact hd2.out _
theorem spec_mxLetter_no (x : Int) (w : World) (h1 : ¬ x = 108) (h2 : ¬ x = 114) : Calls Try.prog 133 #[.int .u8 x] w fun e w' => e = .returned (.tuple #[.agg #[.int .i64 0, .int .i64 0, .int .i64 0, .int .i64 0], .bool false]) ∧ Below w.heap.size w w' := by
  have hd2 := Lib.hid (fun o => (Below.refl w.heap.size w).alloc (Nat.le_refl _) o)
  have e1 : (x == 108) = false := by simpa using h1
  have e2 : (x == 114) = false := by simpa using h2
  go_enter Try.func133, Try.ntmps133
  go_wp2
  refine bodyPost_ret (v := .tuple #[.agg #[.int .i64 0, .int .i64 0, .int .i64 0, .int .i64 0], .bool false]) (by simp [results, Try.results133, go_sem]) rfl ⟨rfl, ?_⟩
  exact hd2.out _
theorem impl_letter_l (w : World) : Calls Try.prog 128 #[.int .u8 108] w fun e w' => e = .returned (.tuple #[.agg #[.int .i64 1, .int .i64 0, .int .i64 1, .int .i64 1], .bool true]) ∧ Below w.heap.size w w' := by
  have hd2 := Lib.hid (fun o => (Below.refl w.heap.size w).alloc (Nat.le_refl _) o)
  go_enter Try.func128, Try.ntmps128
  go_wp2
  refine bodyPost_ret (v := .tuple #[.agg #[.int .i64 1, .int .i64 0, .int .i64 1, .int .i64 1], .bool true]) (by simp [results, Try.results128, go_sem]) rfl ⟨rfl, ?_⟩
  exact hd2.out _
theorem impl_letter_r (w : World) : Calls Try.prog 128 #[.int .u8 114] w fun e w' => e = .returned (.tuple #[.agg #[.int .i64 1, .int .i64 1, .int .i64 0, .int .i64 1], .bool true]) ∧ Below w.heap.size w w' := by
  have hd2 := Lib.hid (fun o => (Below.refl w.heap.size w).alloc (Nat.le_refl _) o)
  go_enter Try.func128, Try.ntmps128
  go_wp2
  refine bodyPost_ret (v := .tuple #[.agg #[.int .i64 1, .int .i64 1, .int .i64 0, .int .i64 1], .bool true]) (by simp [results, Try.results128, go_sem]) rfl ⟨rfl, ?_⟩
  exact hd2.out _
theorem impl_letter_no (x : Int) (w : World) (h1 : ¬ x = 108) (h2 : ¬ x = 114) : Calls Try.prog 128 #[.int .u8 x] w fun e w' => e = .returned (.tuple #[.agg #[.int .i64 0, .int .i64 0, .int .i64 0, .int .i64 0], .bool false]) ∧ Below w.heap.size w w' := by
  have hd2 := Lib.hid (fun o => (Below.refl w.heap.size w).alloc (Nat.le_refl _) o)
  have e1 : (x == 108) = false := by simpa using h1
  have e2 : (x == 114) = false := by simpa using h2
  go_enter Try.func128, Try.ntmps128
  go_wp2
  refine bodyPost_ret (v := .tuple #[.agg #[.int .i64 0, .int .i64 0, .int .i64 0, .int .i64 0], .bool false]) (by simp [results, Try.results128, go_sem]) rfl ⟨rfl, ?_⟩
  exact hd2.out _
end Go.Proofs.Ytfkkbjbgjmaciaa

/- Texts: a list of bytes as a string; a row of bytes that the program makes, appended to and turned into a text. -/
namespace Go.Proofs.Ytfkkbjbgjmaciaa
set_option linter.unusedVariables false
open Go.RowKit

def bsL (L : List UInt8) : ByteArray := ⟨L.toArray⟩
theorem bsL_nil : bsL [] = ⟨#[]⟩ := rfl
theorem bsL_snoc (L : List UInt8) (x : UInt8) : bsL (L ++ [x]) = bsL L ++ ⟨#[x]⟩ := by
  apply ByteArray.ext
  simp [bsL]
theorem bsL_size (L : List UInt8) : (bsL L).size = L.length := by simp [bsL, ByteArray.size]
def ubs (L : List UInt8) : List Value := L.map fun x => .int .u8 (x.toNat : Int)
theorem ubs_length (L : List UInt8) : (ubs L).length = L.length := by simp [ubs]
theorem ubs_snoc (L : List UInt8) (y : UInt8) : ubs L ++ [.int .u8 (y.toNat : Int)] = ubs (L ++ [y]) := by simp [ubs]
theorem infoU : (Try.prog.info? 5).map (fun i => (i.zero, i.size, i.bytes)) = some (some (.int .u8 0), 1, 1) := by kernel_rfl
theorem append1U {ops : Array Oper} {rest : List Oper} {o : Oper} {a : Act} {Q : Exit → Act → World → Prop} (w : World) (hgd : o.guard = none) (s x : Operand) (ho : o.op = .call { callee := .builtin .append, args := #[s, x], argTypes := #[22, 22] })
    (base : Nat) (v : Value) (n : Nat) (L : List UInt8) (hn : L.length = n) (hs : a.eval s = v) (hown : w.ownsRow base 5 1 v n (ubs L)) (g : Nat) (y : UInt8) (z : Int) (hz : z = (y.toNat : Int)) (hx : a.eval x = .slice (some ⟨g, 0, none⟩) 1 1)
    (hc : w.cell? ⟨g, 0, none⟩ = some (.int .u8 z)) (hlen : n ≤ 1000000) (hbase : base ≤ w.heap.size)
    (h : ∀ A' c' w', w'.ownsRow base 5 1 (.slice A' (n + 1) c') (n + 1) (ubs (L ++ [y])) → w.grownBy w' v.ownBlock → wpList Try.prog ops Q rest (a.put o.dst (.slice A' (n + 1) c')) w') :
    wpList Try.prog ops Q (o :: rest) a w := by
  subst hz
  obtain ⟨i0, hi, hz0, hz1, hz2⟩ := info_parts infoU
  refine wpList_append_own w hgd s x 22 ho base 5 i0 (.int .u8 0) 1 1 Try.underlying22 hi hz0 hz1 hz2 rfl (by decide) v n (ubs L) hs hown ⟨g, 0, none⟩ 1 1 [.int .u8 (y.toNat : Int)] hx rfl ?_ ?_ ?_ ?_ hbase ?_
  · intro j u hu
    match j, hu with
    | 0, hu =>
      rw [Addr.add_zero', hc]
      simpa using hu
  · intro u hu
    simp at hu
    subst hu
    rfl
  · unfold maxLen; omega
  · omega
  · intro v' w' hown' hg _
    rw [ubs_snoc] at hown'
    obtain ⟨A', c', rfl⟩ := own_form hown'
    exact h A' c' w' hown' hg
/-- letters made a text -/
theorem run_text {w : World} {base n c : Nat} {A : Option Addr} {L : List UInt8} (hn : L.length = n) (h : w.ownsRow base 5 1 (.slice A n c) n (ubs L)) : (convert 22 9 (.slice A n c)).run Try.prog w = .ok (.string (bsL L)) w := by
  rcases Nat.eq_zero_or_pos n with h0 | h0
  · subst h0
    have : L = [] := List.length_eq_zero_iff.1 hn
    subst this
    cases A with
    | none => rw [run_convert_bytes_string w _ _ 5 none 0 c Try.underlying22 (by kernel_rfl) (by kernel_rfl)]; rfl
    | some a => exact run_convert_bytes_back w _ _ 5 a c [] Try.underlying22 (by kernel_rfl) (by kernel_rfl) (fun j hj => by simp at hj)
  · obtain ⟨g, cap, hv, hb, hlt⟩ := h.form h0
    cases hv
    subst hn
    exact run_convert_bytes_back w _ _ 5 ⟨g, 0, none⟩ c L Try.underlying22 (by kernel_rfl) (by kernel_rfl) (fun j hj => by
      rw [Addr.add_lit, Nat.zero_add, h.cellAt j (by omega)]
      simp [ubs, hj])
end Go.Proofs.Ytfkkbjbgjmaciaa

/- The word of a matrix: mathematics. -/
namespace Go.Proofs.Ytfkkbjbgjmaciaa
set_option linter.unusedVariables false

/-- the second row is not less than the first: the letter l -/
def M4.lowB (m : M4) : Bool := decide (m.a ≤ m.c ∧ m.b ≤ m.d)
theorem M4.lowB_iff {m : M4} : m.lowB = true ↔ m.a ≤ m.c ∧ m.b ≤ m.d := by unfold M4.lowB; simp
def M4.rest (m : M4) : M4 := if m.lowB = true then ⟨m.a, m.b, m.c - m.a, m.d - m.b⟩ else ⟨m.a - m.c, m.b - m.d, m.c, m.d⟩
def M4.letter (m : M4) : UInt8 := if m.lowB = true then 108 else 114
/-- the letters read off, behind L; no word if f are not enough -/
def wds : Nat → M4 → List UInt8 → List UInt8 × Bool
  | 0, m, L => if m.eqB M4.one = true then (L, true) else ([], false)
  | f + 1, m, L => if m.eqB M4.one = true then (L, true) else wds f m.rest (L ++ [m.letter])
theorem wds_done {f : Nat} {m : M4} {L : List UInt8} (h : m.eqB M4.one = true) : wds f m L = (L, true) := by
  cases f <;> simp [wds, h]
theorem wds_out {m : M4} {L : List UInt8} (h : m.eqB M4.one = false) : wds 0 m L = ([], false) := by simp [wds, h]
theorem wds_next {f : Nat} {m : M4} {L : List UInt8} (h : m.eqB M4.one = false) : wds (f + 1) m L = wds f m.rest (L ++ [m.letter]) := by simp [wds, h]

/-- a matrix of numbers of at least 0 -/
structure Nn (m : M4) : Prop where
  a0 : 0 ≤ m.a
  b0 : 0 ≤ m.b
  c0 : 0 ≤ m.c
  d0 : 0 ≤ m.d
  a9 : m.a ≤ 1000000000
  b9 : m.b ≤ 1000000000
  c9 : m.c ≤ 1000000000
  d9 : m.d ≤ 1000000000
  det : m.a * m.d - m.b * m.c = 1
theorem nn_high {m : M4} (h : Nn m) (hl : m.lowB = false) (h1 : m.eqB M4.one = false) : m.c ≤ m.a ∧ m.d ≤ m.b := by
  obtain ⟨a, b, c, d⟩ := m
  obtain ⟨h0, h2, h3, h4, _, _, _, _, hd⟩ := h
  have hn : ¬(a ≤ c ∧ b ≤ d) := fun e => by
    have := M4.lowB_iff (m := ⟨a, b, c, d⟩).2 e
    rw [hl] at this
    cases this
  have hne : ¬(a = 1 ∧ b = 0 ∧ c = 0 ∧ d = 1) := fun e => by
    have : M4.eqB ⟨a, b, c, d⟩ M4.one = true := M4.eqB_iff.2 (M4.same e.1 e.2.1 e.2.2.1 e.2.2.2)
    rw [h1] at this
    cases this
  dsimp only at *
  by_cases hac : c ≤ a
  · by_cases hbd : d ≤ b
    · exact ⟨hac, hbd⟩
    · exfalso
      by_cases hlt : c < a
      · have e : (c + 1) * (b + 1) ≤ a * d := Int.mul_le_mul (by omega) (by omega) (by omega) (by omega)
        have e2 : (c + 1) * (b + 1) = b * c + b + c + 1 := by rw [Int.add_mul, Int.mul_add, Int.mul_comm c b]; omega
        have hb : b = 0 := by omega
        have hc : c = 0 := by omega
        subst hb
        subst hc
        simp at hd
        have ha1 : 1 ≤ a := by omega
        have hd1 : 1 ≤ d := by omega
        have e3 : a * 1 ≤ a * d := Int.mul_le_mul_of_nonneg_left hd1 h0
        have e4 : 1 * d ≤ a * d := Int.mul_le_mul_of_nonneg_right ha1 h4
        exact hne ⟨by omega, rfl, rfl, by omega⟩
      · exact hn ⟨by omega, by omega⟩
  · exfalso
    have hbd : ¬b ≤ d := fun e => hn ⟨by omega, e⟩
    have e : (a + 1) * (d + 1) ≤ c * b := Int.mul_le_mul (by omega) (by omega) (by omega) (by omega)
    have e2 : (a + 1) * (d + 1) = a * d + a + d + 1 := by rw [Int.add_mul, Int.mul_add]; omega
    have e3 : c * b = b * c := Int.mul_comm c b
    omega
theorem nn_low {m : M4} (h : Nn m) (hl : m.lowB = true) : ¬(m.c ≤ m.a ∧ m.d ≤ m.b) := fun ⟨h1, h2⟩ => by
  obtain ⟨h3, h4⟩ := M4.lowB_iff.1 hl
  have e1 : m.a = m.c := by omega
  have e2 : m.b = m.d := by omega
  have hd := h.det
  rw [e1, e2, Int.mul_comm m.c m.d, Int.sub_self] at hd
  cases hd
theorem nn_rest {m : M4} (h : Nn m) (h1 : m.eqB M4.one = false) : Nn m.rest := by
  cases hl : m.lowB
  · obtain ⟨h2, h3⟩ := nn_high h hl h1
    obtain ⟨a0, b0, c0, d0, a9, b9, c9, d9, hd⟩ := h
    unfold M4.rest
    rw [hl]
    refine ⟨?_, ?_, c0, d0, ?_, ?_, c9, d9, ?_⟩
    all_goals simp only [Bool.false_eq_true, if_false]
    · omega
    · omega
    · omega
    · omega
    · rw [Int.sub_mul, Int.sub_mul, Int.mul_comm m.d m.c]
      omega
  · obtain ⟨h2, h3⟩ := M4.lowB_iff.1 hl
    obtain ⟨a0, b0, c0, d0, a9, b9, c9, d9, hd⟩ := h
    unfold M4.rest
    rw [hl]
    refine ⟨a0, b0, ?_, ?_, a9, b9, ?_, ?_, ?_⟩
    all_goals simp only [if_true]
    · omega
    · omega
    · omega
    · omega
    · rw [Int.mul_sub, Int.mul_sub, Int.mul_comm m.b m.a]
      omega
theorem nn_of {a b c d : Int} (h : mxB a b c d = true) (h0 : 0 ≤ a ∧ 0 ≤ b ∧ 0 ≤ c ∧ 0 ≤ d) : Nn ⟨a, b, c, d⟩ := by
  obtain ⟨⟨h1, h2, h3, h4⟩, h5⟩ := mxB_iff.1 h
  exact ⟨h0.1, h0.2.1, h0.2.2.1, h0.2.2.2, h1.2, h2.2, h3.2, h4.2, h5⟩
/-- the answer -/
def womB (a b c d : Int) : Bool := mxB a b c d && decide (0 ≤ a ∧ 0 ≤ b ∧ 0 ≤ c ∧ 0 ≤ d)
def womR (a b c d : Int) : List UInt8 × Bool := if womB a b c d = true then wds 40 ⟨a, b, c, d⟩ [] else ([], false)
theorem womR_no {a b c d : Int} (h : womB a b c d = false) : womR a b c d = ([], false) := by unfold womR; rw [h]; rfl
theorem womR_yes {a b c d : Int} (h : womB a b c d = true) : womR a b c d = wds 40 ⟨a, b, c, d⟩ [] := by unfold womR; rw [h]; rfl
end Go.Proofs.Ytfkkbjbgjmaciaa

/- The model's size of a number. -/
namespace Go.Proofs.Ytfkkbjbgjmaciaa
set_option linter.unusedVariables false
open Go.RowKit

theorem spec_l1MostA (a b : Int) (w : World) : Calls Try.prog 179 #[.int .i64 a, .int .i64 b] w fun e w' => e = .returned (.int .i64 (if b < a then a else b)) ∧ w = w' := by
  go_enter Try.func179, Try.ntmps179
  go_wp2
  all_goals go_ret
  all_goals refine ⟨ret_int ?_, rfl⟩
  all_goals (repeat' split) <;> omega
theorem spec_l1Abs (n : Int) (w : World) (h : -9000000000000000000 ≤ n) (h2 : n ≤ 9000000000000000000) : Calls Try.prog 146 #[.int .i64 n] w fun e w' => e = .returned (.int .i64 (if n < 0 then -n else n)) ∧ w = w' := by
  obtain ⟨v, hv⟩ : ∃ v, v = (if n < 0 then -n else n) := ⟨_, rfl⟩
  rw [← hv]
  have e1 := Lib.hid (show (if -n < n then n else -n) = v by rw [hv]; (repeat' split) <;> omega)
  clear hv
  go_enter Try.func146, Try.ntmps146
  go_wp2_with fail
  refine (spec_l1MostA n (-n) _).mono ?_
  rintro e w1 ⟨rfl, rfl⟩
  rw [e1.out]
  go_wp2
  go_ret
  exact ⟨rfl, rfl⟩
end Go.Proofs.Ytfkkbjbgjmaciaa

/- IsMatrix, InverseMatrix, NegateMatrix, TraceOf, FixedSign: the model's and the program's contracts, and the laws' walks. -/
namespace Go.Proofs.Ytfkkbjbgjmaciaa
set_option linter.unusedVariables false
open Go.RowKit

theorem impl_InverseMatrix_no (a b c d : Int) (w : World) (h : mxB a b c d = false) :
    Calls Try.prog 64 #[.agg #[.int .i64 a, .int .i64 b, .int .i64 c, .int .i64 d]] w fun r w' => r = .returned (.tuple #[.agg #[.int .i64 0, .int .i64 0, .int .i64 0, .int .i64 0], .bool false]) ∧ Below w.heap.size w w' := by
  have hc := impl_IsMatrix a b c d
  rw [h] at hc
  have Hc := Lib.hid hc
  clear hc h
  go_enter Try.func64, Try.ntmps64
  go_wp2_with fail
  refine (Hc.out _).mono ?_
  rintro e w1 ⟨rfl, hb1⟩
  obtain ⟨hc1, hf1, hz1⟩ := bcell hb1
  have hy1 : w.heap.size + 1 < w1.heap.size := by simp at hz1; omega
  have hy0 : w.heap.size < w1.heap.size := by omega
  have hd := (below2 w _ _).trans (hb1.mono (by simp; omega))
  clear hb1 Hc
  go_wp2
  exact bodyPost_ret (v := .tuple #[.agg #[.int .i64 0, .int .i64 0, .int .i64 0, .int .i64 0], .bool false]) (by simp [results, Try.results64, go_sem, hc1, hf1, hy0, hy1]) rfl ⟨rfl, below_set4 hd (by omega)⟩
theorem impl_InverseMatrix_yes (a b c d : Int) (w : World) (h : mxB a b c d = true) :
    Calls Try.prog 64 #[.agg #[.int .i64 a, .int .i64 b, .int .i64 c, .int .i64 d]] w fun r w' => r = .returned (.tuple #[.agg #[.int .i64 d, .int .i64 (-b), .int .i64 (-c), .int .i64 a], .bool true]) ∧ Below w.heap.size w w' := by
  have hc := impl_IsMatrix a b c d
  rw [h] at hc
  have Hc := Lib.hid hc
  obtain ⟨⟨-, hbb, hcc, -⟩, -⟩ := mxB_iff.1 h
  have Hi := Lib.hid (fun w => impl_inverse a b c d w hbb hcc)
  have hok : mxB d (-b) (-c) a = true := M4.inv_ok (m := ⟨a, b, c, d⟩) h
  have Hm := Lib.hid (fun w => impl_matrixOf_yes d (-b) (-c) a w hok)
  clear hc h hbb hcc hok
  go_enter Try.func64, Try.ntmps64
  go_wp2_with fail
  refine (Hc.out _).mono ?_
  rintro e w1 ⟨rfl, hb1⟩
  obtain ⟨hc1, hf1, hz1⟩ := bcell hb1
  have hy1 : w.heap.size + 1 < w1.heap.size := by simp at hz1; omega
  have hy0 : w.heap.size < w1.heap.size := by omega
  have hd := (below2 w _ _).trans (hb1.mono (by simp; omega))
  clear hb1 Hc
  go_wp2_with fail
  refine (impl_squareOf a b c d _).mono ?_
  rintro e w2 ⟨rfl, hb2⟩
  obtain ⟨hc2, hf2, hz2⟩ := bcell hb2
  have hy3 : w.heap.size + 1 < w2.heap.size := by omega
  have hy2 : w.heap.size < w2.heap.size := by omega
  replace hd := below_kept hd (Nat.le_refl _) hb2
  clear hb2
  go_wp2_with fail
  refine (Hi.out _).mono ?_
  rintro e w3 ⟨rfl, hb3⟩
  obtain ⟨hc3, hf3, hz3⟩ := bcell hb3
  have hy5 : w.heap.size + 1 < w3.heap.size := by omega
  have hy4 : w.heap.size < w3.heap.size := by omega
  replace hd := below_kept hd (Nat.le_refl _) hb3
  clear hb3 Hi
  go_wp2_with fail
  refine (Hm.out _).mono ?_
  rintro e w4 ⟨rfl, hb4⟩
  obtain ⟨hc4, hf4, hz4⟩ := bcell hb4
  have hy7 : w.heap.size + 1 < w4.heap.size := by omega
  have hy6 : w.heap.size < w4.heap.size := by omega
  replace hd := below_kept hd (Nat.le_refl _) hb4
  clear hb4 Hm
  go_wp2
  exact bodyPost_ret (v := .tuple #[.agg #[.int .i64 d, .int .i64 (-b), .int .i64 (-c), .int .i64 a], .bool true]) (by simp [results, Try.results64, go_sem, hc1, hf1, hy0, hy1, hc2, hf2, hy2, hy3, hc3, hf3, hc4, hf4, hy4, hy5, hy6, hy7]) rfl ⟨rfl, below_set4 hd (by omega)⟩
/-- the sign of the square of the trace less 4 -/
def fxR (t : Int) : Int := if t < -2 ∨ 2 < t then 1 else if -2 < t ∧ t < 2 then -1 else 0
end Go.Proofs.Ytfkkbjbgjmaciaa

/- The program's greatest common divisor. -/
namespace Go.Proofs.Ytfkkbjbgjmaciaa
set_option linter.unusedVariables false
open Go.RowKit

set_option maxHeartbeats 800000 in
theorem impl_greatestDivisor (a b : Nat) (w : World) (ha : a ≤ 1000000) (hb0 : b ≤ 1000000) :
    Calls Try.prog 147 #[.int .i64 a, .int .i64 b] w fun e w' => e = .returned (.int .i64 (Nat.gcd a b)) ∧ Below w.heap.size w w' := by
  go_enter Try.func147, Try.ntmps147
  go_wp2
  go_loopw [0, 1] (fun p q wr => ∃ x y : Nat, x ≤ 1000000 ∧ y ≤ 1000000 ∧ p = .int .i64 x ∧ q = .int .i64 y ∧ Nat.gcd x y = Nat.gcd a b ∧ Below w.heap.size w wr) (fun _ q _ => (intOf q).toNat)
  case atStart => exact ⟨a, b, ha, hb0, rfl, rfl, rfl, Below.refl _ _⟩
  case round =>
    obtain ⟨x, y, hx, hy, rfl, rfl, hg, hb⟩ := hrel
    by_cases h0 : 0 < y
    · have hst := gcd_step x y h0
      have hlt := Nat.mod_lt x h0
      have hE : Nat.gcd y (x % y) = Nat.gcd a b := hst.trans hg
      have HE := Lib.hid hE
      have y1 : (1 : Int) ≤ (y : Int) := by omega
      have y2 : ¬ y = 0 := by omega
      have y3 : ((y : Int) != 0) = true := by rw [bne_iff_ne]; omega
      have x1 : (0 : Int) ≤ (x : Int) := by omega
      have Hlt := Lib.hid hlt
      have hm1 : (x : Int).tmod (y : Int) = ((x % y : Nat) : Int) := rfl
      have hm2 : (x : Int) % (y : Int) = ((x % y : Nat) : Int) := rfl
      clear hst hg hlt hE
      generalize x % y = r at *
      go_wp2
      go_quiet (fail)
      clear hm1 hm2
      go_wp2
      go_roundw
      case rel => exact ⟨y, r, hy, by have := Hlt.out; omega, rfl, rfl, HE.out, below_drewN hb _⟩
      case measure => have := Hlt.out; simp [intOf]; omega
    · obtain rfl : y = 0 := by omega
      have hE : Nat.gcd a b = x := by rw [← hg, Nat.gcd_zero_right]
      have HE := Lib.hid hE
      clear hE hg
      go_wp2
      go_ret
      exact ⟨ret_int (by rw [HE.out]), hb⟩
end Go.Proofs.Ytfkkbjbgjmaciaa

/- What a fraction is: the model's test and the program's. -/
namespace Go.Proofs.Ytfkkbjbgjmaciaa
set_option linter.unusedVariables false
open Go.RowKit

theorem below_two (w : World) (x y : Obj) : Below w.heap.size w ((w.alloc x).alloc y) := ((Below.refl _ _).alloc (Nat.le_refl _) _).alloc (by simp) _
theorem below_one (w : World) (x : Obj) : Below w.heap.size w (w.alloc x) := (Below.refl _ _).alloc (Nat.le_refl _) _
/-- a fraction -/
def nbB (a b : Int) : Bool := decide (0 ≤ a ∧ a ≤ 1000000) && decide (0 ≤ b ∧ b ≤ 1000000) && decide (Nat.gcd a.toNat b.toNat = 1)
theorem nbB_iff {a b : Int} : nbB a b = true ↔ (0 ≤ a ∧ a ≤ 1000000) ∧ (0 ≤ b ∧ b ≤ 1000000) ∧ Nat.gcd a.toNat b.toNat = 1 := by
  unfold nbB
  rw [Bool.and_eq_true, Bool.and_eq_true, decide_eq_true_eq, decide_eq_true_eq, decide_eq_true_eq, and_assoc]
theorem nbB_gcd (x y : Nat) (hx : x ≤ 1000000) (hy : y ≤ 1000000) : nbB (x : Int) (y : Int) = decide (((Nat.gcd x y : Nat) : Int) = 1) := by
  rw [Bool.eq_iff_iff, nbB_iff, decide_eq_true_eq]
  simp only [Int.toNat_natCast]
  omega
theorem inB_iff2 {n lo hi : Int} : inB n lo hi = true ↔ lo ≤ n ∧ n ≤ hi := by unfold inB; simp

set_option maxHeartbeats 800000 in
theorem spec_nbGood (a b : Int) (w : World) :
    Calls Try.prog 145 #[.agg #[.int .i64 a, .int .i64 b]] w fun e w' => e = .returned (.bool (nbB a b)) ∧ Below w.heap.size w w' := by
  have hd0 := Lib.hid ((Below.refl w.heap.size w).alloc (Nat.le_refl _) (.cells #[.int .i64 a, .int .i64 b] 61))
  go_enter Try.func145, Try.ntmps145
  go_wp2_with fail
  refine (spec_l1In' _ _ _ _).mono ?_
  rintro e w1 ⟨rfl, rfl⟩
  cases ha : inB a 0 1000000
  · have HE := Lib.hid (show nbB a b = false by rw [Bool.eq_false_iff]; intro e; rw [inB_iff2.2 (nbB_iff.1 e).1] at ha; cases ha)
    clear ha
    go_wp2
    go_ret
    exact ⟨ret_bool HE.out.symm, hd0.out⟩
  · go_wp2_with fail
    refine (spec_l1In' _ _ _ _).mono ?_
    rintro e w1 ⟨rfl, rfl⟩
    cases hbb : inB b 0 1000000
    · have HE := Lib.hid (show nbB a b = false by rw [Bool.eq_false_iff]; intro e; rw [inB_iff2.2 (nbB_iff.1 e).2.1] at hbb; cases hbb)
      clear ha hbb
      go_wp2
      go_ret
      exact ⟨ret_bool HE.out.symm, hd0.out⟩
    · obtain ⟨a1, a2⟩ := inB_iff2.1 ha
      obtain ⟨b1, b2⟩ := inB_iff2.1 hbb
      obtain ⟨x0, rfl⟩ := Int.eq_ofNat_of_zero_le (show 0 ≤ a by omega)
      obtain ⟨y0, rfl⟩ := Int.eq_ofNat_of_zero_le (show 0 ≤ b by omega)
      have x6 : x0 ≤ 1000000 := by omega
      have y6 : y0 ≤ 1000000 := by omega
      have HE := Lib.hid (nbB_gcd x0 y0 x6 y6)
      clear ha hbb
      go_wp2
      go_quiet (fail)
      go_wp2
      go_loopw [3, 4] (fun p q wr => ∃ x y : Nat, x ≤ 1000000 ∧ y ≤ 1000000 ∧ p = .int .i64 x ∧ q = .int .i64 y ∧ Nat.gcd x y = Nat.gcd x0 y0 ∧ Below w.heap.size w wr) (fun _ q _ => (intOf q).toNat)
      case atStart => exact ⟨x0, y0, x6, y6, rfl, rfl, rfl, below_drewN hd0.out _⟩
      case round =>
        clear a1 a2 b1 b2 hd0
        obtain ⟨x, y, hx, hy, rfl, rfl, hg, hb⟩ := hrel
        by_cases h0 : 0 < y
        · have hst := gcd_step x y h0
          have hlt := Nat.mod_lt x h0
          have hE : Nat.gcd y (x % y) = Nat.gcd x0 y0 := hst.trans hg
          have HE1 := Lib.hid hE
          have y1 : (0 : Int) < (y : Int) := by omega
          have y2 : ¬ y = 0 := by omega
          have x1 : (0 : Int) ≤ (x : Int) := by omega
          have Hlt := Lib.hid hlt
          have hm1 : (x : Int).tmod (y : Int) = ((x % y : Nat) : Int) := rfl
          have hm2 : (x : Int) % (y : Int) = ((x % y : Nat) : Int) := rfl
          clear hst hg hlt hE
          generalize x % y = r at *
          go_wp2
          go_quiet (fail)
          clear hm1 hm2
          go_wp2
          go_roundw
          case rel => exact ⟨y, r, hy, by have := Hlt.out; omega, rfl, rfl, HE1.out, below_drewN hb _⟩
          case measure => have := Hlt.out; simp [intOf]; omega
        · obtain rfl : y = 0 := by omega
          have hE : Nat.gcd x0 y0 = x := by rw [← hg, Nat.gcd_zero_right]
          have HE2 := Lib.hid (HE.out.trans (by rw [hE]))
          clear hE hg HE
          go_wp2
          go_ret
          exact ⟨ret_bool (by rw [HE2.out]; rw [Bool.eq_iff_iff]; simp), hb⟩

set_option maxHeartbeats 800000 in
theorem impl_IsFraction (a b : Int) (w : World) :
    Calls Try.prog 65 #[.agg #[.int .i64 a, .int .i64 b]] w fun e w' => e = .returned (.bool (nbB a b)) ∧ Below w.heap.size w w' := by
  have hd0 := Lib.hid ((Below.refl w.heap.size w).alloc (Nat.le_refl _) (.cells #[.int .i64 a, .int .i64 b] 61))
  by_cases a1 : 0 ≤ a
  · by_cases a2 : a ≤ 1000000
    · by_cases b1 : 0 ≤ b
      · by_cases b2 : b ≤ 1000000
        · obtain ⟨x, rfl⟩ := Int.eq_ofNat_of_zero_le (show 0 ≤ a by omega)
          obtain ⟨y, rfl⟩ := Int.eq_ofNat_of_zero_le (show 0 ≤ b by omega)
          have HE := Lib.hid (nbB_gcd x y (by omega) (by omega))
          go_enter Try.func65, Try.ntmps65
          go_wp2_with fail
          refine (impl_greatestDivisor x y _ (by omega) (by omega)).mono ?_
          rintro e w1 ⟨rfl, hb⟩
          have hb2 := below_kept hd0.out (Nat.le_refl _) hb
          clear hb hd0
          generalize Nat.gcd x y = g at *
          go_wp2
          go_ret
          exact ⟨ret_bool (by rw [HE.out]; rw [Bool.eq_iff_iff]; simp), hb2⟩
        · have HE := Lib.hid (show nbB a b = false by rw [Bool.eq_false_iff]; intro e; exact b2 (nbB_iff.1 e).2.1.2)
          go_enter Try.func65, Try.ntmps65
          go_wp2
          go_ret
          exact ⟨ret_bool HE.out.symm, hd0.out⟩
      · have HE := Lib.hid (show nbB a b = false by rw [Bool.eq_false_iff]; intro e; exact b1 (nbB_iff.1 e).2.1.1)
        go_enter Try.func65, Try.ntmps65
        go_wp2
        go_ret
        exact ⟨ret_bool HE.out.symm, hd0.out⟩
    · have HE := Lib.hid (show nbB a b = false by rw [Bool.eq_false_iff]; intro e; exact a2 (nbB_iff.1 e).1.2)
      go_enter Try.func65, Try.ntmps65
      go_wp2
      go_ret
      exact ⟨ret_bool HE.out.symm, hd0.out⟩
  · have HE := Lib.hid (show nbB a b = false by rw [Bool.eq_false_iff]; intro e; exact a1 (nbB_iff.1 e).1.1)
    go_enter Try.func65, Try.ntmps65
    go_wp2
    go_ret
    exact ⟨ret_bool HE.out.symm, hd0.out⟩
end Go.Proofs.Ytfkkbjbgjmaciaa

/- MoveFraction: the model's and the program's contracts, and the law's walk. -/
namespace Go.Proofs.Ytfkkbjbgjmaciaa
set_option linter.unusedVariables false
open Go.RowKit


/-- numerator and denominator, behind the sign -/
def mvNm (x y : Int) : Int := if y < 0 ∨ (y = 0 ∧ x < 0) then -x else x
def mvDn (x y : Int) : Int := if y < 0 ∨ (y = 0 ∧ x < 0) then -y else y
def mvOk (n d : Int) : Bool := decide (-1000000000000000 ≤ n ∧ n ≤ 1000000000000000 ∧ d ≤ 1000000000000000)
def mvR (x y : Int) : Int × Int × Bool := if mvOk (mvNm x y) (mvDn x y) = true then (mvNm x y, mvDn x y, true) else (0, 0, false)
def MvE (R : Int × Int × Bool) (w : World) (e : Ending) (w' : World) : Prop := e = .returned (.tuple #[.int .i64 R.1, .int .i64 R.2.1, .bool R.2.2]) ∧ Below w.heap.size w w'
theorem mvE_no {R : Int × Int × Bool} {w w' : World} (h : R = (0, 0, false)) (hb : Below w.heap.size w w') : MvE R w (.returned (.tuple #[.int .i64 0, .int .i64 0, .bool false])) w' := by
  subst h
  exact ⟨rfl, hb⟩
theorem mvR_no {x y n d : Int} (h1 : mvNm x y = n) (h2 : mvDn x y = d) (h3 : mvOk n d = false) : mvR x y = (0, 0, false) := by
  unfold mvR
  rw [h1, h2, h3]
  rfl
theorem mvE_yes {x y n d : Int} {w w' : World} (h1 : mvNm x y = n) (h2 : mvDn x y = d) (h3 : mvOk n d = true) (hb : Below w.heap.size w w') : MvE (mvR x y) w (.returned (.tuple #[.int .i64 n, .int .i64 d, .bool true])) w' := by
  have e : mvR x y = (n, d, true) := by
    unfold mvR
    rw [h1, h2, h3]
    rfl
  rw [e]
  exact ⟨rfl, hb⟩
def mvAll (a b c d p q : Int) : Int × Int × Bool := if mxB a b c d = true ∧ nbB p q = true then mvR (a * p + b * q) (c * p + d * q) else (0, 0, false)
set_option maxHeartbeats 3200000 in
theorem spec_MoveFraction (a b c d p q : Int) (w : World) : Calls Try.prog 63 #[.agg #[.int .i64 a, .int .i64 b, .int .i64 c, .int .i64 d], .agg #[.int .i64 p, .int .i64 q]] w (MvE (mvAll a b c d p q) w) := by
  have hc := spec_mxGood a b c d
  cases hm : mxB a b c d
  · rw [hm] at hc
    have Hc := Lib.hid hc
    have hR : mvAll a b c d p q = (0, 0, false) := if_neg (by rw [hm]; simp)
    rw [hR]
    clear hc hm hR
    go_enter Try.func63, Try.ntmps63
    go_wp2_with fail
    refine (Hc.out _).mono ?_
    rintro e w1 ⟨rfl, hb1⟩
    have hd := mvE_no (R := (0, 0, false)) rfl ((below2 w _ _).trans (hb1.mono (by simp; omega)))
    clear hb1 Hc
    go_wp2
    exact bodyPost_ret (v := .tuple #[.int .i64 0, .int .i64 0, .bool false]) (by simp [results, Try.results63, go_sem]) rfl hd
  have hn := spec_nbGood p q
  cases hq : nbB p q
  · rw [hm] at hc
    rw [hq] at hn
    have Hc := Lib.hid hc
    have Hn := Lib.hid hn
    have hR : mvAll a b c d p q = (0, 0, false) := if_neg (by rw [hq]; simp)
    rw [hR]
    clear hc hm hR hn hq
    go_enter Try.func63, Try.ntmps63
    go_wp2_with fail
    refine (Hc.out _).mono ?_
    rintro e w1 ⟨rfl, hb1⟩
    obtain ⟨hc1, hf1, hz1⟩ := bcell hb1
    have hy1 : w.heap.size + 1 < w1.heap.size := by simp at hz1; omega
    have hd := (below2 w _ _).trans (hb1.mono (by simp; omega))
    clear hb1 Hc
    go_wp2_with fail
    refine (Hn.out _).mono ?_
    rintro e w2 ⟨rfl, hb2⟩
    have hd2 := mvE_no (R := (0, 0, false)) rfl (below_kept hd (Nat.le_refl _) hb2)
    clear hb2 Hn
    go_wp2
    exact bodyPost_ret (v := .tuple #[.int .i64 0, .int .i64 0, .bool false]) (by simp [results, Try.results63, go_sem]) rfl hd2
  · rw [hm] at hc
    rw [hq] at hn
    have Hc := Lib.hid hc
    have Hn := Lib.hid hn
    have hR : mvAll a b c d p q = mvR (a * p + b * q) (c * p + d * q) := if_pos ⟨hm, hq⟩
    rw [hR]
    obtain ⟨⟨ba, bb, bc, bd⟩, -⟩ := mxB_iff.1 hm
    obtain ⟨bp, bq, -⟩ := nbB_iff.1 hq
    have P1 := prodBd (P := 1000000000) (Q := 1000000) ba (y := p) (by omega)
    have P2 := prodBd (P := 1000000000) (Q := 1000000) bb (y := q) (by omega)
    have P3 := prodBd (P := 1000000000) (Q := 1000000) bc (y := p) (by omega)
    have P4 := prodBd (P := 1000000000) (Q := 1000000) bd (y := q) (by omega)
    have Q1 : -1000000000000000 ≤ a * p ∧ a * p ≤ 1000000000000000 := by omega
    have Q2 : -1000000000000000 ≤ b * q ∧ b * q ≤ 1000000000000000 := by omega
    have Q3 : -1000000000000000 ≤ c * p ∧ c * p ≤ 1000000000000000 := by omega
    have Q4 : -1000000000000000 ≤ d * q ∧ d * q ≤ 1000000000000000 := by omega
    obtain ⟨q1, q2⟩ := Q1
    obtain ⟨q3, q4⟩ := Q2
    obtain ⟨q5, q6⟩ := Q3
    obtain ⟨q7, q8⟩ := Q4
    have wx : IntKind.i64.wrap (a * p + b * q) = a * p + b * q := IntWalk.i64_in _ (by omega)
    have wy : IntKind.i64.wrap (c * p + d * q) = c * p + d * q := IntWalk.i64_in _ (by omega)
    have w1' : IntKind.i64.wrap (a * p) = a * p := IntWalk.i64_in _ (by omega)
    have w2' : IntKind.i64.wrap (b * q) = b * q := IntWalk.i64_in _ (by omega)
    have w3' : IntKind.i64.wrap (c * p) = c * p := IntWalk.i64_in _ (by omega)
    have w4' : IntKind.i64.wrap (d * q) = d * q := IntWalk.i64_in _ (by omega)
    clear hc hm hR hn hq P1 P2 P3 P4 ba bb bc bd bp bq
    go_enter Try.func63, Try.ntmps63
    go_wp2_with fail
    refine (Hc.out _).mono ?_
    rintro e w1 ⟨rfl, hb1⟩
    obtain ⟨hc1, hf1, hz1⟩ := bcell hb1
    have hy1 : w.heap.size + 1 < w1.heap.size := by simp at hz1; omega
    have hy0 : w.heap.size < w1.heap.size := by omega
    have hd := (below2 w _ _).trans (hb1.mono (by simp; omega))
    have A := Bx.kept (by simp [Bx, go_sem] : Bx ((w.alloc (.cells #[.int .i64 a, .int .i64 b, .int .i64 c, .int .i64 d] 53)).alloc (.cells #[.int .i64 p, .int .i64 q] 61)) w.heap.size a b c d) hb1
    have B0 := cell_kept hb1 (by simp [go_sem] : ((w.alloc (.cells #[.int .i64 a, .int .i64 b, .int .i64 c, .int .i64 d] 53)).alloc (.cells #[.int .i64 p, .int .i64 q] 61)).cell? ⟨w.heap.size + 1, 0, none⟩ = some (.int .i64 p))
    have B1 := cell_kept hb1 (by simp [go_sem] : ((w.alloc (.cells #[.int .i64 a, .int .i64 b, .int .i64 c, .int .i64 d] 53)).alloc (.cells #[.int .i64 p, .int .i64 q] 61)).cell? ⟨w.heap.size + 1, 1, none⟩ = some (.int .i64 q))
    clear hb1 Hc hc1 hf1 hz1
    go_wp2_with fail
    refine (Hn.out _).mono ?_
    rintro e w2 ⟨rfl, hb2⟩
    replace A := A.kept hb2
    replace B0 := cell_kept hb2 B0
    replace B1 := cell_kept hb2 B1
    have Hd := Lib.hid (below_kept hd (Nat.le_refl _) hb2)
    obtain ⟨A0, A1, A2, A3⟩ := A
    clear hb2 Hn hd hy1 hy0
    go_wp2
    go_quiet (fail)
    clear A0 A1 A2 A3 B0 B1 wx wy w1' w2' w3' w4'
    have xb : -2000000000000000 ≤ a * p + b * q ∧ a * p + b * q ≤ 2000000000000000 := by omega
    have yb : -2000000000000000 ≤ c * p + d * q ∧ c * p + d * q ≤ 2000000000000000 := by omega
    obtain ⟨x1, x2⟩ := xb
    obtain ⟨y1, y2⟩ := yb
    clear q1 q2 q3 q4 q5 q6 q7 q8
    generalize a * p + b * q = x at *
    generalize c * p + d * q = y at *
    generalize hwn : w2.drewN nq = wn at *
    have Hd2 : Hid (Below w.heap.size w wn) := Lib.hid (by rw [← hwn]; exact below_drewN Hd.out _)
    clear hwn Hd
    have h4 : y < 0 ∨ (y = 0 ∧ x < 0) ∨ (y = 0 ∧ 0 ≤ x) ∨ 0 < y := by omega
    rcases h4 with h | ⟨rfl, h⟩ | ⟨rfl, h⟩ | h
    · have E1 := Lib.hid (show mvNm x y = (-x) by unfold mvNm; rw [if_pos (by omega)])
      have E2 := Lib.hid (show mvDn x y = (-y) by unfold mvDn; rw [if_pos (by omega)])
      cases hk : mvOk (-x) (-y)
      · have hk2 : ¬ (-1000000000000000 ≤ (-x) ∧ (-x) ≤ 1000000000000000 ∧ (-y) ≤ 1000000000000000) := by unfold mvOk at hk; simpa using hk
        have HE := Lib.hid (mvE_no (mvR_no E1.out E2.out hk) (Hd2.out))
        clear hk E1 E2
        have Hl := Lib.hid (fun w => spec_l1Abs (-x) w (by omega) (by omega))
        obtain ⟨v, hv⟩ : ∃ v, v = (if (-x) < 0 then -(-x) else (-x)) := ⟨_, rfl⟩
        have hv2 : ¬ (v ≤ 1000000000000000 ∧ (-y) ≤ 1000000000000000) := by rw [hv]; split <;> omega
        rw [← hv] at Hl
        clear hv
        go_wp2_with fail
        refine (Hl.out _).mono ?_
        rintro e w3 ⟨rfl, rfl⟩
        go_wp2
        all_goals first | exact bodyPost_ret (v := .tuple #[.int .i64 0, .int .i64 0, .bool false]) (by simp [results, Try.results63, go_sem]) rfl HE.out | (exfalso; simp at *; omega)
      · have hk2 : (-1000000000000000 ≤ (-x) ∧ (-x) ≤ 1000000000000000 ∧ (-y) ≤ 1000000000000000) := by unfold mvOk at hk; simpa using hk
        have HE := Lib.hid (mvE_yes E1.out E2.out hk (Hd2.out))
        clear hk E1 E2
        have Hl := Lib.hid (fun w => spec_l1Abs (-x) w (by omega) (by omega))
        obtain ⟨v, hv⟩ : ∃ v, v = (if (-x) < 0 then -(-x) else (-x)) := ⟨_, rfl⟩
        have hv2 : (v ≤ 1000000000000000 ∧ (-y) ≤ 1000000000000000) := by rw [hv]; split <;> omega
        rw [← hv] at Hl
        clear hv
        go_wp2_with fail
        refine (Hl.out _).mono ?_
        rintro e w3 ⟨rfl, rfl⟩
        go_wp2
        all_goals first | exact bodyPost_ret (v := .tuple #[.int .i64 (-x), .int .i64 (-y), .bool true]) (by simp [results, Try.results63, go_sem]) rfl HE.out | (exfalso; simp at *; omega)
    · have E1 := Lib.hid (show mvNm x 0 = (-x) by unfold mvNm; rw [if_pos (by omega)])
      have E2 := Lib.hid (show mvDn x 0 = 0 by unfold mvDn; rw [if_pos (by omega)]; rfl)
      cases hk : mvOk (-x) 0
      · have hk2 : ¬ (-1000000000000000 ≤ (-x) ∧ (-x) ≤ 1000000000000000 ∧ 0 ≤ 1000000000000000) := by unfold mvOk at hk; simpa using hk
        have HE := Lib.hid (mvE_no (mvR_no E1.out E2.out hk) (Hd2.out))
        clear hk E1 E2
        have Hl := Lib.hid (fun w => spec_l1Abs (-x) w (by omega) (by omega))
        obtain ⟨v, hv⟩ : ∃ v, v = (if (-x) < 0 then -(-x) else (-x)) := ⟨_, rfl⟩
        have hv2 : ¬ (v ≤ 1000000000000000 ∧ 0 ≤ 1000000000000000) := by rw [hv]; split <;> omega
        rw [← hv] at Hl
        clear hv
        go_wp2_with fail
        refine (Hl.out _).mono ?_
        rintro e w3 ⟨rfl, rfl⟩
        go_wp2
        all_goals first | exact bodyPost_ret (v := .tuple #[.int .i64 0, .int .i64 0, .bool false]) (by simp [results, Try.results63, go_sem]) rfl HE.out | (exfalso; simp at *; omega)
      · have hk2 : (-1000000000000000 ≤ (-x) ∧ (-x) ≤ 1000000000000000 ∧ 0 ≤ 1000000000000000) := by unfold mvOk at hk; simpa using hk
        have HE := Lib.hid (mvE_yes E1.out E2.out hk (Hd2.out))
        clear hk E1 E2
        have Hl := Lib.hid (fun w => spec_l1Abs (-x) w (by omega) (by omega))
        obtain ⟨v, hv⟩ : ∃ v, v = (if (-x) < 0 then -(-x) else (-x)) := ⟨_, rfl⟩
        have hv2 : (v ≤ 1000000000000000 ∧ 0 ≤ 1000000000000000) := by rw [hv]; split <;> omega
        rw [← hv] at Hl
        clear hv
        go_wp2_with fail
        refine (Hl.out _).mono ?_
        rintro e w3 ⟨rfl, rfl⟩
        go_wp2
        all_goals first | exact bodyPost_ret (v := .tuple #[.int .i64 (-x), .int .i64 0, .bool true]) (by simp [results, Try.results63, go_sem]) rfl HE.out | (exfalso; simp at *; omega)
    · have E1 := Lib.hid (show mvNm x 0 = x by unfold mvNm; rw [if_neg (by omega)])
      have E2 := Lib.hid (show mvDn x 0 = 0 by unfold mvDn; rw [if_neg (by omega)])
      cases hk : mvOk x 0
      · have hk2 : ¬ (-1000000000000000 ≤ x ∧ x ≤ 1000000000000000 ∧ 0 ≤ 1000000000000000) := by unfold mvOk at hk; simpa using hk
        have HE := Lib.hid (mvE_no (mvR_no E1.out E2.out hk) (Hd2.out))
        clear hk E1 E2
        have Hl := Lib.hid (fun w => spec_l1Abs x w (by omega) (by omega))
        obtain ⟨v, hv⟩ : ∃ v, v = (if x < 0 then -x else x) := ⟨_, rfl⟩
        have hv2 : ¬ (v ≤ 1000000000000000 ∧ 0 ≤ 1000000000000000) := by rw [hv]; split <;> omega
        rw [← hv] at Hl
        clear hv
        go_wp2_with fail
        refine (Hl.out _).mono ?_
        rintro e w3 ⟨rfl, rfl⟩
        go_wp2
        all_goals first | exact bodyPost_ret (v := .tuple #[.int .i64 0, .int .i64 0, .bool false]) (by simp [results, Try.results63, go_sem]) rfl HE.out | (exfalso; simp at *; omega)
      · have hk2 : (-1000000000000000 ≤ x ∧ x ≤ 1000000000000000 ∧ 0 ≤ 1000000000000000) := by unfold mvOk at hk; simpa using hk
        have HE := Lib.hid (mvE_yes E1.out E2.out hk (Hd2.out))
        clear hk E1 E2
        have Hl := Lib.hid (fun w => spec_l1Abs x w (by omega) (by omega))
        obtain ⟨v, hv⟩ : ∃ v, v = (if x < 0 then -x else x) := ⟨_, rfl⟩
        have hv2 : (v ≤ 1000000000000000 ∧ 0 ≤ 1000000000000000) := by rw [hv]; split <;> omega
        rw [← hv] at Hl
        clear hv
        go_wp2_with fail
        refine (Hl.out _).mono ?_
        rintro e w3 ⟨rfl, rfl⟩
        go_wp2
        all_goals first | exact bodyPost_ret (v := .tuple #[.int .i64 x, .int .i64 0, .bool true]) (by simp [results, Try.results63, go_sem]) rfl HE.out | (exfalso; simp at *; omega)
    · have E1 := Lib.hid (show mvNm x y = x by unfold mvNm; rw [if_neg (by omega)])
      have E2 := Lib.hid (show mvDn x y = y by unfold mvDn; rw [if_neg (by omega)])
      cases hk : mvOk x y
      · have hk2 : ¬ (-1000000000000000 ≤ x ∧ x ≤ 1000000000000000 ∧ y ≤ 1000000000000000) := by unfold mvOk at hk; simpa using hk
        have HE := Lib.hid (mvE_no (mvR_no E1.out E2.out hk) (Hd2.out))
        clear hk E1 E2
        have Hl := Lib.hid (fun w => spec_l1Abs x w (by omega) (by omega))
        obtain ⟨v, hv⟩ : ∃ v, v = (if x < 0 then -x else x) := ⟨_, rfl⟩
        have hv2 : ¬ (v ≤ 1000000000000000 ∧ y ≤ 1000000000000000) := by rw [hv]; split <;> omega
        rw [← hv] at Hl
        clear hv
        go_wp2_with fail
        refine (Hl.out _).mono ?_
        rintro e w3 ⟨rfl, rfl⟩
        go_wp2
        all_goals first | exact bodyPost_ret (v := .tuple #[.int .i64 0, .int .i64 0, .bool false]) (by simp [results, Try.results63, go_sem]) rfl HE.out | (exfalso; simp at *; omega)
      · have hk2 : (-1000000000000000 ≤ x ∧ x ≤ 1000000000000000 ∧ y ≤ 1000000000000000) := by unfold mvOk at hk; simpa using hk
        have HE := Lib.hid (mvE_yes E1.out E2.out hk (Hd2.out))
        clear hk E1 E2
        have Hl := Lib.hid (fun w => spec_l1Abs x w (by omega) (by omega))
        obtain ⟨v, hv⟩ : ∃ v, v = (if x < 0 then -x else x) := ⟨_, rfl⟩
        have hv2 : (v ≤ 1000000000000000 ∧ y ≤ 1000000000000000) := by rw [hv]; split <;> omega
        rw [← hv] at Hl
        clear hv
        go_wp2_with fail
        refine (Hl.out _).mono ?_
        rintro e w3 ⟨rfl, rfl⟩
        go_wp2
        all_goals first | exact bodyPost_ret (v := .tuple #[.int .i64 x, .int .i64 y, .bool true]) (by simp [results, Try.results63, go_sem]) rfl HE.out | (exfalso; simp at *; omega)
set_option maxHeartbeats 3200000 in
theorem impl_MoveFraction (a b c d p q : Int) (w : World) : Calls Try.prog 62 #[.agg #[.int .i64 a, .int .i64 b, .int .i64 c, .int .i64 d], .agg #[.int .i64 p, .int .i64 q]] w (MvE (mvAll a b c d p q) w) := by
  have hc := impl_IsMatrix a b c d
  cases hm : mxB a b c d
  · rw [hm] at hc
    have Hc := Lib.hid hc
    have hR : mvAll a b c d p q = (0, 0, false) := if_neg (by rw [hm]; simp)
    rw [hR]
    clear hc hm hR
    go_enter Try.func62, Try.ntmps62
    go_wp2_with fail
    refine (Hc.out _).mono ?_
    rintro e w1 ⟨rfl, hb1⟩
    have hd := mvE_no (R := (0, 0, false)) rfl ((below2 w _ _).trans (hb1.mono (by simp; omega)))
    clear hb1 Hc
    go_wp2
    exact bodyPost_ret (v := .tuple #[.int .i64 0, .int .i64 0, .bool false]) (by simp [results, Try.results62, go_sem]) rfl hd
  have hn := impl_IsFraction p q
  cases hq : nbB p q
  · rw [hm] at hc
    rw [hq] at hn
    have Hc := Lib.hid hc
    have Hn := Lib.hid hn
    have hR : mvAll a b c d p q = (0, 0, false) := if_neg (by rw [hq]; simp)
    rw [hR]
    clear hc hm hR hn hq
    go_enter Try.func62, Try.ntmps62
    go_wp2_with fail
    refine (Hc.out _).mono ?_
    rintro e w1 ⟨rfl, hb1⟩
    obtain ⟨hc1, hf1, hz1⟩ := bcell hb1
    have hy1 : w.heap.size + 1 < w1.heap.size := by simp at hz1; omega
    have hd := (below2 w _ _).trans (hb1.mono (by simp; omega))
    clear hb1 Hc
    go_wp2_with fail
    refine (Hn.out _).mono ?_
    rintro e w2 ⟨rfl, hb2⟩
    have hd2 := mvE_no (R := (0, 0, false)) rfl (below_kept hd (Nat.le_refl _) hb2)
    clear hb2 Hn
    go_wp2
    exact bodyPost_ret (v := .tuple #[.int .i64 0, .int .i64 0, .bool false]) (by simp [results, Try.results62, go_sem]) rfl hd2
  · rw [hm] at hc
    rw [hq] at hn
    have Hc := Lib.hid hc
    have Hn := Lib.hid hn
    have hR : mvAll a b c d p q = mvR (a * p + b * q) (c * p + d * q) := if_pos ⟨hm, hq⟩
    rw [hR]
    obtain ⟨⟨ba, bb, bc, bd⟩, -⟩ := mxB_iff.1 hm
    obtain ⟨bp, bq, -⟩ := nbB_iff.1 hq
    have P1 := prodBd (P := 1000000000) (Q := 1000000) ba (y := p) (by omega)
    have P2 := prodBd (P := 1000000000) (Q := 1000000) bb (y := q) (by omega)
    have P3 := prodBd (P := 1000000000) (Q := 1000000) bc (y := p) (by omega)
    have P4 := prodBd (P := 1000000000) (Q := 1000000) bd (y := q) (by omega)
    have Q1 : -1000000000000000 ≤ a * p ∧ a * p ≤ 1000000000000000 := by omega
    have Q2 : -1000000000000000 ≤ b * q ∧ b * q ≤ 1000000000000000 := by omega
    have Q3 : -1000000000000000 ≤ c * p ∧ c * p ≤ 1000000000000000 := by omega
    have Q4 : -1000000000000000 ≤ d * q ∧ d * q ≤ 1000000000000000 := by omega
    obtain ⟨q1, q2⟩ := Q1
    obtain ⟨q3, q4⟩ := Q2
    obtain ⟨q5, q6⟩ := Q3
    obtain ⟨q7, q8⟩ := Q4
    have wx : IntKind.i64.wrap (a * p + b * q) = a * p + b * q := IntWalk.i64_in _ (by omega)
    have wy : IntKind.i64.wrap (c * p + d * q) = c * p + d * q := IntWalk.i64_in _ (by omega)
    have w1' : IntKind.i64.wrap (a * p) = a * p := IntWalk.i64_in _ (by omega)
    have w2' : IntKind.i64.wrap (b * q) = b * q := IntWalk.i64_in _ (by omega)
    have w3' : IntKind.i64.wrap (c * p) = c * p := IntWalk.i64_in _ (by omega)
    have w4' : IntKind.i64.wrap (d * q) = d * q := IntWalk.i64_in _ (by omega)
    clear hc hm hR hn hq P1 P2 P3 P4 ba bb bc bd bp bq
    go_enter Try.func62, Try.ntmps62
    go_wp2_with fail
    refine (Hc.out _).mono ?_
    rintro e w1 ⟨rfl, hb1⟩
    obtain ⟨hc1, hf1, hz1⟩ := bcell hb1
    have hy1 : w.heap.size + 1 < w1.heap.size := by simp at hz1; omega
    have hy0 : w.heap.size < w1.heap.size := by omega
    have hd := (below2 w _ _).trans (hb1.mono (by simp; omega))
    have A := Bx.kept (by simp [Bx, go_sem] : Bx ((w.alloc (.cells #[.int .i64 a, .int .i64 b, .int .i64 c, .int .i64 d] 53)).alloc (.cells #[.int .i64 p, .int .i64 q] 61)) w.heap.size a b c d) hb1
    have B0 := cell_kept hb1 (by simp [go_sem] : ((w.alloc (.cells #[.int .i64 a, .int .i64 b, .int .i64 c, .int .i64 d] 53)).alloc (.cells #[.int .i64 p, .int .i64 q] 61)).cell? ⟨w.heap.size + 1, 0, none⟩ = some (.int .i64 p))
    have B1 := cell_kept hb1 (by simp [go_sem] : ((w.alloc (.cells #[.int .i64 a, .int .i64 b, .int .i64 c, .int .i64 d] 53)).alloc (.cells #[.int .i64 p, .int .i64 q] 61)).cell? ⟨w.heap.size + 1, 1, none⟩ = some (.int .i64 q))
    clear hb1 Hc hc1 hf1 hz1
    go_wp2_with fail
    refine (Hn.out _).mono ?_
    rintro e w2 ⟨rfl, hb2⟩
    replace A := A.kept hb2
    replace B0 := cell_kept hb2 B0
    replace B1 := cell_kept hb2 B1
    have Hd := Lib.hid (below_kept hd (Nat.le_refl _) hb2)
    obtain ⟨A0, A1, A2, A3⟩ := A
    clear hb2 Hn hd hy1 hy0
    go_upto_region 5 with fail
    clear A0 A1 A2 A3 B0 B1 wx wy w1' w2' w3' w4'
    have xb : -2000000000000000 ≤ a * p + b * q ∧ a * p + b * q ≤ 2000000000000000 := by omega
    have yb : -2000000000000000 ≤ c * p + d * q ∧ c * p + d * q ≤ 2000000000000000 := by omega
    obtain ⟨x1, x2⟩ := xb
    obtain ⟨y1, y2⟩ := yb
    clear q1 q2 q3 q4 q5 q6 q7 q8
    generalize a * p + b * q = x at *
    generalize c * p + d * q = y at *
    have h4 : y < 0 ∨ (y = 0 ∧ x < 0) ∨ (y = 0 ∧ 0 ≤ x) ∨ 0 < y := by omega
    rcases h4 with h | ⟨rfl, h⟩ | ⟨rfl, h⟩ | h
    · have E1 := Lib.hid (show mvNm x y = (-x) by unfold mvNm; rw [if_pos (by omega)])
      have E2 := Lib.hid (show mvDn x y = (-y) by unfold mvDn; rw [if_pos (by omega)])
      cases hk : mvOk (-x) (-y)
      · have hk2 : ¬ (-1000000000000000 ≤ (-x) ∧ (-x) ≤ 1000000000000000 ∧ (-y) ≤ 1000000000000000) := by unfold mvOk at hk; simpa using hk
        have HE := Lib.hid (mvE_no (mvR_no E1.out E2.out hk) (Hd.out))
        clear hk E1 E2
        go_wp2
        all_goals first | exact bodyPost_ret (v := .tuple #[.int .i64 0, .int .i64 0, .bool false]) (by simp [results, Try.results62, go_sem]) rfl HE.out | (exfalso; simp at *; omega)
      · have hk2 : (-1000000000000000 ≤ (-x) ∧ (-x) ≤ 1000000000000000 ∧ (-y) ≤ 1000000000000000) := by unfold mvOk at hk; simpa using hk
        have HE := Lib.hid (mvE_yes E1.out E2.out hk (Hd.out))
        clear hk E1 E2
        go_wp2
        all_goals first | exact bodyPost_ret (v := .tuple #[.int .i64 (-x), .int .i64 (-y), .bool true]) (by simp [results, Try.results62, go_sem]) rfl HE.out | (exfalso; simp at *; omega)
    · have E1 := Lib.hid (show mvNm x 0 = (-x) by unfold mvNm; rw [if_pos (by omega)])
      have E2 := Lib.hid (show mvDn x 0 = 0 by unfold mvDn; rw [if_pos (by omega)]; rfl)
      cases hk : mvOk (-x) 0
      · have hk2 : ¬ (-1000000000000000 ≤ (-x) ∧ (-x) ≤ 1000000000000000 ∧ 0 ≤ 1000000000000000) := by unfold mvOk at hk; simpa using hk
        have HE := Lib.hid (mvE_no (mvR_no E1.out E2.out hk) (Hd.out))
        clear hk E1 E2
        go_wp2
        all_goals first | exact bodyPost_ret (v := .tuple #[.int .i64 0, .int .i64 0, .bool false]) (by simp [results, Try.results62, go_sem]) rfl HE.out | (exfalso; simp at *; omega)
      · have hk2 : (-1000000000000000 ≤ (-x) ∧ (-x) ≤ 1000000000000000 ∧ 0 ≤ 1000000000000000) := by unfold mvOk at hk; simpa using hk
        have HE := Lib.hid (mvE_yes E1.out E2.out hk (Hd.out))
        clear hk E1 E2
        go_wp2
        all_goals first | exact bodyPost_ret (v := .tuple #[.int .i64 (-x), .int .i64 0, .bool true]) (by simp [results, Try.results62, go_sem]) rfl HE.out | (exfalso; simp at *; omega)
    · have E1 := Lib.hid (show mvNm x 0 = x by unfold mvNm; rw [if_neg (by omega)])
      have E2 := Lib.hid (show mvDn x 0 = 0 by unfold mvDn; rw [if_neg (by omega)])
      cases hk : mvOk x 0
      · have hk2 : ¬ (-1000000000000000 ≤ x ∧ x ≤ 1000000000000000 ∧ 0 ≤ 1000000000000000) := by unfold mvOk at hk; simpa using hk
        have HE := Lib.hid (mvE_no (mvR_no E1.out E2.out hk) (Hd.out))
        clear hk E1 E2
        go_wp2
        all_goals first | exact bodyPost_ret (v := .tuple #[.int .i64 0, .int .i64 0, .bool false]) (by simp [results, Try.results62, go_sem]) rfl HE.out | (exfalso; simp at *; omega)
      · have hk2 : (-1000000000000000 ≤ x ∧ x ≤ 1000000000000000 ∧ 0 ≤ 1000000000000000) := by unfold mvOk at hk; simpa using hk
        have HE := Lib.hid (mvE_yes E1.out E2.out hk (Hd.out))
        clear hk E1 E2
        go_wp2
        all_goals first | exact bodyPost_ret (v := .tuple #[.int .i64 x, .int .i64 0, .bool true]) (by simp [results, Try.results62, go_sem]) rfl HE.out | (exfalso; simp at *; omega)
    · have E1 := Lib.hid (show mvNm x y = x by unfold mvNm; rw [if_neg (by omega)])
      have E2 := Lib.hid (show mvDn x y = y by unfold mvDn; rw [if_neg (by omega)])
      cases hk : mvOk x y
      · have hk2 : ¬ (-1000000000000000 ≤ x ∧ x ≤ 1000000000000000 ∧ y ≤ 1000000000000000) := by unfold mvOk at hk; simpa using hk
        have HE := Lib.hid (mvE_no (mvR_no E1.out E2.out hk) (Hd.out))
        clear hk E1 E2
        go_wp2
        all_goals first | exact bodyPost_ret (v := .tuple #[.int .i64 0, .int .i64 0, .bool false]) (by simp [results, Try.results62, go_sem]) rfl HE.out | (exfalso; simp at *; omega)
      · have hk2 : (-1000000000000000 ≤ x ∧ x ≤ 1000000000000000 ∧ y ≤ 1000000000000000) := by unfold mvOk at hk; simpa using hk
        have HE := Lib.hid (mvE_yes E1.out E2.out hk (Hd.out))
        clear hk E1 E2
        go_wp2
        all_goals first | exact bodyPost_ret (v := .tuple #[.int .i64 x, .int .i64 y, .bool true]) (by simp [results, Try.results62, go_sem]) rfl HE.out | (exfalso; simp at *; omega)
end Go.Proofs.Ytfkkbjbgjmaciaa

/- For the law of words: mathematics. -/
namespace Go.Proofs.Ytfkkbjbgjmaciaa
set_option linter.unusedVariables false
open Go.RowKit

theorem wt_assoc (x y z : M4) : (x.mul y).mul z = x.mul (y.mul z) := by
  apply M4.same <;> simp only [M4.mul] <;> grind
theorem wt_mul_one (m : M4) : m.mul M4.one = m := by apply M4.same <;> simp [M4.mul, M4.one]
theorem wt_foldl (L : List M4) : ∀ m, L.foldl M4.mul m = m.mul (L.foldl M4.mul M4.one) := by
  induction L with
  | nil => intro m; exact (wt_mul_one m).symm
  | cons x L ih => intro m; simp only [List.foldl_cons]; rw [ih (m.mul x), ih (M4.one.mul x), M4.one_mul, wt_assoc]
theorem wordM_cons (x : Int) (l : List Int) : wordM (x :: l) = (letM x).mul (wordM l) := by
  unfold wordM prodF
  rw [List.map_cons, List.foldl_cons, wt_foldl, M4.one_mul]
theorem wordM_app (k l : List Int) : wordM (k ++ l) = (wordM k).mul (wordM l) := by
  unfold wordM prodF
  rw [List.map_append, List.foldl_append, wt_foldl]
theorem letL_mul (m : M4) : (letM 108).mul m = ⟨m.a, m.b, m.a + m.c, m.b + m.d⟩ := by
  apply M4.same <;> simp [letM, M4.mul]
theorem letR_mul (m : M4) : (letM 114).mul m = ⟨m.a + m.c, m.b + m.d, m.c, m.d⟩ := by
  apply M4.same <;> simp [letM, M4.mul]
/-- numbers of at least 0, the determinant one -/
def M4.Nd (m : M4) : Prop := (0 ≤ m.a ∧ 0 ≤ m.b ∧ 0 ≤ m.c ∧ 0 ≤ m.d) ∧ m.a * m.d - m.b * m.c = 1
theorem wordM_nd (l : List Int) (h : ∀ x ∈ l, okLet x = true) : (wordM l).Nd := by
  induction l with
  | nil => exact ⟨⟨by decide, by decide, by decide, by decide⟩, by decide⟩
  | cons x l ih =>
    obtain ⟨⟨h1, h2, h3, h4⟩, h5⟩ := ih fun y hy => h y (List.mem_cons_of_mem _ hy)
    rw [wordM_cons]
    generalize wordM l = m at *
    rcases okLet_yes (h x (List.mem_cons_self ..)) with rfl | rfl
    · rw [letL_mul]
      refine ⟨⟨h1, h2, ?_, ?_⟩, ?_⟩ <;> dsimp only
      · omega
      · omega
      · grind
    · rw [letR_mul]
      refine ⟨⟨?_, ?_, h3, h4⟩, ?_⟩ <;> dsimp only
      · omega
      · omega
      · grind
theorem M4.Nd.ad {m : M4} (h : m.Nd) : 1 ≤ m.a ∧ 1 ≤ m.d := by
  obtain ⟨⟨h1, h2, h3, h4⟩, h5⟩ := h
  have := Int.mul_nonneg h2 h3
  refine ⟨?_, ?_⟩
  · have : m.a ≠ 0 := fun e => by rw [e, Int.zero_mul] at h5; omega
    omega
  · have : m.d ≠ 0 := fun e => by rw [e, Int.mul_zero] at h5; omega
    omega
theorem wt_ge {x y : Int} (hx : 0 ≤ x) (hy : 1 ≤ y) : x ≤ x * y ∧ x ≤ y * x := by
  have h := Int.mul_le_mul_of_nonneg_left hy hx
  rw [Int.mul_one] at h
  exact ⟨h, Int.mul_comm x y ▸ h⟩
theorem nd_mul {x y : M4} (hx : x.Nd) (hy : y.Nd) :
    (x.a ≤ (x.mul y).a ∧ x.b ≤ (x.mul y).b ∧ x.c ≤ (x.mul y).c ∧ x.d ≤ (x.mul y).d) ∧ (y.a ≤ (x.mul y).a ∧ y.b ≤ (x.mul y).b ∧ y.c ≤ (x.mul y).c ∧ y.d ≤ (x.mul y).d) := by
  obtain ⟨xa, xd⟩ := hx.ad
  obtain ⟨ya, yd⟩ := hy.ad
  obtain ⟨⟨h1, h2, h3, h4⟩, _⟩ := hx
  obtain ⟨⟨g1, g2, g3, g4⟩, _⟩ := hy
  have e1 := wt_ge h1 ya
  have e2 := wt_ge h2 yd
  have e3 := wt_ge h3 ya
  have e4 := wt_ge h4 yd
  have e5 := wt_ge g1 xa
  have e6 := wt_ge g2 xa
  have e7 := wt_ge g3 xd
  have e8 := wt_ge g4 xd
  have f1 := Int.mul_nonneg h2 g3
  have f2 := Int.mul_nonneg h1 g2
  have f3 := Int.mul_nonneg h4 g3
  have f4 := Int.mul_nonneg h3 g2
  simp only [M4.mul]
  generalize x.a * y.a = p1 at *
  generalize x.a * y.b = p2 at *
  generalize x.b * y.c = p3 at *
  generalize x.b * y.d = p4 at *
  generalize x.c * y.a = p5 at *
  generalize x.c * y.b = p6 at *
  generalize x.d * y.c = p7 at *
  generalize x.d * y.d = p8 at *
  omega
/-- the letters read off are those of the word -/
def unL (bs : List UInt8) : List Int := bs.map fun b => (b.toNat : Int)
theorem wds_word : ∀ (bs : List UInt8) (f : Nat) (L : List UInt8), bs.length ≤ f → (∀ x ∈ unL bs, okLet x = true) → wds f (wordM (unL bs)) L = (L ++ bs, true) := by
  intro bs
  induction bs with
  | nil => intro f L _ _; rw [List.append_nil]; exact wds_done (M4.eqB_iff.2 rfl)
  | cons x bs ih =>
    intro f L hf h
    obtain ⟨f, rfl⟩ : ∃ f', f = f' + 1 := ⟨f - 1, by simp at hf; omega⟩
    have hl : ∀ y ∈ unL bs, okLet y = true := fun y hy => h y (List.mem_cons_of_mem _ hy)
    have ih := ih f (L ++ [x]) (by simpa using hf) hl
    obtain ⟨⟨h1, h2, h3, h4⟩, h5⟩ := wordM_nd _ hl
    have hc : wordM (unL (x :: bs)) = (letM (x.toNat : Int)).mul (wordM (unL bs)) := wordM_cons _ _
    rw [hc]
    generalize wordM (unL bs) = m at *
    obtain ⟨a, b, c, d⟩ := m
    dsimp only at h1 h2 h3 h4 h5
    have hab : ¬(a = 0 ∧ b = 0) := fun e => by rw [e.1, e.2] at h5; simp at h5
    have hx := okLet_yes (h (x.toNat : Int) (List.mem_cons_self ..))
    have hE : L ++ x :: bs = L ++ [x] ++ bs := by simp
    rw [hE]
    rcases hx with hx | hx
    · have e : x = 108 := UInt8.toNat_inj.1 (by simpa using (show x.toNat = 108 by omega))
      subst e
      rw [hx, letL_mul]
      dsimp only
      have hne : M4.eqB ⟨a, b, a + c, b + d⟩ M4.one = false := by
        rw [Bool.eq_false_iff]
        intro e
        have e := M4.eqB_iff.1 e
        injection e with e1 e2 e3 e4
        omega
      have hlow : (M4.mk a b (a + c) (b + d)).lowB = true := M4.lowB_iff.2 ⟨by dsimp only; omega, by dsimp only; omega⟩
      have hr : (M4.mk a b (a + c) (b + d)).rest = ⟨a, b, c, d⟩ := by
        unfold M4.rest
        rw [if_pos hlow]
        apply M4.same <;> dsimp only <;> omega
      have ht : (M4.mk a b (a + c) (b + d)).letter = 108 := if_pos hlow
      rw [wds_next hne, hr, ht]
      exact ih
    · have e : x = 114 := UInt8.toNat_inj.1 (by simpa using (show x.toNat = 114 by omega))
      subst e
      rw [hx, letR_mul]
      dsimp only
      have hne : M4.eqB ⟨a + c, b + d, c, d⟩ M4.one = false := by
        rw [Bool.eq_false_iff]
        intro e
        have e := M4.eqB_iff.1 e
        injection e with e1 e2 e3 e4
        omega
      have hlow : ¬ (M4.mk (a + c) (b + d) c d).lowB = true := fun e => by
        have := M4.lowB_iff.1 e
        dsimp only at this
        exact hab (by omega)
      have hr : (M4.mk (a + c) (b + d) c d).rest = ⟨a, b, c, d⟩ := by
        unfold M4.rest
        rw [if_neg hlow]
        apply M4.same <;> dsimp only <;> omega
      have ht : (M4.mk (a + c) (b + d) c d).letter = 114 := if_neg hlow
      rw [wds_next hne, hr, ht]
      exact ih
theorem wds_back : ∀ (f : Nat) (m : M4) (L R : List UInt8), wds f m L = (R, true) → ∃ bs : List UInt8, R = L ++ bs ∧ bs.length ≤ f ∧ (∀ x ∈ unL bs, okLet x = true) ∧ wordM (unL bs) = m := by
  intro f
  induction f with
  | zero =>
    intro m L R h
    cases h1 : m.eqB M4.one with
    | true =>
      rw [wds_done h1] at h
      injection h with h _
      exact ⟨[], by simp [h], Nat.le_refl _, by simp [unL], (M4.eqB_iff.1 h1).symm⟩
    | false => rw [wds_out h1] at h; injection h with _ h; cases h
  | succ f ih =>
    intro m L R h
    cases h1 : m.eqB M4.one with
    | true =>
      rw [wds_done h1] at h
      injection h with h _
      exact ⟨[], by simp [h], Nat.zero_le _, by simp [unL], (M4.eqB_iff.1 h1).symm⟩
    | false =>
      rw [wds_next h1] at h
      obtain ⟨bs, e1, e2, e3, e4⟩ := ih _ _ _ h
      refine ⟨m.letter :: bs, by rw [e1]; simp, by simpa using e2, ?_, ?_⟩
      · intro x hx
        rcases List.mem_cons.1 hx with rfl | hx
        · unfold M4.letter
          split <;> decide
        · exact e3 x hx
      · have hc : wordM (unL (m.letter :: bs)) = (letM (m.letter.toNat : Int)).mul (wordM (unL bs)) := wordM_cons _ _
        rw [hc, e4]
        cases hl : m.lowB with
        | true =>
          have ht : m.letter = 108 := if_pos hl
          have hr : m.rest = ⟨m.a, m.b, m.c - m.a, m.d - m.b⟩ := if_pos hl
          rw [ht, hr]
          show (letM 108).mul _ = m
          rw [letL_mul]
          apply M4.same <;> dsimp only <;> omega
        | false =>
          have hl' : ¬ m.lowB = true := by rw [hl]; simp
          have ht : m.letter = 114 := if_neg hl'
          have hr : m.rest = ⟨m.a - m.c, m.b - m.d, m.c, m.d⟩ := if_neg hl'
          rw [ht, hr]
          show (letM 114).mul _ = m
          rw [letR_mul]
          apply M4.same <;> dsimp only <;> omega
theorem unL_data (s : ByteArray) : unL s.data.toList = wl s := rfl
theorem bsL_data (s : ByteArray) : bsL s.data.toList = s := by
  apply ByteArray.ext
  simp [bsL]
theorem wl_bsL (bs : List UInt8) : wl (bsL bs) = unL bs := by simp [wl, bsL, unL]
theorem okW_mem {l : List Int} (h : okW l = true) : l.length ≤ 40 ∧ ∀ x ∈ l, okLet x = true := by
  unfold okW at h
  rw [Bool.and_eq_true, decide_eq_true_eq, List.all_eq_true] at h
  exact h
theorem okW_of {l : List Int} (h1 : l.length ≤ 40) (h2 : ∀ x ∈ l, okLet x = true) : okW l = true := by
  unfold okW
  rw [Bool.and_eq_true, decide_eq_true_eq, List.all_eq_true]
  exact ⟨h1, h2⟩
theorem wOk_iff {l : List Int} : wOk l = true ↔ okW l = true ∧ (wordM l).ok = true := by unfold wOk; rw [Bool.and_eq_true]
theorem wR_of {l : List Int} (h : wOk l = true) : wR l = wordM l := by
  obtain ⟨h1, h2⟩ := wOk_iff.1 h
  unfold wR
  rw [if_pos h1, M4.fit_yes h2]
/-- a word's matrix tells it -/
theorem word_tells {s : ByteArray} (h : wOk (wl s) = true) :
    womR (wR (wl s)).a (wR (wl s)).b (wR (wl s)).c (wR (wl s)).d = (s.data.toList, true) ∧ (0 ≤ (wR (wl s)).a ∧ 0 ≤ (wR (wl s)).b ∧ 0 ≤ (wR (wl s)).c ∧ 0 ≤ (wR (wl s)).d) ∧ mxB (wR (wl s)).a (wR (wl s)).b (wR (wl s)).c (wR (wl s)).d = true ∧ s.size ≤ 40 := by
  obtain ⟨h1, h2⟩ := wOk_iff.1 h
  obtain ⟨g1, g2⟩ := okW_mem h1
  have hn := wordM_nd _ g2
  rw [wR_of h]
  have hw : womB (wordM (wl s)).a (wordM (wl s)).b (wordM (wl s)).c (wordM (wl s)).d = true := by
    unfold womB
    rw [Bool.and_eq_true, decide_eq_true_eq]
    exact ⟨h2, hn.1⟩
  refine ⟨?_, hn.1, h2, by rw [wl_length] at g1; exact g1⟩
  rw [womR_yes hw]
  have := wds_word s.data.toList 40 [] (by rw [wl_length] at g1; rw [Array.length_toList]; exact g1) g2
  rw [unL_data] at this
  exact this
/-- the two parts of a word -/
theorem word_parts {k l : List Int} (h : wOk (k ++ l) = true) : wOk k = true ∧ wOk l = true ∧ (wR k).mul (wR l) = wR (k ++ l) := by
  obtain ⟨h1, h2⟩ := wOk_iff.1 h
  obtain ⟨g1, g2⟩ := okW_mem h1
  rw [List.length_append] at g1
  have k1 : ∀ x ∈ k, okLet x = true := fun x hx => g2 x (List.mem_append_left _ hx)
  have l1 : ∀ x ∈ l, okLet x = true := fun x hx => g2 x (List.mem_append_right _ hx)
  have nk := wordM_nd _ k1
  have nl := wordM_nd _ l1
  have hm := wordM_app k l
  have hg := nd_mul nk nl
  rw [← hm] at hg
  obtain ⟨⟨b1, b2, b3, b4⟩, _⟩ := M4.ok_iff.1 h2
  have nk' := nk.1
  have nl' := nl.1
  have hk : wOk k = true := wOk_iff.2 ⟨okW_of (by omega) k1, M4.ok_iff.2 ⟨by omega, nk.2⟩⟩
  have hl : wOk l = true := wOk_iff.2 ⟨okW_of (by omega) l1, M4.ok_iff.2 ⟨by omega, nl.2⟩⟩
  refine ⟨hk, hl, ?_⟩
  rw [wR_of h, wR_of hk, wR_of hl, hm]
/-- a matrix's word tells it -/
theorem wom_tells {a b c d : Int} {R : List UInt8} (h : womR a b c d = (R, true)) : wOk (wl (bsL R)) = true ∧ wR (wl (bsL R)) = ⟨a, b, c, d⟩ := by
  cases hw : womB a b c d with
  | false => rw [womR_no hw] at h; injection h with _ h; cases h
  | true =>
    rw [womR_yes hw] at h
    obtain ⟨bs, e1, e2, e3, e4⟩ := wds_back _ _ _ _ h
    have e1 : R = bs := e1
    subst e1
    have hm : mxB a b c d = true := by unfold womB at hw; rw [Bool.and_eq_true] at hw; exact hw.1
    have ho : wOk (wl (bsL R)) = true := by
      rw [wl_bsL]
      refine wOk_iff.2 ⟨okW_of (by simpa [unL] using e2) e3, ?_⟩
      rw [e4]
      exact hm
    refine ⟨ho, ?_⟩
    rw [wR_of ho, wl_bsL, e4]
/-- a fraction that is moved comes back -/
theorem mv_all {a b c d p q num den : Int} (h : mvAll a b c d p q = (num, den, true)) :
    0 ≤ den ∧ (den = 0 → num = 1) ∧ mxB a b c d = true ∧ (0 ≤ num → num ≤ 1000000 → den ≤ 1000000 → nbB num den = true ∧ mvAll d (-b) (-c) a num den = (p, q, true)) := by
  unfold mvAll at h
  by_cases hc : mxB a b c d = true ∧ nbB p q = true
  · rw [if_pos hc] at h
    obtain ⟨hm, hn⟩ := hc
    obtain ⟨⟨p0, p1⟩, ⟨q0, q1⟩, hg⟩ := nbB_iff.1 hn
    have hdet := (mxB_iff.1 hm).2
    have hp : d * (a * p + b * q) - b * (c * p + d * q) = p := by
      have : d * (a * p + b * q) - b * (c * p + d * q) = (a * d - b * c) * p := by grind
      rw [this, hdet, Int.one_mul]
    have hq : a * (c * p + d * q) - c * (a * p + b * q) = q := by
      have : a * (c * p + d * q) - c * (a * p + b * q) = (a * d - b * c) * q := by grind
      rw [this, hdet, Int.one_mul]
    generalize a * p + b * q = x at *
    generalize c * p + d * q = y at *
    unfold mvR at h
    by_cases ho : mvOk (mvNm x y) (mvDn x y) = true
    · rw [if_pos ho] at h
      injection h with h1 h2
      injection h2 with h2 _
      obtain ⟨s, hs, hnum, hden, hd0, hn0⟩ : ∃ s : Int, (s = 1 ∨ s = -1) ∧ num = s * x ∧ den = s * y ∧ 0 ≤ den ∧ (den = 0 → 0 ≤ num) := by
        unfold mvNm at h1
        unfold mvDn at h2
        by_cases hneg : y < 0 ∨ (y = 0 ∧ x < 0)
        · rw [if_pos hneg] at h1 h2
          exact ⟨-1, .inr rfl, by omega, by omega, by omega, by omega⟩
        · rw [if_neg hneg] at h1 h2
          exact ⟨1, .inl rfl, by omega, by omega, by omega, by omega⟩
      have hss : s * s = 1 := by rcases hs with rfl | rfl <;> rfl
      have hp' : p = s * (d * num - b * den) := by rw [hnum, hden]; grind
      have hq' : q = s * (a * den - c * num) := by rw [hnum, hden]; grind
      have hgcd : Int.gcd num den = 1 := by
        have d1 : ((Int.gcd num den : Nat) : Int) ∣ num := Int.gcd_dvd_left ..
        have d2 : ((Int.gcd num den : Nat) : Int) ∣ den := Int.gcd_dvd_right ..
        have d3 : ((Int.gcd num den : Nat) : Int) ∣ p := hp' ▸ Int.dvd_trans (Int.dvd_sub (Int.dvd_trans d1 (Int.dvd_mul_left _ _)) (Int.dvd_trans d2 (Int.dvd_mul_left _ _))) (Int.dvd_mul_left _ _)
        have d4 : ((Int.gcd num den : Nat) : Int) ∣ q := hq' ▸ Int.dvd_trans (Int.dvd_sub (Int.dvd_trans d2 (Int.dvd_mul_left _ _)) (Int.dvd_trans d1 (Int.dvd_mul_left _ _))) (Int.dvd_mul_left _ _)
        have d5 := Int.dvd_coe_gcd d3 d4
        have e : Int.gcd p q = 1 := by
          unfold Int.gcd
          rw [show p.natAbs = p.toNat by omega, show q.natAbs = q.toNat by omega]
          exact hg
        rw [e] at d5
        exact Nat.dvd_one.1 (Int.natCast_dvd_natCast.1 d5)
      have hone : den = 0 → num = 1 := fun e => by
        have h0 := hn0 e
        rw [e, Int.gcd_zero_right] at hgcd
        omega
      refine ⟨hd0, hone, hm, fun n0 n6 d6 => ?_⟩
      have hN : nbB num den = true := by
        refine nbB_iff.2 ⟨⟨n0, n6⟩, ⟨hd0, d6⟩, ?_⟩
        unfold Int.gcd at hgcd
        rw [show num.natAbs = num.toNat by omega, show den.natAbs = den.toNat by omega] at hgcd
        exact hgcd
      refine ⟨hN, ?_⟩
      have hi : mxB d (-b) (-c) a = true := M4.inv_ok (m := ⟨a, b, c, d⟩) hm
      have ex : d * num + -b * den = s * p := by rw [hp']; grind
      have ey : -c * num + a * den = s * q := by rw [hq']; grind
      have hq1 : q = 0 → p = 1 := fun e => by
        subst e
        rw [show (0 : Int).toNat = 0 from rfl, Nat.gcd_zero_right] at hg
        omega
      unfold mvAll
      rw [if_pos ⟨hi, hN⟩, ex, ey]
      have eN : mvNm (s * p) (s * q) = p := by
        unfold mvNm
        rcases hs with rfl | rfl
        · rw [if_neg (by omega)]; omega
        · by_cases h0 : q = 0
          · have := hq1 h0
            rw [if_pos (by omega)]; omega
          · rw [if_pos (by omega)]; omega
      have eD : mvDn (s * p) (s * q) = q := by
        unfold mvDn
        rcases hs with rfl | rfl
        · rw [if_neg (by omega)]; omega
        · by_cases h0 : q = 0
          · have := hq1 h0
            rw [if_pos (by omega)]; omega
          · rw [if_pos (by omega)]; omega
      unfold mvR
      rw [eN, eD, if_pos (by unfold mvOk; rw [decide_eq_true_eq]; omega)]
    · rw [if_neg ho] at h
      injection h with _ h; injection h with _ h; cases h
  · rw [if_neg hc] at h
    injection h with _ h; injection h with _ h; cases h
end Go.Proofs.Ytfkkbjbgjmaciaa
