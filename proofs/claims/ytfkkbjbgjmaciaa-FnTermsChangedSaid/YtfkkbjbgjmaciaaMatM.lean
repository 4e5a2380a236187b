/- Matrices of two rows and two columns: plain mathematics. -/
import Derived.Test.YtfkkbjbgjmaciaaOfM
namespace Go.Proofs.Ytfkkbjbgjmaciaa
set_option linter.unusedVariables false

/-- four numbers, row by row -/
structure M4 where
  a : Int
  b : Int
  c : Int
  d : Int

theorem M4.same {m k : M4} (h1 : m.a = k.a) (h2 : m.b = k.b) (h3 : m.c = k.c) (h4 : m.d = k.d) : m = k := by
  cases m; cases k; simp_all
def M4.one : M4 := ⟨1, 0, 0, 1⟩
def M4.zero : M4 := ⟨0, 0, 0, 0⟩
def M4.mul (m k : M4) : M4 := ⟨m.a * k.a + m.b * k.c, m.a * k.b + m.b * k.d, m.c * k.a + m.d * k.c, m.c * k.b + m.d * k.d⟩
def M4.inv (m : M4) : M4 := ⟨m.d, -m.b, -m.c, m.a⟩
/-- the same four numbers -/
def M4.eqB (m k : M4) : Bool := decide (m.a = k.a ∧ m.b = k.b ∧ m.c = k.c ∧ m.d = k.d)
theorem M4.eqB_iff {m k : M4} : m.eqB k = true ↔ m = k := by
  unfold M4.eqB
  rw [decide_eq_true_eq]
  constructor
  · rintro ⟨h1, h2, h3, h4⟩; exact M4.same h1 h2 h3 h4
  · rintro rfl; exact ⟨rfl, rfl, rfl, rfl⟩
/-- numbers of a matrix -/
def bigB (a b c d : Int) : Bool := allB [a, b, c, d] (-1000000000) 1000000000
theorem bigB_iff {a b c d : Int} : bigB a b c d = true ↔ ((-1000000000 ≤ a ∧ a ≤ 1000000000) ∧ (-1000000000 ≤ b ∧ b ≤ 1000000000) ∧ (-1000000000 ≤ c ∧ c ≤ 1000000000) ∧ (-1000000000 ≤ d ∧ d ≤ 1000000000)) := by
  unfold bigB allB
  simp
/-- a matrix -/
def mxB (a b c d : Int) : Bool := bigB a b c d && decide (a * d - b * c = 1)
theorem mxB_iff {a b c d : Int} : mxB a b c d = true ↔ ((-1000000000 ≤ a ∧ a ≤ 1000000000) ∧ (-1000000000 ≤ b ∧ b ≤ 1000000000) ∧ (-1000000000 ≤ c ∧ c ≤ 1000000000) ∧ (-1000000000 ≤ d ∧ d ≤ 1000000000)) ∧ a * d - b * c = 1 := by
  unfold mxB
  rw [Bool.and_eq_true, bigB_iff, decide_eq_true_eq]
def M4.ok (m : M4) : Bool := mxB m.a m.b m.c m.d
theorem M4.ok_iff {m : M4} : m.ok = true ↔ ((-1000000000 ≤ m.a ∧ m.a ≤ 1000000000) ∧ (-1000000000 ≤ m.b ∧ m.b ≤ 1000000000) ∧ (-1000000000 ≤ m.c ∧ m.c ≤ 1000000000) ∧ (-1000000000 ≤ m.d ∧ m.d ≤ 1000000000)) ∧ m.a * m.d - m.b * m.c = 1 := mxB_iff
/-- a product of two numbers that are not too great -/
theorem prodBd {x y P Q : Int} (hx : -P ≤ x ∧ x ≤ P) (hy : -Q ≤ y ∧ y ≤ Q) : -(P * Q) ≤ x * y ∧ x * y ≤ P * Q := by
  have hP : 0 ≤ P := by omega
  have hQ : 0 ≤ Q := by omega
  have h1 : x * y ≤ P * Q ∧ -(P * Q) ≤ x * y := by
    rcases Int.le_total 0 x with h | h
    · rcases Int.le_total 0 y with g | g
      · exact ⟨Int.mul_le_mul hx.2 hy.2 g hP, by have := Int.mul_nonneg h g; have := Int.mul_nonneg hP hQ; omega⟩
      · have e1 := Int.mul_le_mul hx.2 (show -y ≤ Q by omega) (by omega) hP
        have e2 : x * -y = -(x * y) := Int.mul_neg _ _
        have e3 := Int.mul_nonneg h (show 0 ≤ -y by omega)
        have e4 := Int.mul_nonneg hP hQ
        omega
    · rcases Int.le_total 0 y with g | g
      · have e1 := Int.mul_le_mul (show -x ≤ P by omega) hy.2 g hP
        have e2 : -x * y = -(x * y) := Int.neg_mul _ _
        have e3 := Int.mul_nonneg (show 0 ≤ -x by omega) g
        have e4 := Int.mul_nonneg hP hQ
        omega
      · have e1 := Int.mul_le_mul (show -x ≤ P by omega) (show -y ≤ Q by omega) (by omega) hP
        have e2 : -x * -y = x * y := Int.neg_mul_neg _ _
        have e3 := Int.mul_nonneg (show 0 ≤ -x by omega) (show 0 ≤ -y by omega)
        have e4 := Int.mul_nonneg hP hQ
        omega
  exact ⟨h1.2, h1.1⟩
theorem prodBig {x y : Int} (hx : -1000000000 ≤ x ∧ x ≤ 1000000000) (hy : -1000000000 ≤ y ∧ y ≤ 1000000000) : -1000000000000000000 ≤ x * y ∧ x * y ≤ 1000000000000000000 := by
  have := prodBd hx hy
  omega

/-- all numbers within P -/
def M4.In (m : M4) (P : Int) : Prop := (-P ≤ m.a ∧ m.a ≤ P) ∧ (-P ≤ m.b ∧ m.b ≤ P) ∧ (-P ≤ m.c ∧ m.c ≤ P) ∧ (-P ≤ m.d ∧ m.d ≤ P)
theorem M4.ok_in {m : M4} (h : m.ok = true) : m.In 1000000000 := (M4.ok_iff.1 h).1
theorem M4.In.mono {m : M4} {P Q : Int} (h : m.In P) (hPQ : P ≤ Q) : m.In Q := by
  obtain ⟨h1, h2, h3, h4⟩ := h
  unfold M4.In
  omega
theorem M4.In.mul {m k : M4} {P Q : Int} (hm : m.In P) (hk : k.In Q) : (m.mul k).In (2 * (P * Q)) := by
  obtain ⟨h1, h2, h3, h4⟩ := hm
  obtain ⟨k1, k2, k3, k4⟩ := hk
  have a1 := prodBd h1 k1
  have a2 := prodBd h2 k3
  have a3 := prodBd h1 k2
  have a4 := prodBd h2 k4
  have a5 := prodBd h3 k1
  have a6 := prodBd h4 k3
  have a7 := prodBd h3 k2
  have a8 := prodBd h4 k4
  unfold M4.In M4.mul
  dsimp only
  generalize P * Q = R at *
  omega
theorem M4.In.inv {m : M4} {P : Int} (hm : m.In P) : m.inv.In P := by
  obtain ⟨h1, h2, h3, h4⟩ := hm
  unfold M4.In M4.inv
  dsimp only
  omega
theorem M4.one_in : M4.one.In 1 := by unfold M4.In M4.one; dsimp only; omega
theorem M4.zero_in : M4.zero.In 0 := by unfold M4.In M4.zero; dsimp only; omega
theorem M4.one_ok : M4.one.ok = true := M4.ok_iff.2 (by unfold M4.one; dsimp only; omega)
theorem M4.zero_ok : M4.zero.ok = false := by
  cases h : M4.zero.ok
  · rfl
  · have := (M4.ok_iff.1 h).2
    simp [M4.zero] at this
theorem M4.inv_ok {m : M4} (h : m.ok = true) : m.inv.ok = true := by
  obtain ⟨h1, h2⟩ := M4.ok_iff.1 h
  refine M4.ok_iff.2 ⟨(M4.In.inv h1), ?_⟩
  unfold M4.inv
  dsimp only
  have e1 : -m.b * -m.c = m.b * m.c := Int.neg_mul_neg _ _
  have e2 : m.d * m.a = m.a * m.d := Int.mul_comm _ _
  rw [e1, e2]
  exact h2
theorem M4.one_mul (m : M4) : M4.one.mul m = m := by
  apply M4.same <;> simp [M4.mul, M4.one]
theorem M4.zero_mul (m : M4) : M4.zero.mul m = M4.zero := by
  apply M4.same <;> simp [M4.mul, M4.zero]

/-- the product, or zeros if it is no matrix -/
def M4.within (m k : M4) : M4 := if (m.mul k).ok = true then m.mul k else M4.zero
theorem M4.within_yes {m k : M4} (h : (m.mul k).ok = true) : m.within k = m.mul k := if_pos h
theorem M4.within_no {m k : M4} (h : (m.mul k).ok = false) : m.within k = M4.zero := if_neg (by rw [h]; simp)
theorem M4.zero_within (m : M4) : M4.zero.within m = M4.zero := by
  unfold M4.within
  rw [M4.zero_mul, M4.zero_ok]
  rfl
theorem M4.within_ok (m k : M4) : (m.within k).ok = (m.mul k).ok := by
  cases h : (m.mul k).ok
  · rw [M4.within_no h]; exact M4.zero_ok
  · rw [M4.within_yes h]; exact h
theorem M4.within_in (m k : M4) : (m.within k).In 1000000000 := by
  cases h : (m.mul k).ok
  · rw [M4.within_no h]; exact M4.zero_in.mono (by omega)
  · rw [M4.within_yes h]; exact M4.ok_in h
theorem M4.one_within {m : M4} (h : m.ok = true) : M4.one.within m = m := by
  rw [M4.within_yes (by rw [M4.one_mul]; exact h), M4.one_mul]
/-- a matrix, or zeros with 'no' -/
def M4.fit (m : M4) : M4 := if m.ok = true then m else M4.zero
theorem M4.fit_yes {m : M4} (h : m.ok = true) : m.fit = m := if_pos h
theorem M4.fit_no {m : M4} (h : m.ok = false) : m.fit = M4.zero := if_neg (by rw [h]; simp)

/-- powers, zeros from where on they are no matrix -/
def M4.pw (m : M4) : Nat → M4
  | 0 => M4.one
  | k + 1 => (m.pw k).within m
theorem M4.pw_succ (m : M4) (k : Nat) : m.pw (k + 1) = (m.pw k).within m := rfl
theorem M4.pw_in (m : M4) (k : Nat) : (m.pw k).In 1000000000 := by
  cases k with
  | zero => exact M4.one_in.mono (by omega)
  | succ k => exact M4.within_in _ _
theorem M4.pw_stay (m : M4) (k : Nat) (h : m.pw k = M4.zero) : ∀ j, m.pw (k + j) = M4.zero := by
  intro j
  induction j with
  | zero => exact h
  | succ j ih => rw [← Nat.add_assoc, M4.pw_succ, ih, M4.zero_within]
theorem M4.pw_no (m : M4) (k : Nat) (h : ((m.pw k).mul m).ok = false) : ∀ j, k < j → m.pw j = M4.zero := by
  intro j hj
  obtain ⟨i, rfl⟩ : ∃ i, j = (k + 1) + i := ⟨j - (k + 1), by omega⟩
  exact M4.pw_stay m (k + 1) (by rw [M4.pw_succ, M4.within_no h]) i
theorem M4.one_ne_zero : ¬ M4.zero = M4.one := by
  intro h
  have : M4.zero.a = M4.one.a := by rw [h]
  simp [M4.zero, M4.one] at this
end Go.Proofs.Ytfkkbjbgjmaciaa
