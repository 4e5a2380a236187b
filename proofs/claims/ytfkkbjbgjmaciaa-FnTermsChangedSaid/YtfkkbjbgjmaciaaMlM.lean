/- Matrices of lists of terms: plain mathematics. -/
import Derived.Test.YtfkkbjbgjmaciaaMatP
import Derived.Test.YtfkkbjbgjmaciaaContM
namespace Go.Proofs.Ytfkkbjbgjmaciaa
set_option linter.unusedVariables false

/-- the matrix of a number -/
def sqT (t : Int) : M4 := ⟨t, -1, 1, 0⟩
/-- the matrix of a list, by its continuants -/
def mlR (l : List Int) : M4 :=
  if l.length = 0 then M4.one else ⟨ctv (-1) l, -ctv (-1) (l.take (l.length - 1)), ctv (-1) (l.drop 1), if 1 < l.length then -ctv (-1) ((l.drop 1).take (l.length - 2)) else 0⟩

theorem foldSq (l : List Int) : ∀ p q : Int × Int, (l.map sqT).foldl M4.mul ⟨p.2, -p.1, q.2, -q.1⟩ = ⟨(ctF (-1) p l).2, -(ctF (-1) p l).1, (ctF (-1) q l).2, -(ctF (-1) q l).1⟩ := by
  induction l with
  | nil => intro p q; rfl
  | cons x r ih =>
    intro p q
    rw [List.map_cons, List.foldl_cons, ctF_cons, ctF_cons]
    rw [← ih (p.2, x * p.2 + -1 * p.1) (q.2, x * q.2 + -1 * q.1)]
    congr 1
    apply M4.same <;> simp only [M4.mul, sqT, Int.mul_one, Int.mul_zero, Int.add_zero, Int.mul_neg]
    · rw [Int.mul_comm p.2 x]; omega
    · rw [Int.mul_comm q.2 x]; omega
theorem ctS_prev (l : List Int) (h : 0 < l.length) : (ctS (-1) l).1 = ctv (-1) (l.take (l.length - 1)) := by
  have e := ctS_take (-1) l (l.length - 1) (by omega)
  rw [show l.length - 1 + 1 = l.length by omega, List.take_length] at e
  rw [e]
  rfl
theorem prodSq (l : List Int) : prodF M4.mul (l.map sqT) = mlR l := by
  unfold prodF mlR
  have e0 : M4.one = ⟨((0, 1) : Int × Int).2, -((0, 1) : Int × Int).1, ((-1, 0) : Int × Int).2, -((-1, 0) : Int × Int).1⟩ := rfl
  conv => lhs; rw [e0]
  rw [foldSq l (0, 1) (-1, 0)]
  cases l with
  | nil => rfl
  | cons x r =>
    rw [if_neg (by simp)]
    have e1 : ctF (-1) (0, 1) (x :: r) = ctS (-1) (x :: r) := rfl
    have e2 : ctF (-1) (-1, 0) (x :: r) = ctS (-1) r := by
      rw [ctF_cons]
      show ctF (-1) (0, x * 0 + -1 * -1) r = ctS (-1) r
      rw [Int.mul_zero]
      rfl
    have e3 := ctS_prev (x :: r) (by simp)
    rw [e1, e2, e3]
    apply M4.same
    · rfl
    · rfl
    · rfl
    · dsimp only
      cases r with
      | nil => rfl
      | cons y s =>
        rw [if_pos (by simp), ctS_prev (y :: s) (by simp)]
        rfl
theorem sq_in {t : Int} (h : -30 ≤ t ∧ t ≤ 30) : (sqT t).In 30 := by
  unfold M4.In sqT
  dsimp only
  omega
theorem prodSq_in (l : List Int) (hs : Small l) : ∀ k, k ≤ l.length → (prodF M4.mul ((l.map sqT).take k)).In (60 ^ k) := by
  intro k
  induction k with
  | zero => intro _; exact M4.one_in
  | succ k ih =>
    intro hk
    rw [prodF_take M4.mul (l.map sqT) k (by rw [List.length_map]; omega)]
    have e : (l.map sqT).getD k M4.one = sqT (l.getD k 0) := by simp [show k < l.length by omega]
    rw [e]
    refine ((ih (by omega)).mul (sq_in (hs.get k (by omega)))).mono ?_
    rw [Int.pow_succ]
    omega
theorem pow60 {k : Nat} (h : k < 10) : (60 : Int) ^ k * 30 ≤ 4000000000000000000 := by
  have h2 : k = 0 ∨ k = 1 ∨ k = 2 ∨ k = 3 ∨ k = 4 ∨ k = 5 ∨ k = 6 ∨ k = 7 ∨ k = 8 ∨ k = 9 := by omega
  rcases h2 with rfl | rfl | rfl | rfl | rfl | rfl | rfl | rfl | rfl | rfl <;> decide
theorem prodSq_bd (l : List Int) (hs : Small l) (h10 : l.length ≤ 10) : ∀ k, k < (l.map sqT).length → ∃ P Q, (prodF M4.mul ((l.map sqT).take k)).In P ∧ ((l.map sqT).getD k M4.one).In Q ∧ P * Q ≤ 4000000000000000000 := by
  intro k hk
  rw [List.length_map] at hk
  refine ⟨60 ^ k, 30, prodSq_in l hs k (by omega), ?_, pow60 (by omega)⟩
  have e : (l.map sqT).getD k M4.one = sqT (l.getD k 0) := by simp [hk]
  rw [e]
  exact sq_in (hs.get k hk)
end Go.Proofs.Ytfkkbjbgjmaciaa
