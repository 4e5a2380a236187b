/- Ways to choose, and how many triangulations there are: plain mathematics. Nothing here speaks of the program. -/
import Derived.Test.YtbpaaoeefcebeabMem
namespace Go.Proofs.Ytbpaaoeefcebeab
set_option linter.unusedVariables false
open Go.RowKit

/-- the model's steps: behind i of them -/
def chS (n k : Nat) : Nat → Nat
  | 0 => 1
  | i + 1 => chS n k i * (n - k + (i + 1)) / (i + 1)
/-- the program's steps -/
def chI (n : Nat) : Nat → Nat
  | 0 => 1
  | i + 1 => chI n i * (n - i) / (i + 1)
theorem chS_bd : ∀ n : Fin 21, ∀ k : Fin 21, ∀ i : Fin 21, (k : Nat) ≤ n → (i : Nat) ≤ k → chS n k i ≤ 1000000 := by decide +kernel
theorem chI_bd : ∀ n : Fin 21, ∀ i : Fin 21, (i : Nat) ≤ n → chI n i ≤ 1000000 := by decide +kernel
theorem chS_chI : ∀ n : Fin 21, ∀ k : Fin 21, (k : Nat) ≤ n → chS n k k = chI n k := by decide +kernel
theorem chS_le {n k i : Nat} (hn : n ≤ 20) (hk : k ≤ n) (hi : i ≤ k) : chS n k i ≤ 1000000 := chS_bd ⟨n, by omega⟩ ⟨k, by omega⟩ ⟨i, by omega⟩ hk hi
theorem chI_le {n i : Nat} (hn : n ≤ 20) (hi : i ≤ n) : chI n i ≤ 1000000 := chI_bd ⟨n, by omega⟩ ⟨i, by omega⟩ hi
theorem chS_eq {n k : Nat} (hn : n ≤ 20) (hk : k ≤ n) : chS n k k = chI n k := chS_chI ⟨n, by omega⟩ ⟨k, by omega⟩ hk
/-- how many triangulations a polygon has -/
def cntT (n : Nat) : Nat := chI (2 * n - 4) (n - 2) / (n - 1)
theorem cntT_le : ∀ n : Fin 13, cntT n ≤ 16796 := by decide +kernel
theorem cntT_bd {n : Nat} (h : n ≤ 12) : cntT n ≤ 16796 := cntT_le ⟨n, by omega⟩
/-- the first k of m numbers told, the others zero -/
def filF (f : Nat → Nat) (m k : Nat) : List Int := (List.range m).map fun i => if i < k then ((f i : Nat) : Int) else 0
theorem filF_length (f : Nat → Nat) (m k : Nat) : (filF f m k).length = m := by simp [filF]
theorem filF_get (f : Nat → Nat) (m k i : Nat) (h : i < (filF f m k).length) : (filF f m k)[i] = if i < k then ((f i : Nat) : Int) else 0 := by simp [filF]
theorem filF_set (f : Nat → Nat) (m k : Nat) : (filF f m k).set k ((f k : Nat) : Int) = filF f m (k + 1) := by
  apply List.ext_getElem
  · simp [filF]
  · intro i h1 h2
    rw [List.getElem_set, filF_get f m (k + 1) i h2]
    by_cases e : k = i
    · subst e; simp
    · rw [if_neg e, filF_get]
      by_cases h : i < k
      · rw [if_pos h, if_pos (by omega)]
      · rw [if_neg h, if_neg (by omega)]
theorem filF_same (f : Nat → Nat) (m a b : Nat) (h : ∀ i, i < m → (i < a ↔ i < b) ∨ f i = 0) : filF f m a = filF f m b := by
  unfold filF
  refine List.map_congr_left fun i hi => ?_
  rcases h i (List.mem_range.1 hi) with h | h
  · by_cases hi : i < a
    · rw [if_pos hi, if_pos (h.1 hi)]
    · rw [if_neg hi, if_neg (fun x => hi (h.2 x))]
  · rw [h]; simp
theorem filF_zero (f : Nat → Nat) (m : Nat) : filF f m 0 = List.replicate m 0 := by
  unfold filF
  apply List.ext_getElem
  · simp
  · intro i h1 h2; simp
/-- how many have the number k at the corner 0 -/
def cbcF (n k : Nat) : Nat := if k = 0 then 0 else k * chI (2 * n - 4 - k) (n - 2) / (2 * n - 4 - k)
def cbcL (n : Nat) : List Int := filF (cbcF n) (n - 1) (n - 1)
/-- how many have k ears, n at least 4 -/
def cbeP (n k : Nat) : Nat := n * 2 ^ (n - 2 * k) * chI (n - 4) (2 * k - 4)
def cbeF (n k : Nat) : Nat := if 2 ≤ k ∧ 2 * k ≤ n then cbeP n k * cntT k / k else 0
def cbeL (n : Nat) : List Int := if n = 3 then [0, 0, 0, 1] else filF (cbeF n) (n + 1) (n + 1)
theorem cbeP_le : ∀ n : Fin 13, ∀ k : Fin 7, 2 ≤ (k : Nat) → 2 * (k : Nat) ≤ n → cbeP n k ≤ 1000000 := by decide +kernel
theorem cbeP_bd {n k : Nat} (hn : n ≤ 12) (h2 : 2 ≤ k) (hk : 2 * k ≤ n) : cbeP n k ≤ 1000000 := cbeP_le ⟨n, by omega⟩ ⟨k, by omega⟩ h2 hk
theorem wrap_ok (x : Int) (h : -9000000000000000000 ≤ x ∧ x ≤ 9000000000000000000) : wrap64 x = x := by unfold wrap64; omega
theorem step_div {p s d r : Nat} (hp : p * s ≤ 1000000000000) (hr : p * s / d = r) {a e : Int} (ha : a = (s : Int)) (he : e = (d : Int)) : wrap64 ((wrap64 ((p : Int) * a)).tdiv e) = (r : Int) := by
  subst ha he
  have e1 : (p : Int) * (s : Int) = ((p * s : Nat) : Int) := by rw [Int.natCast_mul]
  have h2 : r ≤ p * s := by rw [← hr]; exact Nat.div_le_self _ _
  have e3 : wrap64 ((p * s : Nat) : Int) = ((p * s : Nat) : Int) := wrap_ok ((p * s : Nat) : Int) (by omega)
  have e4 : wrap64 (r : Int) = (r : Int) := wrap_ok (r : Int) (by omega)
  have e2 : ((p * s : Nat) : Int) / (d : Int) = (r : Int) := by rw [← hr]; rfl
  rw [e1, e3, Int.tdiv_eq_ediv_of_nonneg (by omega), e2, e4]
theorem cntT_run {n : Nat} (h2 : 2 ≤ n) (hn : n ≤ 12) : wrap64 (((chI (2 * n - 4) (n - 2) : Nat) : Int).tdiv ((n : Int) - 1)) = ((cntT n : Nat) : Int) := by
  have hb := chI_le (n := 2 * n - 4) (i := n - 2) (by omega) (by omega)
  have := step_div (p := chI (2 * n - 4) (n - 2)) (s := 1) (d := n - 1) (r := cntT n) (by omega) (by rw [Nat.mul_one]; rfl) (a := 1) (e := (n : Int) - 1) rfl (by omega)
  rw [Int.mul_one, wrap_ok ((chI (2 * n - 4) (n - 2) : Nat) : Int) (by omega)] at this
  exact this
theorem mul_bd {a b A B : Nat} (ha : a ≤ A) (hb : b ≤ B) : a * b ≤ A * B := Nat.mul_le_mul ha hb
end Go.Proofs.Ytbpaaoeefcebeab
