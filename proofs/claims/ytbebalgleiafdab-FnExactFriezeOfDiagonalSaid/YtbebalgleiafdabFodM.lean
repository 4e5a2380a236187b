/- A quiddity's sum; a diagonal of a frieze stays small. Plain mathematics. -/
import Derived.Test.YtbebalgleiafdabRevM
import Derived.Test.YtbebalgleiafdabFrM
namespace Go.Proofs.Ytbebalgleiafdab
set_option linter.unusedVariables false
open Go.RowKit

theorem sum_set (l : List Int) : ∀ (i : Nat) (v : Int), i < l.length → (l.set i v).sum = l.sum - l.getD i 0 + v := by
  induction l with
  | nil => intro i v h; simp at h
  | cons x r ih =>
    intro i v h
    cases i with
    | zero => simp; omega
    | succ i =>
      have := ih i v (by simpa using h)
      simp only [List.set_cons_succ, List.sum_cons, List.getD_cons_succ, this]
      omega
theorem sum_erase (l : List Int) : ∀ (i : Nat), i < l.length → (l.eraseIdx i).sum = l.sum - l.getD i 0 := by
  induction l with
  | nil => intro i h; simp at h
  | cons x r ih =>
    intro i h
    cases i with
    | zero => simp; omega
    | succ i =>
      have := ih i (by simpa using h)
      simp only [List.eraseIdx_cons_succ, List.sum_cons, List.getD_cons_succ, this]
      omega
theorem sum_decr (l : List Int) (i : Nat) (h : i < l.length) : (decr l i).sum = l.sum - 1 := by
  unfold decr
  rw [sum_set _ _ _ h]
  omega
theorem sum_cut {l : List Int} {k : Nat} (hm : 4 ≤ l.length) (hk : k < l.length) (h1 : l.getD k 0 = 1) : (cutL l k).sum = l.sum - 3 := by
  obtain ⟨a1, a2, a3, a4, _⟩ := around k l.length hm hk
  unfold cutL
  rw [sum_erase _ _ (by rw [dec2_length]; exact hk)]
  unfold dec2
  rw [sum_decr _ _ (by rw [decr_length]; exact a2), sum_decr _ _ a1, decr_get _ _ _ (by rw [decr_length]; exact hk), decr_get _ _ _ hk, if_neg a4, if_neg a3, h1]
  omega
theorem red_sum (f : Nat) : ∀ l : List Int, l.length = f + 3 → red f l = true → l.sum = 3 * (f : Int) + 3 := by
  induction f with
  | zero =>
    intro l _ h
    have : l = [1, 1, 1] := by unfold red at h; simpa using h
    subst this
    rfl
  | succ f ih =>
    intro l hl h
    unfold red at h
    rw [Bool.and_eq_true] at h
    obtain ⟨h0, h1⟩ := h
    have h2 := at1_lt l l.length
    have hs : ¬at1 l l.length < 0 := by simpa using h0
    have h3 := at1_one l l.length (by omega)
    generalize hk : (at1 l l.length).toNat = k at *
    have hkl : k < l.length := by omega
    have h4 := ih _ (by rw [cutL_length l k hkl]; omega) h1
    rw [sum_cut (by omega) hkl h3] at h4
    omega
/-- the numbers of a quiddity of n are together 3 n - 6 -/
theorem isQ_sum {q : List Int} (h : isQ q = true) : q.sum = 3 * (q.length : Int) - 6 := by
  have hl := isQ_len h
  rw [isQ_red, Bool.and_eq_true] at h
  have := red_sum _ q (by omega) h.2
  omega

/-- the product of natural numbers, cubed, is at most 3 to their sum -/
def prN : List Nat → Nat
  | [] => 1
  | x :: r => x * prN r
theorem cube_le : ∀ x : Fin 13, x.1 ^ 3 ≤ 3 ^ x.1 := by decide
theorem prN_cube (l : List Nat) (h : ∀ x ∈ l, x ≤ 12) : prN l ^ 3 ≤ 3 ^ l.sum := by
  induction l with
  | nil => decide
  | cons x r ih =>
    have h1 := cube_le ⟨x, by have := h x List.mem_cons_self; omega⟩
    have h2 := ih fun y hy => h y (List.mem_cons_of_mem _ hy)
    simp only [prN, List.sum_cons]
    rw [Nat.mul_pow, Nat.pow_add]
    exact Nat.mul_le_mul h1 h2
theorem prN_small (l : List Nat) (h : ∀ x ∈ l, x ≤ 12) (hs : l.sum ≤ 28) : prN l ≤ 100000 := by
  have h1 := prN_cube l h
  have h2 : 3 ^ l.sum ≤ 3 ^ 28 := Nat.pow_le_pow_right (by omega) hs
  rcases Nat.lt_or_ge 100000 (prN l) with hlt | hge
  · exfalso
    have h3 : 100001 ^ 3 ≤ prN l ^ 3 := Nat.pow_le_pow_left hlt 3
    have h4 : (3 : Nat) ^ 28 < 100001 ^ 3 := by decide
    omega
  · exact hge
theorem sum_pos (l : List Int) (h : ∀ x ∈ l, 1 ≤ x) : (l.length : Int) ≤ l.sum := by
  induction l with
  | nil => simp
  | cons x r ih =>
    have h1 := h x List.mem_cons_self
    have h2 := ih fun y hy => h y (List.mem_cons_of_mem _ hy)
    simp only [List.length_cons, List.sum_cons]
    omega
theorem sum_nat (l : List Int) (h : ∀ x ∈ l, 1 ≤ x) : (((l.map Int.toNat).sum : Nat) : Int) = l.sum := by
  induction l with
  | nil => rfl
  | cons x r ih =>
    have h1 := h x List.mem_cons_self
    have h2 := ih fun y hy => h y (List.mem_cons_of_mem _ hy)
    simp only [List.map_cons, List.sum_cons]
    omega
theorem seg_sum {q : List Int} (h : ∀ x ∈ q, 1 ≤ x) {k : Nat} (hk : k + 2 ≤ q.length) : ((q.drop 1).take k).sum + 2 ≤ q.sum := by
  have e : q = q.take 1 ++ ((q.drop 1).take k ++ (q.drop 1).drop k) := by rw [List.take_append_drop, List.take_append_drop]
  have h1 := sum_pos (q.take 1) fun x hx => h x (List.mem_of_mem_take hx)
  have h2 := sum_pos ((q.drop 1).drop k) fun x hx => h x (List.mem_of_mem_drop (List.mem_of_mem_drop hx))
  have l1 : (q.take 1).length = 1 := by rw [List.length_take]; omega
  have l2 : 1 ≤ ((q.drop 1).drop k).length := by simp; omega
  have h3 : q.sum = (q.take 1).sum + (((q.drop 1).take k).sum + ((q.drop 1).drop k).sum) := by
    conv => lhs; rw [e]
    rw [List.sum_append, List.sum_append]
  omega
/-- the product of q's numbers from index 1 on, k of them -/
def prK (q : List Int) (k : Nat) : Nat := prN (((q.drop 1).take k).map Int.toNat)
theorem prN_snoc (l : List Nat) (x : Nat) : prN (l ++ [x]) = prN l * x := by
  induction l with
  | nil => simp [prN]
  | cons y r ih => simp only [List.cons_append, prN, ih, Nat.mul_assoc]
theorem prK_succ {q : List Int} {k : Nat} (hk : k + 1 < q.length) : prK q (k + 1) = prK q k * (q.getD (k + 1) 0).toNat := by
  unfold prK
  rw [List.take_succ_eq_append_getElem (by simp; omega), List.map_append, List.map_singleton, prN_snoc]
  congr 2
  simp [hk, Nat.add_comm]
theorem prK_small {q : List Int} (h : isQ q = true) {k : Nat} (hk : k + 2 ≤ q.length) : prK q k ≤ 100000 := by
  have hl := isQ_len h
  have hg : ∀ x ∈ q, 1 ≤ x ∧ x ≤ 10 := fun x hx => by
    obtain ⟨i, hi, rfl⟩ := List.getElem_of_mem hx
    have := isQ_get h i hi
    simp [hi] at this
    omega
  have h1 := isQ_sum h
  have h2 := seg_sum (fun x hx => (hg x hx).1) hk
  have h3 := sum_nat ((q.drop 1).take k) fun x hx => (hg x (List.mem_of_mem_drop (List.mem_of_mem_take hx))).1
  refine prN_small _ (fun x hx => ?_) (by omega)
  obtain ⟨y, hy, rfl⟩ := List.mem_map.1 hx
  have := hg y (List.mem_of_mem_drop (List.mem_of_mem_take hy))
  omega

theorem wrap_in (x : Int) (h : -9000000000000000000 ≤ x ∧ x ≤ 9000000000000000000) : wrap64 x = x := by unfold wrap64; omega
/-- a diagonal of numbers of at least 1 stays small, and nothing wraps -/
theorem diag_small {q : List Int} (h : isQ q = true) (hp : ∀ s, 1 ≤ s → s + 1 ≤ q.length → 1 ≤ (entS q 0 s).2) : ∀ s, 1 ≤ s → s + 1 ≤ q.length → 0 ≤ (entS q 0 s).1 ∧ (entS q 0 s).1 ≤ 100000 ∧ (entS q 0 s).2 ≤ (prK q (s - 1) : Int) ∧
    (s + 2 ≤ q.length → (entS q 0 (s + 1)).2 = q.getD s 0 * (entS q 0 s).2 - (entS q 0 s).1) := by
  have hl := isQ_len h
  have hw : ∀ s, 1 ≤ s → s + 1 ≤ q.length → 0 ≤ (entS q 0 s).1 → (entS q 0 s).1 ≤ 100000 → (entS q 0 s).2 ≤ (prK q (s - 1) : Int) → (entS q 0 (s + 1)).2 = q.getD s 0 * (entS q 0 s).2 - (entS q 0 s).1 := by
    intro s h1 h2 h3 h4 h5
    have h6 := prK_small h (k := s - 1) (by omega)
    have h7 := hp s h1 h2
    have h8 := isQ_get h s (by omega)
    have hm : (mdI (0 + (s : Int)) q.length).toNat = s := by rw [mdI_eq, Int.zero_add, Int.emod_eq_of_lt (by omega) (by omega)]; omega
    show wrap64 (wrap64 (q.getD (mdI (0 + (s : Int)) q.length).toNat 0 * (entS q 0 s).2) - (entS q 0 s).1) = _
    rw [hm]
    have b1 : q.getD s 0 * (entS q 0 s).2 ≤ 10 * 100000 := Int.mul_le_mul (by omega) (by omega) (by omega) (by omega)
    have b2 : 0 ≤ q.getD s 0 * (entS q 0 s).2 := Int.mul_nonneg (by omega) (by omega)
    rw [wrap_in (q.getD s 0 * (entS q 0 s).2) (by omega), wrap_in _ (by omega)]
  intro s
  induction s with
  | zero => intro h1; omega
  | succ s ih =>
    intro h1 h2
    by_cases h0 : s = 0
    · subst h0
      have e : entS q 0 1 = (0, 1) := by
        show ((entS q 0 0).2, wrap64 (wrap64 (q.getD (mdI (0 + ((0 : Nat) : Int)) q.length).toNat 0 * (entS q 0 0).2) - (entS q 0 0).1)) = (0, 1)
        have e0 : entS q 0 0 = (-1, 0) := rfl
        rw [e0]
        simp only [Int.mul_zero]
        rw [wrap_in 0 (by omega), wrap_in (0 - -1) (by omega)]
        rfl
      have a1 : 0 ≤ (entS q 0 (0 + 1)).1 := by rw [show 0 + 1 = 1 from rfl, e]; decide
      have a2 : (entS q 0 (0 + 1)).1 ≤ 100000 := by rw [show 0 + 1 = 1 from rfl, e]; decide
      have a3 : (entS q 0 (0 + 1)).2 ≤ (prK q (0 + 1 - 1) : Int) := by rw [show 0 + 1 = 1 from rfl, e]; exact Int.le_refl _
      exact ⟨a1, a2, a3, fun _ => hw 1 (Nat.le_refl _) h2 a1 a2 a3⟩
    · obtain ⟨i1, i2, i3, i4⟩ := ih (by omega) (by omega)
      have e1 : (entS q 0 (s + 1)).1 = (entS q 0 s).2 := rfl
      have p1 := hp s (by omega) (by omega)
      have k1 := prK_small h (k := s - 1) (by omega)
      have a1 : 0 ≤ (entS q 0 (s + 1)).1 := by omega
      have a2 : (entS q 0 (s + 1)).1 ≤ 100000 := by omega
      have g := isQ_get h s (by omega)
      have a3 : (entS q 0 (s + 1)).2 ≤ (prK q (s + 1 - 1) : Int) := by
        rw [i4 (by omega), show s + 1 - 1 = (s - 1) + 1 by omega, prK_succ (by omega), show s - 1 + 1 = s by omega, Int.natCast_mul, Int.toNat_of_nonneg (by omega)]
        have : q.getD s 0 * (entS q 0 s).2 ≤ q.getD s 0 * (prK q (s - 1) : Int) := Int.mul_le_mul_of_nonneg_left i3 (by omega)
        rw [Int.mul_comm (prK q (s - 1) : Int)]
        omega
      exact ⟨a1, a2, a3, fun _ => hw (s + 1) (by omega) h2 a1 a2 a3⟩
end Go.Proofs.Ytbebalgleiafdab
