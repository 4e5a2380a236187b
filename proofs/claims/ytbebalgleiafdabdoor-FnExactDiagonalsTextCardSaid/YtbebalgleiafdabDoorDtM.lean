/- The text of diagonals: plain functions. -/
import Derived.Test.YtbebalgleiafdabDoorNumW
import Derived.Test.YtbebalgleiafdabDoorLess
import Derived.Test.YtbebalgleiafdabDoorL1
import Derived.Lib.Join
namespace Go.Proofs.YtbebalgleiafdabDoor
set_option linter.unusedVariables false
open Go.RowKit

def elD (d : Int × Int) : List UInt8 := Lib.decDigits d.1.toNat ++ [45] ++ Lib.decDigits d.2.toNat
def okP (d : Int × Int) : Bool := decide (1 ≤ d.2 ∧ d.2 ≤ 11) && decide (0 ≤ d.1 ∧ d.1 ≤ d.2 - 1)
def lisA (l : List (Int × Int)) (k : Nat) : Bool := (l.take k).all okP
def lisB (l : List (Int × Int)) : Bool := decide (l.length ≤ 12) && l.all okP
def txD (l : List (Int × Int)) : Nat → List UInt8
  | 0 => []
  | k + 1 => (if 0 < k then txD l k ++ [44] else txD l k) ++ elD (l.getD k (0, 0))
def dtL (l : List (Int × Int)) : List UInt8 := if l.length = 0 then [46] else txD l l.length
def dtR (l : List (Int × Int)) : List UInt8 := if lisB l = true then dtL l else []
theorem okP_iff {d : Int × Int} : okP d = true ↔ (1 ≤ d.2 ∧ d.2 ≤ 11) ∧ (0 ≤ d.1 ∧ d.1 ≤ d.2 - 1) := by unfold okP; simp
theorem lisA_succ {l : List (Int × Int)} {k : Nat} (h : k < l.length) : lisA l (k + 1) = (lisA l k && okP (l.getD k (0, 0))) := by
  unfold lisA
  rw [List.take_succ_eq_append_getElem h, List.all_append]
  simp [h]
theorem lisA_no {l : List (Int × Int)} {k : Nat} (h : k < l.length) (hx : okP (l.getD k (0, 0)) = false) : lisB l = false := by
  unfold lisB
  rw [Bool.and_eq_false_iff]
  right
  rw [List.all_eq_false]
  refine ⟨l[k], List.getElem_mem h, ?_⟩
  simp [h] at hx
  simp [hx]
theorem lisA_all {l : List (Int × Int)} (h : lisA l l.length = true) (hl : l.length ≤ 12) : lisB l = true := by
  unfold lisA at h
  rw [List.take_length] at h
  unfold lisB
  rw [h]
  simp [hl]
theorem lisB_len {l : List (Int × Int)} (h : 12 < l.length) : lisB l = false := by
  unfold lisB
  rw [Bool.and_eq_false_iff]
  left
  simp
  omega
theorem lisB_iff {l : List (Int × Int)} : lisB l = true ↔ l.length ≤ 12 ∧ ∀ k, k < l.length → okP (l.getD k (0, 0)) = true := by
  unfold lisB
  rw [Bool.and_eq_true, decide_eq_true_eq, List.all_eq_true]
  constructor
  · rintro ⟨h1, h2⟩
    refine ⟨h1, fun k hk => ?_⟩
    have := h2 l[k] (List.getElem_mem hk)
    simpa [hk] using this
  · rintro ⟨h1, h2⟩
    refine ⟨h1, fun x hx => ?_⟩
    obtain ⟨i, hi, rfl⟩ := List.getElem_of_mem hx
    have := h2 i hi
    simpa [hi] using this
theorem dig_two {n : Nat} (h : n ≤ 11) : (Lib.decDigits n).length ≤ 12 := by have := dig_len n; omega
theorem elD_len {d : Int × Int} (h : okP d = true) : (elD d).length ≤ 25 := by
  obtain ⟨h1, h2⟩ := okP_iff.1 h
  have a := dig_two (n := d.1.toNat) (by omega)
  have b := dig_two (n := d.2.toNat) (by omega)
  unfold elD
  simp
  omega
theorem txD_len {l : List (Int × Int)} (h : lisB l = true) : ∀ k, k ≤ l.length → (txD l k).length ≤ 26 * k := by
  intro k
  induction k with
  | zero => intro _; simp [txD]
  | succ k ih =>
    intro hk
    have h1 := ih (by omega)
    have h2 := elD_len ((lisB_iff.1 h).2 k (by omega))
    unfold txD
    split <;> simp only [List.length_append, List.length_singleton] <;> omega
/-- Go's own way: joined -/
theorem join_snoc (xs : List (List UInt8)) (y sep : List UInt8) : Lib.join (xs ++ [y]) sep = (if 0 < xs.length then Lib.join xs sep ++ sep else Lib.join xs sep) ++ y := by
  cases xs with
  | nil => simp [Lib.join_nil, Lib.join_one]
  | cons x r =>
    rw [List.cons_append, Lib.join_cons, Lib.join_cons]
    simp [Lib.joinTail]
theorem txD_join (l : List (Int × Int)) : ∀ k, k ≤ l.length → txD l k = Lib.join ((l.take k).map elD) [44] := by
  intro k
  induction k with
  | zero => intro _; simp [txD, Lib.join_nil]
  | succ k ih =>
    intro hk
    have e : l[k]'(by omega) = l.getD k (0, 0) := by simp [show k < l.length by omega]
    rw [List.take_succ_eq_append_getElem (by omega), List.map_append, List.map_singleton, join_snoc, ← ih (by omega), List.length_map, List.length_take, Nat.min_eq_left (by omega), e]
    rfl
/-- the row of texts, k of them laid -/
def stR (l : List (Int × Int)) (k n : Nat) : List Value := ((l.take k).map fun d => Value.string (bsL (elD d))) ++ List.replicate (n - k) (.string ⟨#[]⟩)
theorem stR_length (l : List (Int × Int)) (k n : Nat) (h : k ≤ l.length) (hn : k ≤ n) : (stR l k n).length = n := by unfold stR; simp; omega
theorem stR_zero (l : List (Int × Int)) (n : Nat) : stR l 0 n = List.replicate n (.string ⟨#[]⟩) := by simp [stR]
theorem stR_set (l : List (Int × Int)) (k n : Nat) (h : k < l.length) (hn : k < n) : (stR l k n).set k (.string (bsL (elD (l.getD k (0, 0))))) = stR l (k + 1) n := by
  unfold stR
  rw [List.set_append_right _ _ (by simp; omega)]
  have e1 : k - ((l.take k).map fun d => Value.string (bsL (elD d))).length = 0 := by simp; omega
  rw [e1, show n - k = (n - (k + 1)) + 1 by omega, List.replicate_succ, List.set_cons_zero, List.take_succ_eq_append_getElem h, List.map_append, List.map_singleton, List.append_assoc]
  simp [h]
theorem stR_at (l : List (Int × Int)) (k n : Nat) (h : k < n) (hk : k ≤ l.length) : (stR l k n)[k]? = some (.string ⟨#[]⟩) := by
  unfold stR
  rw [List.getElem?_append_right (by simp; omega)]
  have e1 : k - ((l.take k).map fun d => Value.string (bsL (elD d))).length = 0 := by simp; omega
  rw [e1, List.getElem?_replicate, if_pos (by omega)]
end Go.Proofs.YtbebalgleiafdabDoor
