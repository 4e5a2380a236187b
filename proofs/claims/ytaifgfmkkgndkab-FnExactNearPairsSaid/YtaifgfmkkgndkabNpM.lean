/- Near pairs of a polygon of fractions: mathematics. -/
import Derived.Test.YtaifgfmkkgndkabQfM
import Derived.Test.YtaifgfmkkgndkabAllD
import Derived.Test.YtaifgfmkkgndkabNearW
namespace Go.Proofs.Ytaifgfmkkgndkab
set_option linter.unusedVariables false
open Go.RowKit

/-- a pair of corners with the cross 1 -/
def eN (l : List (Int × Int)) (p : Int × Int) : Bool := decide (crs ((crn l).getD p.1.toNat (0, 0)) ((crn l).getD p.2.toNat (0, 0)) = 1)
def oN (l : List (Int × Int)) (n a b : Nat) : Bool := dB n a b && eN l ((a : Int), (b : Int))
theorem prs_filterN (l : List (Int × Int)) (n a m : Nat) : (prs a (dB n a) m).filter (eN l) = prs a (oN l n a) m := by
  induction m with
  | zero => rfl
  | succ m ih =>
    rw [prs_succ, prs_succ, List.filter_append, ih]
    congr 1
    unfold oN
    cases h1 : dB n a m <;> cases h2 : eN l ((a : Int), (m : Int)) <;> simp [h2]
theorem rws_filterN (l : List (Int × Int)) (n N m : Nat) : (rws (dB n) N m).filter (eN l) = rws (oN l n) N m := by
  induction m with
  | zero => rfl
  | succ m ih => rw [rws_succ, rws_succ, List.filter_append, ih, prs_filterN]
theorem oN_low {l : List (Int × Int)} {n a b : Nat} (h : b < a + 2) : oN l n a b = false := by unfold oN; rw [dB_low h]; rfl
theorem oN_high {l : List (Int × Int)} {n a b : Nat} (h : n ≤ b) : oN l n a b = false := by unfold oN; rw [dB_high h]; rfl
/-- what comes back -/
def npR (l : List (Int × Int)) : List (Int × Int) := if polB l = true then rws (oN l l.length) l.length l.length else []
theorem npR_no {l : List (Int × Int)} (h : polB l = false) : npR l = [] := if_neg (by rw [h]; simp)
theorem npR_yes {l : List (Int × Int)} (h : polB l = true) : npR l = rws (oN l l.length) l.length l.length := if_pos h
theorem npR_length (l : List (Int × Int)) : (npR l).length ≤ 1000000000 := by
  cases h : polB l
  · rw [npR_no h]; simp
  · rw [npR_yes h]
    obtain ⟨⟨h3, h12⟩, _⟩ := polB_iff.1 h
    have := rws_length (oN l l.length) l.length l.length
    have h2 : l.length * l.length ≤ 12 * 12 := Nat.mul_le_mul h12 h12
    omega
theorem rws_mem2 {n m N : Nat} {p : Int × Int} (h : p ∈ rws (dB n) N m) : ∃ a b : Nat, p = ((a : Int), (b : Int)) ∧ a < b ∧ b < n := by
  unfold rws prs at h
  simp only [List.mem_flatMap, List.mem_map, List.mem_filter] at h
  obtain ⟨a, _, b, ⟨_, hb⟩, rfl⟩ := h
  have := dB_iff.1 hb
  exact ⟨a, b, rfl, by omega, by omega⟩
/-- the model's own test of two corners -/
theorem near_at {l : List (Int × Int)} (h : polB l = true) {a b f : Nat} (hf : f = (a + l.length - 1) % l.length) (hab : a + 2 ≤ b) (hb : b < l.length) :
    nearB (l.getD f (0, 0)).1 (l.getD f (0, 0)).2 (l.getD (b - 1) (0, 0)).1 (l.getD (b - 1) (0, 0)).2 = eN l ((a : Int), (b : Int)) := by
  obtain ⟨c1, c2, _, _⟩ := pol_chn h
  obtain ⟨h1, h2, h3, h4, h5⟩ := polB_iff.1 h
  unfold nearB eN
  rw [Bool.eq_iff_iff, decide_eq_true_eq, decide_eq_true_eq]
  show (crs (l.getD f (0, 0)) (l.getD (b - 1) (0, 0)) = 1 ∨ crs (l.getD f (0, 0)) (l.getD (b - 1) (0, 0)) = -1) ↔ crs ((crn l).getD a (0, 0)) ((crn l).getD b (0, 0)) = 1
  rw [crn_at (by omega) (by omega), crn_at (by omega) (by omega)]
  obtain ⟨j, rfl⟩ : ∃ j, b = j + 1 := ⟨b - 1, by omega⟩
  rw [List.getD_cons_succ, show j + 1 - 1 = j by omega]
  have bd := pol_bd h j
  cases a with
  | zero =>
    have ef : f = l.length - 1 := by rw [hf, Nat.zero_add]; exact Nat.mod_eq_of_lt (by omega)
    rw [ef, h5, List.getD_cons_zero]
    unfold crs
    dsimp only
    omega
  | succ a =>
    have ef : f = a := by
      rw [hf, show a + 1 + l.length - 1 = a + l.length by omega, Nat.add_mod_right]
      exact Nat.mod_eq_of_lt (by omega)
    have hp := crs_at l a j c1 c2 (by omega) (by omega)
    rw [ef, List.getD_cons_succ]
    omega
end Go.Proofs.Ytaifgfmkkgndkab
