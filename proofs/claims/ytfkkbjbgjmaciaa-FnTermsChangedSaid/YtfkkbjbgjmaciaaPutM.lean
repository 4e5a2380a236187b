/- Ones put into terms and taken out: plain mathematics. -/
import Derived.Test.YtfkkbjbgjmaciaaContM
namespace Go.Proofs.Ytfkkbjbgjmaciaa
set_option linter.unusedVariables false

def incr (l : List Int) (i : Nat) : List Int := l.set i (l.getD i 0 + 1)
theorem incr_length (l : List Int) (i : Nat) : (incr l i).length = l.length := by simp [incr]
theorem set_get (l : List Int) (i j : Nat) (x : Int) (h : i ≠ j) : (l.set i x).getD j 0 = l.getD j 0 := by
  simp only [List.getD_eq_getElem?_getD, List.getElem?_set]
  rw [if_neg h]
def putB (l : List Int) (k : Nat) : List Int := l.take k ++ [1] ++ l.drop k
def takB (l : List Int) (k : Nat) : List Int := l.take k ++ l.drop (k + 1)
theorem putB_length (l : List Int) (k : Nat) (h : k ≤ l.length) : (putB l k).length = l.length + 1 := by
  unfold putB
  simp
  omega
theorem takB_length (l : List Int) (k : Nat) (h : k < l.length) : (takB l k).length = l.length - 1 := by
  unfold takB
  simp
  omega
theorem putB_small {l : List Int} (h : Small l) (k : Nat) : Small (putB l k) := by
  intro x hx
  unfold putB at hx
  simp only [List.mem_append, List.mem_singleton] at hx
  rcases hx with (hx | rfl) | hx
  · exact h x (List.mem_of_mem_take hx)
  · omega
  · exact h x (List.mem_of_mem_drop hx)
theorem takB_small {l : List Int} (h : Small l) (k : Nat) : Small (takB l k) := by
  intro x hx
  unfold takB at hx
  simp only [List.mem_append] at hx
  rcases hx with hx | hx
  · exact h x (List.mem_of_mem_take hx)
  · exact h x (List.mem_of_mem_drop hx)
def putL (l : List Int) (k : Nat) : List Int := incr (incr (putB l k) (k - 1)) (k + 1)
def takL (l : List Int) (k : Nat) : List Int := decr (decr (takB l k) (k - 1)) k
theorem putL_length (l : List Int) (k : Nat) (h : k ≤ l.length) : (putL l k).length = l.length + 1 := by
  unfold putL
  rw [incr_length, incr_length, putB_length l k h]
theorem takL_length (l : List Int) (k : Nat) (h : k < l.length) : (takL l k).length = l.length - 1 := by
  unfold takL
  rw [decr_length, decr_length, takB_length l k h]
/-- what PutOne and TakeOne return -/
def poR (l : List Int) (k : Int) : Option (List Int) := if good l = true ∧ (1 ≤ k ∧ k ≤ (l.length : Int) - 1) ∧ good (putL l k.toNat) = true then some (putL l k.toNat) else none
def toR (l : List Int) (k : Int) : Option (List Int) := if good l = true ∧ (1 ≤ k ∧ k ≤ (l.length : Int) - 2) ∧ l.getD k.toNat 0 = 1 ∧ good (takL l k.toNat) = true then some (takL l k.toNat) else none
theorem poR_no1 {l : List Int} {k : Int} (h : good l = false) : poR l k = none := if_neg (by rw [h]; simp)
theorem poR_no2 {l : List Int} {k : Int} (h : ¬ (1 ≤ k ∧ k ≤ (l.length : Int) - 1)) : poR l k = none := if_neg (fun e => h e.2.1)
theorem poR_at {l : List Int} {k : Nat} (h : good l = true) (h1 : 1 ≤ k) (h2 : k < l.length) : poR l (k : Int) = if good (putL l k) = true then some (putL l k) else none := by
  unfold poR
  rw [Int.toNat_natCast]
  by_cases hg : good (putL l k) = true
  · rw [if_pos ⟨h, ⟨by omega, by omega⟩, hg⟩, if_pos hg]
  · rw [if_neg (fun e => hg e.2.2), if_neg hg]
theorem toR_no1 {l : List Int} {k : Int} (h : good l = false) : toR l k = none := if_neg (by rw [h]; simp)
theorem toR_no2 {l : List Int} {k : Int} (h : ¬ (1 ≤ k ∧ k ≤ (l.length : Int) - 2)) : toR l k = none := if_neg (fun e => h e.2.1)
theorem toR_no3 {l : List Int} {k : Nat} (h : l.getD k 0 ≠ 1) : toR l (k : Int) = none := if_neg (fun e => h (by have := e.2.2.1; rwa [Int.toNat_natCast] at this))
theorem toR_at {l : List Int} {k : Nat} (h : good l = true) (h1 : 1 ≤ k) (h2 : k + 1 < l.length) (hx : l.getD k 0 = 1) : toR l (k : Int) = if good (takL l k) = true then some (takL l k) else none := by
  unfold toR
  rw [Int.toNat_natCast]
  by_cases hg : good (takL l k) = true
  · rw [if_pos ⟨h, ⟨by omega, by omega⟩, hx, hg⟩, if_pos hg]
  · rw [if_neg (fun e => hg e.2.2.2), if_neg hg]
/-- a list or none -/
def optL (R : Option (List Int)) : List Int := R.getD []
theorem optL_length {R : Option (List Int)} (h : ∀ r, R = some r → r.length ≤ 100) : (optL R).length ≤ 1000000000 := by
  unfold optL
  cases R with
  | none => simp
  | some r =>
    have := h r rfl
    simp only [Option.getD_some]
    omega
theorem poR_length (l : List Int) (k : Int) : (optL (poR l k)).length ≤ 1000000000 := optL_length fun r h => by
  unfold poR at h
  split at h
  · rename_i hc
    injection h with h
    subst h
    have := (good_iff.1 hc.2.2).1
    omega
  · cases h
theorem toR_length (l : List Int) (k : Int) : (optL (toR l k)).length ≤ 1000000000 := optL_length fun r h => by
  unfold toR at h
  split at h
  · rename_i hc
    injection h with h
    subst h
    have := (good_iff.1 hc.2.2.2).1
    omega
  · cases h
end Go.Proofs.Ytfkkbjbgjmaciaa
