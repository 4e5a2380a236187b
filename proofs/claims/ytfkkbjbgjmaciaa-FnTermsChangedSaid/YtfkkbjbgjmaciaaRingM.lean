/- The program's ring as a list of twenty-five numbers: how many are left, the numbers, the corners; plain mathematics. -/
import Derived.Test.YtfkkbjbgjmaciaaOfM
import Derived.Test.YtfkkbjbgjmaciaaMem
import Derived.Laws.CopyOwn
namespace Go.Proofs.Ytfkkbjbgjmaciaa
set_option linter.unusedVariables false

def ringL (m : Int) (N C : List Int) : List Int := m :: (N ++ C)
theorem ringL_length {m : Int} {N C : List Int} (hN : N.length = 12) (hC : C.length = 12) : (ringL m N C).length = 25 := by simp [ringL]; omega
theorem ringL_get0 (m : Int) (N C : List Int) : (ringL m N C).getD 0 0 = m := rfl
theorem ringL_getN {m : Int} {N C : List Int} (hN : N.length = 12) (i : Nat) (h : i < 12) : (ringL m N C).getD (1 + i) 0 = N.getD i 0 := by
  unfold ringL
  rw [Nat.add_comm, List.getD_cons_succ]
  simp only [List.getD_eq_getElem?_getD]
  rw [List.getElem?_append_left (by omega)]
theorem ringL_getC {m : Int} {N C : List Int} (hN : N.length = 12) (i : Nat) : (ringL m N C).getD (13 + i) 0 = C.getD i 0 := by
  unfold ringL
  rw [show 13 + i = (12 + i) + 1 by omega, List.getD_cons_succ]
  simp only [List.getD_eq_getElem?_getD]
  rw [List.getElem?_append_right (by omega), hN]
  congr 2
  omega
theorem ringL_set0 (m x : Int) (N C : List Int) : (ringL m N C).set 0 x = ringL x N C := rfl
theorem ringL_setN {m : Int} {N C : List Int} (hN : N.length = 12) (i : Nat) (x : Int) (h : i < 12) : (ringL m N C).set (1 + i) x = ringL m (N.set i x) C := by
  unfold ringL
  rw [Nat.add_comm, List.set_cons_succ, List.set_append_left _ _ (by omega)]
theorem ringL_setC {m : Int} {N C : List Int} (hN : N.length = 12) (i : Nat) (x : Int) : (ringL m N C).set (13 + i) x = ringL m N (C.set i x) := by
  unfold ringL
  rw [show 13 + i = (12 + i) + 1 by omega, List.set_cons_succ, List.set_append_right _ _ (by omega), hN, show 12 + i - 12 = i by omega]
theorem ics_splice (l : List Int) (off : Nat) (cs : List Int) : ics (splice l off cs) = splice (ics l) off (ics cs) := by
  simp [splice, ics, List.map_take, List.map_drop]
theorem ringL_spliceN {m : Int} {N C cs : List Int} (hN : N.length = 12) (k : Nat) (hk : k + cs.length ≤ 12) : splice (ringL m N C) (1 + k) cs = ringL m (splice N k cs) C := by
  unfold splice ringL
  rw [Nat.add_comm 1 k, List.take_succ_cons, show k + 1 + cs.length = (k + cs.length) + 1 by omega, List.drop_succ_cons, List.take_append_of_le_length (by omega), List.drop_append_of_le_length (by omega)]
  simp
theorem ringL_spliceC {m : Int} {N C cs : List Int} (hN : N.length = 12) (k : Nat) : splice (ringL m N C) (13 + k) cs = ringL m N (splice C k cs) := by
  unfold splice ringL
  rw [show 13 + k = (12 + k) + 1 by omega, List.take_succ_cons, show 12 + k + 1 + cs.length = (12 + (k + cs.length)) + 1 by omega, List.drop_succ_cons, ← hN, List.take_length_add_append, List.drop_length_add_append]
  simp
theorem splice_take (N : List Int) (m k : Nat) (hk : k < m) (hm : m ≤ N.length) : (splice N k ((N.take m).drop (k + 1))).take (m - 1) = (N.take m).eraseIdx k := by
  have hl : ((N.take m).drop (k + 1)).length = m - 1 - k := by simp; omega
  rw [List.eraseIdx_eq_take_drop_succ]
  generalize hcs : (N.take m).drop (k + 1) = cs at *
  unfold splice
  have h1 : (N.take k).length = k := by simp; omega
  have e1 : (N.take k).take (m - 1) = N.take k := by rw [List.take_take, Nat.min_eq_right (by omega)]
  have e2 : (cs ++ N.drop (k + cs.length)).take (m - 1 - k) = cs := by
    rw [List.take_append_of_le_length (by omega)]
    exact List.take_of_length_le (by omega)
  have e3 : (N.take m).take k = N.take k := by rw [List.take_take, Nat.min_eq_left (by omega)]
  rw [List.take_append, h1, e1, e2, e3]
theorem splice_length (N : List Int) (m k : Nat) (hk : k < m) (hm : m ≤ N.length) : (splice N k ((N.take m).drop (k + 1))).length = N.length := by
  apply length_splice
  simp; omega
theorem decr_take (l : List Int) (i n : Nat) (h : i < n) : (decr l i).take n = decr (l.take n) i := by
  unfold decr
  rw [List.take_set]
  congr 1
  simp [h]
/-- the numbers behind a cut, twelve of them -/
def cutN (N : List Int) (m k : Nat) : List Int := splice (decr (decr N ((k + m - 1) % m)) ((k + 1) % m)) k (((decr (decr N ((k + m - 1) % m)) ((k + 1) % m)).take m).drop (k + 1))
def cutC (C : List Int) (m k : Nat) : List Int := splice C k ((C.take m).drop (k + 1))
theorem cutN_take (N : List Int) (m k : Nat) (hm : 4 ≤ m) (hk : k < m) (hN : m ≤ N.length) : (cutN N m k).take (m - 1) = cutL (N.take m) k := by
  obtain ⟨a1, a2, _⟩ := around k m hm hk
  have hl : (N.take m).length = m := by simp; omega
  unfold cutN
  rw [splice_take _ m k hk (by rw [decr_length, decr_length]; exact hN), decr_take _ _ _ a2, decr_take _ _ _ a1]
  unfold cutL dec2
  rw [hl]
theorem cutC_take (C : List Int) (m k : Nat) (hk : k < m) (hC : m ≤ C.length) : (cutC C m k).take (m - 1) = (C.take m).eraseIdx k := splice_take C m k hk hC
theorem cutN_length (N : List Int) (m k : Nat) (hk : k < m) (hN : m ≤ N.length) : (cutN N m k).length = N.length := by
  unfold cutN
  rw [splice_length _ m k hk (by rw [decr_length, decr_length]; exact hN), decr_length, decr_length]
theorem cutC_length (C : List Int) (m k : Nat) (hk : k < m) (hC : m ≤ C.length) : (cutC C m k).length = C.length := splice_length C m k hk hC
theorem take_getD (l : List Int) (m i : Nat) (h : i < m) : (l.take m).getD i 0 = l.getD i 0 := by simp [h]

/-- numbers within a bound that cutting widens by one -/
def Near (b : Nat) (l : List Int) : Prop := ∀ i, -(b : Int) ≤ l.getD i 0 ∧ l.getD i 0 ≤ 12
theorem Near.decr {b : Nat} {l : List Int} (h : Near b l) (i : Nat) : Near (b + 1) (decr l i) := by
  intro j
  have := h j
  by_cases hj : j < l.length
  · rw [decr_get l i j hj]
    split <;> omega
  · have e : (Go.Proofs.Ytfkkbjbgjmaciaa.decr l i).getD j 0 = 0 := by simp [Go.Proofs.Ytfkkbjbgjmaciaa.decr, hj]
    rw [e]; omega
theorem Near.cutN {b : Nat} {N : List Int} (h : Near b N) (m k : Nat) : Near (b + 2) (cutN N m k) := by
  have h2 := (h.decr ((k + m - 1) % m)).decr ((k + 1) % m)
  unfold Go.Proofs.Ytfkkbjbgjmaciaa.cutN
  generalize Go.Proofs.Ytfkkbjbgjmaciaa.decr (Go.Proofs.Ytfkkbjbgjmaciaa.decr N ((k + m - 1) % m)) ((k + 1) % m) = X at *
  intro i
  have key : ∀ (Y : List Int) (j : Nat), (∀ y ∈ Y, -((b + 2 : Nat) : Int) ≤ y ∧ y ≤ 12) → -((b + 2 : Nat) : Int) ≤ Y.getD j 0 ∧ Y.getD j 0 ≤ 12 := by
    intro Y j hY
    by_cases hj : j < Y.length
    · have e : Y.getD j 0 = Y[j] := by simp [hj]
      rw [e]
      exact hY _ (List.getElem_mem hj)
    · have e : Y.getD j 0 = 0 := by simp [hj]
      rw [e]; omega
  refine key _ i fun y hy => ?_
  have hX : ∀ y ∈ X, -((b + 2 : Nat) : Int) ≤ y ∧ y ≤ 12 := by
    intro y hy
    obtain ⟨j, hj, rfl⟩ := List.getElem_of_mem hy
    have := h2 j
    simp [hj] at this
    omega
  unfold splice at hy
  rcases List.mem_append.1 hy with hy | hy
  · exact hX y (List.mem_of_mem_take hy)
  · rcases List.mem_append.1 hy with hy | hy
    · exact hX y (List.mem_of_mem_take (List.mem_of_mem_drop hy))
    · exact hX y (List.mem_of_mem_drop hy)
end Go.Proofs.Ytfkkbjbgjmaciaa
