/- Pairs in order, chosen by a test: plain mathematics. -/
import Derived.Test.YtfffnkbjhbaceabFrM
import Derived.Test.YtfffnkbjhbaceabDiag
namespace Go.Proofs.Ytfffnkbjhbaceab
set_option linter.unusedVariables false
open Go.RowKit

/-- the pairs of a with the numbers below m that are chosen -/
def prs (a : Nat) (p : Nat → Bool) (m : Nat) : List (Int × Int) := ((List.range m).filter p).map fun (b : Nat) => ((a : Int), (b : Int))
theorem prs_succ (a : Nat) (p : Nat → Bool) (m : Nat) : prs a p (m + 1) = prs a p m ++ (if p m = true then [((a : Int), (m : Int))] else []) := by
  unfold prs
  rw [List.range_succ, List.filter_append, List.map_append]
  cases h : p m <;> simp [h]
theorem prs_yes {a : Nat} {p : Nat → Bool} {m : Nat} (h : p m = true) : prs a p (m + 1) = prs a p m ++ [((a : Int), (m : Int))] := by rw [prs_succ, if_pos h]
theorem prs_no {a : Nat} {p : Nat → Bool} {m : Nat} (h : p m = false) : prs a p (m + 1) = prs a p m := by rw [prs_succ, if_neg (by rw [h]; simp), List.append_nil]
theorem prs_same {a : Nat} {p : Nat → Bool} {m : Nat} : ∀ d, (∀ b, m ≤ b → b < m + d → p b = false) → prs a p (m + d) = prs a p m := by
  intro d
  induction d with
  | zero => intro _; rfl
  | succ d ih =>
    intro h
    rw [← Nat.add_assoc, prs_no (h (m + d) (by omega) (by omega))]
    exact ih fun b h1 h2 => h b h1 (by omega)
theorem prs_none {a : Nat} {p : Nat → Bool} {m : Nat} (h : ∀ b, b < m → p b = false) : prs a p m = [] := by
  have := prs_same (a := a) (p := p) (m := 0) m (fun b _ hb => h b (by omega))
  rw [Nat.zero_add] at this
  rw [this]
  rfl
theorem prs_length (a : Nat) (p : Nat → Bool) (m : Nat) : (prs a p m).length ≤ m := by
  unfold prs
  rw [List.length_map]
  refine Nat.le_trans (List.length_filter_le _ _) ?_
  simp
/-- all of them, number by number -/
def rws (f : Nat → Nat → Bool) (n m : Nat) : List (Int × Int) := (List.range m).flatMap fun a => prs a (f a) n
theorem rws_succ (f : Nat → Nat → Bool) (n m : Nat) : rws f n (m + 1) = rws f n m ++ prs m (f m) n := by simp [rws, List.range_succ]
theorem rws_length (f : Nat → Nat → Bool) (n : Nat) : ∀ m, (rws f n m).length ≤ m * n := by
  intro m
  induction m with
  | zero => simp [rws]
  | succ m ih =>
    rw [rws_succ, List.length_append, Nat.succ_mul]
    have := prs_length m (f m) n
    omega
/-- a pair whose entry is 1 -/
def eP (q : List Int) (p : Int × Int) : Bool := decide (ent q p.1 p.2 = 1)
def dB (n a b : Nat) : Bool := dgB n a b
def oB (q : List Int) (n a b : Nat) : Bool := dB n a b && eP q ((a : Int), (b : Int))
theorem prs_filter (q : List Int) (n a m : Nat) : (prs a (dB n a) m).filter (eP q) = prs a (oB q n a) m := by
  induction m with
  | zero => rfl
  | succ m ih =>
    rw [prs_succ, prs_succ, List.filter_append, ih]
    congr 1
    unfold oB
    cases h1 : dB n a m <;> cases h2 : eP q ((a : Int), (m : Int)) <;> simp [h2]
theorem rws_filter (q : List Int) (n N m : Nat) : (rws (dB n) N m).filter (eP q) = rws (oB q n) N m := by
  induction m with
  | zero => rfl
  | succ m ih => rw [rws_succ, rws_succ, List.filter_append, ih, prs_filter]
theorem dB_iff {n a b : Nat} : dB n a b = true ↔ 3 ≤ n ∧ n ≤ 12 ∧ b < n ∧ a + 2 ≤ b ∧ b + 2 ≤ n + a := by
  unfold dB dgB
  rw [decide_eq_true_eq]
  omega
theorem dB_low {n a b : Nat} (h : b < a + 2) : dB n a b = false := by
  cases hd : dB n a b
  · rfl
  · have := dB_iff.1 hd; omega
theorem dB_high {n a b : Nat} (h : n ≤ b) : dB n a b = false := by
  cases hd : dB n a b
  · rfl
  · have := dB_iff.1 hd; omega
theorem oB_low {q : List Int} {n a b : Nat} (h : b < a + 2) : oB q n a b = false := by unfold oB; rw [dB_low h]; rfl
theorem oB_high {q : List Int} {n a b : Nat} (h : n ≤ b) : oB q n a b = false := by unfold oB; rw [dB_high h]; rfl
/-- at the end of an inner loop -/
theorem prs_end {n a b : Nat} {p : Nat → Bool} (hlow : ∀ b, b < a + 2 → p b = false) (hhigh : ∀ b, n ≤ b → p b = false) (hb : n ≤ b) : prs a p b = prs a p n := by
  obtain ⟨d, rfl⟩ : ∃ d, b = n + d := ⟨b - n, by omega⟩
  exact prs_same d fun b h _ => hhigh b h
theorem take_filter {p : Int × Int → Bool} (L : List (Int × Int)) (k : Nat) (h : k < L.length) : (L.take (k + 1)).filter p = (L.take k).filter p ++ (if p (L.getD k (0, 0)) = true then [L.getD k (0, 0)] else []) := by
  rw [List.take_succ_eq_append_getElem h, List.filter_append]
  have e : L.getD k (0, 0) = L[k] := by simp [h]
  rw [e]
  cases hp : p L[k] <;> simp [hp]
theorem rws_mem {n m N : Nat} {p : Int × Int} (h : p ∈ rws (dB n) N m) : (-2000 ≤ p.1 ∧ p.1 ≤ 2000) ∧ p.1 ≤ p.2 ∧ p.2 ≤ p.1 + 20 := by
  unfold rws prs at h
  simp only [List.mem_flatMap, List.mem_map, List.mem_filter] at h
  obtain ⟨a, _, b, ⟨_, hb⟩, rfl⟩ := h
  have := dB_iff.1 hb
  dsimp only
  omega
/-- what comes back -/
def onR (q : List Int) : List (Int × Int) := if isQ q = true then rws (oB q q.length) q.length q.length else []
theorem onR_no {q : List Int} (h : isQ q = false) : onR q = [] := if_neg (by rw [h]; simp)
theorem onR_yes {q : List Int} (h : isQ q = true) : onR q = rws (oB q q.length) q.length q.length := if_pos h
theorem onR_length (q : List Int) : (onR q).length ≤ 1000000000 := by
  cases h : isQ q
  · rw [onR_no h]; simp
  · rw [onR_yes h]
    obtain ⟨h3, h12⟩ := isQ_len h
    have := rws_length (oB q q.length) q.length q.length
    have h2 : q.length * q.length ≤ 12 * 12 := Nat.mul_le_mul h12 h12
    omega
end Go.Proofs.Ytfffnkbjhbaceab
