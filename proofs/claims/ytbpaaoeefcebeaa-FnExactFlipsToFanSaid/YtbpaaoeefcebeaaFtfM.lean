/- Flips to fans: plain mathematics. -/
import Derived.Test.YtbpaaoeefcebeaaFlipM
namespace Go.Proofs.Ytbpaaoeefcebeaa
set_option linter.unusedVariables false

/-- a diagonal has a corner -/
def hasAt (e : Int × Int) (c : Int) : Bool := decide (e.1 = c) || decide (e.2 = c)
/-- the first diagonal whose flip brings one with the corner in -/
noncomputable def ffind (n : Int) (c : Int) (l : List (Int × Int)) : Option (Int × Int) := l.find? fun d => hasAt (oth n l d) c
noncomputable def fanG (n : Int) (c : Int) : Nat → List (Int × Int) → List (Int × Int)
  | 0, _ => []
  | f + 1, l => match ffind n c l with
    | some d => d :: fanG n c f (flipL n l d)
    | none => []
theorem fanG_none {n c : Int} {l : List (Int × Int)} (h : ffind n c l = none) (f : Nat) : fanG n c f l = [] := by
  cases f with
  | zero => rfl
  | succ f => simp only [fanG, h]
theorem fanG_some {n c : Int} {l : List (Int × Int)} {d : Int × Int} (h : ffind n c l = some d) (f : Nat) : fanG n c (f + 1) l = d :: fanG n c f (flipL n l d) := by
  simp only [fanG, h]
theorem fanG_le (n c : Int) : ∀ (f : Nat) (l : List (Int × Int)), (fanG n c f l).length ≤ f := by
  intro f
  induction f with
  | zero => intro l; simp [fanG]
  | succ f ih =>
    intro l
    cases h : ffind n c l with
    | none => rw [fanG_none h]; simp
    | some d =>
      rw [fanG_some h, List.length_cons]
      have := ih (flipL n l d)
      omega
theorem ffind_mem {n c : Int} {l : List (Int × Int)} {d : Int × Int} (h : ffind n c l = some d) : d ∈ l ∧ hasAt (oth n l d) c = true := by
  unfold ffind at h
  exact ⟨List.mem_of_find?_eq_some h, by simpa using List.find?_some h⟩
theorem ffind_first {n c : Int} {l : List (Int × Int)} {k : Nat} (hk : k < l.length) (hno : ∀ j, j < k → hasAt (oth n l (l.getD j (0, 0))) c = false) (h : hasAt (oth n l (l.getD k (0, 0))) c = true) : ffind n c l = some (l.getD k (0, 0)) := by
  unfold ffind
  rw [List.find?_eq_some_iff_getElem]
  rw [getD_at hk] at h ⊢
  refine ⟨by simpa using h, k, hk, rfl, fun j hj => ?_⟩
  have := hno j hj
  rw [getD_at (by omega)] at this
  simpa using this
theorem ffind_no {n c : Int} {l : List (Int × Int)} {m : Nat} (hm : l.length = m) (hno : ∀ j, j < m → hasAt (oth n l (l.getD j (0, 0))) c = false) : ffind n c l = none := by
  unfold ffind
  rw [List.find?_eq_none]
  intro x hx
  obtain ⟨i, hi, rfl⟩ := List.getElem_of_mem hx
  have := hno i (by omega)
  rw [getD_at hi] at this
  simpa using this
/-- how many diagonals have the corner -/
def degAt (l : List (Int × Int)) (c : Int) : Nat := l.countP fun d => hasAt d c
theorem deg_le (l : List (Int × Int)) (c : Int) : degAt l c ≤ l.length := List.countP_le_length
theorem deg_flip {n c : Int} {l : List (Int × Int)} (T : Tri n l) {d : Int × Int} (h : ffind n c l = some d) : degAt (flipL n l d) c = degAt l c + 1 := by
  obtain ⟨hm, hc⟩ := ffind_mem h
  have ho := oth_is T hm
  have hd : hasAt d c = false := by
    have := ho.pos
    unfold hasAt at hc ⊢
    simp only [Bool.or_eq_true, decide_eq_true_eq] at hc
    simp only [Bool.or_eq_false_iff, decide_eq_false_iff_not]
    omega
  unfold degAt
  rw [(flip_perm n l d).countP_eq, (perm_erase T.nodup hm).countP_eq, List.countP_append, List.countP_cons, List.countP_cons, hd, hc]
  simp
noncomputable def ffR (n : Int) (l : List (Int × Int)) (c : Int) : List (Int × Int) := if (triB n l && decide (0 ≤ c ∧ c ≤ n - 1)) = true then fanG n c n.toNat l else []
theorem ffR_yes {n c : Int} {l : List (Int × Int)} (h : (triB n l && decide (0 ≤ c ∧ c ≤ n - 1)) = true) : ffR n l c = fanG n c n.toNat l := by unfold ffR; rw [if_pos h]
theorem ffR_no {n c : Int} {l : List (Int × Int)} (h : (triB n l && decide (0 ≤ c ∧ c ≤ n - 1)) = false) : ffR n l c = [] := by unfold ffR; rw [h]; rfl
theorem ffR_length (n : Int) (l : List (Int × Int)) (c : Int) : (ffR n l c).length ≤ 1000000000 := by
  cases h : (triB n l && decide (0 ≤ c ∧ c ≤ n - 1))
  · rw [ffR_no h]; simp
  · rw [ffR_yes h]
    rw [Bool.and_eq_true] at h
    have := (tri_of h.1).n12
    have := fanG_le n c n.toNat l
    omega
end Go.Proofs.Ytbpaaoeefcebeaa
