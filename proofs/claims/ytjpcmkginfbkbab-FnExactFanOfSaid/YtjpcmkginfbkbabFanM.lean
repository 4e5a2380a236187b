/- Fans and zigzags: plain mathematics. -/
import Derived.Test.YtjpcmkginfbkbabSortM
namespace Go.Proofs.Ytjpcmkginfbkbab
set_option linter.unusedVariables false

/-- two corners put in order -/
def jn (a b : Int) : Int × Int := (min a b, max a b)
/-- the model's fan behind j steps -/
def fanS (n at_ : Int) (j : Nat) : List (Int × Int) := (List.range j).map fun (i : Nat) => jn at_ ((at_ + ((i : Int) + 2)) % n)
theorem fanS_length (n at_ : Int) (j : Nat) : (fanS n at_ j).length = j := by simp [fanS]
theorem fanS_succ (n at_ : Int) (j : Nat) : fanS n at_ (j + 1) = fanS n at_ j ++ [jn at_ ((at_ + ((j : Int) + 2)) % n)] := by simp [fanS, List.range_succ]
/-- the program's fan behind k corners -/
def fanI (n at_ : Int) (k : Nat) : List (Int × Int) := ((List.range k).map fun (o : Nat) => jn at_ (o : Int)).filter fun d => dgB n d.1 d.2
theorem fanI_hit (n at_ : Int) (k : Nat) (h : dgB n (jn at_ (k : Int)).1 (jn at_ (k : Int)).2 = true) : fanI n at_ (k + 1) = fanI n at_ k ++ [jn at_ (k : Int)] := by
  unfold fanI
  rw [List.range_succ, List.map_append, List.filter_append]
  simp [h]
theorem fanI_miss (n at_ : Int) (k : Nat) (h : dgB n (jn at_ (k : Int)).1 (jn at_ (k : Int)).2 = false) : fanI n at_ (k + 1) = fanI n at_ k := by
  unfold fanI
  rw [List.range_succ, List.map_append, List.filter_append]
  simp [h]
theorem fanI_le (n at_ : Int) (k : Nat) : (fanI n at_ k).length ≤ k := by
  unfold fanI
  refine Nat.le_trans (List.length_filter_le _ _) ?_
  simp
theorem fan_all : ∀ n : Fin 13, ∀ a : Fin 13, 3 ≤ n.val → a.val < n.val → sortD (fanS (n.val : Int) (a.val : Int) (n.val - 3)) = fanI (n.val : Int) (a.val : Int) n.val := by decide +kernel
theorem fan_eq {n a : Nat} (h3 : 3 ≤ n) (h12 : n ≤ 12) (ha : a < n) : sortD (fanS (n : Int) (a : Int) (n - 3)) = fanI (n : Int) (a : Int) n :=
  fan_all ⟨n, by omega⟩ ⟨a, by omega⟩ h3 ha
/-- a fan; none of other numbers -/
def fanL (n at_ : Int) : List (Int × Int) := if (poB n && inB at_ 0 (n - 1)) = true then fanI n at_ n.toNat else []
theorem fanL_length (n at_ : Int) : (fanL n at_).length ≤ 1000000000 := by
  unfold fanL
  split
  · rename_i h
    rw [Bool.and_eq_true] at h
    have h1 : 3 ≤ n ∧ n ≤ 12 := by have := h.1; unfold poB at this; simpa using this
    have := fanI_le n at_ n.toNat
    omega
  · simp

/-- the zigzag behind j steps -/
def zigL (n : Int) (j : Nat) : List (Int × Int) := (List.range j).map fun (i : Nat) => (1 + ((i / 2 : Nat) : Int), n - 1 - (((i + 1) / 2 : Nat) : Int))
theorem zigL_length (n : Int) (j : Nat) : (zigL n j).length = j := by simp [zigL]
theorem zigL_succ (n : Int) (j : Nat) : zigL n (j + 1) = zigL n j ++ [(1 + ((j / 2 : Nat) : Int), n - 1 - (((j + 1) / 2 : Nat) : Int))] := by simp [zigL, List.range_succ]
def zigR (n : Int) : List (Int × Int) := if poB n = true then sortD (zigL n (n - 3).toNat) else []
theorem zigR_length (n : Int) : (zigR n).length ≤ 1000000000 := by
  unfold zigR
  split
  · rename_i h
    have h1 : 3 ≤ n ∧ n ≤ 12 := by unfold poB at h; simpa using h
    rw [sortD_length, zigL_length]; omega
  · simp
end Go.Proofs.Ytjpcmkginfbkbab
