/- Triangulations as a Bool on lists of pairs: plain mathematics. -/
import Derived.Test.YtfkkbjbgjmaciaaDiag
namespace Go.Proofs.Ytfkkbjbgjmaciaa
set_option linter.unusedVariables false

/-- the sign of a comparison of two numbers; the first one that is not 0 -/
def sgnI (a b : Int) : Int := if a < b then -1 else if b < a then 1 else 0
def orI (a b : Int) : Int := if a = 0 then b else a
/-- the sign of a comparison of two diagonals -/
def cmpD (a b c d : Int) : Int := if a < c then -1 else if c < a then 1 else if b < d then -1 else if d < b then 1 else 0
theorem cmpD_ge (a b c d : Int) : decide (0 ≤ cmpD a b c d) = !ltB a b c d := by
  unfold cmpD ltB
  by_cases h1 : a < c
  · simp [h1]
  · by_cases h2 : c < a
    · simp [h1, h2]; omega
    · have : a = c := by omega
      subst this
      by_cases h3 : b < d
      · simp [h3]
      · by_cases h4 : d < b
        · simp [h3, h4]
        · simp [h3, h4]

theorem orI_sgn (a b c d : Int) : orI (sgnI a c) (sgnI b d) = cmpD a b c d := by
  unfold orI sgnI cmpD
  by_cases h1 : a < c
  · simp [h1]
  · by_cases h2 : c < a
    · simp [h1, h2]
    · simp [h1, h2]

/-- a diagonal crosses one of a list -/
def anyCross (d : Int × Int) (l : List (Int × Int)) : Bool := l.any fun e => crB d.1 d.2 e.1 e.2
theorem anyCross_nil (d : Int × Int) : anyCross d [] = false := rfl
theorem anyCross_take (d : Int × Int) (l : List (Int × Int)) (k : Nat) (h : k < l.length) :
    anyCross d (l.take (k + 1)) = (anyCross d (l.take k) || crB d.1 d.2 (l.getD k (0, 0)).1 (l.getD k (0, 0)).2) := by
  unfold anyCross
  rw [List.take_succ_eq_append_getElem h, List.any_append]
  simp [h]
theorem anyCross_hit (d : Int × Int) (l : List (Int × Int)) (k : Nat) (h : k < l.length) (hc : crB d.1 d.2 (l.getD k (0, 0)).1 (l.getD k (0, 0)).2 = true) : anyCross d l = true := by
  unfold anyCross
  rw [List.any_eq_true]
  refine ⟨l[k], List.getElem_mem h, ?_⟩
  have e : l.getD k (0, 0) = l[k] := by simp [h]
  rw [e] at hc
  exact hc

/-- the i-th one of a list is a diagonal, crosses none ahead of it, and comes behind the one ahead of it -/
def okAt (n : Int) (ds : List (Int × Int)) (i : Nat) : Bool :=
  dgB n (ds.getD i (0, 0)).1 (ds.getD i (0, 0)).2 && !anyCross (ds.getD i (0, 0)) (ds.take i) &&
    (decide (i = 0) || ltB (ds.getD (i - 1) (0, 0)).1 (ds.getD (i - 1) (0, 0)).2 (ds.getD i (0, 0)).1 (ds.getD i (0, 0)).2)
def upTo (n : Int) (ds : List (Int × Int)) (k : Nat) : Bool := (List.range k).all (okAt n ds)
theorem upTo_zero (n : Int) (ds : List (Int × Int)) : upTo n ds 0 = true := rfl
theorem upTo_succ (n : Int) (ds : List (Int × Int)) (k : Nat) : upTo n ds (k + 1) = (upTo n ds k && okAt n ds k) := by
  simp [upTo, List.range_succ]
theorem upTo_false (n : Int) (ds : List (Int × Int)) (k m : Nat) (h : k < m) (hk : okAt n ds k = false) : upTo n ds m = false := by
  unfold upTo
  rw [List.all_eq_false]
  exact ⟨k, by simpa using h, by simp [hk]⟩
/-- a list of diagonals, in order, none crossing another one -/
def uncB (n : Int) (ds : List (Int × Int)) : Bool := upTo n ds ds.length
/-- a triangulation -/
def triB (n : Int) (ds : List (Int × Int)) : Bool := poB n && decide ((ds.length : Int) = n - 3) && uncB n ds

/- lists of diagonals in order; crossings told apart from order -/
theorem bool_ext {a b : Bool} (h : a = true ↔ b = true) : a = b := by
  cases a <;> cases b <;> simp_all
def ordAt (n : Int) (ds : List (Int × Int)) (i : Nat) : Bool := dgB n (ds.getD i (0, 0)).1 (ds.getD i (0, 0)).2 && (decide (i = 0) || ltB (ds.getD (i - 1) (0, 0)).1 (ds.getD (i - 1) (0, 0)).2 (ds.getD i (0, 0)).1 (ds.getD i (0, 0)).2)
def ordTo (n : Int) (ds : List (Int × Int)) (k : Nat) : Bool := (List.range k).all (ordAt n ds)
theorem ordTo_zero (n : Int) (ds : List (Int × Int)) : ordTo n ds 0 = true := rfl
theorem ordTo_succ (n : Int) (ds : List (Int × Int)) (k : Nat) : ordTo n ds (k + 1) = (ordTo n ds k && ordAt n ds k) := by simp [ordTo, List.range_succ]
theorem ordTo_false (n : Int) (ds : List (Int × Int)) (k m : Nat) (h : k < m) (hk : ordAt n ds k = false) : ordTo n ds m = false := by
  unfold ordTo
  rw [List.all_eq_false]
  exact ⟨k, by simpa using h, by simp [hk]⟩
def ordB (n : Int) (ds : List (Int × Int)) : Bool := ordTo n ds ds.length
def ncTo (ds : List (Int × Int)) (k : Nat) : Bool := (List.range k).all fun i => !anyCross (ds.getD i (0, 0)) (ds.take i)
theorem ncTo_zero (ds : List (Int × Int)) : ncTo ds 0 = true := rfl
theorem ncTo_succ (ds : List (Int × Int)) (k : Nat) : ncTo ds (k + 1) = (ncTo ds k && !anyCross (ds.getD k (0, 0)) (ds.take k)) := by simp [ncTo, List.range_succ]
theorem ncTo_false (ds : List (Int × Int)) (k m : Nat) (h : k < m) (hk : anyCross (ds.getD k (0, 0)) (ds.take k) = true) : ncTo ds m = false := by
  unfold ncTo
  rw [List.all_eq_false]
  exact ⟨k, by simpa using h, by rw [hk]; simp⟩
theorem uncB_split (n : Int) (ds : List (Int × Int)) : uncB n ds = (ordB n ds && ncTo ds ds.length) := by
  unfold uncB upTo ordB ordTo ncTo
  refine bool_ext ?_
  rw [Bool.and_eq_true, List.all_eq_true, List.all_eq_true, List.all_eq_true]
  have key : ∀ i, okAt n ds i = true ↔ (ordAt n ds i = true ∧ (!anyCross (ds.getD i (0, 0)) (ds.take i)) = true) := fun i => by
    unfold okAt ordAt
    generalize dgB n _ _ = a
    generalize anyCross _ _ = b
    generalize (decide (i = 0) || _) = c
    cases a <;> cases b <;> cases c <;> simp
  constructor
  · intro h
    exact ⟨fun i hi => ((key i).1 (h i hi)).1, fun i hi => ((key i).1 (h i hi)).2⟩
  · rintro ⟨h1, h2⟩ i hi
    exact (key i).2 ⟨h1 i hi, h2 i hi⟩
end Go.Proofs.Ytfkkbjbgjmaciaa
