/- The program's couldBeQuiddity and ringOf. -/
import Derived.Test.YtlnnnjnboknoeabRing
namespace Go.Proofs.Ytlnnnjnboknoeab
set_option linter.unusedVariables false
open Go.RowKit

def FoundI (q : Bool) (w : World) (e : Ending) (w' : World) : Prop := ∃ r : Int, e = .returned (.int .i64 r) ∧ decide (0 ≤ r) = q ∧ w = w'

def couldP (n x : Int) : Bool := decide (x < 1 ∨ n - 2 < x)
def couldAny (n : Int) (l : List Int) : Bool := l.any (couldP n)
theorem couldAny_take (n : Int) (l : List Int) (k : Nat) (h : k < l.length) : couldAny n (l.take (k + 1)) = (couldAny n (l.take k) || couldP n (l.getD k 0)) := by
  unfold couldAny
  rw [List.take_succ_eq_append_getElem h, List.any_append]
  simp [h]
theorem couldAny_hit (n : Int) (l : List Int) (k : Nat) (h : k < l.length) (hc : couldP n (l.getD k 0) = true) : couldAny n l = true := by
  unfold couldAny
  rw [List.any_eq_true]
  refine ⟨l[k], List.getElem_mem h, ?_⟩
  have e : l.getD k 0 = l[k] := by simp [h]
  rw [e] at hc
  exact hc

theorem couldAny_allB (l : List Int) (n : Int) : couldAny n l = !allB l 1 (n - 2) := by
  unfold couldAny allB
  induction l with
  | nil => rfl
  | cons x r ih =>
    rw [List.any_cons, List.all_cons, ih, Bool.not_and]
    congr 1
    unfold couldP
    rw [Bool.eq_iff_iff]
    simp

end Go.Proofs.Ytlnnnjnboknoeab
