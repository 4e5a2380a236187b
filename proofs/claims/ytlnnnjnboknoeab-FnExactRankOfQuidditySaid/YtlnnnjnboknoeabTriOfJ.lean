/- The program's TriangulationOf and IsQuiddity. -/
import Derived.Test.YtlnnnjnboknoeabTriOfI
import Derived.Deep.LoopGhost
import Derived.OwnWalk
import Derived.ChangeKeysEq
namespace Go.Proofs.Ytlnnnjnboknoeab
set_option linter.unusedVariables false
open Go.RowKit

theorem Near.mono {b b' : Nat} {l : List Int} (h : Near b l) (hb : b ≤ b') : Near b' l := fun i => by
  have := h i
  omega
theorem slices_SortFunc_n (g cap n base e : Nat) (l : List (Int × Int)) (w : World) (hn : l.length = n) (h : w.ownsRow base e 2 (.slice (some ⟨g, 0, none⟩) n cap) n (dcs l)) (h12 : n ≤ 12) :
    Calls Try.prog 113 #[.slice (some ⟨g, 0, none⟩) n cap, .func (.func 104) #[] #[]] w fun r w' =>
      r = .returned (.tuple #[]) ∧ w'.ownsRow base e 2 (.slice (some ⟨g, 0, none⟩) n cap) n (dcs (sortD l)) ∧ w.grownBy w' (some g) := by
  subst hn
  exact slices_SortFunc g cap base e l w h h12

theorem search_none {l : List Int} {f : Nat} {N C : List Int} {out : List (Int × Int)} (hN : N.length = 12) (h12 : f + 1 + 3 ≤ 12) (hof : ofI (f + 1) (N.take (f + 1 + 3)) (C.take (f + 1 + 3)) out = triOf l) (hat : at1 (N.take (f + 1 + 3)) (f + 1 + 3) < 0) : triOf l = ([], false) := by
  have hl : (N.take (f + 1 + 3)).length = f + 1 + 3 := by simp; omega
  rw [← hof]
  unfold ofI
  rw [hl, if_pos hat]

theorem retD_no {w wr : World} {L : List (Int × Int)} {ok : Bool} (h : (L, ok) = ([], false)) (hb : Below w.heap.size w wr) : RetD w L ok (.returned (.tuple #[.slice none 0 0, .bool false])) wr := by
  cases h
  exact ⟨none, 0, rfl, World.ownsRow_nil _ _ _ _, hb⟩
theorem pair_eta {a : List (Int × Int) × Bool} : (a.1, a.2) = a := rfl

end Go.Proofs.Ytlnnnjnboknoeab
