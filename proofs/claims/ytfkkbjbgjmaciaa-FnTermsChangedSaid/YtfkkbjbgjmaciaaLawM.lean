/- The laws' own helpers over diagonals: marked and held; and how a function's results in new memory are told. -/
import Derived.Test.YtfkkbjbgjmaciaaLawD
namespace Go.Proofs.Ytfkkbjbgjmaciaa
set_option linter.unusedVariables false
open Go.RowKit



/-- what a function gives back that makes a list of numbers: the list in new memory, and whether it succeeds -/
def RetI (w : World) (L : List Int) (ok : Bool) (e : Ending) (w' : World) : Prop :=
  ∃ A c, e = .returned (.tuple #[.slice A L.length c, .bool ok]) ∧ w'.ownsRow w.heap.size 3 1 (.slice A L.length c) L.length (ics L) ∧ Below w.heap.size w w'
def RetD (w : World) (L : List (Int × Int)) (ok : Bool) (e : Ending) (w' : World) : Prop :=
  ∃ A c, e = .returned (.tuple #[.slice A L.length c, .bool ok]) ∧ w'.ownsRow w.heap.size 161 2 (.slice A L.length c) L.length (dcs L) ∧ Below w.heap.size w w'
/-- the same of a list alone -/
def GivI (w : World) (L : List Int) (e : Ending) (w' : World) : Prop :=
  ∃ A c, e = .returned (.slice A L.length c) ∧ w'.ownsRow w.heap.size 3 1 (.slice A L.length c) L.length (ics L) ∧ Below w.heap.size w w'
def GivD (w : World) (L : List (Int × Int)) (e : Ending) (w' : World) : Prop :=
  ∃ A c, e = .returned (.slice A L.length c) ∧ w'.ownsRow w.heap.size 161 2 (.slice A L.length c) L.length (dcs L) ∧ Below w.heap.size w w'

/-- a row in another block is as it was -/
theorem own_far {w w' : World} {base e size n : Nat} {v : Value} {xs : List Value} {row : Option Nat} (h : w.ownsRow base e size v n xs) (hg : w.grownBy w' row) (hne : ∀ k, v.ownBlock = some k → some k ≠ row) : w'.ownsRow base e size v n xs := by
  refine h.kept hg ?_
  cases hv : v.ownBlock with
  | none => exact .inl rfl
  | some k => exact .inr (by intro e; exact hne k hv e)
theorem below_grown {B : Nat} {w0 w w' : World} {row : Option Nat} (h : Below B w0 w) (hg : w.grownBy w' row) (hB : B ≤ w0.heap.size) (hr : ∀ k, row = some k → B ≤ k) : Below B w0 w' := h.grown hg (Nat.le_trans hB h.size) hr

theorem ne_old {w : World} {base e size n : Nat} {v : Value} {xs : List Value} (h : w.ownsRow base e size v n xs) : ∀ k, v.ownBlock = some k → some k ≠ some w.heap.size := fun k hk e => by
  have := (h.lt k hk).2
  injection e with e
  omega
theorem ne_new {w w' : World} {e size n g : Nat} {v : Value} {xs : List Value} (h : w'.ownsRow w.heap.size e size v n xs) (hg : g < w.heap.size) : ∀ k, v.ownBlock = some k → some k ≠ some g := fun k hk e => by
  have := (h.lt k hk).1
  injection e with e
  omega
theorem ne_two {w w' : World} {b e size n : Nat} {v v2 : Value} {xs : List Value} (h : ∀ k, v2.ownBlock = some k → b ≤ k ∧ k < w.heap.size) (h' : w'.ownsRow w.heap.size e size v n xs) : ∀ k, v2.ownBlock = some k → some k ≠ v.ownBlock := fun k hk e => by
  have := (h k hk).2
  have := (h'.lt k e.symm).1
  omega
theorem above {w w' : World} {B e size n : Nat} {v : Value} {xs : List Value} (h : w'.ownsRow w.heap.size e size v n xs) (hB : B ≤ w.heap.size) : ∀ k, v.ownBlock = some k → B ≤ k := fun k hk => by
  have := (h.lt k hk).1
  omega

theorem above_blk {B g n c : Nat} (h : B ≤ g) : ∀ k, (Value.slice (some ⟨g, 0, none⟩) n c).ownBlock = some k → B ≤ k := fun k hk => by
  simp [Value.ownBlock] at hk
  omega

end Go.Proofs.Ytfkkbjbgjmaciaa
