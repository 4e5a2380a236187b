/- Entries of a frieze: the model's frEntry, the program's entriesOf; EntryOf's walk. -/
import Derived.Test.YtbpaaoeefcebeabFrM
import Derived.Test.YtbpaaoeefcebeabIsQuiddityW
import Derived.IntWalk
namespace Go.Proofs.Ytbpaaoeefcebeab
set_option linter.unusedVariables false
open Go.RowKit

/-- where an index lies, around -/
theorem md_at (k : Int) (n : Nat) (hn : 1 ≤ n) : ∃ r : Nat, r < n ∧ (k.tmod (n : Int) + (n : Int)) % (n : Int) = (r : Int) ∧ (mdI k n).toNat = r := by
  have h := mdI_bd k n (by omega)
  obtain ⟨r, hr⟩ := Int.eq_ofNat_of_zero_le h.1
  refine ⟨r, by omega, hr, ?_⟩
  rw [hr]
  rfl

/-- the two cells that the closure of entriesOf holds -/
def Caps (w : World) (gq gn : Nat) (A : Option Addr) (c : Nat) (q : List Int) : Prop :=
  w.cell? ⟨gq, 0, none⟩ = some (.slice A q.length c) ∧ w.cell? ⟨gn, 0, none⟩ = some (.int .i64 q.length)

/-- there is an entry of i and j -/
def okE (q : List Int) (i j : Int) : Bool := isQ q && inB i (-1000) 1000 && inB j i (i + q.length)
theorem inB_iff' {n lo hi : Int} : inB n lo hi = true ↔ lo ≤ n ∧ n ≤ hi := by unfold inB; simp
theorem okE_iff {q : List Int} {i j : Int} : okE q i j = true ↔ isQ q = true ∧ (-1000 ≤ i ∧ i ≤ 1000) ∧ (i ≤ j ∧ j ≤ i + q.length) := by
  unfold okE
  rw [Bool.and_eq_true, Bool.and_eq_true, inB_iff', inB_iff', and_assoc]
def entR (q : List Int) (i j : Int) : Int := if okE q i j = true then ent q i j else 0
def EntEnd (q : List Int) (i j : Int) (w : World) (e : Ending) (w' : World) : Prop := e = .returned (.tuple #[.int .i64 (entR q i j), .bool (okE q i j)]) ∧ Below w.heap.size w w'
theorem entEnd_no {q : List Int} {i j : Int} {w w' : World} (h : okE q i j = false) (hb : Below w.heap.size w w') : EntEnd q i j w (.returned (.tuple #[.int .i64 0, .bool false])) w' := by
  unfold EntEnd entR
  rw [h]
  exact ⟨rfl, hb⟩
theorem entEnd_yes {q : List Int} {i j : Int} {w w' : World} (h : okE q i j = true) (hb : Below w.heap.size w w') : EntEnd q i j w (.returned (.tuple #[.int .i64 (ent q i j), .bool true])) w' := by
  unfold EntEnd entR
  rw [h]
  exact ⟨rfl, hb⟩

end Go.Proofs.Ytbpaaoeefcebeab
