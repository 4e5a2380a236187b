/- Contracts of the laws' own helpers over slices of numbers: compared, marked, held, copied, sized. -/
import Derived.Test.YtfkkbjbgjmaciaaDiag
import Derived.Deep.RegionHeld3
import Derived.Deep.QuietTactic
import Derived.BigQuiet
namespace Go.Proofs.Ytfkkbjbgjmaciaa
set_option linter.unusedVariables false
open Go.RowKit


/-- the marks from k on -/
def marksI (n : Nat) (k : Int) : List Int := (List.range n).map fun (i : Nat) => k + (i : Int)
theorem marksI_length (n : Nat) (k : Int) : (marksI n k).length = n := by simp [marksI]
theorem marksI_get (n : Nat) (k : Int) (j : Nat) (h : j < n) : (marksI n k).getD j 0 = k + (j : Int) := by simp [marksI, h]


/-- behind k marks: the first k are marks from 1 on, the others as they were -/
def halfI (l : List Int) (k : Nat) : List Int := marksI k 1 ++ l.drop k
theorem halfI_length (l : List Int) (k : Nat) (h : k ≤ l.length) : (halfI l k).length = l.length := by simp [halfI, marksI_length]; omega
theorem halfI_zero (l : List Int) : halfI l 0 = l := by simp [halfI, marksI]
theorem halfI_all (l : List Int) : halfI l l.length = marksI l.length 1 := by simp [halfI]
theorem marksI_succ (k : Nat) (a : Int) : marksI (k + 1) a = marksI k a ++ [a + (k : Int)] := by simp [marksI, List.range_succ]
theorem halfI_succ (l : List Int) (k : Nat) (h : k < l.length) : (halfI l k).set k ((k : Int) + 1) = halfI l (k + 1) := by
  unfold halfI
  rw [marksI_succ, List.set_append_right _ _ (by simp [marksI_length])]
  simp only [marksI_length, Nat.sub_self, List.append_assoc]
  congr 1
  rw [List.drop_eq_getElem_cons h, List.set_cons_zero, Int.add_comm]
  rfl




/-- a slice's value that owns its numbers reads as them -/
theorem own_form {w : World} {base e size n : Nat} {v : Value} {xs : List Value} (h : w.ownsRow base e size v n xs) : ∃ A c, v = .slice A n c := by
  rcases h.2 with ⟨rfl, rfl⟩ | ⟨g, cap, cur, rfl, _⟩
  · exact ⟨none, 0, rfl⟩
  · exact ⟨_, _, rfl⟩

theorem infoI : (Try.prog.info? 3).map (fun i => (i.zero, i.size, i.bytes)) = some (some (.int .i64 0), 1, 8) := by kernel_rfl

/-- behind k copies -/
def copyI (l : List Int) (k : Nat) : List Int := l.take k ++ List.replicate (l.length - k) 0
theorem copyI_length (l : List Int) (k : Nat) (h : k ≤ l.length) : (copyI l k).length = l.length := by simp [copyI]; omega
theorem copyI_zero (l : List Int) : copyI l 0 = List.replicate l.length 0 := by simp [copyI]
theorem copyI_all (l : List Int) : copyI l l.length = l := by simp [copyI]
theorem copyI_succ (l : List Int) (k : Nat) (h : k < l.length) : (copyI l k).set k (l.getD k 0) = copyI l (k + 1) := by
  unfold copyI
  have hk : (l.take k).length = k := by simp; omega
  rw [List.set_append_right _ _ (by omega), hk, Nat.sub_self, show l.length - k = (l.length - (k + 1)) + 1 by omega, List.replicate_succ, List.set_cons_zero,
    List.take_succ_eq_append_getElem h, List.append_assoc]
  simp [h]

end Go.Proofs.Ytfkkbjbgjmaciaa
