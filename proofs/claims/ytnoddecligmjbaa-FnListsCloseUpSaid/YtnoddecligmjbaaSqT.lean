/- The program's matrix of a list: squares in a slice of its own, multiplied in order. -/
import Derived.Test.YtnoddecligmjbaaMlM
import Derived.OwnWalk
namespace Go.Proofs.Ytnoddecligmjbaa
set_option linter.unusedVariables false
open Go.RowKit

/-- a row of squares that the call has made -/
def Qw (w : World) (base g n : Nat) (L : List M4) : Prop := L.length = n ∧ ∃ xs : List Value, w.ownsRow base 110 4 (.slice (some ⟨g, 0, none⟩) n n) n xs ∧
  ∀ j, j < n → xs[j * 4]? = some (.int .i64 (L.getD j M4.one).a) ∧ xs[j * 4 + 1]? = some (.int .i64 (L.getD j M4.one).b) ∧ xs[j * 4 + 2]? = some (.int .i64 (L.getD j M4.one).c) ∧ xs[j * 4 + 3]? = some (.int .i64 (L.getD j M4.one).d)
theorem Qw.cell {w : World} {base g n : Nat} {L : List M4} (h : Qw w base g n L) (j : Nat) (hj : j < n) :
    w.cell? ⟨g, j * 4, none⟩ = some (.int .i64 (L.getD j M4.one).a) ∧ w.cell? ⟨g, j * 4 + 1, none⟩ = some (.int .i64 (L.getD j M4.one).b) ∧ w.cell? ⟨g, j * 4 + 2, none⟩ = some (.int .i64 (L.getD j M4.one).c) ∧ w.cell? ⟨g, j * 4 + 3, none⟩ = some (.int .i64 (L.getD j M4.one).d) := by
  obtain ⟨_, xs, ho, hx⟩ := h
  obtain ⟨x0, x1, x2, x3⟩ := hx j hj
  exact ⟨(ho.cellAt _ (by omega)).trans x0, (ho.cellAt _ (by omega)).trans x1, (ho.cellAt _ (by omega)).trans x2, (ho.cellAt _ (by omega)).trans x3⟩
theorem Qw.frozen {w : World} {base g n : Nat} {L : List M4} (h : Qw w base g n L) (j : Nat) : w.frozen? ⟨g, j, none⟩ = false := by
  obtain ⟨_, xs, ho, _⟩ := h
  exact ho.frozenAt j
theorem Qw.lt {w : World} {base g n : Nat} {L : List M4} (h : Qw w base g n L) : base ≤ g ∧ g < w.heap.size := by
  obtain ⟨_, xs, ho, _⟩ := h
  exact ho.lt g rfl
theorem Qw.kept {w w' : World} {base g n : Nat} {L : List M4} (h : Qw w base g n L) (hb : Below w.heap.size w w') : Qw w' base g n L := by
  obtain ⟨e, xs, ho, hx⟩ := h
  exact ⟨e, xs, own_kept ho hb, hx⟩
theorem Qw.far {w w' : World} {base g n : Nat} {L : List M4} (h : Qw w base g n L) {k : Nat} (hg : w.grownBy w' (some k)) (hne : k ≠ g) : Qw w' base g n L := by
  obtain ⟨e, xs, ho, hx⟩ := h
  exact ⟨e, xs, own_far ho hg (fun z hz e => by cases hz; cases e; exact hne rfl), hx⟩
theorem Qw.slq {w : World} {base g n : Nat} {L : List M4} (h : Qw w base g n L) : SlQ w w.heap.size (some ⟨g, 0, none⟩) L := fun _ => by
  refine ⟨g, 0, rfl, h.lt.2, fun j hj => ?_⟩
  have hc := h.cell j (by rw [← h.1]; exact hj)
  rw [Nat.zero_add]
  exact hc
theorem Qw.stored {w : World} {base g n : Nat} {L : List M4} (h : Qw w base g n L) (k : Nat) (hk : k < n) (a b c d : Int) :
    Qw ((((w.setCell ⟨g, k * 4, none⟩ (.int .i64 a)).setCell ⟨g, k * 4 + 1, none⟩ (.int .i64 b)).setCell ⟨g, k * 4 + 2, none⟩ (.int .i64 c)).setCell ⟨g, k * 4 + 3, none⟩ (.int .i64 d)) base g n (L.set k ⟨a, b, c, d⟩) := by
  obtain ⟨e, xs, ho, hx⟩ := h
  have hl := ho.1
  have o4 := ((((ho.stored (k * 4) (.int .i64 a)).1.stored (k * 4 + 1) (.int .i64 b)).1.stored (k * 4 + 2) (.int .i64 c)).1.stored (k * 4 + 3) (.int .i64 d)).1
  refine ⟨by rw [List.length_set]; exact e, _, o4, fun j hj => ?_⟩
  by_cases hjk : j = k
  · subst hjk
    have e1 : (L.set j ⟨a, b, c, d⟩).getD j M4.one = ⟨a, b, c, d⟩ := by simp [e, hj]
    rw [e1]
    refine ⟨?_, ?_, ?_, ?_⟩ <;> simp only [List.getElem?_set] <;> simp <;> omega
  · have e1 : (L.set k ⟨a, b, c, d⟩).getD j M4.one = L.getD j M4.one := by simp [List.getElem?_set, Ne.symm hjk]
    rw [e1]
    obtain ⟨x0, x1, x2, x3⟩ := hx j hj
    refine ⟨?_, ?_, ?_, ?_⟩
    · rw [List.getElem?_set_ne (by omega), List.getElem?_set_ne (by omega), List.getElem?_set_ne (by omega), List.getElem?_set_ne (by omega)]; exact x0
    · rw [List.getElem?_set_ne (by omega), List.getElem?_set_ne (by omega), List.getElem?_set_ne (by omega), List.getElem?_set_ne (by omega)]; exact x1
    · rw [List.getElem?_set_ne (by omega), List.getElem?_set_ne (by omega), List.getElem?_set_ne (by omega), List.getElem?_set_ne (by omega)]; exact x2
    · rw [List.getElem?_set_ne (by omega), List.getElem?_set_ne (by omega), List.getElem?_set_ne (by omega), List.getElem?_set_ne (by omega)]; exact x3
theorem Qw.made {w : World} {base g n : Nat} (h : w.ownsRow base 110 4 (.slice (some ⟨g, 0, none⟩) n n) n (madeCells (Value.agg #[.int .i64 0, .int .i64 0, .int .i64 0, .int .i64 0]).cells (n * 4)).toList) : Qw w base g n (List.replicate n M4.zero) := by
  refine ⟨by simp, _, h, fun j hj => ?_⟩
  have e1 : (List.replicate n M4.zero).getD j M4.one = M4.zero := by simp [hj]
  rw [e1]
  have hc : (Value.agg #[.int .i64 0, .int .i64 0, .int .i64 0, .int .i64 0]).cells = #[Value.int .i64 0, .int .i64 0, .int .i64 0, .int .i64 0] := by rfl
  rw [hc]
  unfold madeCells M4.zero
  have hz : ∀ i, i < n * 4 → ((Array.range (n * 4)).map (#[Value.int .i64 0, .int .i64 0, .int .i64 0, .int .i64 0][· % (#[Value.int .i64 0, .int .i64 0, .int .i64 0, .int .i64 0] : Array Value).size]!)).toList[i]? = some (Value.int .i64 0) := by
    intro i hi
    have h4 : i % 4 = 0 ∨ i % 4 = 1 ∨ i % 4 = 2 ∨ i % 4 = 3 := by omega
    simp only [Array.toList_map, List.getElem?_map, Array.toList_range, List.getElem?_range hi, Option.map_some]
    show some (#[Value.int .i64 0, .int .i64 0, .int .i64 0, .int .i64 0][i % 4]!) = _
    rcases h4 with h4 | h4 | h4 | h4 <;> rw [h4] <;> rfl
  exact ⟨hz _ (by omega), hz _ (by omega), hz _ (by omega), hz _ (by omega)⟩
theorem infoQ : (Try.prog.info? 110).map (fun i => (i.zero, i.size, i.bytes)) = some (some (.agg #[.int .i64 0, .int .i64 0, .int .i64 0, .int .i64 0]), 4, 32) := by kernel_rfl
end Go.Proofs.Ytnoddecligmjbaa
