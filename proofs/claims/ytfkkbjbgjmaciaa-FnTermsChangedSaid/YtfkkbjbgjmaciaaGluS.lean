/- The model's GlueEar. -/
import Derived.Test.YtfkkbjbgjmaciaaIsQuiddityW
import Derived.Test.YtfkkbjbgjmaciaaPutA
namespace Go.Proofs.Ytfkkbjbgjmaciaa
set_option linter.unusedVariables false
open Go.RowKit

/-- an ear is to be glued behind the first p numbers -/
def gluP (q : List Int) (p : Nat) : List Int := q.take p ++ [1] ++ q.drop p
def gInc (l : List Int) (k : Nat) : List Int := l.set k (l.getD k 0 + 1)
def glueL (q : List Int) (t : Nat) : List Int := gInc (gInc (gluP q (t + 1)) t) ((t + 2) % (q.length + 1))
def okG (q : List Int) (i : Int) : Bool := isQ q && !decide (q.length = 12) && inB i 1 (q.length : Int)
def glueR (q : List Int) (i : Int) : List Int := if okG q i = true then glueL q (i - 1).toNat else []
theorem okG_iff {q : List Int} {i : Int} : okG q i = true ↔ isQ q = true ∧ q.length ≠ 12 ∧ 1 ≤ i ∧ i ≤ (q.length : Int) := by
  unfold okG inB
  simp [and_assoc]
theorem gluP_length (q : List Int) (p : Nat) (h : p ≤ q.length) : (gluP q p).length = q.length + 1 := by simp [gluP]; omega
theorem gInc_length (l : List Int) (k : Nat) : (gInc l k).length = l.length := by simp [gInc]
theorem glueL_length (q : List Int) (t : Nat) (h : t + 1 ≤ q.length) : (glueL q t).length = q.length + 1 := by
  unfold glueL
  rw [gInc_length, gInc_length, gluP_length q _ h]
theorem glueR_length (q : List Int) (i : Int) : (glueR q i).length ≤ 1000000000 := by
  unfold glueR
  split
  · rename_i h
    obtain ⟨hq, h12, h0, h1⟩ := okG_iff.1 h
    have := isQ_len hq
    rw [glueL_length q _ (by omega)]
    omega
  · simp
theorem retG_no {q : List Int} {i : Int} {w w' : World} (h : okG q i = false) (hb : Below w.heap.size w w') : RetI w (glueR q i) (okG q i) (.returned (.tuple #[.slice none 0 0, .bool false])) w' := by
  unfold glueR
  rw [h]
  exact ⟨none, 0, rfl, World.ownsRow_nil _ _ _ _, hb⟩
theorem gluP_bd {q : List Int} {p : Nat} (h : ∀ i, i < q.length → 1 ≤ q.getD i 0 ∧ q.getD i 0 ≤ 12) (j : Nat) (hj : j < (gluP q p).length) : 1 ≤ (gluP q p).getD j 0 ∧ (gluP q p).getD j 0 ≤ 12 := by
  have hm : ∀ x ∈ q, 1 ≤ x ∧ x ≤ 12 := fun x hx => by
    obtain ⟨i, hi, rfl⟩ := List.mem_iff_getElem.1 hx
    have := h i hi
    simpa [hi] using this
  have e : (gluP q p).getD j 0 = (gluP q p)[j] := by simp [hj]
  rw [e]
  have hx : (gluP q p)[j] ∈ gluP q p := List.getElem_mem hj
  generalize (gluP q p)[j] = x at *
  unfold gluP at hx
  rw [List.mem_append, List.mem_append] at hx
  rcases hx with (hx | hx) | hx
  · exact hm x (List.mem_of_mem_take hx)
  · simp at hx; omega
  · exact hm x (List.mem_of_mem_drop hx)
theorem glue_cells {w4 : World} {base c4 n : Nat} {A4 : Option Addr} {L : List Int} (own4 : w4.ownsRow base 3 1 (.slice A4 (n + 1) c4) (n + 1) (ics L)) (hL : L.length = n + 1) (t b : Nat) (ht : t < n + 1) (hb : b < n + 1) :
    ∃ gl, A4 = some ⟨gl, 0, none⟩ ∧ (w4.cell? ⟨gl, t, none⟩ = some (.int .i64 (L.getD t 0)) ∧ w4.frozen? ⟨gl, t, none⟩ = false) ∧
      ((w4.setCell ⟨gl, t, none⟩ (.int .i64 (L.getD t 0 + 1))).cell? ⟨gl, b, none⟩ = some (.int .i64 ((gInc L t).getD b 0)) ∧ (w4.setCell ⟨gl, t, none⟩ (.int .i64 (L.getD t 0 + 1))).frozen? ⟨gl, b, none⟩ = false) ∧
      ((w4.setCell ⟨gl, t, none⟩ (.int .i64 (L.getD t 0 + 1))).setCell ⟨gl, b, none⟩ (.int .i64 ((gInc L t).getD b 0 + 1))).ownsRow base 3 1 (.slice A4 (n + 1) c4) (n + 1) (ics (gInc (gInc L t) b)) ∧
      w4.grownBy ((w4.setCell ⟨gl, t, none⟩ (.int .i64 (L.getD t 0 + 1))).setCell ⟨gl, b, none⟩ (.int .i64 ((gInc L t).getD b 0 + 1))) (some gl) ∧ base ≤ gl := by
  obtain ⟨gl, cap0, hv, hgl, _⟩ := own4.form (by omega)
  cases hv
  obtain ⟨h1, h2⟩ := own4.stored t (.int .i64 (L.getD t 0 + 1))
  rw [ics_set, show L.set t (L.getD t 0 + 1) = gInc L t from rfl] at h1
  obtain ⟨h3, h4⟩ := h1.stored b (.int .i64 ((gInc L t).getD b 0 + 1))
  rw [ics_set, show (gInc L t).set b ((gInc L t).getD b 0 + 1) = gInc (gInc L t) b from rfl] at h3
  exact ⟨gl, rfl, ⟨by rw [own4.cellAt t (by omega), ics_get _ _ (by omega)], own4.frozenAt t⟩, ⟨by rw [h1.cellAt b (by omega), ics_get _ _ (by rw [gInc_length]; omega)], h1.frozenAt b⟩, h3, h2.trans h4, hgl⟩
theorem gInc_bd {L : List Int} (h : ∀ j, j < L.length → 1 ≤ L.getD j 0 ∧ L.getD j 0 ≤ 12) (t b : Nat) (hb : b < L.length) : 1 ≤ (gInc L t).getD b 0 ∧ (gInc L t).getD b 0 ≤ 13 := by
  unfold gInc
  simp only [List.getD_eq_getElem?_getD, List.getElem?_set]
  have h1 := h b hb
  simp only [List.getD_eq_getElem?_getD] at h1
  split
  · rename_i e
    subst e
    rw [if_pos hb]
    show 1 ≤ L[t]?.getD 0 + 1 ∧ L[t]?.getD 0 + 1 ≤ 13
    omega
  · omega

end Go.Proofs.Ytfkkbjbgjmaciaa
