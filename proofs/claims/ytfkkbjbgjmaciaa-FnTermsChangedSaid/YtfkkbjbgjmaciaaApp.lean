/- append of one element to a list of the call's own: numbers, pairs. -/
import Derived.Test.YtfkkbjbgjmaciaaLawM
namespace Go.Proofs.Ytfkkbjbgjmaciaa
set_option linter.unusedVariables false
open Go.RowKit

section
variable {ops : Array Oper} {rest : List Oper} {o : Oper} {a : Act} {Q : Exit → Act → World → Prop}

theorem append1I (w : World) (hgd : o.guard = none) (s x : Operand) (ho : o.op = .call { callee := .builtin .append, args := #[s, x], argTypes := #[24, 24] })
    (base : Nat) (v : Value) (L : List Int) (hs : a.eval s = v) (hown : w.ownsRow base 3 1 v L.length (ics L)) (g : Nat) (y : Int) (hx : a.eval x = .slice (some ⟨g, 0, none⟩) 1 1)
    (hc : w.cell? ⟨g, 0, none⟩ = some (.int .i64 y)) (hlen : L.length ≤ 1000000) (hbase : base ≤ w.heap.size)
    (h : ∀ A' c' w', w'.ownsRow base 3 1 (.slice A' (L.length + 1) c') (L.length + 1) (ics (L ++ [y])) → w.grownBy w' v.ownBlock → wpList Try.prog ops Q rest (a.put o.dst (.slice A' (L.length + 1) c')) w') :
    wpList Try.prog ops Q (o :: rest) a w := by
  obtain ⟨i0, hi, hz0, hz1, hz2⟩ := info_parts infoI
  refine wpList_append_own w hgd s x 24 ho base 3 i0 (.int .i64 0) 1 8 Try.underlying24 hi hz0 hz1 hz2 rfl (by decide) v L.length (ics L) hs hown ⟨g, 0, none⟩ 1 1 (ics [y]) hx rfl ?_ ?_ ?_ ?_ hbase ?_
  · intro j u hu
    match j, hu with
    | 0, hu =>
      rw [Addr.add_zero', hc]
      simpa [ics] using hu
  · intro u hu
    simp [ics] at hu
    subst hu
    rfl
  · unfold maxLen; omega
  · omega
  · intro v' w' hown' hg _
    rw [← ics_append] at hown'
    obtain ⟨A', c', rfl⟩ := own_form hown'
    exact h A' c' w' hown' hg

theorem append1D (w : World) (hgd : o.guard = none) (s x : Operand) (ho : o.op = .call { callee := .builtin .append, args := #[s, x], argTypes := #[150, 150] })
    (base : Nat) (v : Value) (L : List (Int × Int)) (hs : a.eval s = v) (hown : w.ownsRow base 161 2 v L.length (dcs L)) (g : Nat) (y z : Int) (hx : a.eval x = .slice (some ⟨g, 0, none⟩) 1 1)
    (hc : w.cell? ⟨g, 0, none⟩ = some (.int .i64 y)) (hc' : w.cell? ⟨g, 1, none⟩ = some (.int .i64 z)) (hlen : L.length ≤ 1000000) (hbase : base ≤ w.heap.size)
    (h : ∀ A' c' w', w'.ownsRow base 161 2 (.slice A' (L.length + 1) c') (L.length + 1) (dcs (L ++ [(y, z)])) → w.grownBy w' v.ownBlock → wpList Try.prog ops Q rest (a.put o.dst (.slice A' (L.length + 1) c')) w') :
    wpList Try.prog ops Q (o :: rest) a w := by
  obtain ⟨i0, hi, hz0, hz1, hz2⟩ := info_parts infoD
  refine wpList_append_own w hgd s x 150 ho base 161 i0 (.agg #[.int .i64 0, .int .i64 0]) 2 16 Try.underlying150 hi hz0 hz1 hz2 rfl (by decide) v L.length (dcs L) hs hown ⟨g, 0, none⟩ 1 1 (dcs [(y, z)]) hx rfl ?_ ?_ ?_ ?_ hbase ?_
  · intro j u hu
    match j, hu with
    | 0, hu =>
      rw [Addr.add_zero', hc]
      simpa [dcs] using hu
    | 1, hu =>
      rw [Addr.add_lit, Nat.zero_add, hc']
      simpa [dcs] using hu
  · intro u hu
    simp [dcs] at hu
    rcases hu with rfl | rfl <;> rfl
  · unfold maxLen; omega
  · omega
  · intro v' w' hown' hg _
    rw [← dcs_append] at hown'
    obtain ⟨A', c', rfl⟩ := own_form hown'
    exact h A' c' w' hown' hg
theorem append1In (w : World) (hgd : o.guard = none) (s x : Operand) (ho : o.op = .call { callee := .builtin .append, args := #[s, x], argTypes := #[24, 24] })
    (base : Nat) (v : Value) (n : Nat) (L : List Int) (hn : L.length = n) (hs : a.eval s = v) (hown : w.ownsRow base 3 1 v n (ics L)) (g : Nat) (y : Int) (hx : a.eval x = .slice (some ⟨g, 0, none⟩) 1 1)
    (hc : w.cell? ⟨g, 0, none⟩ = some (.int .i64 y)) (hlen : n ≤ 1000000) (hbase : base ≤ w.heap.size)
    (h : ∀ A' c' w', w'.ownsRow base 3 1 (.slice A' (n + 1) c') (n + 1) (ics (L ++ [y])) → w.grownBy w' v.ownBlock → wpList Try.prog ops Q rest (a.put o.dst (.slice A' (n + 1) c')) w') :
    wpList Try.prog ops Q (o :: rest) a w := by
  subst hn
  exact append1I w hgd s x ho base v L hs hown g y hx hc hlen hbase h
theorem append1Dn (w : World) (hgd : o.guard = none) (s x : Operand) (ho : o.op = .call { callee := .builtin .append, args := #[s, x], argTypes := #[150, 150] })
    (base : Nat) (v : Value) (n : Nat) (L : List (Int × Int)) (hn : L.length = n) (hs : a.eval s = v) (hown : w.ownsRow base 161 2 v n (dcs L)) (g : Nat) (y z : Int) (hx : a.eval x = .slice (some ⟨g, 0, none⟩) 1 1)
    (hc : w.cell? ⟨g, 0, none⟩ = some (.int .i64 y)) (hc' : w.cell? ⟨g, 1, none⟩ = some (.int .i64 z)) (hlen : n ≤ 1000000) (hbase : base ≤ w.heap.size)
    (h : ∀ A' c' w', w'.ownsRow base 161 2 (.slice A' (n + 1) c') (n + 1) (dcs (L ++ [(y, z)])) → w.grownBy w' v.ownBlock → wpList Try.prog ops Q rest (a.put o.dst (.slice A' (n + 1) c')) w') :
    wpList Try.prog ops Q (o :: rest) a w := by
  subst hn
  exact append1D w hgd s x ho base v L hs hown g y z hx hc hc' hlen hbase h
end

/-- the indices of the first k numbers that are 1 -/
def onesF (q : List Int) (k : Nat) : List Int := ((List.range k).filter fun i => q.getD i 0 == 1).map fun (i : Nat) => (i : Int)
theorem onesF_zero (q : List Int) : onesF q 0 = [] := rfl
theorem onesF_hit (q : List Int) (k : Nat) (h : q.getD k 0 = 1) : onesF q (k + 1) = onesF q k ++ [(k : Int)] := by
  unfold onesF
  rw [List.range_succ, List.filter_append]
  simp [h]
  simp at h
  simp [h]
theorem onesF_miss (q : List Int) (k : Nat) (h : q.getD k 0 ≠ 1) : onesF q (k + 1) = onesF q k := by
  unfold onesF
  rw [List.range_succ, List.filter_append]
  simp
  simpa using h
theorem onesF_le (q : List Int) (k : Nat) : (onesF q k).length ≤ k := by
  unfold onesF
  rw [List.length_map]
  have := List.length_filter_le (fun i => q.getD i 0 == 1) (List.range k)
  simpa using this

end Go.Proofs.Ytfkkbjbgjmaciaa
