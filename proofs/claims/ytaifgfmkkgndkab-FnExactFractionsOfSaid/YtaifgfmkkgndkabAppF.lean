/- Appends to rows of fractions. -/
import Derived.Test.YtaifgfmkkgndkabAppS
import Derived.Test.YtaifgfmkkgndkabLawF
namespace Go.Proofs.Ytaifgfmkkgndkab
set_option linter.unusedVariables false
open Go.RowKit

section
variable {ops : Array Oper} {rest : List Oper} {o : Oper} {a : Act} {Q : Exit → Act → World → Prop}
theorem wp_appendSF {K : Act → World → Prop} (w : World) (s x : Operand) (ho : o.op = .call { callee := .builtin .append, args := #[s, x], argTypes := #[22, 22] })
    (base : Nat) (v : Value) (L : List (Int × Int)) (hs : a.eval s = v) (hown : w.ownsRow base 32 2 v L.length (dcs L)) (A : Option Addr) (m c : Nat) (r : List (Int × Int)) (B : Nat) (hx : a.eval x = .slice A m c) (hm : r.length = m)
    (hr : SlD w B A r) (hlen : L.length ≤ 1000000) (hlr : m ≤ 1000000) (hbase : base ≤ w.heap.size)
    (h : ∀ A' c' w', w'.ownsRow base 32 2 (.slice A' (L.length + m) c') (L.length + m) (dcs (L ++ r)) → w.grownBy w' v.ownBlock → K (a.put o.dst (.slice A' (L.length + m) c')) w') :
    o.wp Try.prog a w K Q := by
  obtain ⟨i0, hi, hz0, hz1, hz2⟩ := info_parts infoF
  have fin : ∀ v' w', w'.ownsRow base 32 2 v' (L.length + m) (dcs L ++ dcs r) → w.grownBy w' v.ownBlock → K (a.put o.dst v') w' := by
    intro v' w' ho' hg
    rw [← dcs_append] at ho'
    obtain ⟨A', c', rfl⟩ := own_form ho'
    exact h A' c' w' ho' hg
  by_cases h0 : 0 < r.length
  · obtain ⟨b, off, rfl, _, _⟩ := hr h0
    exact wp_append_own w s x 22 ho base 32 i0 (.agg #[.int .i64 0, .int .i64 0]) 2 16 Try.underlying22 hi hz0 hz1 hz2 rfl (by decide) v L.length (dcs L) hs hown ⟨b, off, none⟩ m c (dcs r) hx (by rw [dcs_length, hm]) hr.news one_dcs
      (by unfold maxLen; omega) (by omega) hbase (fun v' w' h1 h2 _ => fin v' w' h1 h2)
  · obtain rfl : r = [] := List.eq_nil_of_length_eq_zero (by omega)
    obtain rfl : m = 0 := hm.symm
    cases A with
    | some ad =>
      exact wp_append_own w s x 22 ho base 32 i0 (.agg #[.int .i64 0, .int .i64 0]) 2 16 Try.underlying22 hi hz0 hz1 hz2 rfl (by decide) v L.length (dcs L) hs hown ad 0 c (dcs []) hx rfl (fun j u hu => by simp [dcs] at hu) one_dcs
        (by unfold maxLen; omega) (by omega) hbase (fun v' w' h1 h2 _ => fin v' w' h1 h2)
    | none =>
      obtain ⟨v', hrun⟩ : ∃ v', (Builtin.append_ #[22, 22] o.type #[v, .slice none 0 c]).run Try.prog w = .ok v' w ∧ v' = v := by
        refine ⟨v, ?_, rfl⟩
        rcases hown.2 with ⟨rfl, hn⟩ | ⟨g, cap, cur, rfl, _, _, hnc, _⟩
        · simp [Builtin.append_, run_underlying Try.underlying22, sizeOf, typeInfo, hi, Builtin.lenOf, Builtin.firstCells]
        · simp [Builtin.append_, run_underlying Try.underlying22, sizeOf, typeInfo, hi, Builtin.lenOf, Builtin.firstCells, hnc, storeCells]
      obtain ⟨hrun, rfl⟩ := hrun
      unfold Oper.wp execOp
      simp only [ho, resolve, invoke, builtin, Sem.run_bind, Sem.run_pure, Result.andThen_ok, List.map_toArray, List.map_cons, List.map_nil, hs, hx, hrun]
      exact fin v' w (by simpa [dcs] using hown) (World.grownBy.refl w _)

theorem wpList_appendSF (w : World) (hgd : o.guard = none) (s x : Operand) (ho : o.op = .call { callee := .builtin .append, args := #[s, x], argTypes := #[22, 22] })
    (base : Nat) (v : Value) (L : List (Int × Int)) (hs : a.eval s = v) (hown : w.ownsRow base 32 2 v L.length (dcs L)) (A : Option Addr) (m c : Nat) (r : List (Int × Int)) (B : Nat) (hx : a.eval x = .slice A m c) (hm : r.length = m)
    (hr : SlD w B A r) (hlen : L.length ≤ 1000000) (hlr : m ≤ 1000000) (hbase : base ≤ w.heap.size)
    (h : ∀ A' c' w', w'.ownsRow base 32 2 (.slice A' (L.length + m) c') (L.length + m) (dcs (L ++ r)) → w.grownBy w' v.ownBlock → wpList Try.prog ops Q rest (a.put o.dst (.slice A' (L.length + m) c')) w') :
    wpList Try.prog ops Q (o :: rest) a w :=
  wpList_plain hgd fun _ hK => wp_appendSF w s x ho base v L hs hown A m c r B hx hm hr hlen hlr hbase fun A' c' w' h1 h2 => hK _ _ (h A' c' w' h1 h2)

theorem step_appendSF {K : Act → World → Prop} {E : Prop} (w : World) (hgd : o.guard = none) (s x : Operand) (ho : o.op = .call { callee := .builtin .append, args := #[s, x], argTypes := #[22, 22] })
    (base : Nat) (v : Value) (L : List (Int × Int)) (hs : a.eval s = v) (hown : w.ownsRow base 32 2 v L.length (dcs L)) (A : Option Addr) (m c : Nat) (r : List (Int × Int)) (B : Nat) (hx : a.eval x = .slice A m c) (hm : r.length = m)
    (hr : SlD w B A r) (hlen : L.length ≤ 1000000) (hlr : m ≤ 1000000) (hbase : base ≤ w.heap.size)
    (h : ∀ A' c' w', w'.ownsRow base 32 2 (.slice A' (L.length + m) c') (L.length + m) (dcs (L ++ r)) → w.grownBy w' v.ownBlock → K (a.put o.dst (.slice A' (L.length + m) c')) w') :
    if Region.wanted o (yielded ops a.tmps) = true then Oper.wp Try.prog o a w K Q else E := by
  have hw : Region.wanted o (yielded ops a.tmps) = true := by simp [Region.wanted, hgd]
  rw [if_pos hw]
  exact wp_appendSF w s x ho base v L hs hown A m c r B hx hm hr hlen hlr hbase h
end

theorem step_appendNF {ops : Array Oper} {o : Oper} {a : Act} {Q : Exit → Act → World → Prop} {K : Act → World → Prop} {E : Prop} (w : World) (hgd : o.guard = none) (s x : Operand) (ho : o.op = .call { callee := .builtin .append, args := #[s, x], argTypes := #[22, 22] })
    (base : Nat) (v : Value) (n : Nat) (L : List (Int × Int)) (hn : L.length = n) (hs : a.eval s = v) (hown : w.ownsRow base 32 2 v n (dcs L)) (A : Option Addr) (m c : Nat) (r : List (Int × Int)) (B N : Nat) (hN : N = n + m) (hx : a.eval x = .slice A m c) (hm : r.length = m)
    (hr : SlD w B A r) (hlen : n ≤ 1000000) (hlr : m ≤ 1000000) (hbase : base ≤ w.heap.size)
    (h : ∀ A' c' w', w'.ownsRow base 32 2 (.slice A' N c') N (dcs (L ++ r)) → w.grownBy w' v.ownBlock → K (a.put o.dst (.slice A' N c')) w') :
    if Region.wanted o (yielded ops a.tmps) = true then Oper.wp Try.prog o a w K Q else E := by
  subst hN
  subst hn
  exact step_appendSF w hgd s x ho base v L hs hown A m c r B hx hm hr hlen hlr hbase h
theorem wpList_appendNF {ops : Array Oper} {rest : List Oper} {o : Oper} {a : Act} {Q : Exit → Act → World → Prop} (w : World) (hgd : o.guard = none) (s x : Operand) (ho : o.op = .call { callee := .builtin .append, args := #[s, x], argTypes := #[22, 22] })
    (base : Nat) (v : Value) (n : Nat) (L : List (Int × Int)) (hn : L.length = n) (hs : a.eval s = v) (hown : w.ownsRow base 32 2 v n (dcs L)) (A : Option Addr) (m c : Nat) (r : List (Int × Int)) (B N : Nat) (hN : N = n + m) (hx : a.eval x = .slice A m c) (hm : r.length = m)
    (hr : SlD w B A r) (hlen : n ≤ 1000000) (hlr : m ≤ 1000000) (hbase : base ≤ w.heap.size)
    (h : ∀ A' c' w', w'.ownsRow base 32 2 (.slice A' N c') N (dcs (L ++ r)) → w.grownBy w' v.ownBlock → wpList Try.prog ops Q rest (a.put o.dst (.slice A' N c')) w') : wpList Try.prog ops Q (o :: rest) a w := by
  subst hN
  subst hn
  exact wpList_appendSF w hgd s x ho base v L hs hown A m c r B hx hm hr hlen hlr hbase h
/-- an empty row in a block that was just made -/
theorem own_madeF (w : World) {B : Nat} (hB : B ≤ w.heap.size) : (w.alloc (.cells #[] 32)).ownsRow B 32 2 (.slice (some ⟨w.heap.size, 0, none⟩) 0 0) ([] : List (Int × Int)).length (dcs []) :=
  World.ownsRow_made w #[] 0 hB (by decide) rfl
section
variable {ops : Array Oper} {rest : List Oper} {o : Oper} {a : Act} {Q : Exit → Act → World → Prop}
theorem append1F (w : World) (hgd : o.guard = none) (s x : Operand) (ho : o.op = .call { callee := .builtin .append, args := #[s, x], argTypes := #[22, 22] })
    (base : Nat) (v : Value) (L : List (Int × Int)) (hs : a.eval s = v) (hown : w.ownsRow base 32 2 v L.length (dcs L)) (g : Nat) (y z : Int) (hx : a.eval x = .slice (some ⟨g, 0, none⟩) 1 1)
    (hc : w.cell? ⟨g, 0, none⟩ = some (.int .i64 y)) (hc' : w.cell? ⟨g, 1, none⟩ = some (.int .i64 z)) (hlen : L.length ≤ 1000000) (hbase : base ≤ w.heap.size)
    (h : ∀ A' c' w', w'.ownsRow base 32 2 (.slice A' (L.length + 1) c') (L.length + 1) (dcs (L ++ [(y, z)])) → w.grownBy w' v.ownBlock → wpList Try.prog ops Q rest (a.put o.dst (.slice A' (L.length + 1) c')) w') :
    wpList Try.prog ops Q (o :: rest) a w := by
  obtain ⟨i0, hi, hz0, hz1, hz2⟩ := info_parts infoF
  refine wpList_append_own w hgd s x 22 ho base 32 i0 (.agg #[.int .i64 0, .int .i64 0]) 2 16 Try.underlying22 hi hz0 hz1 hz2 rfl (by decide) v L.length (dcs L) hs hown ⟨g, 0, none⟩ 1 1 (dcs [(y, z)]) hx rfl ?_ ?_ ?_ ?_ hbase ?_
  · intro j u hu
    match j, hu with
    | 0, hu =>
      rw [Addr.add_zero', hc]
      simpa [dcs] using hu
    | 1, hu =>
      rw [Addr.add_lit, Nat.zero_add, hc']
      simpa [dcs] using hu
  · intro u hu
    simp [dcs] at hu
    rcases hu with rfl | rfl <;> rfl
  · unfold maxLen; omega
  · omega
  · intro v' w' hown' hg _
    rw [← dcs_append] at hown'
    obtain ⟨A', c', rfl⟩ := own_form hown'
    exact h A' c' w' hown' hg
theorem append1Fn (w : World) (hgd : o.guard = none) (s x : Operand) (ho : o.op = .call { callee := .builtin .append, args := #[s, x], argTypes := #[22, 22] })
    (base : Nat) (v : Value) (n : Nat) (L : List (Int × Int)) (hn : L.length = n) (hs : a.eval s = v) (hown : w.ownsRow base 32 2 v n (dcs L)) (g : Nat) (y z : Int) (hx : a.eval x = .slice (some ⟨g, 0, none⟩) 1 1)
    (hc : w.cell? ⟨g, 0, none⟩ = some (.int .i64 y)) (hc' : w.cell? ⟨g, 1, none⟩ = some (.int .i64 z)) (hlen : n ≤ 1000000) (hbase : base ≤ w.heap.size)
    (h : ∀ A' c' w', w'.ownsRow base 32 2 (.slice A' (n + 1) c') (n + 1) (dcs (L ++ [(y, z)])) → w.grownBy w' v.ownBlock → wpList Try.prog ops Q rest (a.put o.dst (.slice A' (n + 1) c')) w') :
    wpList Try.prog ops Q (o :: rest) a w := by
  subst hn
  exact append1F w hgd s x ho base v L hs hown g y z hx hc hc' hlen hbase h
end
end Go.Proofs.Ytaifgfmkkgndkab
