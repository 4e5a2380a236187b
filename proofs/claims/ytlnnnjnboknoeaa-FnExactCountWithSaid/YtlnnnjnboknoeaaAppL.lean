/- Append of one number, told where the row lies then: where it lay, or in a new block. -/
import Derived.Test.YtlnnnjnboknoeaaGrwI
import Derived.Test.YtlnnnjnboknoeaaLawPS
import Derived.Deep.DeepAppendRoom
namespace Go.Proofs.Ytlnnnjnboknoeaa
set_option linter.unusedVariables false
open Go.RowKit

theorem grown_any {w w' : World} (h : w.grownBy w' none) (r : Option Nat) : w.grownBy w' r := ⟨h.os, h.tape, h.output, h.size, fun k hk _ => h.block k hk (by simp)⟩
section
variable {ops : Array Oper} {rest : List Oper} {o : Oper} {a : Act} {Q : Exit → Act → World → Prop}
theorem append1In_loc (w : World) (hgd : o.guard = none) (s x : Operand) (ho : o.op = .call { callee := .builtin .append, args := #[s, x], argTypes := #[35, 35] })
    (base : Nat) (A : Option Addr) (n c : Nat) (L : List Int) (hn : L.length = n) (hA : n = 0 → A = none ∧ c = 0) (hs : a.eval s = .slice A n c) (hown : w.ownsRow base 3 1 (.slice A n c) n (ics L)) (g : Nat) (y : Int) (hx : a.eval x = .slice (some ⟨g, 0, none⟩) 1 1)
    (hc : w.cell? ⟨g, 0, none⟩ = some (.int .i64 y)) (hlen : n ≤ 999999) (hbase : base ≤ w.heap.size)
    (h : ∀ A' c' w', w'.ownsRow base 3 1 (.slice A' (n + 1) c') (n + 1) (ics (L ++ [y])) → w.grownBy w' (Value.slice A n c).ownBlock → (A' = A ∨ ∃ q, A' = some ⟨q, 0, none⟩ ∧ w.heap.size ≤ q) → wpList Try.prog ops Q rest (a.put o.dst (.slice A' (n + 1) c')) w') :
    wpList Try.prog ops Q (o :: rest) a w := by
  have hgw : g < w.heap.size := World.block_lt_of_cell? w _ hc
  by_cases h0 : n = 0
  · obtain ⟨rfl, rfl⟩ := hA h0
    subst h0
    obtain rfl : L = [] := List.eq_nil_of_length_eq_zero hn
    refine append1In w hgd s x ho w.heap.size (.slice none 0 0) 0 [] rfl hs (World.ownsRow_nil _ _ _ _) g y hx hc (by omega) (Nat.le_refl _) ?_
    intro A' c' w' h1 h2
    obtain ⟨q, cap, hv, hq, _⟩ := h1.form (by omega)
    cases hv
    exact h _ c' w' (h1.mono hbase) h2 (.inr ⟨q, rfl, hq⟩)
  · obtain ⟨q, cap, hv, hq, _⟩ := hown.form (by omega)
    cases hv
    have hcap := own_capP hown
    by_cases hf : c = n
    · subst hf
      refine wpList_growI w hgd s x ho (some ⟨q, 0, none⟩) c w.heap.size L hn (by omega) hs (by subst hn; exact SlI.of_own hown) (some ⟨g, 0, none⟩) 1 1 (g + 1) (c + 1) [y] rfl rfl (by omega) hx (SlI.cell1 hc (by omega)) (by omega) ?_
      intro A' c' w' h1 h2
      obtain ⟨q', cap', hv, hq', _⟩ := h1.form (by omega)
      cases hv
      exact h _ c' w' (h1.mono hbase) (grown_any h2 _) (.inr ⟨q', rfl, hq'⟩)
    · obtain ⟨i0, hi, hz0, hz1, hz2⟩ := info_parts infoI
      refine wpList_append_own_spare w hgd s x 35 ho base 3 i0 1 Try.underlying35 hi hz1 q n c (ics L) hs hown ⟨g, 0, none⟩ 1 1 [.int .i64 y] hx rfl ?_ ?_ (by omega) ?_
      · intro j u hu
        match j, hu with
        | 0, hu =>
          rw [Addr.add_zero', hc]
          simpa using hu
      · intro u hu
        simp at hu
        subst hu
        rfl
      · intro w' h1 h2
        refine h _ c w' ?_ h2 (.inl rfl)
        rw [show ics L ++ [.int .i64 y] = ics (L ++ [y]) by simp [ics]] at h1
        exact h1
end
end Go.Proofs.Ytlnnnjnboknoeaa
