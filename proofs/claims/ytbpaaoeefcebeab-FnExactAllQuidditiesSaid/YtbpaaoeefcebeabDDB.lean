/- Lists of lists of diagonals: a list of rows appended to one. -/
import Derived.Test.YtbpaaoeefcebeabDDA
import Derived.Laws.AppendOwnNone
import Derived.Deep.RegionHeld3
namespace Go.Proofs.Ytbpaaoeefcebeab
set_option linter.unusedVariables false
open Go.RowKit

section
variable {w w' : World} {base : Nat} {A : Option Addr} {c : Nat} {rs : List Value} {Ls : List (List (Int × Int))}
theorem rowD_app (Ls Ls2 : List (List (Int × Int))) (j : Nat) : rowD (Ls ++ Ls2) j = if j < Ls.length then rowD Ls j else rowD Ls2 (j - Ls.length) := by
  unfold rowD
  simp only [List.getD_eq_getElem?_getD]
  by_cases h : j < Ls.length
  · rw [if_pos h, List.getElem?_append_left h]
  · rw [if_neg h, List.getElem?_append_right (by omega)]
theorem rvD_app (rs rs2 : List Value) (j : Nat) : rvD (rs ++ rs2) j = if j < rs.length then rvD rs j else rvD rs2 (j - rs.length) := by
  unfold rvD
  simp only [List.getD_eq_getElem?_getD]
  by_cases h : j < rs.length
  · rw [if_pos h, List.getElem?_append_left h]
  · rw [if_neg h, List.getElem?_append_right (by omega)]
/-- each row's value is one cell -/
theorem OwnDD.one (h : OwnDD w base A c rs Ls) : ∀ u ∈ rs, u.oneCell' = true := fun u hu => by
  obtain ⟨j, hj, rfl⟩ := List.getElem_of_mem hu
  have := h.2.2.1 j (by rw [← h.1]; exact hj)
  obtain ⟨A', c', e⟩ := own_form this
  have e2 : rs[j] = rvD rs j := by unfold rvD; simp [hj]
  rw [e2, e]
  rfl
/-- rows put behind rows -/
theorem OwnDD.cat {w2 w3 : World} {A2 A3 : Option Addr} {c2 c3 : Nat} {rs2 : List Value} {Ls2 : List (List (Int × Int))} (b : Nat) (h : OwnDD w2 base A c rs Ls) (hb : ∀ j, j < Ls.length → ∀ k, (rvD rs j).ownBlock = some k → k < b)
    (h2 : OwnDD w2 base A2 c2 rs2 Ls2) (hb2 : ∀ j, j < Ls2.length → ∀ k, (rvD rs2 j).ownBlock = some k → b ≤ k)
    (ho : w3.ownsRow base 26 1 (.slice A3 (Ls.length + Ls2.length) c3) (Ls.length + Ls2.length) (rs ++ rs2)) (hg : w2.grownBy w3 (Value.slice A Ls.length c).ownBlock) :
    OwnDD w3 base A3 c3 (rs ++ rs2) (Ls ++ Ls2) := by
  have far : ∀ {n : Nat} {v : Value} {xs : List Value}, w2.ownsRow base 65 2 v n xs → w3.ownsRow base 65 2 v n xs := fun hv =>
    own_far hv hg (fun k hk e => own_ne hv h.2.1 (by decide) k hk e)
  have e : (Ls ++ Ls2).length = Ls.length + Ls2.length := by simp
  refine ⟨by simp [h.1, h2.1], by rw [e]; exact ho, fun j hj => ?_, fun i j hi hj hij k hk => ?_⟩
  · rw [rvD_app, rowD_app, h.1]
    by_cases hjl : j < Ls.length
    · rw [if_pos hjl, if_pos hjl]; exact far (h.2.2.1 j hjl)
    · rw [if_neg hjl, if_neg hjl]; exact far (h2.2.2.1 _ (by omega))
  · rw [rvD_app, h.1] at hk ⊢
    by_cases h1 : i < Ls.length
    · rw [if_pos h1] at hk
      by_cases h3 : j < Ls.length
      · rw [if_pos h3]; exact h.2.2.2 i j h1 h3 hij k hk
      · rw [if_neg h3]
        intro e2
        have := hb i h1 k hk
        have := hb2 (j - Ls.length) (by omega) k e2.symm
        omega
    · rw [if_neg h1] at hk
      by_cases h3 : j < Ls.length
      · rw [if_pos h3]
        intro e2
        have := hb j h3 k e2.symm
        have := hb2 (i - Ls.length) (by omega) k hk
        omega
      · rw [if_neg h3]; exact h2.2.2.2 _ _ (by omega) (by omega) (by omega) k hk
theorem OwnDD.low (h : OwnDD w base A c rs Ls) : ∀ j, j < Ls.length → ∀ k, (rvD rs j).ownBlock = some k → base ≤ k := fun j hj k hk => ((h.2.2.1 j hj).lt k hk).1
end

section
variable {ops : Array Oper} {rest : List Oper} {o : Oper} {a : Act} {Q : Exit → Act → World → Prop}
theorem wp_appendDD {K : Act → World → Prop} (w : World) (s x : Operand) (ho : o.op = .call { callee := .builtin .append, args := #[s, x], argTypes := #[37, 37] })
    (base : Nat) (v : Value) (n : Nat) (rs : List Value) (hs : a.eval s = v) (hown : w.ownsRow base 26 1 v n rs) (base2 : Nat) (A : Option Addr) (m c : Nat) (rs2 : List Value) (hx : a.eval x = .slice A m c)
    (hr : w.ownsRow base2 26 1 (.slice A m c) m rs2) (h1 : ∀ u ∈ rs2, u.oneCell' = true) (hlen : n ≤ 1000000) (hlm : m ≤ 1000000) (hbase : base ≤ w.heap.size)
    (h : ∀ A' c' w', w'.ownsRow base 26 1 (.slice A' (n + m) c') (n + m) (rs ++ rs2) → w.grownBy w' v.ownBlock → K (a.put o.dst (.slice A' (n + m) c')) w') :
    o.wp Try.prog a w K Q := by
  obtain ⟨i0, hi, hz0, hz1, hz2⟩ := info_parts infoSlD
  have fin : ∀ v' w', w'.ownsRow base 26 1 v' (n + m) (rs ++ rs2) → w.grownBy w' v.ownBlock → K (a.put o.dst v') w' := by
    intro v' w' ho' hg
    obtain ⟨A', c', rfl⟩ := own_form ho'
    exact h A' c' w' ho' hg
  rcases hr.2 with ⟨e, rfl⟩ | ⟨g, cap, cur, e, _, _, hnc, _⟩
  · injection e with e1 e2 e3
    subst e1
    subst e3
    obtain rfl : rs2 = [] := List.eq_nil_of_length_eq_zero (by have := hr.1; omega)
    have hrun : (Builtin.append_ #[37, 37] o.type #[v, .slice none 0 0]).run Try.prog w = .ok v w := by
      rcases hown.2 with ⟨rfl, hn⟩ | ⟨g, cap, cur, rfl, _, _, hnc, _⟩
      · simp [Builtin.append_, run_underlying Try.underlying37, sizeOf, typeInfo, hi, Builtin.lenOf, Builtin.firstCells]
      · simp [Builtin.append_, run_underlying Try.underlying37, sizeOf, typeInfo, hi, Builtin.lenOf, Builtin.firstCells, hnc, storeCells]
    unfold Oper.wp execOp
    simp only [ho, resolve, invoke, builtin, Sem.run_bind, Sem.run_pure, Result.andThen_ok, List.map_toArray, List.map_cons, List.map_nil, hs, hx, hrun]
    exact fin v w (by simpa using hown) (World.grownBy.refl w _)
  · injection e with e1 e2 e3
    subst e1
    subst e3
    exact wp_append_own w s x 37 ho base 26 i0 (.slice none 0 0) 1 24 Try.underlying37 hi hz0 hz1 hz2 rfl (by decide) v n rs hs hown ⟨g, 0, none⟩ m c rs2 hx (by rw [hr.1])
      (fun j u hu => by
        have hj : j < rs2.length := (List.getElem?_eq_some_iff.1 hu).1
        have := hr.cellAt j (by have := hr.1; omega)
        rw [Addr.add_lit, Nat.zero_add, this, hu]) h1
      (by unfold maxLen; omega) (by omega) hbase (fun v' w' h3 h4 _ => fin v' w' h3 h4)
theorem wpList_appendDD (w : World) (hgd : o.guard = none) (s x : Operand) (ho : o.op = .call { callee := .builtin .append, args := #[s, x], argTypes := #[37, 37] })
    (base : Nat) (v : Value) (n : Nat) (rs : List Value) (hs : a.eval s = v) (hown : w.ownsRow base 26 1 v n rs) (base2 : Nat) (A : Option Addr) (m c : Nat) (rs2 : List Value) (hx : a.eval x = .slice A m c)
    (hr : w.ownsRow base2 26 1 (.slice A m c) m rs2) (h1 : ∀ u ∈ rs2, u.oneCell' = true) (hlen : n ≤ 1000000) (hlm : m ≤ 1000000) (hbase : base ≤ w.heap.size)
    (h : ∀ A' c' w', w'.ownsRow base 26 1 (.slice A' (n + m) c') (n + m) (rs ++ rs2) → w.grownBy w' v.ownBlock → wpList Try.prog ops Q rest (a.put o.dst (.slice A' (n + m) c')) w') :
    wpList Try.prog ops Q (o :: rest) a w :=
  wpList_plain hgd fun _ hK => wp_appendDD w s x ho base v n rs hs hown base2 A m c rs2 hx hr h1 hlen hlm hbase fun A' c' w' h1 h2 => hK _ _ (h A' c' w' h1 h2)
theorem step_appendDD {K : Act → World → Prop} {E : Prop} (w : World) (hgd : o.guard = none) (s x : Operand) (ho : o.op = .call { callee := .builtin .append, args := #[s, x], argTypes := #[37, 37] })
    (base : Nat) (v : Value) (n : Nat) (rs : List Value) (hs : a.eval s = v) (hown : w.ownsRow base 26 1 v n rs) (base2 : Nat) (A : Option Addr) (m c : Nat) (rs2 : List Value) (hx : a.eval x = .slice A m c)
    (hr : w.ownsRow base2 26 1 (.slice A m c) m rs2) (h1 : ∀ u ∈ rs2, u.oneCell' = true) (hlen : n ≤ 1000000) (hlm : m ≤ 1000000) (hbase : base ≤ w.heap.size)
    (h : ∀ A' c' w', w'.ownsRow base 26 1 (.slice A' (n + m) c') (n + m) (rs ++ rs2) → w.grownBy w' v.ownBlock → K (a.put o.dst (.slice A' (n + m) c')) w') :
    if Region.wanted o (yielded ops a.tmps) = true then Oper.wp Try.prog o a w K Q else E := by
  have hw : Region.wanted o (yielded ops a.tmps) = true := by simp [Region.wanted, hgd]
  rw [if_pos hw]
  exact wp_appendDD w s x ho base v n rs hs hown base2 A m c rs2 hx hr h1 hlen hlm hbase h
end
end Go.Proofs.Ytbpaaoeefcebeab
