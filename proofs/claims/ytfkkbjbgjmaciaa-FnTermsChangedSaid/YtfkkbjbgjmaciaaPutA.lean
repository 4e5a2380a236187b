/- Ones put in and taken out: appends of the program's own make, the model's ctTake, the program's TakeOne. -/
import Derived.Test.YtfkkbjbgjmaciaaContI
import Derived.Test.YtfkkbjbgjmaciaaAppI
import Derived.Test.YtfkkbjbgjmaciaaL1
import Derived.Test.YtfkkbjbgjmaciaaPutM
import Derived.ArgAppend
namespace Go.Proofs.Ytfkkbjbgjmaciaa
set_option linter.unusedVariables false
open Go.RowKit

theorem retO_no {R : Option (List Int)} {w w' : World} (h : R = none) (hb : Below w.heap.size w w') : RetI w (optL R) R.isSome (.returned (.tuple #[.slice none 0 0, .bool false])) w' := by
  subst h
  exact ⟨none, 0, rfl, World.ownsRow_nil _ _ _ _, hb⟩
theorem retO_yes {R : Option (List Int)} {out : List Int} {n : Nat} {w w' : World} {A : Option Addr} {c : Nat} (h : R = some out) (hn : out.length = n) (ho : w'.ownsRow w.heap.size 3 1 (.slice A n c) n (ics out)) (hb : Below w.heap.size w w') :
    RetI w (optL R) R.isSome (.returned (.tuple #[.slice A n c, .bool true])) w' := by
  subst h
  subst hn
  exact ⟨A, c, rfl, ho, hb⟩
theorem spec_l1Own_at (A : Option Addr) (n c B : Nat) (l : List Int) (w : World) (hn : l.length = n) (h : SlI w B A l) (hB : B ≤ w.heap.size) (hl : n ≤ 1000000) :
    Calls Try.prog 114 #[.slice A n c] w fun e w' => ∃ A' c', e = .returned (.slice A' n c') ∧ w'.ownsRow w.heap.size 3 1 (.slice A' n c') n (ics l) ∧ Below w.heap.size w w' := by
  refine (spec_l1Own A n c B l w hn h hB hl).mono ?_
  rintro e w' ⟨A', c', rfl, ho, hb⟩
  subst hn
  exact ⟨A', c', rfl, ho, hb⟩
theorem SlI.drw {w : World} {B : Nat} {A : Option Addr} {l : List Int} (h : SlI w B A l) : SlI w.drew B A l := h
theorem SlI.cutAt {w : World} {B b off : Nat} {l : List Int} (h : SlI w B (some ⟨b, off, none⟩) l) (k : Nat) : SlI w B (some ⟨b, off + k, none⟩) (l.drop k) := fun h0 => by
  have hl : k < l.length := by simp at h0; omega
  obtain ⟨b', off', e, hb, hcell⟩ := h (by omega)
  cases e
  refine ⟨b, off + k, rfl, hb, fun j hj => ?_⟩
  have hj2 : k + j < l.length := by simp at hj; omega
  have e : (l.drop k).getD j 0 = l.getD (k + j) 0 := by simp [List.getD_eq_getElem?_getD]
  rw [e, show off + k + j = off + (k + j) by omega]
  exact hcell (k + j) hj2
theorem SlI.cell1 {w : World} {g B : Nat} {y : Int} (h0 : w.cell? ⟨g, 0, none⟩ = some (.int .i64 y)) (hB : g < B) : SlI w B (some ⟨g, 0, none⟩) [y] := fun _ =>
  ⟨g, 0, rfl, hB, fun j hj => by
    obtain rfl : j = 0 := by simpa using hj
    simpa using h0⟩

section
variable {ops : Array Oper} {rest : List Oper} {o : Oper} {a : Act} {Q : Exit → Act → World → Prop}
/-- append to a slice that is full: a new row -/
theorem wp_growI {K : Act → World → Prop} (w : World) (s x : Operand) (ho : o.op = .call { callee := .builtin .append, args := #[s, x], argTypes := #[24, 24] })
    (A : Option Addr) (n B : Nat) (L : List Int) (hn : L.length = n) (h0 : 0 < n) (hs : a.eval s = .slice A n n) (hL : SlI w B A L) (A' : Option Addr) (m c B' N : Nat) (r : List Int) (hN : N = n + m) (hm : r.length = m) (hm0 : 0 < m) (hx : a.eval x = .slice A' m c) (hr : SlI w B' A' r) (hlen : N ≤ 1000000)
    (h : ∀ A2 c2 w', w'.ownsRow w.heap.size 3 1 (.slice A2 N c2) N (ics (L ++ r)) → w.grownBy w' none → K (a.put o.dst (.slice A2 N c2)) w') :
    o.wp Try.prog a w K Q := by
  subst hN hn hm
  obtain ⟨i0, hi, hz0, hz1, hz2⟩ := info_parts infoI
  obtain ⟨b, off, rfl, hb, hc⟩ := hL h0
  obtain ⟨b', off', rfl, hb', hc'⟩ := hr hm0
  have h1 : ∀ j u, (ics L)[j]? = some u → w.cell? ((⟨b, off, none⟩ : Addr).add j) = some u := by
    intro j u hu
    have hj : j < L.length := by
      have := (List.getElem?_eq_some_iff.1 hu).1
      rwa [ics_length] at this
    rw [Addr.add_lit, ← hu, ics_get L j hj]
    exact hc j hj
  have h2 : ∀ j u, (ics r)[j]? = some u → w.cell? ((⟨b', off', none⟩ : Addr).add j) = some u := by
    intro j u hu
    have hj : j < r.length := by
      have := (List.getElem?_eq_some_iff.1 hu).1
      rwa [ics_length] at this
    rw [Addr.add_lit, ← hu, ics_get r j hj]
    exact hc' j hj
  obtain ⟨v', w', hrun, r1, r2⟩ := run_append_arg_grows (P := Try.prog) w 24 o.type 3 i0 (.int .i64 0) 1 8 Try.underlying24 hi hz0 hz1 hz2 rfl (by decide) ⟨b, off, none⟩ L.length L.length (ics L) (by rw [ics_length, Nat.mul_one]) h1 ⟨b', off', none⟩ r.length c (ics r) (by rw [ics_length, Nat.mul_one]) h2 (by omega) (by unfold maxLen; omega) (by omega)
  rw [← ics_append] at r1
  obtain ⟨A2, c2, rfl⟩ := own_form r1
  unfold Oper.wp
  simp [execOp, ho, resolve, invoke, builtin, hs, hx, hrun, Result.andThen]
  exact h A2 c2 w' r1 r2
theorem wpList_growI (w : World) (hgd : o.guard = none) (s x : Operand) (ho : o.op = .call { callee := .builtin .append, args := #[s, x], argTypes := #[24, 24] })
    (A : Option Addr) (n B : Nat) (L : List Int) (hn : L.length = n) (h0 : 0 < n) (hs : a.eval s = .slice A n n) (hL : SlI w B A L) (A' : Option Addr) (m c B' N : Nat) (r : List Int) (hN : N = n + m) (hm : r.length = m) (hm0 : 0 < m) (hx : a.eval x = .slice A' m c) (hr : SlI w B' A' r) (hlen : N ≤ 1000000)
    (h : ∀ A2 c2 w', w'.ownsRow w.heap.size 3 1 (.slice A2 N c2) N (ics (L ++ r)) → w.grownBy w' none → wpList Try.prog ops Q rest (a.put o.dst (.slice A2 N c2)) w') :
    wpList Try.prog ops Q (o :: rest) a w :=
  wpList_plain hgd fun _ hK => wp_growI w s x ho A n B L hn h0 hs hL A' m c B' N r hN hm hm0 hx hr hlen fun A2 c2 w' h1 h2 => hK _ _ (h A2 c2 w' h1 h2)
theorem step_growI {K : Act → World → Prop} {E : Prop} (w : World) (hgd : o.guard = none) (s x : Operand) (ho : o.op = .call { callee := .builtin .append, args := #[s, x], argTypes := #[24, 24] })
    (A : Option Addr) (n B : Nat) (L : List Int) (hn : L.length = n) (h0 : 0 < n) (hs : a.eval s = .slice A n n) (hL : SlI w B A L) (A' : Option Addr) (m c B' N : Nat) (r : List Int) (hN : N = n + m) (hm : r.length = m) (hm0 : 0 < m) (hx : a.eval x = .slice A' m c) (hr : SlI w B' A' r) (hlen : N ≤ 1000000)
    (h : ∀ A2 c2 w', w'.ownsRow w.heap.size 3 1 (.slice A2 N c2) N (ics (L ++ r)) → w.grownBy w' none → K (a.put o.dst (.slice A2 N c2)) w') :
    if Region.wanted o (yielded ops a.tmps) = true then Oper.wp Try.prog o a w K Q else E := by
  have hw : Region.wanted o (yielded ops a.tmps) = true := by simp [Region.wanted, hgd]
  rw [if_pos hw]
  exact wp_growI w s x ho A n B L hn h0 hs hL A' m c B' N r hN hm hm0 hx hr hlen h
theorem step_ownP {K : Act → World → Prop} {E : Prop} (w : World) (hgd : o.guard = none) (x : Operand)
    (ho : o.op = .call { callee := .value (.func 114), args := #[x], argTypes := #[24] }) (A : Option Addr) (n c B : Nat) (l : List Int) (hx : a.eval x = .slice A n c) (hn : l.length = n) (h : SlI w B A l) (hB : B ≤ w.heap.size) (hl : n ≤ 1000000)
    (hK : ∀ A' c' w', w'.ownsRow w.heap.size 3 1 (.slice A' n c') n (ics l) → Below w.heap.size w w' → K (a.put o.dst (.slice A' n c')) w') :
    if Region.wanted o (yielded ops a.tmps) = true then Oper.wp Try.prog o a w K Q else E := by
  have hw : Region.wanted o (yielded ops a.tmps) = true := by simp [Region.wanted, hgd]
  rw [if_pos hw]
  have hrun : (execOp a.eval o).run Try.prog w = .ok (.enter 114 #[.slice A n c]) w := by
    have h1 : (#[x].map a.eval) = #[.slice A n c] := by simp [hx]
    unfold execOp
    simp only [ho, resolve, invoke, h1, Sem.run_bind, Result.andThen_ok, Act.eval]
    go_simp
  unfold Oper.wp
  rw [hrun, Oper.upon_enter]
  refine (spec_l1Own_at A n c B l w hn h hB hl).mono fun e w' hh => ?_
  obtain ⟨A', c', rfl, h1, h2⟩ := hh
  exact hK A' c' w' h1 h2
end
end Go.Proofs.Ytfkkbjbgjmaciaa
