/- append of a slice of numbers that reads as a list (a nil one, an empty one too), onto a row of the call's own: plain, and as a step of a drawn region. -/
import Derived.Test.YtfkkbjbgjmaciaaApp
import Derived.Laws.AppendOwnNone
import Derived.Deep.RegionHeld3
namespace Go.Proofs.Ytfkkbjbgjmaciaa
set_option linter.unusedVariables false
open Go.RowKit

theorem one_ics {l : List Int} : ∀ u ∈ ics l, u.oneCell' = true := by
  intro u hu
  simp only [ics, List.mem_map] at hu
  obtain ⟨x, _, rfl⟩ := hu
  rfl
theorem SlI.news {w : World} {B b off : Nat} {l : List Int} (h : SlI w B (some ⟨b, off, none⟩) l) : ∀ j u, (ics l)[j]? = some u → w.cell? ((⟨b, off, none⟩ : Addr).add j) = some u := by
  intro j u hu
  have hj : j < l.length := by
    have := (List.getElem?_eq_some_iff.1 hu).1
    rwa [ics_length] at this
  obtain ⟨b', off', e, _, hc⟩ := h (by omega)
  cases e
  rw [Addr.add_lit]
  rw [ics_get l j hj] at hu
  rw [← hu]
  exact hc j hj

section
variable {ops : Array Oper} {rest : List Oper} {o : Oper} {a : Act} {Q : Exit → Act → World → Prop}
theorem wp_appendNI {K : Act → World → Prop} (w : World) (s x : Operand) (ho : o.op = .call { callee := .builtin .append, args := #[s, x], argTypes := #[24, 24] })
    (base : Nat) (v : Value) (n : Nat) (L : List Int) (hn : L.length = n) (hs : a.eval s = v) (hown : w.ownsRow base 3 1 v n (ics L)) (A : Option Addr) (m c : Nat) (r : List Int) (B N : Nat) (hN : N = n + m) (hx : a.eval x = .slice A m c) (hm : r.length = m)
    (hr : SlI w B A r) (hlen : n ≤ 1000000) (hlr : m ≤ 1000000) (hbase : base ≤ w.heap.size)
    (h : ∀ A' c' w', w'.ownsRow base 3 1 (.slice A' N c') N (ics (L ++ r)) → w.grownBy w' v.ownBlock → K (a.put o.dst (.slice A' N c')) w') :
    o.wp Try.prog a w K Q := by
  subst hN hn
  obtain ⟨i0, hi, hz0, hz1, hz2⟩ := info_parts infoI
  have fin : ∀ v' w', w'.ownsRow base 3 1 v' (L.length + m) (ics L ++ ics r) → w.grownBy w' v.ownBlock → K (a.put o.dst v') w' := by
    intro v' w' ho' hg
    rw [← ics_append] at ho'
    obtain ⟨A', c', rfl⟩ := own_form ho'
    exact h A' c' w' ho' hg
  by_cases h0 : 0 < r.length
  · obtain ⟨b, off, rfl, _, _⟩ := hr h0
    exact wp_append_own w s x 24 ho base 3 i0 (.int .i64 0) 1 8 Try.underlying24 hi hz0 hz1 hz2 rfl (by decide) v L.length (ics L) hs hown ⟨b, off, none⟩ m c (ics r) hx (by rw [ics_length, hm, Nat.mul_one]) hr.news one_ics
      (by unfold maxLen; omega) (by omega) hbase (fun v' w' h1 h2 _ => fin v' w' h1 h2)
  · obtain rfl : r = [] := List.eq_nil_of_length_eq_zero (by omega)
    obtain rfl : m = 0 := hm.symm
    cases A with
    | some ad =>
      exact wp_append_own w s x 24 ho base 3 i0 (.int .i64 0) 1 8 Try.underlying24 hi hz0 hz1 hz2 rfl (by decide) v L.length (ics L) hs hown ad 0 c (ics []) hx rfl (fun j u hu => by simp [ics] at hu) one_ics
        (by unfold maxLen; omega) (by omega) hbase (fun v' w' h1 h2 _ => fin v' w' h1 h2)
    | none =>
      obtain ⟨v', hrun⟩ : ∃ v', (Builtin.append_ #[24, 24] o.type #[v, .slice none 0 c]).run Try.prog w = .ok v' w ∧ v' = v := by
        refine ⟨v, ?_, rfl⟩
        rcases hown.2 with ⟨rfl, hn⟩ | ⟨g, cap, cur, rfl, _, _, hnc, _⟩
        · simp [Builtin.append_, run_underlying Try.underlying24, sizeOf, typeInfo, hi, Builtin.lenOf, Builtin.firstCells]
        · simp [Builtin.append_, run_underlying Try.underlying24, sizeOf, typeInfo, hi, Builtin.lenOf, Builtin.firstCells, hnc, storeCells]
      obtain ⟨hrun, rfl⟩ := hrun
      unfold Oper.wp execOp
      simp only [ho, resolve, invoke, builtin, Sem.run_bind, Sem.run_pure, Result.andThen_ok, List.map_toArray, List.map_cons, List.map_nil, hs, hx, hrun]
      exact fin v' w (by simpa [ics] using hown) (World.grownBy.refl w _)
theorem wpList_appendNI (w : World) (hgd : o.guard = none) (s x : Operand) (ho : o.op = .call { callee := .builtin .append, args := #[s, x], argTypes := #[24, 24] })
    (base : Nat) (v : Value) (n : Nat) (L : List Int) (hn : L.length = n) (hs : a.eval s = v) (hown : w.ownsRow base 3 1 v n (ics L)) (A : Option Addr) (m c : Nat) (r : List Int) (B N : Nat) (hN : N = n + m) (hx : a.eval x = .slice A m c) (hm : r.length = m)
    (hr : SlI w B A r) (hlen : n ≤ 1000000) (hlr : m ≤ 1000000) (hbase : base ≤ w.heap.size)
    (h : ∀ A' c' w', w'.ownsRow base 3 1 (.slice A' N c') N (ics (L ++ r)) → w.grownBy w' v.ownBlock → wpList Try.prog ops Q rest (a.put o.dst (.slice A' N c')) w') :
    wpList Try.prog ops Q (o :: rest) a w :=
  wpList_plain hgd fun _ hK => wp_appendNI w s x ho base v n L hn hs hown A m c r B N hN hx hm hr hlen hlr hbase fun A' c' w' h1 h2 => hK _ _ (h A' c' w' h1 h2)
theorem step_appendNI {K : Act → World → Prop} {E : Prop} (w : World) (hgd : o.guard = none) (s x : Operand) (ho : o.op = .call { callee := .builtin .append, args := #[s, x], argTypes := #[24, 24] })
    (base : Nat) (v : Value) (n : Nat) (L : List Int) (hn : L.length = n) (hs : a.eval s = v) (hown : w.ownsRow base 3 1 v n (ics L)) (A : Option Addr) (m c : Nat) (r : List Int) (B N : Nat) (hN : N = n + m) (hx : a.eval x = .slice A m c) (hm : r.length = m)
    (hr : SlI w B A r) (hlen : n ≤ 1000000) (hlr : m ≤ 1000000) (hbase : base ≤ w.heap.size)
    (h : ∀ A' c' w', w'.ownsRow base 3 1 (.slice A' N c') N (ics (L ++ r)) → w.grownBy w' v.ownBlock → K (a.put o.dst (.slice A' N c')) w') :
    if Region.wanted o (yielded ops a.tmps) = true then Oper.wp Try.prog o a w K Q else E := by
  have hw : Region.wanted o (yielded ops a.tmps) = true := by simp [Region.wanted, hgd]
  rw [if_pos hw]
  exact wp_appendNI w s x ho base v n L hn hs hown A m c r B N hN hx hm hr hlen hlr hbase h
end

/-- the rest of a slice from k on, whatever the address that an empty rest bears -/
theorem SlI.cutIf {w : World} {B b off c : Nat} {l : List Int} {a0 : Addr} (h : SlI w B (some ⟨b, off, none⟩) l) (k : Nat) (hc : l.length ≤ c) : SlI w B (some (if c = k then a0 else ⟨b, off + k, none⟩)) (l.drop k) := fun h0 => by
  have hl : k < l.length := by simp at h0; omega
  obtain ⟨b', off', e, hb, hcell⟩ := h (by omega)
  cases e
  rw [if_neg (by omega)]
  refine ⟨b, off + k, rfl, hb, fun j hj => ?_⟩
  have hj2 : k + j < l.length := by simp at hj; omega
  have e : (l.drop k).getD j 0 = l.getD (k + j) 0 := by simp [List.getD_eq_getElem?_getD]
  rw [e, show off + k + j = off + (k + j) by omega]
  exact hcell (k + j) hj2
theorem own_madeI (w : World) {B : Nat} (hB : B ≤ w.heap.size) : (w.alloc (.cells #[] 3)).ownsRow B 3 1 (.slice (some ⟨w.heap.size, 0, none⟩) 0 0) 0 (ics []) :=
  World.ownsRow_made w #[] 0 hB (by decide) rfl
theorem own_capI {w : World} {base e size n c : Nat} {A : Option Addr} {xs : List Value} (h : w.ownsRow base e size (.slice A n c) n xs) : n ≤ c := by
  rcases h.2 with ⟨h', hn⟩ | ⟨g, cap, cur, h', _, _, hnc, _⟩
  · omega
  · injection h' with _ _ hc
    omega
end Go.Proofs.Ytfkkbjbgjmaciaa
