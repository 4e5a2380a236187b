/- append of a slice that reads as a list (a nil one, an empty one too), onto a row of the call's own: plain, and as a step of a drawn region. -/
import Derived.Test.YtfkkbjbgjmaciaaApp
import Derived.Laws.AppendOwnNone
import Derived.Deep.RegionHeld3
namespace Go.Proofs.Ytfkkbjbgjmaciaa
set_option linter.unusedVariables false
open Go.RowKit

section
variable {ops : Array Oper} {rest : List Oper} {o : Oper} {a : Act} {Q : Exit → Act → World → Prop}

theorem one_dcs {l : List (Int × Int)} : ∀ u ∈ dcs l, u.oneCell' = true := by
  induction l with
  | nil => intro u hu; cases hu
  | cons d r ih =>
    intro u hu
    simp only [dcs, List.mem_cons] at hu
    rcases hu with rfl | rfl | hu
    · rfl
    · rfl
    · exact ih u hu
theorem SlD.news {w : World} {B b off : Nat} {l : List (Int × Int)} (h : SlD w B (some ⟨b, off, none⟩) l) : ∀ j u, (dcs l)[j]? = some u → w.cell? ((⟨b, off, none⟩ : Addr).add j) = some u := by
  intro j u hu
  have hj : j < l.length * 2 := by
    have := (List.getElem?_eq_some_iff.1 hu).1
    rwa [dcs_length] at this
  obtain ⟨b', off', e, _, hc⟩ := h (by omega)
  cases e
  rw [Addr.add_lit]
  by_cases hp : j % 2 = 0
  · obtain ⟨i, rfl⟩ : ∃ i, j = i * 2 := ⟨j / 2, by omega⟩
    rw [dcs_get0 l i (by omega)] at hu
    rw [← hu]
    exact (hc i (by omega)).1
  · obtain ⟨i, rfl⟩ : ∃ i, j = i * 2 + 1 := ⟨j / 2, by omega⟩
    rw [dcs_get1 l i (by omega)] at hu
    rw [← hu]
    exact (hc i (by omega)).2

theorem wp_appendS {K : Act → World → Prop} (w : World) (s x : Operand) (ho : o.op = .call { callee := .builtin .append, args := #[s, x], argTypes := #[150, 150] })
    (base : Nat) (v : Value) (L : List (Int × Int)) (hs : a.eval s = v) (hown : w.ownsRow base 161 2 v L.length (dcs L)) (A : Option Addr) (m c : Nat) (r : List (Int × Int)) (B : Nat) (hx : a.eval x = .slice A m c) (hm : r.length = m)
    (hr : SlD w B A r) (hlen : L.length ≤ 1000000) (hlr : m ≤ 1000000) (hbase : base ≤ w.heap.size)
    (h : ∀ A' c' w', w'.ownsRow base 161 2 (.slice A' (L.length + m) c') (L.length + m) (dcs (L ++ r)) → w.grownBy w' v.ownBlock → K (a.put o.dst (.slice A' (L.length + m) c')) w') :
    o.wp Try.prog a w K Q := by
  obtain ⟨i0, hi, hz0, hz1, hz2⟩ := info_parts infoD
  have fin : ∀ v' w', w'.ownsRow base 161 2 v' (L.length + m) (dcs L ++ dcs r) → w.grownBy w' v.ownBlock → K (a.put o.dst v') w' := by
    intro v' w' ho' hg
    rw [← dcs_append] at ho'
    obtain ⟨A', c', rfl⟩ := own_form ho'
    exact h A' c' w' ho' hg
  by_cases h0 : 0 < r.length
  · obtain ⟨b, off, rfl, _, _⟩ := hr h0
    exact wp_append_own w s x 150 ho base 161 i0 (.agg #[.int .i64 0, .int .i64 0]) 2 16 Try.underlying150 hi hz0 hz1 hz2 rfl (by decide) v L.length (dcs L) hs hown ⟨b, off, none⟩ m c (dcs r) hx (by rw [dcs_length, hm]) hr.news one_dcs
      (by unfold maxLen; omega) (by omega) hbase (fun v' w' h1 h2 _ => fin v' w' h1 h2)
  · obtain rfl : r = [] := List.eq_nil_of_length_eq_zero (by omega)
    obtain rfl : m = 0 := hm.symm
    cases A with
    | some ad =>
      exact wp_append_own w s x 150 ho base 161 i0 (.agg #[.int .i64 0, .int .i64 0]) 2 16 Try.underlying150 hi hz0 hz1 hz2 rfl (by decide) v L.length (dcs L) hs hown ad 0 c (dcs []) hx rfl (fun j u hu => by simp [dcs] at hu) one_dcs
        (by unfold maxLen; omega) (by omega) hbase (fun v' w' h1 h2 _ => fin v' w' h1 h2)
    | none =>
      obtain ⟨v', hrun⟩ : ∃ v', (Builtin.append_ #[150, 150] o.type #[v, .slice none 0 c]).run Try.prog w = .ok v' w ∧ v' = v := by
        refine ⟨v, ?_, rfl⟩
        rcases hown.2 with ⟨rfl, hn⟩ | ⟨g, cap, cur, rfl, _, _, hnc, _⟩
        · simp [Builtin.append_, run_underlying Try.underlying150, sizeOf, typeInfo, hi, Builtin.lenOf, Builtin.firstCells]
        · simp [Builtin.append_, run_underlying Try.underlying150, sizeOf, typeInfo, hi, Builtin.lenOf, Builtin.firstCells, hnc, storeCells]
      obtain ⟨hrun, rfl⟩ := hrun
      unfold Oper.wp execOp
      simp only [ho, resolve, invoke, builtin, Sem.run_bind, Sem.run_pure, Result.andThen_ok, List.map_toArray, List.map_cons, List.map_nil, hs, hx, hrun]
      exact fin v' w (by simpa [dcs] using hown) (World.grownBy.refl w _)

theorem wpList_appendS (w : World) (hgd : o.guard = none) (s x : Operand) (ho : o.op = .call { callee := .builtin .append, args := #[s, x], argTypes := #[150, 150] })
    (base : Nat) (v : Value) (L : List (Int × Int)) (hs : a.eval s = v) (hown : w.ownsRow base 161 2 v L.length (dcs L)) (A : Option Addr) (m c : Nat) (r : List (Int × Int)) (B : Nat) (hx : a.eval x = .slice A m c) (hm : r.length = m)
    (hr : SlD w B A r) (hlen : L.length ≤ 1000000) (hlr : m ≤ 1000000) (hbase : base ≤ w.heap.size)
    (h : ∀ A' c' w', w'.ownsRow base 161 2 (.slice A' (L.length + m) c') (L.length + m) (dcs (L ++ r)) → w.grownBy w' v.ownBlock → wpList Try.prog ops Q rest (a.put o.dst (.slice A' (L.length + m) c')) w') :
    wpList Try.prog ops Q (o :: rest) a w :=
  wpList_plain hgd fun _ hK => wp_appendS w s x ho base v L hs hown A m c r B hx hm hr hlen hlr hbase fun A' c' w' h1 h2 => hK _ _ (h A' c' w' h1 h2)

theorem step_appendS {K : Act → World → Prop} {E : Prop} (w : World) (hgd : o.guard = none) (s x : Operand) (ho : o.op = .call { callee := .builtin .append, args := #[s, x], argTypes := #[150, 150] })
    (base : Nat) (v : Value) (L : List (Int × Int)) (hs : a.eval s = v) (hown : w.ownsRow base 161 2 v L.length (dcs L)) (A : Option Addr) (m c : Nat) (r : List (Int × Int)) (B : Nat) (hx : a.eval x = .slice A m c) (hm : r.length = m)
    (hr : SlD w B A r) (hlen : L.length ≤ 1000000) (hlr : m ≤ 1000000) (hbase : base ≤ w.heap.size)
    (h : ∀ A' c' w', w'.ownsRow base 161 2 (.slice A' (L.length + m) c') (L.length + m) (dcs (L ++ r)) → w.grownBy w' v.ownBlock → K (a.put o.dst (.slice A' (L.length + m) c')) w') :
    if Region.wanted o (yielded ops a.tmps) = true then Oper.wp Try.prog o a w K Q else E := by
  have hw : Region.wanted o (yielded ops a.tmps) = true := by simp [Region.wanted, hgd]
  rw [if_pos hw]
  exact wp_appendS w s x ho base v L hs hown A m c r B hx hm hr hlen hlr hbase h
end

theorem step_appendN {ops : Array Oper} {o : Oper} {a : Act} {Q : Exit → Act → World → Prop} {K : Act → World → Prop} {E : Prop} (w : World) (hgd : o.guard = none) (s x : Operand) (ho : o.op = .call { callee := .builtin .append, args := #[s, x], argTypes := #[150, 150] })
    (base : Nat) (v : Value) (n : Nat) (L : List (Int × Int)) (hn : L.length = n) (hs : a.eval s = v) (hown : w.ownsRow base 161 2 v n (dcs L)) (A : Option Addr) (m c : Nat) (r : List (Int × Int)) (B N : Nat) (hN : N = n + m) (hx : a.eval x = .slice A m c) (hm : r.length = m)
    (hr : SlD w B A r) (hlen : n ≤ 1000000) (hlr : m ≤ 1000000) (hbase : base ≤ w.heap.size)
    (h : ∀ A' c' w', w'.ownsRow base 161 2 (.slice A' N c') N (dcs (L ++ r)) → w.grownBy w' v.ownBlock → K (a.put o.dst (.slice A' N c')) w') :
    if Region.wanted o (yielded ops a.tmps) = true then Oper.wp Try.prog o a w K Q else E := by
  subst hN
  subst hn
  exact step_appendS w hgd s x ho base v L hs hown A m c r B hx hm hr hlen hlr hbase h
theorem wpList_appendN {ops : Array Oper} {rest : List Oper} {o : Oper} {a : Act} {Q : Exit → Act → World → Prop} (w : World) (hgd : o.guard = none) (s x : Operand) (ho : o.op = .call { callee := .builtin .append, args := #[s, x], argTypes := #[150, 150] })
    (base : Nat) (v : Value) (n : Nat) (L : List (Int × Int)) (hn : L.length = n) (hs : a.eval s = v) (hown : w.ownsRow base 161 2 v n (dcs L)) (A : Option Addr) (m c : Nat) (r : List (Int × Int)) (B N : Nat) (hN : N = n + m) (hx : a.eval x = .slice A m c) (hm : r.length = m)
    (hr : SlD w B A r) (hlen : n ≤ 1000000) (hlr : m ≤ 1000000) (hbase : base ≤ w.heap.size)
    (h : ∀ A' c' w', w'.ownsRow base 161 2 (.slice A' N c') N (dcs (L ++ r)) → w.grownBy w' v.ownBlock → wpList Try.prog ops Q rest (a.put o.dst (.slice A' N c')) w') : wpList Try.prog ops Q (o :: rest) a w := by
  subst hN
  subst hn
  exact wpList_appendS w hgd s x ho base v L hs hown A m c r B hx hm hr hlen hlr hbase h
theorem own_cap {w : World} {base e size n c : Nat} {A : Option Addr} {xs : List Value} (h : w.ownsRow base e size (.slice A n c) n xs) : n ≤ c := by
  rcases h.2 with ⟨h', hn⟩ | ⟨g, cap, cur, h', _, _, hnc, _⟩
  · omega
  · injection h' with _ _ hc
    omega
theorem reheld {w1 w w' : World} {p0 p1 : Addr} {v0 v1 : Value} {row : Option Nat} (q2 : w1.cell? p0 = some v0) (q3 : w1.cell? p1 = some v1) (h : w.cell? p0 = some v0 ∧ w.cell? p1 = some v1 ∧ Below w1.heap.size w1 w) (hg : w.grownBy w' row) (hr : ∀ k, row = some k → w1.heap.size ≤ k) :
    w'.cell? p0 = some v0 ∧ w'.cell? p1 = some v1 ∧ Below w1.heap.size w1 w' := by
  have hn := below_grown h.2.2 hg (Nat.le_refl _) hr
  exact ⟨cell_kept hn q2, cell_kept hn q3, hn⟩

/-- two cells of one block read as a list of one pair -/
theorem SlD.one {w : World} {g B : Nat} {y z : Int} (h0 : w.cell? ⟨g, 0, none⟩ = some (.int .i64 y)) (h1 : w.cell? ⟨g, 1, none⟩ = some (.int .i64 z)) (hB : g < B) : SlD w B (some ⟨g, 0, none⟩) [(y, z)] := fun _ =>
  ⟨g, 0, rfl, hB, fun j hj => by
    obtain rfl : j = 0 := by simpa using hj
    exact ⟨by simpa using h0, by simpa using h1⟩⟩
theorem SlD.drop {w : World} {B b off : Nat} {l : List (Int × Int)} (h : SlD w B (some ⟨b, off, none⟩) l) (k : Nat) : SlD w B (some ⟨b, off + k * 2, none⟩) (l.drop k) := fun h0 => by
  have hl : k < l.length := by simp at h0; omega
  obtain ⟨b', off', e, hb, hc⟩ := h (by omega)
  cases e
  refine ⟨b, off + k * 2, rfl, hb, fun j hj => ?_⟩
  have hj2 : k + j < l.length := by simp at hj; omega
  have e : (l.drop k).getD j (0, 0) = l.getD (k + j) (0, 0) := by simp [List.getD_eq_getElem?_getD]
  rw [e]
  have := hc (k + j) hj2
  rw [show off + k * 2 + j * 2 = off + (k + j) * 2 by omega]
  exact this
/-- an empty row in a block that was just made -/
theorem own_made (w : World) {B : Nat} (hB : B ≤ w.heap.size) : (w.alloc (.cells #[] 161)).ownsRow B 161 2 (.slice (some ⟨w.heap.size, 0, none⟩) 0 0) ([] : List (Int × Int)).length (dcs []) :=
  World.ownsRow_made w #[] 0 hB (by decide) rfl
end Go.Proofs.Ytfkkbjbgjmaciaa
