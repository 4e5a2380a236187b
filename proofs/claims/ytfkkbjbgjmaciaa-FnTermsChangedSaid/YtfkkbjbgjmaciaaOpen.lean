/- Arguments of a law opened to what a walk wants: pairs by value, slices of numbers, slices of pairs. -/
import Derived.Test.YtfkkbjbgjmaciaaMem
import Derived.ProofKit
import Derived.OpenShut
import Derived.Lib.SmallJoins
import Derived.Deep.Slices
import Derived.Deep.Fields
import Derived.ChangeSame
namespace Go.Proofs.Ytfkkbjbgjmaciaa
set_option linter.unusedVariables false
open Go.ChangeShapes Go.WideShapes Go.ChangeAt Go.RowKit Go.Joins Go.Deep

theorem own : ownKnob Try.prog.godebug = none := by kernel_rfl
theorem laidOut : laidOutB Try.prog = true := by kernel_rfl

namespace Opens
section
variable {H : Type} {enc : TypeId × Value → H} {P : Program} {w : World} {base : Nat} {spare : Nat → Bool} {held : Bool}

theorem pair_ {r : Reach} {b0 : Nat} {t i : TypeId} {f0 f1 : Field} {v : Value} {d : DataW H} {p : List MemPlace} (hs : P.underlying t = some (.struct #[f0, f1])) (hone : oneCellFields P #[f0, f1] = true) (hC : P.cellsOf t = 2)
    (hi : P.underlying i = some (.int .i64)) (hv : Value.okWide P w r b0 t v) (h : DataW.Trod enc P w base spare held t v d p) (e0 : f0.type = i := by rfl) (e1 : f1.type = i := by rfl) :
    ∃ a b : Int, v = .agg #[.int .i64 a, .int .i64 b] := by
  obtain ⟨c0, c1, y0, y1, m, rfl, -, -, hy0, hy1⟩ := open_agg2 hs hone hC hv h
  rw [e0] at hy0
  rw [e1] at hy1
  obtain ⟨a, g0, -, wa⟩ := DataW.trod_int hi hy0
  obtain ⟨b, g1, -, wb⟩ := DataW.trod_int hi hy1
  simp at g0 g1
  subst g0 g1
  exact ⟨a, b, rfl⟩

theorem four_ {r : Reach} {b0 : Nat} {t i : TypeId} {f0 f1 f2 f3 : Field} {v : Value} {d : DataW H} {p : List MemPlace} (hs : P.underlying t = some (.struct #[f0, f1, f2, f3])) (hone : oneCellFields P #[f0, f1, f2, f3] = true) (hC : P.cellsOf t = 4)
    (hi : P.underlying i = some (.int .i64)) (hv : Value.okWide P w r b0 t v) (h : DataW.Trod enc P w base spare held t v d p) (e0 : f0.type = i := by rfl) (e1 : f1.type = i := by rfl) (e2 : f2.type = i := by rfl) (e3 : f3.type = i := by rfl) :
    ∃ a b c e : Int, v = .agg #[.int .i64 a, .int .i64 b, .int .i64 c, .int .i64 e] := by
  obtain ⟨c0, c1, c2, c3, y0, y1, y2, y3, m, rfl, -, -, hy0, hy1, hy2, hy3⟩ := open_agg4 hs hone hC hv h
  rw [e0] at hy0
  rw [e1] at hy1
  rw [e2] at hy2
  rw [e3] at hy3
  obtain ⟨a, g0, -, wa⟩ := DataW.trod_int hi hy0
  obtain ⟨b, g1, -, wb⟩ := DataW.trod_int hi hy1
  obtain ⟨c, g2, -, wc⟩ := DataW.trod_int hi hy2
  obtain ⟨e, g3, -, we⟩ := DataW.trod_int hi hy3
  simp at g0 g1 g2 g3
  subst g0 g1 g2 g3
  exact ⟨a, b, c, e, rfl⟩

theorem ints_ {r : Reach} {b0 : Nat} {t e : TypeId} {v : Value} {d : DataW H} {p : List MemPlace} (hs : P.underlying t = some (.slice e)) (he : P.underlying e = some (.int .i64)) (hC : P.cellsOf e = 1)
    (hv : Value.okWide P w r b0 t v) (h : DataW.Trod enc P w base spare held t v d p) :
    ∃ (A : Option Addr) (c : Nat) (z : List Int), v = .slice A z.length c ∧ SlI w w.heap.size A z ∧ z.length ≤ c ∧ c ≤ maxLen ∧ ∀ x ∈ z, (Lit.int .i64 x).wf = true := by
  obtain ⟨A, n, c, rfl⟩ := okWide_slice hs hv
  obtain ⟨fuel, hf⟩ := h
  rcases open_ints hs he hC hf with ⟨hcs, _⟩ | ⟨a, len, cap, zs, hcs, _, hl, hm, hz, _, hcell, hwz⟩
  · simp [Value.cells] at hcs
    obtain ⟨rfl, rfl, rfl⟩ := hcs
    exact ⟨none, 0, [], rfl, SlI.nil_, Nat.le_refl _, by simp [maxLen], by simp⟩
  · simp [Value.cells] at hcs
    obtain ⟨rfl, rfl, rfl⟩ := hcs
    have hle : n ≤ zs.length := by rw [hz]; split <;> omega
    have hlen : (zs.take n).length = n := by simp; omega
    refine ⟨some a, c, zs.take n, by rw [hlen], fun h0 => ?_, by omega, hm, fun x hx => hwz x (List.mem_of_mem_take hx)⟩
    have hc0 := hcell 0 (by omega)
    obtain ⟨b, off, spot⟩ := a
    have hsp : spot = none := by simpa [Addr.add] using World.cell?_spot hc0
    subst hsp
    refine ⟨b, off, rfl, ?_, fun j hj => ?_⟩
    · have := World.block_lt_of_cell? w _ hc0
      simpa [Addr.add] using this
    · have hj2 : j < n := by omega
      have := hcell j (by omega)
      rw [Addr.add_lit] at this
      rw [this]
      simp [hj2]

theorem list2 {α : Type} {l : List α} (h : l.length = 2) : ∃ a b, l = [a, b] := by
  match l, h with
  | [a, b], _ => exact ⟨a, b, rfl⟩

theorem tell {w : World} {a : Addr} : ∀ n : Nat, (∀ j, j < n → ∃ x y : Int, w.cell? (a.add (j * 2)) = some (.int .i64 x) ∧ w.cell? (a.add (j * 2 + 1)) = some (.int .i64 y) ∧ (Lit.int .i64 x).wf = true ∧ (Lit.int .i64 y).wf = true) →
    ∃ z : List (Int × Int), z.length = n ∧ ∀ j, j < n → w.cell? (a.add (j * 2)) = some (.int .i64 (z.getD j (0, 0)).1) ∧ w.cell? (a.add (j * 2 + 1)) = some (.int .i64 (z.getD j (0, 0)).2) ∧ (Lit.int .i64 (z.getD j (0, 0)).1).wf = true ∧ (Lit.int .i64 (z.getD j (0, 0)).2).wf = true := by
  intro n each
  induction n with
  | zero => exact ⟨[], rfl, fun j hj => by omega⟩
  | succ n ih =>
    obtain ⟨z, hzl, hz⟩ := ih (fun j hj => each j (by omega))
    obtain ⟨x, y, hx, hy, wx, wy⟩ := each n (by omega)
    refine ⟨z ++ [(x, y)], by simp [hzl], fun j hj => ?_⟩
    by_cases hjn : j < n
    · have e : (z ++ [(x, y)]).getD j (0, 0) = z.getD j (0, 0) := by simp [List.getElem?_append_left (show j < z.length by omega)]
      rw [e]
      exact hz j hjn
    · obtain rfl : j = n := by omega
      have e : (z ++ [(x, y)]).getD j (0, 0) = (x, y) := by subst hzl; simp
      rw [e]
      exact ⟨hx, hy, wx, wy⟩

theorem pairs_ {r : Reach} {b0 : Nat} {t e i : TypeId} {f0 f1 : Field} {v : Value} {d : DataW H} {p : List MemPlace} (hs : P.underlying t = some (.slice e)) (he : P.underlying e = some (.struct #[f0, f1])) (hone : oneCellFields P #[f0, f1] = true) (hC : P.cellsOf e = 2)
    (hi : P.underlying i = some (.int .i64)) (hv : Value.okWide P w r b0 t v) (h : DataW.Trod enc P w base spare held t v d p) (e0 : f0.type = i := by rfl) (e1 : f1.type = i := by rfl) :
    ∃ (A : Option Addr) (c : Nat) (z : List (Int × Int)), v = .slice A z.length c ∧ SlD w w.heap.size A z ∧ z.length ≤ c ∧ c ≤ maxLen ∧ ∀ x ∈ z, (Lit.int .i64 x.1).wf = true ∧ (Lit.int .i64 x.2).wf = true := by
  obtain ⟨A, n, c, rfl⟩ := okWide_slice hs hv
  obtain ⟨fuel, hf⟩ := h
  rcases open_slice hs hf with ⟨hcs, _⟩ | ⟨a, len, cap, m, k, D, Pl, hcs, _, hl, hm, hmm, _, hcell⟩
  · simp [Value.cells] at hcs
    obtain ⟨rfl, rfl, rfl⟩ := hcs
    exact ⟨none, 0, [], rfl, SlD.nil_, Nat.le_refl _, by simp [maxLen], by simp⟩
  · simp [Value.cells] at hcs
    obtain ⟨rfl, rfl, rfl⟩ := hcs
    have hle : n ≤ m := by rw [hmm]; split <;> omega
    have each : ∀ j, j < n → ∃ x y : Int, w.cell? (a.add (j * 2)) = some (.int .i64 x) ∧ w.cell? (a.add (j * 2 + 1)) = some (.int .i64 y) ∧ (Lit.int .i64 x).wf = true ∧ (Lit.int .i64 y).wf = true := by
      intro j hj
      obtain ⟨cs', hc, ht⟩ := hcell j (by omega)
      rw [hC] at hc
      obtain ⟨_, hcl, hat⟩ := World.cells?_some hc
      obtain ⟨y0, y1, k', hx, hlen, h0, h1⟩ := trod_struct2 he ht
      obtain ⟨o0, k0⟩ := hone_of hone 0 f0 rfl
      obtain ⟨o1, k1⟩ := hone_of hone 1 f1 rfl
      obtain ⟨c0, c1, rfl⟩ := list2 hcl
      rw [e0] at k0 h0
      rw [e1] at k1 h1
      simp [o0, k0] at h0
      simp [o1, k1] at h1
      obtain ⟨x, g0, -, wx⟩ := DataW.trod_int hi h0
      obtain ⟨y, g1, -, wy⟩ := DataW.trod_int hi h1
      simp at g0 g1
      subst g0 g1
      have q0 := hat 0 (by omega)
      have q1 := hat 1 (by omega)
      rw [Go.Deep.add_add] at q0 q1
      exact ⟨x, y, by simpa using q0, by simpa using q1, wx, wy⟩
    obtain ⟨z, hzl, hz⟩ := tell n each
    subst hzl
    refine ⟨some a, c, z, rfl, fun h0 => ?_, by omega, hm, fun x hx => ?_⟩
    · have hc0 := (hz 0 h0).1
      obtain ⟨b, off, spot⟩ := a
      have hsp : spot = none := by simpa [Addr.add] using World.cell?_spot hc0
      subst hsp
      refine ⟨b, off, rfl, ?_, fun j hj => ?_⟩
      · have := World.block_lt_of_cell? w _ hc0
        simpa [Addr.add] using this
      · obtain ⟨q0, q1, _⟩ := hz j hj
        rw [Addr.add_lit] at q0 q1
        exact ⟨q0, q1⟩
    · obtain ⟨j, hj, rfl⟩ := List.getElem_of_mem hx
      obtain ⟨_, _, q2, q3⟩ := hz j hj
      have e : z.getD j (0, 0) = z[j] := by simp [hj]
      rw [e] at q2 q3
      exact ⟨q2, q3⟩
end
end Opens
end Go.Proofs.Ytfkkbjbgjmaciaa
