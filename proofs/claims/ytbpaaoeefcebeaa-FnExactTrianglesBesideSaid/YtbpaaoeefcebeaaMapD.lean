/- A set of diagonals: a map from diagonals to bools that the call makes; stored into, looked up. -/
import Derived.Test.YtbpaaoeefcebeaaLawD
import Derived.Maps.OwnOps
import Derived.Maps.Views
import Derived.WideKeyPair
import Derived.DeepKeys4
namespace Go.Proofs.Ytbpaaoeefcebeaa
set_option linter.unusedVariables false
open Go.RowKit

theorem rowD_lt : (40 : TypeId) < Try.prog.types.size := of_decide_eq_true (by kernel_rfl)
theorem laidOutD : laidOutB Try.prog = true := by kernel_rfl
theorem lawMD : Go.Maps.Keyed Try.prog 40 := Go.Maps.Keyed.of_law (deep_law_laid laidOutD (m := 2) (by omega) rowD_lt (by kernel_rfl) (by rw [Try.underlying40]))
/-- what a diagonal reads as, as a key -/
def kyD (x y : Int) : Lit := .string (keyBytes [.int .i64 x, .int .i64 y])
theorem cellsD : Try.prog.cellsOf 40 = 2 := by kernel_rfl
theorem cellsI : Try.prog.cellsOf 3 = 1 := by kernel_rfl
theorem keyTD : Try.prog.keyType 40 = true := by kernel_rfl
theorem keyD {x y : Int} (wx : (Lit.int .i64 x).wf = true) (wy : (Lit.int .i64 y).wf = true) : keyOf Try.prog 40 (.agg #[.int .i64 x, .int .i64 y]) = some (kyD x y) := by
  obtain ⟨m, hm⟩ : ∃ m, Try.prog.types.size = m + 1 := ⟨Try.prog.types.size - 1, by have h : (40 : Nat) < Try.prog.types.size := rowD_lt; omega⟩
  unfold keyOf
  simp only [Try.underlying40]
  rw [if_pos (by simp [keyTD, Value.formed, Try.underlying40, cellsD]), hm]
  unfold Program.keyLits
  simp only [Try.underlying40, Value.cells]
  rw [if_pos (by rw [cellsD]; exact ⟨rfl, by kernel_rfl⟩)]
  simp [cellsI, Program.keyLits, Try.underlying3, wx, wy, kyD]
theorem kyD_ne {x y u v : Int} (wx : (Lit.int .i64 x).wf = true) (wy : (Lit.int .i64 y).wf = true) (wu : (Lit.int .i64 u).wf = true) (wv : (Lit.int .i64 v).wf = true) (h : ¬(x = u ∧ y = v)) : kyD x y ≠ kyD u v := fun e => h (by
  have h1 := keyD wx wy
  rw [e] at h1
  have := lawMD.inj h1 (keyD wu wv)
  simp only [Value.agg.injEq] at this
  have h2 : [Value.int .i64 x, Value.int .i64 y] = [Value.int .i64 u, Value.int .i64 v] := by
    have := congrArg Array.toList this
    simpa using this
  simpa using h2)
theorem kyD_key {x y : Int} (wx : (Lit.int .i64 x).wf = true) (wy : (Lit.int .i64 y).wf = true) : WideAt.IsKeyLit (kyD x y) := lawMD.key (keyD wx wy)
theorem zeroB (w : World) : (zeroValue 4).run Try.prog w = .ok (.bool false) w := by kernel_rfl
theorem plainElem_bool_inv {H : Type} {P : Program} {e : TypeId} (he : P.underlying e = some .bool) {v : Value} {z : DataW H × List MemPlace} (h : plainElem P e v = some z) : ∃ a, v = .bool a ∧ z = (.lit (.bool a), []) := by
  unfold plainElem at h
  rw [he] at h
  cases v <;> simp at h
  exact ⟨_, rfl, h.symm⟩

/-- block b is a set of diagonals: just those of the list are there -/
def SetD (w : World) (b n : Nat) (L : List (Int × Int)) : Prop :=
  ∃ D : DataW Unit, w.ownsMap Try.prog 40 (plainElem Try.prog 4) b n D ∧ Go.Maps.IsMap D ∧
    ∀ x y : Int, (Lit.int .i64 x).wf = true → (Lit.int .i64 y).wf = true → D.atKey (kyD x y) (.lit (.bool false)) = .lit (.bool (decide ((x, y) ∈ L)))
theorem SetD.made (w : World) : SetD (w.alloc (.map #[] 0)) w.heap.size 0 [] := ⟨.map [], World.ownsMap_made _ _ _ _, Go.Maps.isMap_empty, fun x y _ _ => rfl⟩
theorem SetD.kept {w w' : World} {b n : Nat} {L : List (Int × Int)} {row : Option Nat} (h : SetD w b n L) (hg : w.grownBy w' row) (hne : some b ≠ row) : SetD w' b n L := by
  obtain ⟨D, h1, h2⟩ := h
  exact ⟨D, h1.kept hg hne, h2⟩
theorem SetD.below {w w' : World} {b n : Nat} {L : List (Int × Int)} (h : SetD w b n L) (hb : Below w.heap.size w w') : SetD w' b n L :=
  h.kept (row := none) ⟨hb.os, hb.tape, hb.output, hb.size, fun k hk _ => hb.block k hk⟩ (by simp)
theorem SetD.belowB {w w' : World} {B b n : Nat} {L : List (Int × Int)} (h : SetD w b n L) (hb : Below B w w') (hlt : b < B) : SetD w' b n L := by
  obtain ⟨D, ⟨es, clock, h1, F, hs, hD⟩, h2⟩ := h
  exact ⟨D, ⟨es, clock, (hb.block b hlt).trans h1, F, hs, hD⟩, h2⟩
theorem SetD.lt {w : World} {b n : Nat} {L : List (Int × Int)} (h : SetD w b n L) : b < w.heap.size := by obtain ⟨D, h1, _⟩ := h; exact h1.lt

section
variable {ops : Array Oper} {rest : List Oper} {o : Oper} {a : Act} {Q : Exit → Act → World → Prop}
/-- a diagonal more -/
theorem wpList_setD (w : World) (hg : o.guard = none) (m x v : Operand) (hop : o.op = Op.mapUpdate 64 m x v) (b n : Nat) (L : List (Int × Int)) (hm : a.eval m = .map (some b)) (hS : SetD w b n L) (hn : n ≤ 1000)
    (p q : Int) (hx : a.eval x = .agg #[.int .i64 p, .int .i64 q]) (hv : a.eval v = .bool true) (wp : (Lit.int .i64 p).wf = true) (wq : (Lit.int .i64 q).wf = true)
    (hK : ∀ w', SetD w' b (n + 1) (L ++ [(p, q)]) → w.grownBy w' (some b) → wpList Try.prog ops Q rest (a.put o.dst undef) w') :
    wpList Try.prog ops Q (o :: rest) a w := by
  obtain ⟨D, h1, h2, h3⟩ := hS
  refine wpList_mapUpdate_own w hg m x v 64 hop 40 4 lawMD Try.underlying64 _ b n D hm h1 (by unfold maxLen; omega) _ _ (kyD p q) hx hv (keyD wp wq) (.lit (.bool true)) [] (plainElem_bool Try.underlying4 true) ?_
  intro w' h4 h5
  refine hK w' ⟨_, h4, h2.put _ _, fun x y wx wy => ?_⟩ h5
  by_cases e : x = p ∧ y = q
  · obtain ⟨rfl, rfl⟩ := e
    rw [Go.Maps.atKey_put_same h2 (kyD_key wx wy)]
    simp
  · rw [Go.Maps.atKey_put_other (kyD_ne wx wy wp wq e), h3 x y wx wy]
    congr 2
    rw [decide_eq_decide, List.mem_append]
    constructor
    · exact Or.inl
    · intro h
      rcases h with h | h
      · exact h
      · simp at h
        exact absurd h e
/-- is a diagonal there? -/
theorem wpList_lookD (w : World) (hg : o.guard = none) (m x : Operand) (hop : o.op = Op.lookup 64 m x false) (b n : Nat) (L : List (Int × Int)) (hm : a.eval m = .map (some b)) (hS : SetD w b n L)
    (p q : Int) (hx : a.eval x = .agg #[.int .i64 p, .int .i64 q]) (wp : (Lit.int .i64 p).wf = true) (wq : (Lit.int .i64 q).wf = true) (r : Bool) (hr : decide ((p, q) ∈ L) = r)
    (hK : wpList Try.prog ops Q rest (a.put o.dst (.bool r)) w) :
    wpList Try.prog ops Q (o :: rest) a w := by
  obtain ⟨D, h1, h2, h3⟩ := hS
  refine wpList_plain hg fun K' hK' => ?_
  obtain ⟨v, ps, hrun, hRv⟩ := h1.lookup lawMD Try.underlying64 (zeroB w) (plainElem_bool Try.underlying4 false) (keyD wp wq)
  obtain ⟨c, rfl, hc⟩ := plainElem_bool_inv Try.underlying4 hRv
  have hat := h3 p q wp wq
  rw [hr] at hat
  simp only [Prod.mk.injEq] at hc
  rw [hat] at hc
  have hcr : c = r := by
    have := hc.1
    simp only [DataW.lit.injEq, Lit.bool.injEq] at this
    exact this.symm
  subst hcr
  unfold Oper.wp
  simp [execOp, hop, hm, hx, hrun, Result.andThen]
  exact hK' _ _ hK
/-- the same, where a guard says yes -/
theorem wpList_lookDg (w : World) (hg : Region.wanted o (yielded ops a.tmps) = true) (m x : Operand) (hop : o.op = Op.lookup 64 m x false) (b n : Nat) (L : List (Int × Int)) (hm : a.eval m = .map (some b)) (hS : SetD w b n L)
    (p q : Int) (hx : a.eval x = .agg #[.int .i64 p, .int .i64 q]) (wp : (Lit.int .i64 p).wf = true) (wq : (Lit.int .i64 q).wf = true) (r : Bool) (hr : decide ((p, q) ∈ L) = r)
    (hK : wpList Try.prog ops Q rest (a.put o.dst (.bool r)) w) :
    wpList Try.prog ops Q (o :: rest) a w := by
  obtain ⟨D, h1, h2, h3⟩ := hS
  refine wpList_step fun K' hK' => ?_
  rw [if_pos hg]
  obtain ⟨v, ps, hrun, hRv⟩ := h1.lookup lawMD Try.underlying64 (zeroB w) (plainElem_bool Try.underlying4 false) (keyD wp wq)
  obtain ⟨c, rfl, hc⟩ := plainElem_bool_inv Try.underlying4 hRv
  have hat := h3 p q wp wq
  rw [hr] at hat
  simp only [Prod.mk.injEq] at hc
  rw [hat] at hc
  have hcr : c = r := by
    have := hc.1
    simp only [DataW.lit.injEq, Lit.bool.injEq] at this
    exact this.symm
  subst hcr
  unfold Oper.wp
  simp [execOp, hop, hm, hx, hrun, Result.andThen]
  exact hK' _ _ hK
end
end Go.Proofs.Ytbpaaoeefcebeaa
