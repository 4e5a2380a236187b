/- A set of diagonals that is ranged over and emptied. -/
import Derived.Test.YtlnnnjnboknoeaaMapD
import Derived.Test.YtlnnnjnboknoeaaTriM
import Derived.Maps.RangeWalk
namespace Go.Proofs.Ytlnnnjnboknoeaa
set_option linter.unusedVariables false
open Go.RowKit

theorem keyD_inv {v : Value} {kl : Lit} (h : keyOf Try.prog 49 v = some kl) : ∃ x y : Int, v = .agg #[.int .i64 x, .int .i64 y] ∧ (Lit.int .i64 x).wf = true ∧ (Lit.int .i64 y).wf = true ∧ kl = kyD x y := by
  have h0 := h
  obtain ⟨m, hm⟩ : ∃ m, Try.prog.types.size = m + 1 := ⟨Try.prog.types.size - 1, by have h : (49 : Nat) < Try.prog.types.size := rowD_lt; omega⟩
  unfold keyOf at h
  simp only [Try.underlying49] at h
  split at h
  · rename_i hf
    rw [Bool.and_eq_true] at hf
    have hf2 := hf.2
    cases v with
    | agg cs =>
      simp only [Value.formed, Try.underlying49, cellsD, beq_iff_eq] at hf2
      obtain ⟨a, b, rfl⟩ : ∃ a b, cs = #[a, b] := ⟨cs[0], cs[1], by
        apply Array.ext
        · simp [hf2]
        · intro i h1 h2
          have : i = 0 ∨ i = 1 := by simp at h2; omega
          rcases this with rfl | rfl <;> rfl⟩
      rw [hm] at h
      unfold Program.keyLits at h
      simp only [Try.underlying49, Value.cells] at h
      rw [if_pos (by rw [cellsD]; exact ⟨rfl, by kernel_rfl⟩)] at h
      have key : ∀ c : Value, (∃ z, Try.prog.keyLits (m + 1) 3 [c] = some z) → ∃ x, c = .int .i64 x ∧ (Lit.int .i64 x).wf = true := fun c hz => by
        obtain ⟨z, hz⟩ := hz
        unfold Program.keyLits at hz
        simp only [Try.underlying3] at hz
        cases c <;> simp at hz
        obtain ⟨⟨rfl, hw⟩, _⟩ := hz
        exact ⟨_, rfl, hw⟩
      have hab : (∃ z, Try.prog.keyLits (m + 1) 3 [a] = some z) ∧ ∃ z, Try.prog.keyLits (m + 1) 3 [b] = some z := by
        simp only [List.mapM_cons, cellsI] at h
        cases h1 : Try.prog.keyLits (m + 1) 3 [a] with
        | none => simp [h1] at h
        | some z1 =>
          cases h2 : Try.prog.keyLits (m + 1) 3 [b] with
          | none => simp [h1, h2] at h
          | some z2 => exact ⟨⟨_, rfl⟩, _, rfl⟩
      obtain ⟨x, rfl, wx⟩ := key a hab.1
      obtain ⟨y, rfl, wy⟩ := key b hab.2
      refine ⟨x, y, rfl, wx, wy, ?_⟩
      rw [keyD wx wy] at h0
      exact (Option.some.inj h0).symm
    | _ => simp [Value.formed, Try.underlying49] at hf2
  · cases h

/-- what a map of diagonals reads as, as a list -/
def ReadU (D : DataW Unit) (U : List (Int × Int)) : Prop :=
  (∀ x y : Int, (Lit.int .i64 x).wf = true → (Lit.int .i64 y).wf = true → Go.Maps.has D (kyD x y) = decide ((x, y) ∈ U)) ∧ Go.Maps.size D = U.length ∧ U.Nodup ∧ ∀ d ∈ U, (Lit.int .i64 d.1).wf = true ∧ (Lit.int .i64 d.2).wf = true
/-- block b is a set of diagonals: those of the list, none twice -/
def SetU (w : World) (b n : Nat) (U : List (Int × Int)) : Prop := ∃ D : DataW Unit, w.ownsMap Try.prog 49 (plainElem Try.prog 4) b n D ∧ ReadU D U
/-- block b is a set of diagonals, block r an iterator over it: those of L are still to come -/
def RngU (w : World) (b r n : Nat) (U L : List (Int × Int)) (cnt : Nat) : Prop :=
  ∃ (D : DataW Unit) (left : Lit → Bool), w.ranges Try.prog 49 (plainElem Try.prog 4) b r n D left cnt ∧ ReadU D U ∧
    (∀ x y : Int, (Lit.int .i64 x).wf = true → (Lit.int .i64 y).wf = true → left (kyD x y) = decide ((x, y) ∈ L)) ∧ ∀ d ∈ L, (Lit.int .i64 d.1).wf = true ∧ (Lit.int .i64 d.2).wf = true
theorem SetU.made (w : World) : SetU (w.alloc (.map #[] 0)) w.heap.size 0 [] := ⟨.map [], World.ownsMap_made _ _ _ _, fun x y _ _ => rfl, rfl, List.nodup_nil, fun d hd => by cases hd⟩
theorem SetU.kept {w w' : World} {b n : Nat} {U : List (Int × Int)} {row : Option Nat} (h : SetU w b n U) (hg : w.grownBy w' row) (hne : some b ≠ row) : SetU w' b n U := by
  obtain ⟨D, h1, h2⟩ := h
  exact ⟨D, h1.kept hg hne, h2⟩
theorem SetU.below {w w' : World} {b n : Nat} {U : List (Int × Int)} (h : SetU w b n U) (hb : Below w.heap.size w w') : SetU w' b n U :=
  h.kept (row := none) ⟨hb.os, hb.tape, hb.output, hb.size, fun k hk _ => hb.block k hk⟩ (by simp)
theorem SetU.lt {w : World} {b n : Nat} {U : List (Int × Int)} (h : SetU w b n U) : b < w.heap.size := by obtain ⟨D, h1, _⟩ := h; exact h1.lt
theorem RngU.set {w : World} {b r n cnt : Nat} {U L : List (Int × Int)} (h : RngU w b r n U L cnt) : SetU w b n U := by obtain ⟨D, left, h1, h2, _⟩ := h; exact ⟨D, h1.owns, h2⟩
theorem RngU.kept {w w' : World} {b r n cnt : Nat} {U L : List (Int × Int)} {row : Option Nat} (h : RngU w b r n U L cnt) (hg : w.grownBy w' row) (hb : some b ≠ row) (hr : some r ≠ row) : RngU w' b r n U L cnt := by
  obtain ⟨D, left, h1, h2⟩ := h
  exact ⟨D, left, h1.kept hg hb hr, h2⟩
theorem RngU.below {w w' : World} {b r n cnt : Nat} {U L : List (Int × Int)} (h : RngU w b r n U L cnt) (hb : Below w.heap.size w w') : RngU w' b r n U L cnt :=
  h.kept (row := none) ⟨hb.os, hb.tape, hb.output, hb.size, fun k hk _ => hb.block k hk⟩ (by simp) (by simp)
theorem RngU.left_eq {w : World} {b r n cnt : Nat} {U L : List (Int × Int)} (h : RngU w b r n U L cnt) : w.rangeLeft b r = cnt := by obtain ⟨D, left, h1, _⟩ := h; exact h1.left_eq
theorem RngU.lt {w : World} {b r n cnt : Nat} {U L : List (Int × Int)} (h : RngU w b r n U L cnt) : r < w.heap.size := by obtain ⟨D, left, h1, _⟩ := h; exact h1.lt
theorem same_kyD {x y u v : Int} (wx : (Lit.int .i64 x).wf = true) (wy : (Lit.int .i64 y).wf = true) (wu : (Lit.int .i64 u).wf = true) (wv : (Lit.int .i64 v).wf = true) : (kyD x y).sameKey (kyD u v) = decide (x = u ∧ y = v) := by
  by_cases h : x = u ∧ y = v
  · obtain ⟨rfl, rfl⟩ := h
    rw [WideAt.sameKey_self (kyD_key wx wy)]
    simp
  · rw [Go.Maps.sameKey_ne (kyD_ne wx wy wu wv h), decide_eq_false h]
def offU (U : List (Int × Int)) (d : Int × Int) : List (Int × Int) := U.filter fun f => decide (f ≠ d)
theorem mem_off {U : List (Int × Int)} {d e : Int × Int} : e ∈ offU U d ↔ e ∈ U ∧ e ≠ d := by unfold offU; rw [List.mem_filter, decide_eq_true_eq]
theorem off_len {U : List (Int × Int)} (h3 : U.Nodup) {d : Int × Int} (hm : d ∈ U) : U.length = (offU U d).length + 1 := by
  unfold offU
  induction U with
  | nil => cases hm
  | cons a r ih =>
    obtain ⟨ha, hr⟩ := List.nodup_cons.1 h3
    rcases List.mem_cons.1 hm with e | hm2
    · subst e
      rw [List.filter_cons_of_neg (by simp), List.length_cons, List.filter_eq_self.2 fun x hx => by
        rw [decide_eq_true_eq]; exact fun e => ha (e ▸ hx)]
    · rw [List.filter_cons_of_pos (by rw [decide_eq_true_eq]; exact fun e => ha (e ▸ hm2)), List.length_cons, List.length_cons, ih hr hm2]
theorem ReadU.del {D : DataW Unit} {U : List (Int × Int)} (h : ReadU D U) (ht : Go.Maps.Tidy D) {p q : Int} (hm : (p, q) ∈ U) : ReadU (D.del (kyD p q)) (offU U (p, q)) := by
  obtain ⟨h1, h2, h3, h4⟩ := h
  obtain ⟨wp, wq⟩ := h4 _ hm
  refine ⟨fun x y wx wy => ?_, ?_, h3.sublist List.filter_sublist, fun d hd => h4 d (List.mem_filter.1 hd).1⟩
  · by_cases e : x = p ∧ y = q
    · obtain ⟨rfl, rfl⟩ := e
      rw [Go.Maps.has_del_same, eq_comm, decide_eq_false_iff_not, mem_off]
      exact fun hh => hh.2 rfl
    · rw [Go.Maps.has_del_other (kyD_ne wx wy wp wq e), h1 x y wx wy, decide_eq_decide, mem_off]
      exact ⟨fun hh => ⟨hh, fun e2 => e (by injection e2 with e3 e4; exact ⟨e3, e4⟩)⟩, fun hh => hh.1⟩
  · have hs := Go.Maps.size_del (k := kyD p q) ht
    rw [h1 p q wp wq, decide_eq_true hm, if_pos rfl, h2] at hs
    have hl := off_len h3 hm
    omega

section
variable {ops : Array Oper} {rest : List Oper} {o : Oper} {a : Act} {Q : Exit → Act → World → Prop}
/-- a new diagonal -/
theorem wpList_setU (w : World) (hg : o.guard = none) (m x v : Operand) (hop : o.op = Op.mapUpdate 105 m x v) (b n : Nat) (U : List (Int × Int)) (hm : a.eval m = .map (some b)) (hS : SetU w b n U) (hn : n ≤ 1000)
    (p q : Int) (hx : a.eval x = .agg #[.int .i64 p, .int .i64 q]) (hv : a.eval v = .bool true) (wp : (Lit.int .i64 p).wf = true) (wq : (Lit.int .i64 q).wf = true) (hnew : (p, q) ∉ U)
    (hK : ∀ w', SetU w' b (n + 1) (U ++ [(p, q)]) → w.grownBy w' (some b) → wpList Try.prog ops Q rest (a.put o.dst undef) w') :
    wpList Try.prog ops Q (o :: rest) a w := by
  obtain ⟨D, h1, h2, h3, h4, h5⟩ := hS
  refine wpList_mapUpdate_own w hg m x v 105 hop 49 4 lawMD Try.underlying105 _ b n D hm h1 (by unfold maxLen; omega) _ _ (kyD p q) hx hv (keyD wp wq) (.lit (.bool true)) [] (plainElem_bool Try.underlying4 true) ?_
  intro w' h6 h7
  have ht := h1.tidy lawMD
  refine hK w' ⟨_, h6, fun x y wx wy => ?_, ?_, ?_, fun d hd => ?_⟩ h7
  · by_cases e : x = p ∧ y = q
    · obtain ⟨rfl, rfl⟩ := e
      rw [Go.Maps.has_put_same ht.isMap (kyD_key wx wy)]
      simp
    · rw [Go.Maps.has_put_other (kyD_ne wx wy wp wq e), h2 x y wx wy, decide_eq_decide, List.mem_append, List.mem_singleton]
      exact ⟨Or.inl, fun hh => hh.resolve_right fun e2 => e (by injection e2 with e3 e4; exact ⟨e3, e4⟩)⟩
  · rw [Go.Maps.size_put ht, h2 p q wp wq, decide_eq_false hnew, if_neg (by simp), h3, List.length_append]
    rfl
  · exact List.nodup_append.2 ⟨h4, by simp, fun d hd e he => by rw [List.mem_singleton.1 he]; exact fun e2 => hnew (e2 ▸ hd)⟩
  · rcases List.mem_append.1 hd with hd | hd
    · exact h5 d hd
    · rw [List.mem_singleton.1 hd]; exact ⟨wp, wq⟩
/-- the same in a literal -/
theorem wpList_insertU (w : World) (hg : o.guard = none) (m x v : Operand) (hop : o.op = Op.insert 105 m x v) (b n : Nat) (U : List (Int × Int)) (hm : a.eval m = .map (some b)) (hS : SetU w b n U) (hn : n ≤ 1000)
    (p q : Int) (hx : a.eval x = .agg #[.int .i64 p, .int .i64 q]) (hv : a.eval v = .bool true) (wp : (Lit.int .i64 p).wf = true) (wq : (Lit.int .i64 q).wf = true) (hnew : (p, q) ∉ U)
    (hK : ∀ w', SetU w' b (n + 1) (U ++ [(p, q)]) → w.grownBy w' (some b) → wpList Try.prog ops Q rest (a.put o.dst undef) w') :
    wpList Try.prog ops Q (o :: rest) a w := by
  obtain ⟨D, h1, h2, h3, h4, h5⟩ := hS
  refine wpList_plain hg fun K' hK' => ?_
  obtain ⟨w', hrun, h6, h7⟩ := h1.update lawMD Try.underlying105 (by unfold maxLen; omega) (keyD wp wq) (plainElem_bool Try.underlying4 true)
  unfold Oper.wp
  simp [execOp, hop, hm, hx, hv, hrun, Result.andThen]
  refine hK' _ _ ?_
  have ht := h1.tidy lawMD
  refine hK w' ⟨_, h6, fun x y wx wy => ?_, ?_, ?_, fun d hd => ?_⟩ h7
  · by_cases e : x = p ∧ y = q
    · obtain ⟨rfl, rfl⟩ := e
      rw [Go.Maps.has_put_same ht.isMap (kyD_key wx wy)]
      simp
    · rw [Go.Maps.has_put_other (kyD_ne wx wy wp wq e), h2 x y wx wy, decide_eq_decide, List.mem_append, List.mem_singleton]
      exact ⟨Or.inl, fun hh => hh.resolve_right fun e2 => e (by injection e2 with e3 e4; exact ⟨e3, e4⟩)⟩
  · rw [Go.Maps.size_put ht, h2 p q wp wq, decide_eq_false hnew, if_neg (by simp), h3, List.length_append]
    rfl
  · exact List.nodup_append.2 ⟨h4, by simp, fun d hd e he => by rw [List.mem_singleton.1 he]; exact fun e2 => hnew (e2 ▸ hd)⟩
  · rcases List.mem_append.1 hd with hd | hd
    · exact h5 d hd
    · rw [List.mem_singleton.1 hd]; exact ⟨wp, wq⟩
theorem wpList_lenU (w : World) (hg : o.guard = none) (m : Operand) (hop : o.op = Op.call { callee := Callee.builtin Builtin.len, args := #[m], argTypes := #[105] }) (b n : Nat) (U : List (Int × Int)) (hm : a.eval m = .map (some b)) (hS : SetU w b n U)
    (hK : wpList Try.prog ops Q rest (a.put o.dst (.int .i64 U.length)) w) : wpList Try.prog ops Q (o :: rest) a w := by
  obtain ⟨D, h1, _, h3, _⟩ := hS
  refine wpList_plain hg fun K' hK' => ?_
  have hrun := h1.len Try.underlying105 o.type
  rw [h3] at hrun
  unfold Oper.wp
  simp [execOp, hop, resolve, invoke, builtin, hm, hrun, Result.andThen]
  exact hK' _ _ hK
theorem wpList_rangeU (w : World) (hg : o.guard = none) (m : Operand) (hop : o.op = Op.range 105 m) (b n : Nat) (U : List (Int × Int)) (hm : a.eval m = .map (some b)) (hS : SetU w b n U)
    (hK : ∀ w', RngU w' b w.heap.size n U U U.length → w.grownBy w' none → w'.heap.size = w.heap.size + 1 → wpList Try.prog ops Q rest (a.put o.dst (.pointer (some ⟨w.heap.size, 0, none⟩))) w') : wpList Try.prog ops Q (o :: rest) a w := by
  obtain ⟨D, h1, h2⟩ := hS
  refine wpList_range_own w hg m 105 hop 49 4 lawMD Try.underlying105 _ b n D hm h1 ?_
  intro w' h3 h4 h5
  rw [h2.2.1] at h3
  exact hK w' ⟨D, _, h3, h2, h2.1, h2.2.2.2⟩ h4 h5
theorem wpList_nextU (w : World) (hg : o.guard = none) (it : Operand) (hop : o.op = Op.next it false) (b r n : Nat) (U L : List (Int × Int)) (cnt : Nat) (hit : a.eval it = .pointer (some ⟨r, 0, none⟩)) (h : RngU w b r n U L cnt)
    (hDone : L = [] → wpList Try.prog ops Q rest (a.put o.dst (.tuple #[.bool false])) w)
    (hMore : ∀ (x y : Int) (c : Value) (w' : World) (cnt' : Nat), (x, y) ∈ L → (x, y) ∈ U → RngU w' b r n U (offU L (x, y)) cnt' → cnt' < cnt → w.grownBy w' (some r) → w'.heap.size = w.heap.size →
      (Instr.entry (.pointer (some ⟨r, 0, none⟩))).run Try.prog w' = .ok (.tuple #[.agg #[.int .i64 x, .int .i64 y], c]) w' → wpList Try.prog ops Q rest (a.put o.dst (.tuple #[.bool true, .agg #[.int .i64 x, .int .i64 y], c])) w') :
    wpList Try.prog ops Q (o :: rest) a w := by
  obtain ⟨D, left, h1, h2, h3, h4⟩ := h
  refine wpList_next_ranges w hg it hop 49 lawMD (plainElem Try.prog 4) (fun d : Int × Int => Value.agg #[.int .i64 d.1, .int .i64 d.2]) Value.bool
    (fun key kl hkey => by obtain ⟨x, y, rfl, _⟩ := keyD_inv hkey; exact ⟨(x, y), rfl⟩) (fun v y hv => by obtain ⟨c, rfl, _⟩ := plainElem_bool_inv Try.underlying4 hv; exact ⟨c, rfl⟩)
    b r n D left cnt hit h1 (fun _ hl => hDone ?_) ?_
  · cases L with
    | nil => rfl
    | cons d r =>
      obtain ⟨wx, wy⟩ := h4 d (by simp)
      have := h3 d.1 d.2 wx wy
      rw [hl] at this
      simp at this
  · intro d c kl y w' cnt' hkey hlk hv hat hrg hlt hgr hsz hen
    obtain ⟨x, z, e, wx, wz, rfl⟩ := keyD_inv hkey
    simp only [Value.agg.injEq] at e
    have e2 : d = (x, z) := by
      have := congrArg Array.toList e
      simp at this
      exact Prod.ext this.1 this.2
    subst e2
    have hxL : (x, z) ∈ L := by have := h3 x z wx wz; rw [hlk] at this; exact of_decide_eq_true this.symm
    have hxU : (x, z) ∈ U := by
      have hh : Go.Maps.has D (kyD x z) = true := Go.Maps.has_true_of_atKey (y := y.1) hat
      rw [h2.1 x z wx wz] at hh
      exact of_decide_eq_true hh
    refine hMore x z (.bool c) w' cnt' hxL hxU ⟨D, _, hrg, h2, fun u v wu wv => ?_, fun d hd => h4 d (List.mem_filter.1 hd).1⟩ hlt hgr hsz hen
    show (left (kyD u v) && !(kyD u v).sameKey (kyD x z)) = _
    rw [h3 u v wu wv, same_kyD wu wv wx wz]
    refine bool_ext ?_
    rw [Bool.and_eq_true, Bool.not_eq_true', decide_eq_true_eq, decide_eq_false_iff_not, decide_eq_true_eq, mem_off]
    exact ⟨fun hh => ⟨hh.1, fun e2 => hh.2 (by injection e2 with e3 e4; exact ⟨e3, e4⟩)⟩, fun hh => ⟨hh.1, fun e2 => hh.2 (by rw [e2.1, e2.2])⟩⟩
theorem wpList_deleteU (w : World) (hg : o.guard = none) (m x : Operand) (hop : o.op = Op.call { callee := Callee.builtin Builtin.delete, args := #[m, x], argTypes := #[105, 49] }) (b r n : Nat) (U L : List (Int × Int)) (cnt : Nat)
    (hm : a.eval m = .map (some b)) (h : RngU w b r n U L cnt) (p q : Int) (hx : a.eval x = .agg #[.int .i64 p, .int .i64 q]) (hmem : (p, q) ∈ U)
    (hK : ∀ w' cnt', RngU w' b r n (offU U (p, q)) (offU L (p, q)) cnt' → cnt' ≤ cnt → w.grownBy w' (some b) → wpList Try.prog ops Q rest (a.put o.dst (.tuple #[])) w') :
    wpList Try.prog ops Q (o :: rest) a w := by
  obtain ⟨D, left, h1, h2, h3, h4⟩ := h
  obtain ⟨wp, wq⟩ := h2.2.2.2 _ hmem
  refine wpList_delete_ranges w hg m x 105 49 hop 4 lawMD Try.underlying105 _ b r n D left cnt hm h1 _ (kyD p q) hx (keyD wp wq) ?_
  intro w' cnt' h5 h6 h7
  refine hK w' cnt' ⟨_, _, h5, h2.del (h1.owns.tidy lawMD) hmem, fun u v wu wv => ?_, fun d hd => h4 d (List.mem_filter.1 hd).1⟩ h6 h7.grown
  show (left (kyD u v) && !(kyD u v).sameKey (kyD p q)) = _
  rw [h3 u v wu wv, same_kyD wu wv wp wq]
  refine bool_ext ?_
  rw [Bool.and_eq_true, Bool.not_eq_true', decide_eq_true_eq, decide_eq_false_iff_not, decide_eq_true_eq, mem_off]
  exact ⟨fun hh => ⟨hh.1, fun e2 => hh.2 (by injection e2 with e3 e4; exact ⟨e3, e4⟩)⟩, fun hh => ⟨hh.1, fun e2 => hh.2 (by rw [e2.1, e2.2])⟩⟩
end
end Go.Proofs.Ytlnnnjnboknoeaa
