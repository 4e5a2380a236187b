/- Rows' values appended, from wherever they lie; rows of lists that are read alone; the model's cuLess and cuSorted. -/
import Derived.Test.YtlnnnjnboknoeaaLawPS
import Derived.Test.YtlnnnjnboknoeaaPcN
import Derived.Laws.AppendOwnNone
import Derived.Deep.QuietTactic
import Derived.BigQuiet
namespace Go.Proofs.Ytlnnnjnboknoeaa
set_option linter.unusedVariables false
open Go.RowKit

/-- a slice's value leads to the values given -/
def SrcV (w : World) (A : Option Addr) (m c : Nat) (rs2 : List Value) : Prop :=
  rs2.length = m ∧ ((A = none ∧ m = 0 ∧ c = 0) ∨ ∃ g off, A = some ⟨g, off, none⟩ ∧ ∀ j u, rs2[j]? = some u → w.cell? ⟨g, off + j, none⟩ = some u)
section
variable {ops : Array Oper} {rest : List Oper} {o : Oper} {a : Act} {Q : Exit → Act → World → Prop}
theorem wp_appendVS {K : Act → World → Prop} (w : World) (s x : Operand) (ho : o.op = .call { callee := .builtin .append, args := #[s, x], argTypes := #[29, 29] })
    (base : Nat) (v : Value) (n : Nat) (rs : List Value) (hs : a.eval s = v) (hown : w.ownsRow base 35 1 v n rs) (A : Option Addr) (m c : Nat) (rs2 : List Value) (hx : a.eval x = .slice A m c)
    (hr : SrcV w A m c rs2) (h1 : ∀ u ∈ rs2, u.oneCell' = true) (hlen : n ≤ 1000000) (hlm : m ≤ 1000000) (hbase : base ≤ w.heap.size)
    (h : ∀ A' c' w', w'.ownsRow base 35 1 (.slice A' (n + m) c') (n + m) (rs ++ rs2) → w.grownBy w' v.ownBlock → K (a.put o.dst (.slice A' (n + m) c')) w') :
    o.wp Try.prog a w K Q := by
  obtain ⟨i0, hi, hz0, hz1, hz2⟩ := info_parts infoSl
  have fin : ∀ v' w', w'.ownsRow base 35 1 v' (n + m) (rs ++ rs2) → w.grownBy w' v.ownBlock → K (a.put o.dst v') w' := by
    intro v' w' ho' hg
    obtain ⟨A', c', rfl⟩ := own_form ho'
    exact h A' c' w' ho' hg
  obtain ⟨hl, ⟨rfl, rfl, rfl⟩ | ⟨g, off, rfl, hc⟩⟩ := hr
  · obtain rfl : rs2 = [] := List.eq_nil_of_length_eq_zero hl
    have hrun : (Builtin.append_ #[29, 29] o.type #[v, .slice none 0 0]).run Try.prog w = .ok v w := by
      rcases hown.2 with ⟨rfl, hn⟩ | ⟨g, cap, cur, rfl, _, _, hnc, _⟩
      · simp [Builtin.append_, run_underlying Try.underlying29, sizeOf, typeInfo, hi, Builtin.lenOf, Builtin.firstCells]
      · simp [Builtin.append_, run_underlying Try.underlying29, sizeOf, typeInfo, hi, Builtin.lenOf, Builtin.firstCells, hnc, storeCells]
    unfold Oper.wp execOp
    simp only [ho, resolve, invoke, builtin, Sem.run_bind, Sem.run_pure, Result.andThen_ok, List.map_toArray, List.map_cons, List.map_nil, hs, hx, hrun]
    exact fin v w (by simpa using hown) (World.grownBy.refl w _)
  · exact wp_append_own w s x 29 ho base 35 i0 (.slice none 0 0) 1 24 Try.underlying29 hi hz0 hz1 hz2 rfl (by decide) v n rs hs hown ⟨g, off, none⟩ m c rs2 hx (by rw [hl, Nat.mul_one])
      (fun j u hu => by rw [Addr.add_lit]; exact hc j u hu) h1
      (by unfold maxLen; omega) (by omega) hbase (fun v' w' h3 h4 _ => fin v' w' h3 h4)
theorem wpList_appendVS (w : World) (hgd : o.guard = none) (s x : Operand) (ho : o.op = .call { callee := .builtin .append, args := #[s, x], argTypes := #[29, 29] })
    (base : Nat) (v : Value) (n : Nat) (rs : List Value) (hs : a.eval s = v) (hown : w.ownsRow base 35 1 v n rs) (A : Option Addr) (m c : Nat) (rs2 : List Value) (hx : a.eval x = .slice A m c)
    (hr : SrcV w A m c rs2) (h1 : ∀ u ∈ rs2, u.oneCell' = true) (hlen : n ≤ 1000000) (hlm : m ≤ 1000000) (hbase : base ≤ w.heap.size)
    (h : ∀ A' c' w', w'.ownsRow base 35 1 (.slice A' (n + m) c') (n + m) (rs ++ rs2) → w.grownBy w' v.ownBlock → wpList Try.prog ops Q rest (a.put o.dst (.slice A' (n + m) c')) w') :
    wpList Try.prog ops Q (o :: rest) a w :=
  wpList_plain hgd fun _ hK => wp_appendVS w s x ho base v n rs hs hown A m c rs2 hx hr h1 hlen hlm hbase fun A' c' w' h1 h2 => hK _ _ (h A' c' w' h1 h2)
end

theorem srcV_take {w : World} {base g c n : Nat} {rs : List Value} (h : w.ownsRow base 35 1 (.slice (some ⟨g, 0, none⟩) n c) n rs) (p : Nat) (hp : p ≤ n) (c' : Nat) : SrcV w (some ⟨g, 0, none⟩) p c' (rs.take p) := by
  have hl := h.1
  refine ⟨by simp; omega, .inr ⟨g, 0, rfl, fun j u hu => ?_⟩⟩
  have hj : j < p := by
    have := (List.getElem?_eq_some_iff.1 hu).1
    simp at this; omega
  rw [List.getElem?_take_of_lt hj] at hu
  rw [Nat.zero_add]
  exact (h.cellAt j (by omega)).trans hu
theorem srcV_drop {w : World} {base g c n : Nat} {rs : List Value} (h : w.ownsRow base 35 1 (.slice (some ⟨g, 0, none⟩) n c) n rs) (p : Nat) (hp : p ≤ n) (hc : n ≤ c) (c' : Nat) : SrcV w (if c = p then some ⟨g, 0, none⟩ else some ⟨g, p, none⟩) (n - p) c' (rs.drop p) := by
  have hl := h.1
  by_cases e : c = p
  · rw [if_pos e]
    refine ⟨by simp; omega, .inr ⟨g, 0, rfl, fun j u hu => ?_⟩⟩
    rw [List.drop_of_length_le (by omega)] at hu
    simp at hu
  · rw [if_neg e]
    refine ⟨by simp; omega, .inr ⟨g, p, rfl, fun j u hu => ?_⟩⟩
    rw [List.getElem?_drop] at hu
    have hj : p + j < n := by
      have := (List.getElem?_eq_some_iff.1 hu).1
      omega
    exact (h.cellAt (p + j) (by omega)).trans hu
theorem own_emptyV (w : World) : (w.alloc (.cells #[] 35)).ownsRow w.heap.size 35 1 (.slice (some ⟨w.heap.size, 0, none⟩) 0 0) 0 [] := ⟨rfl, .inr ⟨w.heap.size, 0, #[], rfl, Nat.le_refl _, heap_alloc_new w _, Nat.le_refl _, by decide, rfl, rfl⟩⟩

/-- values of rows that are read alone -/
def RdR (w : World) (lo B : Nat) (rs : List Value) (Ls : List (List Int)) : Prop :=
  rs.length = Ls.length ∧ ∀ j, j < Ls.length → ∃ A c, rvOf rs j = .slice A (rowOf Ls j).length c ∧ SlI w B A (rowOf Ls j) ∧ ∀ b o, A = some ⟨b, o, none⟩ → lo ≤ b
theorem RdR.nil_ (w : World) (lo B : Nat) : RdR w lo B [] [] := ⟨rfl, fun j hj => by simp at hj⟩
theorem RdR.oneC {w : World} {lo B : Nat} {rs : List Value} {Ls : List (List Int)} (h : RdR w lo B rs Ls) : ∀ u ∈ rs, u.oneCell' = true := fun u hu => by
  obtain ⟨j, hj, rfl⟩ := List.getElem_of_mem hu
  obtain ⟨A', c', e, _⟩ := h.2 j (by rw [← h.1]; exact hj)
  have e2 : rs[j] = rvOf rs j := by unfold rvOf; simp [hj]
  rw [e2, e]
  rfl
theorem RdR.keep {w w' : World} {lo B : Nat} {rs : List Value} {Ls : List (List Int)} (h : RdR w lo B rs Ls) (hb : Below B w w') : RdR w' lo B rs Ls := ⟨h.1, fun j hj => by
  obtain ⟨A, c, e, hs, hlo⟩ := h.2 j hj
  exact ⟨A, c, e, hs.below hb, hlo⟩⟩
theorem RdR.ins {w : World} {lo B : Nat} {rs : List Value} {Ls : List (List Int)} {r : Value} {L : List Int} (p : Nat) (hp : p ≤ Ls.length) (h : RdR w lo B rs Ls) (hr : ∃ A c, r = .slice A L.length c ∧ SlI w B A L ∧ ∀ b o, A = some ⟨b, o, none⟩ → lo ≤ b) :
    RdR w lo B (rs.take p ++ r :: rs.drop p) (Ls.take p ++ L :: Ls.drop p) := by
  have hrl := h.1
  have hl : (Ls.take p ++ L :: Ls.drop p).length = Ls.length + 1 := by simp; omega
  have erv : ∀ j, rvOf (rs.take p ++ r :: rs.drop p) j = if j < p then rvOf rs j else if j = p then r else rvOf rs (j - 1) := fun j => by
    unfold rvOf
    simp only [List.getD_eq_getElem?_getD]
    by_cases h1 : j < p
    · rw [if_pos h1, List.getElem?_append_left (by simp; omega), List.getElem?_take_of_lt h1]
    · rw [if_neg h1, List.getElem?_append_right (by simp; omega), List.length_take, Nat.min_eq_left (by omega)]
      by_cases h2 : j = p
      · subst h2; simp
      · rw [if_neg h2, show j - p = (j - 1 - p) + 1 by omega, List.getElem?_cons_succ, List.getElem?_drop, show p + (j - 1 - p) = j - 1 by omega]
  have erw : ∀ j, rowOf (Ls.take p ++ L :: Ls.drop p) j = if j < p then rowOf Ls j else if j = p then L else rowOf Ls (j - 1) := fun j => by
    unfold rowOf
    simp only [List.getD_eq_getElem?_getD]
    by_cases h1 : j < p
    · rw [if_pos h1, List.getElem?_append_left (by simp; omega), List.getElem?_take_of_lt h1]
    · rw [if_neg h1, List.getElem?_append_right (by simp; omega), List.length_take, Nat.min_eq_left (by omega)]
      by_cases h2 : j = p
      · subst h2; simp
      · rw [if_neg h2, show j - p = (j - 1 - p) + 1 by omega, List.getElem?_cons_succ, List.getElem?_drop, show p + (j - 1 - p) = j - 1 by omega]
  refine ⟨by simp [hrl], fun j hj => ?_⟩
  rw [hl] at hj
  rw [erv, erw]
  by_cases h1 : j < p
  · rw [if_pos h1, if_pos h1]; exact h.2 j (by omega)
  · rw [if_neg h1, if_neg h1]
    by_cases h2 : j = p
    · rw [if_pos h2, if_pos h2]; exact hr
    · rw [if_neg h2, if_neg h2]; exact h.2 (j - 1) (by omega)
/-- a slice's value leads to slices that lead to the lists, all in blocks from lo to B -/
def SlSSn (w : World) (lo B : Nat) (A : Option Addr) (Ls : List (List Int)) : Prop :=
  0 < Ls.length → ∃ b off, A = some ⟨b, off, none⟩ ∧ lo ≤ b ∧ b < B ∧ ∀ j, j < Ls.length → ∃ Aj cj, w.cell? ⟨b, off + j, none⟩ = some (.slice Aj (rowOf Ls j).length cj) ∧ SlI w B Aj (rowOf Ls j) ∧ ∀ b o, Aj = some ⟨b, o, none⟩ → lo ≤ b
theorem SlSSn.to {w : World} {lo B : Nat} {A : Option Addr} {Ls : List (List Int)} (h : SlSSn w lo B A Ls) : SlSS w B A Ls := fun h0 => by
  obtain ⟨b, off, e, _, hb, hc⟩ := h h0
  refine ⟨b, off, e, hb, fun j hj => ?_⟩
  obtain ⟨Aj, cj, h1, h2, _⟩ := hc j hj
  exact ⟨Aj, cj, h1, h2⟩
theorem SlSSn.keep {w w' : World} {lo B : Nat} {A : Option Addr} {Ls : List (List Int)} (h : SlSSn w lo B A Ls) (hk : ∀ b o, lo ≤ b → b < B → w'.cell? ⟨b, o, none⟩ = w.cell? ⟨b, o, none⟩) : SlSSn w' lo B A Ls := fun h0 => by
  obtain ⟨b, off, e, h1, hb, hc⟩ := h h0
  refine ⟨b, off, e, h1, hb, fun j hj => ?_⟩
  obtain ⟨Aj, cj, h2, h3, h4⟩ := hc j hj
  refine ⟨Aj, cj, (hk _ _ h1 hb).trans h2, fun h0' => ?_, h4⟩
  obtain ⟨b2, o2, e2, hb2, hc2⟩ := h3 h0'
  exact ⟨b2, o2, e2, hb2, fun i hi => (hk _ _ (h4 b2 o2 e2) hb2).trans (hc2 i hi)⟩
theorem SlSSn.below {w w' : World} {lo B : Nat} {A : Option Addr} {Ls : List (List Int)} (h : SlSSn w lo B A Ls) (hb : Below B w w') : SlSSn w' lo B A Ls := h.keep fun b o _ hp => hb.cell (p := ⟨b, o, none⟩) hp
theorem SlSSn.mono {w : World} {lo lo' B : Nat} {A : Option Addr} {Ls : List (List Int)} (h : SlSSn w lo B A Ls) (hl : lo' ≤ lo) : SlSSn w lo' B A Ls := fun h0 => by
  obtain ⟨b, off, e, h1, hb, hc⟩ := h h0
  refine ⟨b, off, e, Nat.le_trans hl h1, hb, fun j hj => ?_⟩
  obtain ⟨Aj, cj, h2, h3, h4⟩ := hc j hj
  exact ⟨Aj, cj, h2, h3, fun b o e => Nat.le_trans hl (h4 b o e)⟩
theorem OwnSS.sln {w : World} {base : Nat} {A : Option Addr} {c : Nat} {rs : List Value} {Ls : List (List Int)} (h : OwnSS w base A c rs Ls) : SlSSn w base w.heap.size A Ls := fun h0 => by
  obtain ⟨g, rfl, hb, hlt, hc⟩ := h.outer h0
  refine ⟨g, 0, rfl, hb, hlt, fun j hj => ?_⟩
  have ho := h.2.2.1 j hj
  obtain ⟨Aj, cj, hv⟩ := own_form ho
  have hcj := hc j hj
  rw [hv] at hcj ho
  refine ⟨Aj, cj, by rw [Nat.zero_add]; exact hcj, SlI.of_own ho, fun b o e => ?_⟩
  subst e
  exact (ho.lt b rfl).1
/-- what the model's function gives back, with a bool -/
def RdSSB (w : World) (Ls : List (List Int)) (ok : Bool) (e : Ending) (w' : World) : Prop :=
  ∃ A c, e = .returned (.tuple #[.slice A Ls.length c, .bool ok]) ∧ SlSS w' w'.heap.size A Ls ∧ Below w.heap.size w w'
/-- a list of rows handed back to be read, in blocks from lo on -/
def GivSS (w : World) (lo : Nat) (Ls : List (List Int)) (e : Ending) (w' : World) : Prop :=
  ∃ A c, e = .returned (.slice A Ls.length c) ∧ SlSSn w' lo w'.heap.size A Ls ∧ Below w.heap.size w w'
theorem RdR.sl {w' : World} {lo B base n c : Nat} {A : Option Addr} {rs : List Value} {Ls : List (List Int)} (hn : Ls.length = n) (h : RdR w' lo B rs Ls) (hB : B ≤ w'.heap.size) (hlo : lo ≤ base) (ho : w'.ownsRow base 35 1 (.slice A n c) n rs) : SlSSn w' lo w'.heap.size A Ls := fun h0 => by
  subst hn
  obtain ⟨g, cap, hv, hb, hlt⟩ := ho.form h0
  cases hv
  refine ⟨g, 0, rfl, Nat.le_trans hlo hb, hlt, fun j hj => ?_⟩
  obtain ⟨Aj, cj, e, hs, hl⟩ := h.2 j hj
  refine ⟨Aj, cj, ?_, hs.mono hB, hl⟩
  rw [Nat.zero_add, ho.cellAt j (by omega), rv_get (by rw [h.1]; exact hj), e]

theorem ltP_drop {a b : List Int} {k : Nat} (ha : k < a.length) (hb : k < b.length) : ltP (a.drop k) (b.drop k) = if a.getD k 0 = b.getD k 0 then ltP (a.drop (k + 1)) (b.drop (k + 1)) else decide (a.getD k 0 < b.getD k 0) := by
  rw [List.drop_eq_getElem_cons ha, List.drop_eq_getElem_cons hb]
  have e1 : a.getD k 0 = a[k] := by simp [ha]
  have e2 : b.getD k 0 = b[k] := by simp [hb]
  rw [e1, e2]
  rfl
theorem ltP_end {a b : List Int} {k : Nat} (hk : k ≤ a.length) (hk2 : k ≤ b.length) (h : ¬ (k < a.length ∧ k < b.length)) : ltP (a.drop k) (b.drop k) = decide (a.length < b.length) := by
  by_cases h1 : k < a.length
  · have h2 : b.length = k := by omega
    rw [List.drop_eq_getElem_cons h1, List.drop_of_length_le (l := b) (by omega), decide_eq_false (by omega)]
    rfl
  · have h2 : a.length = k := by omega
    rw [List.drop_of_length_le (l := a) (by omega)]
    by_cases h3 : k < b.length
    · rw [List.drop_eq_getElem_cons h3, decide_eq_true (by omega)]; rfl
    · rw [List.drop_of_length_le (l := b) (by omega), decide_eq_false (by omega)]; rfl
set_option maxRecDepth 100000 in
set_option maxHeartbeats 1600000 in
theorem spec_cuLess (A A2 : Option Addr) (c c2 B B2 n n2 : Nat) (l r : List Int) (w : World) (hl : l.length = n) (hr : r.length = n2) (h : SlI w B A l) (h2 : SlI w B2 A2 r) (hB : B ≤ w.heap.size) (hB2 : B2 ≤ w.heap.size) (hn : n ≤ 1000) (hn2 : n2 ≤ 1000) :
    Calls Try.prog 116 #[.slice A n c, .slice A2 n2 c2] w fun e w' => e = .returned (.bool (ltP l r)) ∧ ∃ z, w' = w.drewN z := by
  have Hl := Lib.hid hl
  have Hr := Lib.hid hr
  have H := Lib.hid h
  have H2 := Lib.hid h2
  clear hl hr h h2
  go_enter Try.func116, Try.ntmps116
  go_wp2
  go_loopw [5] (fun i wr => ∃ k z : Nat, k ≤ n ∧ k ≤ n2 ∧ i = .int .i64 k ∧ wr = w.drewN z ∧ ltP (l.drop k) (r.drop k) = ltP l r) (fun i _ => n - (intOf i).toNat)
  case atStart => exact ⟨0, 0, Nat.zero_le _, Nat.zero_le _, rfl, rfl, rfl⟩
  case round =>
    obtain ⟨k, z, hk, hk2, rfl, hz, ht⟩ := hrel
    have h01 := H.out.drewN z
    have h02 := H2.out.drewN z
    rw [← hz] at h01 h02
    have Hz := Lib.hid hz
    clear hz
    by_cases hlt : k < n ∧ k < n2
    · obtain ⟨hlt1, hlt2⟩ := hlt
      obtain ⟨b, off, rfl, hbB, hc⟩ := h01 (by have := Hl.out; omega)
      have g0 := hc k (by rw [Hl.out]; exact hlt1)
      obtain ⟨b2, off2, rfl, hbB2, hc2⟩ := h02 (by have := Hr.out; omega)
      have q0 := hc2 k (by rw [Hr.out]; exact hlt2)
      have i0 : (0 : Int) ≤ (k : Int) := by omega
      have i1 : (k : Int) < (n : Int) := by omega
      have i2 : (k : Int) < (n2 : Int) := by omega
      rw [ltP_drop (by rw [Hl.out]; exact hlt1) (by rw [Hr.out]; exact hlt2)] at ht
      generalize l.getD k 0 = x at *
      generalize r.getD k 0 = u at *
      have Ht := Lib.hid ht
      clear hc hc2 ht h01 h02
      by_cases hx : x = u
      · subst hx
        rw [if_pos rfl] at Ht
        have e0 : (x != x) = false := by simp
        go_wp2
        go_quiet (fail)
        rename_i nq
        go_wp2
        go_roundw
        case rel => exact ⟨k + 1, z + nq, by omega, by omega, by go_num, by rw [Hz.out]; simp, Ht.out⟩
        case measure => simp [intOf]; omega
      · rw [if_neg hx] at Ht
        have e0 : (x != u) = true := by simpa using hx
        go_wp2
        go_quiet (fail)
        rename_i nq
        go_wp2
        go_quiet (fail)
        go_wp2
        go_ret
        refine ⟨ret_bool Ht.out, ?_⟩
        rw [Hz.out]
        simp only [World.drewN_drewN]
        exact ⟨_, rfl⟩
    · rw [ltP_end (by rw [Hl.out]; exact hk) (by rw [Hr.out]; exact hk2) (by rw [Hl.out, Hr.out]; exact hlt), Hl.out, Hr.out] at ht
      have Ht := Lib.hid ht
      clear ht
      by_cases h1 : k < n
      · have i1 : (k : Int) < (n : Int) := by omega
        have i2 : ¬ (k : Int) < (n2 : Int) := by omega
        have e : decide ((n : Int) < (n2 : Int)) = decide (n < n2) := by rw [decide_eq_decide]; omega
        go_wp2
        go_ret
        exact ⟨ret_bool (by rw [← Ht.out, ← e]), ⟨z, Hz.out⟩⟩
      · have i1 : ¬ (k : Int) < (n : Int) := by omega
        have e : decide ((n : Int) < (n2 : Int)) = decide (n < n2) := by rw [decide_eq_decide]; omega
        go_wp2
        go_ret
        exact ⟨ret_bool (by rw [← Ht.out, ← e]), ⟨z, Hz.out⟩⟩

set_option maxRecDepth 100000 in
set_option maxHeartbeats 3200000 in
theorem spec_cuSorted (A : Option Addr) (c lo B n : Nat) (T : List (List Int)) (w : World) (hn : T.length = n) (h : SlSSn w lo B A T) (hB : B ≤ w.heap.size) (hlo : lo ≤ w.heap.size) (hn9 : n ≤ 1000) (hr : ∀ j, j < n → (rowOf T j).length ≤ 1000) :
    Calls Try.prog 91 #[.slice A n c] w (GivSS w lo (PlS T n)) := by
  have Hn := Lib.hid hn
  have H := Lib.hid h
  have HR := Lib.hid hr
  clear hn h hr
  go_enter Try.func91, Try.ntmps91
  go_wp2
  go_loopw [3, 5, 6, 7, 10] (fun S _ _ _ i wr => ∃ (k : Nat) (A2 : Option Addr) (c2 : Nat) (rs : List Value), k ≤ n ∧ i = .int .i64 k ∧ S = .slice A2 k c2 ∧ (k = 0 → A2 = none ∧ c2 = 0) ∧ wr.ownsRow w.heap.size 35 1 (.slice A2 k c2) k rs ∧ RdR wr lo B rs (PlS T k) ∧ Below w.heap.size w wr) (fun _ _ _ _ i _ => n - (intOf i).toNat)
  case atStart => exact ⟨0, none, 0, [], Nat.zero_le _, rfl, rfl, fun _ => ⟨rfl, rfl⟩, World.ownsRow_nil _ _ _ _, RdR.nil_ _ _ _, Below.refl _ _⟩
  case round =>
    obtain ⟨W0, hW0⟩ : ∃ W0, W0 = wr := ⟨_, rfl⟩
    subst hW0
    obtain ⟨k, A2, c2, rs, hk, rfl, rfl, hnil, ho, hrd, hb⟩ := hrel
    have hQl := PlS_length T k (by rw [Hn.out]; exact hk)
    by_cases hlt : k < n
    · obtain ⟨b0, off0, rfl, _, hbB0, hc0⟩ := H.out.below (hb.mono hB) (by have := Hn.out; omega)
      obtain ⟨Ax, cx, x0, hx, hxl⟩ := hc0 k (by rw [Hn.out]; exact hlt)
      have hins := PlS_succ T k (by rw [Hn.out]; exact hlt)
      have hcap := own_capP ho
      have i0 : (0 : Int) ≤ (k : Int) := by omega
      have i1 : (k : Int) < (n : Int) := by omega
      have hlx := HR.out k hlt
      have hSl : ∀ x ∈ PlS T k, x.length ≤ 1000 := fun x hx => by
        obtain ⟨j, hj, rfl⟩ := List.mem_take_iff_getElem.1 ((PlS_perm T k (by rw [Hn.out]; exact hk)).mem_iff.1 hx)
        have := HR.out j (by omega)
        have e : rowOf T j = T[j]'(by omega) := by simp [rowOf, show j < T.length by omega]
        rwa [e] at this
      have HSl := Lib.hid hSl
      have Hins := Lib.hid hins
      have HQl := Lib.hid hQl
      have Hx := Lib.hid hx
      have Hxl := Lib.hid hxl
      have Ho := Lib.hid ho
      have Hrd := Lib.hid hrd
      have Hb := Lib.hid hb
      have hBW : B ≤ W0.heap.size := Nat.le_trans hB hb.size
      have Hbs := Lib.hid hb.size
      clear hc0 hins hQl hx hxl ho hrd hb hSl
      generalize rowOf T k = L at *
      generalize PlS T k = S at *
      obtain ⟨m, hm⟩ : ∃ m, L.length = m := ⟨_, rfl⟩
      have Hm := Lib.hid hm
      rw [hm] at x0 hlx
      clear hm
      go_wp2
      go_loopw [6] (fun a wq => ∃ p z : Nat, p ≤ k ∧ a = .int .i64 p ∧ wq = W0.drewN z ∧ ∀ j, j < p → ltP (rowOf S j) L = true) (fun a _ => k - (intOf a).toNat)
      case atStart => exact ⟨0, 0, Nat.zero_le _, rfl, rfl, fun j hj => by omega⟩
      case round =>
        obtain ⟨p, z, hp, rfl, hz, hno⟩ := hrel
        have hbz : Below W0.heap.size W0 wr := by rw [hz]; exact below_drewN (Below.refl _ _) z
        have Hz := Lib.hid hz
        have Hno := Lib.hid hno
        clear hz hno
        have o1 := own_kept Ho.out hbz
        have r1 := Hrd.out.keep (hbz.mono hBW)
        have x1 := Hx.out.below (hbz.mono hBW)
        have b1 := below_kept Hb.out (Nat.le_refl _) hbz
        have s1 := hbz.size
        have O1 := Lib.hid o1
        have R1 := Lib.hid r1
        have X1 := Lib.hid x1
        have B1 := Lib.hid b1
        clear o1 r1 x1 b1 hbz
        have j0 : (0 : Int) ≤ (p : Int) := by omega
        have hrl := R1.out.1
        have Hrl := Lib.hid hrl
        clear hrl
        by_cases hpk : p < k
        · obtain ⟨g, cap, hv, _, _⟩ := O1.out.form (by omega)
          cases hv
          obtain ⟨Ap, cp, ep, hs, _⟩ := R1.out.2 p (by rw [HQl.out]; exact hpk)
          have y0 := O1.out.cellAt p (by omega)
          rw [rv_get (by rw [Hrl.out, HQl.out]; exact hpk), ep] at y0
          have hpS : (rowOf S p).length ≤ 1000 := HSl.out _ (by
            have e : rowOf S p = S[p]'(by rw [HQl.out]; omega) := by simp [rowOf, show p < S.length by rw [HQl.out]; omega]
            rw [e]; exact List.getElem_mem _)
          have HC := Lib.hid (spec_cuLess Ap Ax cp cx B B (rowOf S p).length m (rowOf S p) L wr rfl Hm.out hs X1.out (Nat.le_trans hBW s1) (Nat.le_trans hBW s1) hpS hlx)
          have j1 : (p : Int) < (k : Int) := by omega
          clear ep hs hpS
          go_wp2_with fail
          refine HC.out.mono ?_
          rintro e w6 ⟨rfl, z', hz'⟩
          have Hz' := Lib.hid hz'
          clear hz'
          cases hlx2 : ltP (rowOf S p) L
          · have hpp : posP L S = p := posP_is L S p (by rw [HQl.out]; exact hp) Hno.out (fun _ => hlx2)
            have Hpp := Lib.hid hpp
            have hb6 : Below W0.heap.size W0 w6 := by rw [Hz'.out, Hz.out]; exact below_drewN (below_drewN (Below.refl _ _) _) _
            have E6 := Lib.hid hb6
            have O6 := Lib.hid (own_kept Ho.out hb6)
            have R6 := Lib.hid (Hrd.out.keep (hb6.mono hBW))
            clear hpp hlx2 hb6 HC y0
            obtain ⟨g, cap, hv, _, _⟩ := O6.out.form (by omega)
            cases hv
            have H1 := Lib.hid R6.out.oneC
            have j2 : (p : Int) ≤ (k : Int) := by omega
            have j3 : (p : Int) ≤ (c2 : Int) := by omega
            have l6 := Lib.hid O6.out.lt
            have p9 : p ≤ k := by omega
            have z6 := E6.out.size
            go_wp2_with (first
              | (at_builtin; refine wpList_appendVS _ rfl _ _ rfl w6.heap.size (.slice (some ⟨w6.heap.size, 0, none⟩) 0 0) 0 [] rfl (own_emptyV w6) (some ⟨g, 0, none⟩) p c2 (rs.take p) rfl (srcV_take (O6.out.alloc (.cells #[] 35)) p p9 c2) (fun u hu => H1.out u (List.mem_of_mem_take hu)) (by omega) (by omega) (by simp) ?_
                 intro A8 c8 w8 own8 hg8
                 rw [Nat.zero_add, List.nil_append] at own8
                 have O8 := Lib.hid (own_far (O6.out.alloc (.cells #[] 35)) hg8 (fun q hq e => by have h1 := (l6.out q hq).2; have h2 : q = w6.heap.size := Option.some.inj e; omega))
                 have E8 := Lib.hid (below_grown (E6.out.alloc z6 (.cells #[] 35)) hg8 (Nat.le_refl _) (fun j hj => by have h1 : w6.heap.size = j := Option.some.inj hj; omega))
                 have z8 : w6.heap.size ≤ w8.heap.size := by have := hg8.size; simp at this; omega
                 have l8 := Lib.hid own8.lt
                 clear hg8)
              | (at_builtin; refine append1SS _ rfl _ _ rfl w6.heap.size (.slice A8 p c8) p (rs.take p) rfl (own8.alloc _) w8.heap.size (.slice Ax m cx) rfl rfl (by simp [go_sem]) (by omega) (by simp; omega) ?_
                 intro A9 c9 w9 own9 hg9
                 have O9 := Lib.hid (own_far (O8.out.alloc (.cells #[.slice Ax m cx] 35)) hg9 (fun q hq e => by have h1 := (l6.out q hq).2; have h2 := (l8.out q e.symm).1; omega))
                 have E9 := Lib.hid (below_grown (E8.out.alloc (Nat.le_trans z6 z8) (.cells #[.slice Ax m cx] 35)) hg9 (Nat.le_refl _) (fun j hj => Nat.le_trans z6 (l8.out j hj).1))
                 have z9 : w6.heap.size ≤ w9.heap.size := by have := hg9.size; simp at this; omega
                 have l9 := Lib.hid own9.lt
                 clear hg9 own8)
              | (at_builtin; refine wpList_appendVS _ rfl _ _ rfl w6.heap.size (.slice A9 (p + 1) c9) (p + 1) (rs.take p ++ [.slice Ax m cx]) rfl own9 (some ⟨g, p, none⟩) (k - p) (c2 - p) (rs.drop p) rfl (by have := srcV_drop O9.out p p9 hcap (c2 - p); rw [if_neg (by omega)] at this; exact this) (fun u hu => H1.out u (List.mem_of_mem_drop hu)) (by omega) (by omega) z9 ?_
                 intro A10 c10 w10 own10 hg10
                 have E10 := Lib.hid (below_grown E9.out hg10 (Nat.le_refl _) (fun j hj => Nat.le_trans z6 (l9.out j hj).1))
                 clear hg10 own9))
            have e10 : p + 1 + (k - p) = k + 1 := by omega
            rw [e10] at own10
            rw [List.append_assoc, List.singleton_append] at own10
            have hfin := (Hrd.out.keep (E10.out.mono hBW)).ins (r := .slice Ax m cx) (L := L) p (by rw [HQl.out]; exact p9) ⟨Ax, cx, by rw [Hm.out], Hx.out.below (E10.out.mono hBW), Hxl.out⟩
            have hI : insP L S = S.take p ++ L :: S.drop p := by unfold insP; rw [Hpp.out]
            rw [← hI, ← Hins.out] at hfin
            have HF := Lib.hid hfin
            have HG := Lib.hid (own10.mono (Nat.le_trans Hbs.out z6))
            clear hfin hI own10 e10
            go_wp2
            go_roundw
            case rel => exact ⟨k + 1, A10, c10, _, by omega, by go_num, by first | rfl | (congr 1; omega) | (congr 1), fun h => by omega, HG.out, HF.out, below_kept Hb.out (Nat.le_refl _) E10.out⟩
            case measure => simp [intOf] <;> omega
          · have hnn : ∀ j, j < p + 1 → ltP (rowOf S j) L = true := fun j hj => by
              by_cases e : j = p
              · subst e; exact hlx2
              · exact Hno.out j (by omega)
            have Hnn := Lib.hid hnn
            clear hnn hlx2 HC y0
            go_wp2
            go_roundw
            case rel => exact ⟨p + 1, z + z', by omega, by go_num, by rw [Hz'.out, Hz.out]; simp, Hnn.out⟩
            case measure => simp [intOf] <;> omega
        · obtain rfl : p = k := by omega
          have hpp : posP L S = p := posP_is L S p (by rw [HQl.out]; exact Nat.le_refl _) Hno.out (fun h => by rw [HQl.out] at h; omega)
          have Hpp := Lib.hid hpp
          have hb6 : Below W0.heap.size W0 wr := by rw [Hz.out]; exact below_drewN (Below.refl _ _) _
          have E6 := Lib.hid hb6
          have O6 := Lib.hid (own_kept Ho.out hb6)
          have R6 := Lib.hid (Hrd.out.keep (hb6.mono hBW))
          clear hpp hb6
          by_cases k0 : p = 0
          · subst k0
            obtain ⟨rfl, rfl⟩ := hnil rfl
            have z6 := E6.out.size
            go_wp2_with (first
              | (at_builtin; refine wpList_appendVS _ rfl _ _ rfl wr.heap.size (.slice (some ⟨wr.heap.size, 0, none⟩) 0 0) 0 [] rfl (own_emptyV wr) none 0 0 [] rfl ⟨rfl, .inl ⟨rfl, rfl, rfl⟩⟩ (fun u hu => by simp at hu) (by omega) (by omega) (by simp) ?_
                 intro A8 c8 w8 own8 hg8
                 rw [Nat.zero_add, List.nil_append] at own8
                 have E8 := Lib.hid (below_grown (E6.out.alloc z6 (.cells #[] 35)) hg8 (Nat.le_refl _) (fun j hj => by have h1 : wr.heap.size = j := Option.some.inj hj; omega))
                 have z8 : wr.heap.size ≤ w8.heap.size := by have := hg8.size; simp at this; omega
                 have l8 := Lib.hid own8.lt
                 clear hg8)
              | (at_builtin; refine append1SS _ rfl _ _ rfl wr.heap.size (.slice A8 0 c8) 0 [] rfl (own8.alloc _) w8.heap.size (.slice Ax m cx) rfl rfl (by simp [go_sem]) (by omega) (by simp; omega) ?_
                 intro A9 c9 w9 own9 hg9
                 have E9 := Lib.hid (below_grown (E8.out.alloc (Nat.le_trans z6 z8) (.cells #[.slice Ax m cx] 35)) hg9 (Nat.le_refl _) (fun j hj => Nat.le_trans z6 (l8.out j hj).1))
                 have z9 : wr.heap.size ≤ w9.heap.size := by have := hg9.size; simp at this; omega
                 have l9 := Lib.hid own9.lt
                 clear hg9 own8)
              | (at_builtin; refine wpList_appendVS _ rfl _ _ rfl wr.heap.size (.slice A9 1 c9) 1 ([] ++ [.slice Ax m cx]) rfl own9 none 0 0 [] rfl ⟨rfl, .inl ⟨rfl, rfl, rfl⟩⟩ (fun u hu => by simp at hu) (by omega) (by omega) z9 ?_
                 intro A10 c10 w10 own10 hg10
                 have E10 := Lib.hid (below_grown E9.out hg10 (Nat.le_refl _) (fun j hj => Nat.le_trans z6 (l9.out j hj).1))
                 clear hg10 own9))
            have hS0 : S = [] := List.eq_nil_of_length_eq_zero HQl.out
            have hfin : RdR w10 lo B [.slice Ax m cx] [L] := by
              have := (RdR.nil_ w10 lo B).ins (r := .slice Ax m cx) (L := L) 0 (Nat.le_refl _) ⟨Ax, cx, by rw [Hm.out], Hx.out.below (E10.out.mono hBW), Hxl.out⟩
              exact this
            have hI : insP L S = [L] := by rw [hS0]; rfl
            rw [← hI, ← Hins.out] at hfin
            have HF := Lib.hid hfin
            have HG := Lib.hid (own10.mono (Nat.le_trans Hbs.out z6))
            clear hfin hI own10 hS0
            go_wp2
            go_roundw
            case rel => exact ⟨1, A10, c10, _, by omega, by go_num, by first | rfl | (congr 1; omega) | (congr 1), fun h => by omega, HG.out, HF.out, below_kept Hb.out (Nat.le_refl _) E10.out⟩
            case measure => simp [intOf] <;> omega
          · obtain ⟨g, cap, hv, _, _⟩ := O6.out.form (by omega)
            cases hv
            have H1 := Lib.hid R6.out.oneC
            have j2 : (p : Int) ≤ (p : Int) := by omega
            have j3 : (p : Int) ≤ (c2 : Int) := by omega
            have l6 := Lib.hid O6.out.lt
            have p9 : p≤ p := by omega
            have z6 := E6.out.size
            go_wp2_with (first
              | (at_builtin; refine wpList_appendVS _ rfl _ _ rfl wr.heap.size (.slice (some ⟨wr.heap.size, 0, none⟩) 0 0) 0 [] rfl (own_emptyV wr) (some ⟨g, 0, none⟩) p c2 (rs.take p) rfl (srcV_take (O6.out.alloc (.cells #[] 35)) p p9 c2) (fun u hu => H1.out u (List.mem_of_mem_take hu)) (by omega) (by omega) (by simp) ?_
                 intro A8 c8 w8 own8 hg8
                 rw [Nat.zero_add, List.nil_append] at own8
                 have O8 := Lib.hid (own_far (O6.out.alloc (.cells #[] 35)) hg8 (fun q hq e => by have h1 := (l6.out q hq).2; have h2 : q = wr.heap.size := Option.some.inj e; omega))
                 have E8 := Lib.hid (below_grown (E6.out.alloc z6 (.cells #[] 35)) hg8 (Nat.le_refl _) (fun j hj => by have h1 : wr.heap.size = j := Option.some.inj hj; omega))
                 have z8 : wr.heap.size ≤ w8.heap.size := by have := hg8.size; simp at this; omega
                 have l8 := Lib.hid own8.lt
                 clear hg8)
              | (at_builtin; refine append1SS _ rfl _ _ rfl wr.heap.size (.slice A8 p c8) p (rs.take p) rfl (own8.alloc _) w8.heap.size (.slice Ax m cx) rfl rfl (by simp [go_sem]) (by omega) (by simp; omega) ?_
                 intro A9 c9 w9 own9 hg9
                 have O9 := Lib.hid (own_far (O8.out.alloc (.cells #[.slice Ax m cx] 35)) hg9 (fun q hq e => by have h1 := (l6.out q hq).2; have h2 := (l8.out q e.symm).1; omega))
                 have E9 := Lib.hid (below_grown (E8.out.alloc (Nat.le_trans z6 z8) (.cells #[.slice Ax m cx] 35)) hg9 (Nat.le_refl _) (fun j hj => Nat.le_trans z6 (l8.out j hj).1))
                 have z9 : wr.heap.size ≤ w9.heap.size := by have := hg9.size; simp at this; omega
                 have l9 := Lib.hid own9.lt
                 clear hg9 own8)
              | (at_builtin; refine wpList_appendVS _ rfl _ _ rfl wr.heap.size (.slice A9 (p + 1) c9) (p + 1) (rs.take p ++ [.slice Ax m cx]) rfl own9 (if c2 = p then some ⟨g, 0, none⟩ else some ⟨g, p, none⟩) 0 (c2 - p) (rs.drop p) rfl (by have := srcV_drop O9.out p p9 hcap (c2 - p); rw [Nat.sub_self] at this; exact this) (fun u hu => H1.out u (List.mem_of_mem_drop hu)) (by omega) (by omega) z9 ?_
                 intro A10 c10 w10 own10 hg10
                 have E10 := Lib.hid (below_grown E9.out hg10 (Nat.le_refl _) (fun j hj => Nat.le_trans z6 (l9.out j hj).1))
                 clear hg10 own9))
            have e10 : p + 1 + 0 = p + 1 := by omega
            rw [e10] at own10
            rw [List.append_assoc, List.singleton_append] at own10
            have hfin := (Hrd.out.keep (E10.out.mono hBW)).ins (r := .slice Ax m cx) (L := L) p (by rw [HQl.out]; exact p9) ⟨Ax, cx, by rw [Hm.out], Hx.out.below (E10.out.mono hBW), Hxl.out⟩
            have hI : insP L S = S.take p ++ L :: S.drop p := by unfold insP; rw [Hpp.out]
            rw [← hI, ← Hins.out] at hfin
            have HF := Lib.hid hfin
            have HG := Lib.hid (own10.mono (Nat.le_trans Hbs.out z6))
            clear hfin hI own10 e10
            go_wp2
            go_roundw
            case rel => exact ⟨p + 1, A10, c10, _, by omega, by go_num, by first | rfl | (congr 1; omega) | (congr 1), fun h => by omega, HG.out, HF.out, below_kept Hb.out (Nat.le_refl _) E10.out⟩
            case measure => simp [intOf] <;> omega
    · obtain rfl : k = n := by omega
      have HE : Hid (GivSS w lo (PlS T k) (.returned (.slice A2 k c2)) W0) := Lib.hid ⟨A2, c2, by rw [hQl], hrd.sl hQl (Nat.le_trans hB hb.size) hlo ho, hb⟩
      clear ho hrd hb hnil
      go_wp2
      go_ret
      exact HE.out
end Go.Proofs.Ytlnnnjnboknoeaa
