/- The program's ring: an ear is cut off it. -/
import Derived.Test.YtfkkbjbgjmaciaaRingM
import Derived.Test.YtfkkbjbgjmaciaaSort
import Derived.BigRegion
import Derived.RegionTactic
import Derived.IntWalk
import Derived.Deep.RegionLaw
namespace Go.Proofs.Ytfkkbjbgjmaciaa
set_option linter.unusedVariables false
open Go.RowKit

theorem impl_join (a b : Int) (w : World) : Calls Try.prog 208 #[.int .i64 a, .int .i64 b] w fun e w' => e = .returned (.agg #[.int .i64 (min a b), .int .i64 (max a b)]) ∧ Below w.heap.size w w' := by
  go_enter Try.func208, Try.ntmps208
  go_wp2
  all_goals exact bodyPost_ret (v := .agg #[.int .i64 (min a b), .int .i64 (max a b)]) (by simp [results, Try.results208, go_sem] <;> omega) rfl ⟨rfl, (Below.refl _ _).alloc (Nat.le_refl _) _⟩

/-- a block that is a ring -/
def Ring (w : World) (base g : Nat) (m : Int) (N C : List Int) : Prop := w.ownsRow base 168 1 (.slice (some ⟨g, 0, none⟩) 25 25) 25 (ics (ringL m N C))
section
variable {w w' : World} {base g : Nat} {m : Int} {N C : List Int}
theorem Ring.own (h : Ring w base g m N C) : w.ownsRow base 168 1 (.slice (some ⟨g, 0, none⟩) 25 25) 25 (ics (ringL m N C)) := h
theorem Ring.c0 (h : Ring w base g m N C) : w.cell? ⟨g, 0, none⟩ = some (.int .i64 m) := by
  have h1 := h.1
  rw [ics_length] at h1
  have := World.ownsRow.cellAt h 0 (by omega)
  rw [this, ics_get _ _ (by omega)]
  rfl
theorem Ring.cN (h : Ring w base g m N C) (hN : N.length = 12) (i : Nat) (hi : i < 12) : w.cell? ⟨g, 1 + i, none⟩ = some (.int .i64 (N.getD i 0)) := by
  have h1 := h.1
  rw [ics_length] at h1
  have := World.ownsRow.cellAt h (1 + i) (by omega)
  rw [this, ics_get _ _ (by omega), ringL_getN hN i hi]
theorem Ring.cC (h : Ring w base g m N C) (hN : N.length = 12) (i : Nat) (hi : i < 12) : w.cell? ⟨g, 13 + i, none⟩ = some (.int .i64 (C.getD i 0)) := by
  have h1 := h.1
  rw [ics_length] at h1
  have := World.ownsRow.cellAt h (13 + i) (by omega)
  rw [this, ics_get _ _ (by omega), ringL_getC hN i]
theorem Ring.fro (h : Ring w base g m N C) (i : Nat) : w.frozen? ⟨g, i, none⟩ = false := World.ownsRow.frozenAt h i
theorem Ring.set0 (h : Ring w base g m N C) (x : Int) : Ring (w.setCell ⟨g, 0, none⟩ (.int .i64 x)) base g x N C ∧ w.grownBy (w.setCell ⟨g, 0, none⟩ (.int .i64 x)) (some g) := by
  have h2 := World.ownsRow.stored h 0 (.int .i64 x)
  rw [ics_set, ringL_set0] at h2
  exact h2
theorem Ring.setN (h : Ring w base g m N C) (hN : N.length = 12) (i : Nat) (hi : i < 12) (x : Int) : Ring (w.setCell ⟨g, 1 + i, none⟩ (.int .i64 x)) base g m (N.set i x) C ∧ w.grownBy (w.setCell ⟨g, 1 + i, none⟩ (.int .i64 x)) (some g) := by
  have h2 := World.ownsRow.stored h (1 + i) (.int .i64 x)
  rw [ics_set, ringL_setN hN i x hi] at h2
  exact h2
theorem Ring.kept (h : Ring w base g m N C) (hb : Below w.heap.size w w') : Ring w' base g m N C := own_kept h hb
theorem Ring.heap (h : Ring w base g m N C) (hN : N.length = 12) (hC : C.length = 12) : w.heap[g]? = some (.cells (ics (ringL m N C)).toArray 168 (0, 0)) := by
  rcases h.2 with ⟨h', _⟩ | ⟨g', cap, cur, h', _, hh, _, _, hs, ht⟩
  · cases h'
  · cases h'
    have e : cur = (ics (ringL m N C)).toArray := by
      rw [← ht]
      apply Array.ext'
      rw [List.take_of_length_le]
      simp; omega
    rw [e] at hh
    exact hh
theorem Ring.of_heap (hh : w.heap[g]? = some (.cells (ics (ringL m N C)).toArray 168 (0, 0))) (hN : N.length = 12) (hC : C.length = 12) (hb : base ≤ g) : Ring w base g m N C := by
  refine ⟨by rw [ics_length, ringL_length hN hC], .inr ⟨g, 25, _, rfl, hb, hh, Nat.le_refl _, by unfold maxLen; omega, by simp [ics_length, ringL_length hN hC], ?_⟩⟩
  rw [List.take_of_length_le]
  simp [ics_length, ringL_length hN hC]
end

theorem keptS {B : Nat} {w0 w : World} {p0 p1 p : Addr} {v0 v1 v : Value} (h : w.cell? p0 = some v0 ∧ w.cell? p1 = some v1 ∧ Below B w0 w) (hB : B ≤ p.block) (n0 : p0.block < B) (n1 : p1.block < B) : (w.setCell p v).cell? p0 = some v0 ∧ (w.setCell p v).cell? p1 = some v1 ∧ Below B w0 (w.setCell p v) :=
  ⟨(World.cell?_setCell_far _ _ _ _ (by omega)).trans h.1, (World.cell?_setCell_far _ _ _ _ (by omega)).trans h.2.1, h.2.2.setCell hB v⟩

theorem newD {W w1 : World} {t : TypeId} (hb : Below (W.alloc (.cells #[.int .i64 0, .int .i64 0] t)).drew.heap.size (W.alloc (.cells #[.int .i64 0, .int .i64 0] t)).drew w1) :
    w1.cell? ⟨W.heap.size, 0, none⟩ = some (.int .i64 0) ∧ w1.cell? ⟨W.heap.size, 1, none⟩ = some (.int .i64 0) ∧ w1.frozen? ⟨W.heap.size, 0, none⟩ = false ∧ w1.frozen? ⟨W.heap.size, 1, none⟩ = false :=
  ⟨cell_kept hb (by simp [go_sem]), cell_kept hb (by simp [go_sem]), (hb.frozen (p := ⟨W.heap.size, 0, none⟩) (by simp)).trans (by simp [go_sem]), (hb.frozen (p := ⟨W.heap.size, 1, none⟩) (by simp)).trans (by simp [go_sem])⟩

theorem cell_far' {w w' : World} {g gd o : Nat} {v : Value} (h : w.cell? ⟨gd, o, none⟩ = some v) (hg : w.grownBy w' (some g)) (hne : gd ≠ g) : w'.cell? ⟨gd, o, none⟩ = some v :=
  hg.cell h (by intro e; injection e with e; exact hne e)
theorem set2 {w : World} {g : Nat} {a b a' b' : Value} (h0 : w.cell? ⟨g, 0, none⟩ = some a) (h1 : w.cell? ⟨g, 1, none⟩ = some b) :
    ((w.setCell ⟨g, 0, none⟩ a').setCell ⟨g, 1, none⟩ b').cell? ⟨g, 0, none⟩ = some a' ∧ ((w.setCell ⟨g, 0, none⟩ a').setCell ⟨g, 1, none⟩ b').cell? ⟨g, 1, none⟩ = some b' := by
  constructor
  · rw [World.cell?_setCell_other _ _ _ _ (by simp)]
    exact World.cell?_setCell_same _ _ _ h0
  · refine World.cell?_setCell_same _ _ _ (u := b) ?_
    rw [World.cell?_setCell_other _ _ _ _ (by simp)]
    exact h1
/-- copy into a block that is known whole: all other blocks are as they were -/
theorem wp_copyR {o : Oper} {a : Act} {w : World} {K : Act → World → Prop} {Q : Exit → Act → World → Prop} (d s : Operand)
    (ho : o.op = .call { callee := .builtin .copy, args := #[d, s], argTypes := #[24, 24] })
    (dp sp : Option Addr) (dLen dCap sLen sCap : Nat) (hd : a.eval d = .slice dp dLen dCap) (hs : a.eval s = .slice sp sLen sCap)
    (g off : Nat) (cur : List Int) (t : TypeId) (hg : w.heap[g]? = some (.cells (ics cur).toArray t (0, 0))) (cs : List Int) (hn : cs.length = Nat.min sLen dLen)
    (hpos : 0 < cs.length → dp = some ⟨g, off, none⟩ ∧ ∃ ad, sp = some ad ∧ ∀ j, j < cs.length → w.cell? (ad.add j) = some (.int .i64 (cs.getD j 0)))
    (hfit : off + cs.length ≤ cur.length)
    (h : ∀ w', w'.heap[g]? = some (.cells (ics (splice cur off cs)).toArray t (0, 0)) → w.grownBy w' (some g) → K (a.put o.dst (goInt cs.length)) w') :
    Oper.wp Try.prog o a w K Q := by
  have hu : Try.prog.underlying 24 = some (.slice 3) := Try.underlying24
  have hsz : (Try.prog.info? 3).map (·.size) = some 1 := by kernel_rfl
  by_cases h0 : cs.length = 0
  · obtain rfl : cs = [] := List.eq_nil_of_length_eq_zero h0
    have hrun := run_copy_none (P := Try.prog) w 24 24 o.type 3 dp sp dLen dCap sLen sCap hu hsz (by simpa using hn.symm)
    unfold Oper.wp
    simp [execOp, ho, resolve, invoke, builtin, hd, hs, hrun, Result.andThen]
    exact h w (by simpa [splice] using hg) (World.grownBy.refl w _)
  · obtain ⟨rfl, ad, rfl, hsrc⟩ := hpos (by omega)
    have hrun := run_copy_row (P := Try.prog) w 24 24 o.type 3 g off dLen dCap ad sLen sCap (ics cur).toArray t (ics cs) hu hsz hg (by rw [ics_length]; exact hn)
      (fun j v hv => by
        have hj : j < cs.length := by
          have := (List.getElem?_eq_some_iff.1 hv).1
          rwa [ics_length] at this
        rw [ics_get cs j hj] at hv
        rw [← hv]
        exact hsrc j hj) (by simpa [ics_length] using hfit) (fun v hv => by simp only [ics, List.mem_map] at hv; obtain ⟨x, _, rfl⟩ := hv; rfl)
    unfold Oper.wp
    simp [execOp, ho, resolve, invoke, builtin, hd, hs, hrun, Result.andThen]
    rw [ics_length]
    refine h _ ?_ ⟨rfl, rfl, rfl, by simp [World.setRow], fun k hk hne => setRow_other w g k _ (by intro e; exact hne (by rw [e]))⟩
    have e : (ics (splice cur off cs)).toArray = ((ics cur).toArray.toList.take off ++ (ics cs ++ (ics cur).toArray.toList.drop (off + (ics cs).length))).toArray := by
      rw [ics_splice]
      rfl
    rw [e]
    simpa [ics_length] using setRow_heap w g (ics cur).toArray _ t _ hg
theorem step_copyR {ops : Array Oper} {o : Oper} {a : Act} {w : World} {K : Act → World → Prop} {Q : Exit → Act → World → Prop} {E : Prop} (hgd : o.guard = none) (d s : Operand)
    (ho : o.op = .call { callee := .builtin .copy, args := #[d, s], argTypes := #[24, 24] })
    (dp sp : Option Addr) (dLen dCap sLen sCap : Nat) (hd : a.eval d = .slice dp dLen dCap) (hs : a.eval s = .slice sp sLen sCap)
    (g off : Nat) (cur : List Int) (t : TypeId) (hg : w.heap[g]? = some (.cells (ics cur).toArray t (0, 0))) (cs : List Int) (hn : cs.length = Nat.min sLen dLen)
    (hpos : 0 < cs.length → dp = some ⟨g, off, none⟩ ∧ ∃ ad, sp = some ad ∧ ∀ j, j < cs.length → w.cell? (ad.add j) = some (.int .i64 (cs.getD j 0)))
    (hfit : off + cs.length ≤ cur.length)
    (h : ∀ w', w'.heap[g]? = some (.cells (ics (splice cur off cs)).toArray t (0, 0)) → w.grownBy w' (some g) → K (a.put o.dst (goInt cs.length)) w') :
    if Region.wanted o (yielded ops a.tmps) = true then Oper.wp Try.prog o a w K Q else E := by
  have hw : Region.wanted o (yielded ops a.tmps) = true := by simp [Region.wanted, hgd]
  rw [if_pos hw]
  exact wp_copyR d s ho dp sp dLen dCap sLen sCap hd hs g off cur t hg cs hn hpos hfit h
theorem wpList_copyR {ops : Array Oper} {rest : List Oper} {o : Oper} {a : Act} {w : World} {Q : Exit → Act → World → Prop} (hgd : o.guard = none) (d s : Operand)
    (ho : o.op = .call { callee := .builtin .copy, args := #[d, s], argTypes := #[24, 24] })
    (dp sp : Option Addr) (dLen dCap sLen sCap : Nat) (hd : a.eval d = .slice dp dLen dCap) (hs : a.eval s = .slice sp sLen sCap)
    (g off : Nat) (cur : List Int) (t : TypeId) (hg : w.heap[g]? = some (.cells (ics cur).toArray t (0, 0))) (cs : List Int) (hn : cs.length = Nat.min sLen dLen)
    (hpos : 0 < cs.length → dp = some ⟨g, off, none⟩ ∧ ∃ ad, sp = some ad ∧ ∀ j, j < cs.length → w.cell? (ad.add j) = some (.int .i64 (cs.getD j 0)))
    (hfit : off + cs.length ≤ cur.length)
    (h : ∀ w', w'.heap[g]? = some (.cells (ics (splice cur off cs)).toArray t (0, 0)) → w.grownBy w' (some g) → wpList Try.prog ops Q rest (a.put o.dst (goInt cs.length)) w') :
    wpList Try.prog ops Q (o :: rest) a w :=
  wpList_plain hgd fun _ hK => wp_copyR d s ho dp sp dLen dCap sLen sCap hd hs g off cur t hg cs hn hpos hfit fun w' h1 h2 => hK _ _ (h w' h1 h2)
theorem part_len {N : List Int} (hN : N.length = 12) {m k : Nat} (hk : k < m) (hm : m ≤ 12) : ((N.take m).drop (k + 1)).length = (m - (k + 1)).min (12 - k) := by
  rw [List.length_drop, List.length_take, hN]
  show min m 12 - (k + 1) = min (m - (k + 1)) (12 - k)
  omega
theorem part_len' {N : List Int} (hN : N.length = 12) {m k : Nat} (hk : k < m) (hm : m ≤ 12) : ((N.take m).drop (k + 1)).length = m - (k + 1) := by
  rw [List.length_drop, List.length_take, hN]
  omega
theorem part_get (N : List Int) (m k j : Nat) (h : k + 1 + j < m) : ((N.take m).drop (k + 1)).getD j 0 = N.getD (k + 1 + j) 0 := by
  simp only [List.getD_eq_getElem?_getD, List.getElem?_drop, List.getElem?_take, if_pos h]
theorem Ring.posN {W : World} {base g : Nat} {M : Int} {N C : List Int} (h : Ring W base g M N C) (hN : N.length = 12) {m k : Nat} (hk : k < m) (hm : m ≤ 12) {a0 a1 : Addr} :
    0 < ((N.take m).drop (k + 1)).length → some (if 12 = k then a0 else ⟨g, 1 + k, none⟩) = some (⟨g, 1 + k, none⟩ : Addr) ∧
      ∃ ad, some (if k = 11 then a1 else ⟨g, 1 + (k + 1), none⟩) = some (ad : Addr) ∧ ∀ j, j < ((N.take m).drop (k + 1)).length → W.cell? (ad.add j) = some (.int .i64 (((N.take m).drop (k + 1)).getD j 0)) := by
  rw [part_len' hN hk hm]
  intro h0
  rw [if_neg (by omega), if_neg (by omega)]
  refine ⟨rfl, _, rfl, fun j hj => ?_⟩
  rw [Addr.add_lit, part_get N m k j (by omega), show 1 + (k + 1) + j = 1 + (k + 1 + j) by omega]
  exact h.cN hN _ (by omega)
theorem Ring.posC {W : World} {base g : Nat} {M : Int} {N C : List Int} (h : Ring W base g M N C) (hN : N.length = 12) (hC : C.length = 12) {m k : Nat} (hk : k < m) (hm : m ≤ 12) {a0 a1 : Addr} :
    0 < ((C.take m).drop (k + 1)).length → some (if 12 = k then a0 else ⟨g, 13 + k, none⟩) = some (⟨g, 13 + k, none⟩ : Addr) ∧
      ∃ ad, some (if k = 11 then a1 else ⟨g, 13 + (k + 1), none⟩) = some (ad : Addr) ∧ ∀ j, j < ((C.take m).drop (k + 1)).length → W.cell? (ad.add j) = some (.int .i64 (((C.take m).drop (k + 1)).getD j 0)) := by
  rw [part_len' hC hk hm]
  intro h0
  rw [if_neg (by omega), if_neg (by omega)]
  refine ⟨rfl, _, rfl, fun j hj => ?_⟩
  rw [Addr.add_lit, part_get C m k j (by omega), show 13 + (k + 1) + j = 13 + (k + 1 + j) by omega]
  exact h.cC hN _ (by omega)
theorem Ring.fit {M : Int} {N C X : List Int} (hN : N.length = 12) (hC : C.length = 12) (hX : X.length = 12) {m k o : Nat} (hk : k < m) (hm : m ≤ 12) (ho : o ≤ 13) : o + k + ((X.take m).drop (k + 1)).length ≤ (ringL M N C).length := by
  rw [ringL_length hN hC, part_len' hX hk hm]
  omega
theorem Ring.doneN {w5 : World} {base g : Nat} {M : Int} {N C : List Int} {m k : Nat} (h5 : w5.heap[g]? = some (.cells (ics (splice (ringL M N C) (1 + k) ((N.take m).drop (k + 1)))).toArray 168 (0, 0))) (hN : N.length = 12) (hC : C.length = 12) (hk : k < m) (hm : m ≤ 12) (hb : base ≤ g) :
    Ring w5 base g M (splice N k ((N.take m).drop (k + 1))) C := by
  rw [ringL_spliceN hN k (by rw [part_len' hN hk hm]; omega)] at h5
  exact Ring.of_heap h5 (by rw [splice_length _ _ _ hk (by omega)]; exact hN) hC hb
theorem Ring.doneC {w5 : World} {base g : Nat} {M : Int} {N C : List Int} {m k : Nat} (h5 : w5.heap[g]? = some (.cells (ics (splice (ringL M N C) (13 + k) ((C.take m).drop (k + 1)))).toArray 168 (0, 0))) (hN : N.length = 12) (hC : C.length = 12) (hk : k < m) (hm : m ≤ 12) (hb : base ≤ g) :
    Ring w5 base g M N (splice C k ((C.take m).drop (k + 1))) := by
  rw [ringL_spliceC hN k] at h5
  exact Ring.of_heap h5 hN (by rw [splice_length _ _ _ hk (by omega)]; exact hC) hb

/-- what a cut leaves -/
def Cut (base g m k : Nat) (N C : List Int) (w : World) (e : Ending) (w' : World) : Prop :=
  e = .returned (.agg #[.int .i64 (earD (C.take m) m k).1, .int .i64 (earD (C.take m) m k).2]) ∧ Ring w' base g ((m : Int) - 1) (cutN N m k) (cutC C m k) ∧ w.grownBy w' (some g)

theorem grown_new {w w1 w2 : World} {g n : Nat} (h : w.grownBy w1 (some g)) (k : w1.grownBy w2 (some n)) (hn : w.heap.size ≤ n) : w.grownBy w2 (some g) :=
  ⟨k.os.trans h.os, k.tape.trans h.tape, k.output.trans h.output, Nat.le_trans h.size k.size, fun i hi hne => (k.block i (Nat.lt_of_lt_of_le hi h.size) (by intro e; injection e with e; omega)).trans (h.block i hi hne)⟩
theorem ring_end {w W8 : World} {base g m k : Nat} {N C : List Int} {x y : Int} (hear : earD (C.take m) m k = (x, y)) (hr8 : Ring W8 base g ((m : Int) - 1) (cutN N m k) (cutC C m k)) (hg : g < w.heap.size)
    (hrs8 : W8.ownsRow w.heap.size 161 2 (.slice (some ⟨w.heap.size, 0, none⟩) 1 1) 1 (dcs [(0, 0)])) (hgr8 : w.grownBy W8 (some g)) :
    Cut base g m k N C w (.returned (.agg #[.int .i64 x, .int .i64 y])) ((W8.setCell ⟨w.heap.size, 0, none⟩ (.int .i64 x)).setCell ⟨w.heap.size, 1, none⟩ (.int .i64 y)) ∧
    ((W8.setCell ⟨w.heap.size, 0, none⟩ (.int .i64 x)).setCell ⟨w.heap.size, 1, none⟩ (.int .i64 y)).cell? ⟨w.heap.size, 0, none⟩ = some (.int .i64 x) ∧
    ((W8.setCell ⟨w.heap.size, 0, none⟩ (.int .i64 x)).setCell ⟨w.heap.size, 1, none⟩ (.int .i64 y)).cell? ⟨w.heap.size, 1, none⟩ = some (.int .i64 y) := by
  obtain ⟨h1, h2⟩ := stored2 hrs8 0 (by simp) x y
  simp only [Nat.zero_mul, Nat.zero_add] at h2
  refine ⟨⟨by rw [hear], own_far hr8.own h2 ?_, grown_new hgr8 h2 (Nat.le_refl _)⟩, ?_⟩
  · intro j hj e
    simp [Value.ownBlock] at hj
    injection e with e
    omega
  · refine set2 (a := .int .i64 0) (b := .int .i64 0) ?_ ?_
    · rw [hrs8.cellAt 0 (by omega)]; rfl
    · rw [hrs8.cellAt 1 (by omega)]; rfl

set_option maxRecDepth 100000 in
set_option maxHeartbeats 6400000 in
theorem impl_cut (base g m k : Nat) (N C : List Int) (w : World) (h : Ring w base g m N C) (hN : N.length = 12) (hC : C.length = 12) (hnr : Near 100 N) (hm4 : 4 ≤ m) (hm12 : m ≤ 12) (hk : k < m) :
    Calls Try.prog 192 #[.pointer (some ⟨g, 0, none⟩), .int .i64 k] w (Cut base g m k N C w) := by
  obtain ⟨a1, a2, _⟩ := around k m hm4 hk
  have ha0 : ((k : Int) + (m : Int) - 1).tmod (m : Int) = (((k + m - 1) % m : Nat) : Int) := by
    rw [show (k : Int) + (m : Int) - 1 = ((k + m - 1 : Nat) : Int) by omega]
    rfl
  have hb0 : ((k : Int) + 1) % (m : Int) = (((k + 1) % m : Nat) : Int) := by
    rw [show (k : Int) + 1 = ((k + 1 : Nat) : Int) by omega]
    rfl
  have hear : earD (C.take m) m k = (min (C.getD ((k + m - 1) % m) 0) (C.getD ((k + 1) % m) 0), max (C.getD ((k + m - 1) % m) 0) (C.getD ((k + 1) % m) 0)) := by
    unfold earD
    rw [take_getD _ _ _ a1, take_getD _ _ _ a2]
  have hcut : cutN N m k = splice (decr (decr N ((k + m - 1) % m)) ((k + 1) % m)) k (((decr (decr N ((k + m - 1) % m)) ((k + 1) % m)).take m).drop (k + 1)) := rfl
  generalize (k + m - 1) % m = a at *
  generalize (k + 1) % m = b at *
  have hg : g < w.heap.size := (World.ownsRow.lt h g rfl).2
  have c0 := h.c0
  have hw1 : IntKind.i64.wrap ((k : Int) + (m : Int)) = (k : Int) + (m : Int) := IntWalk.i64_in _ (by omega)
  have hw2 : IntKind.i64.wrap ((k : Int) + (m : Int) - 1) = (k : Int) + (m : Int) - 1 := IntWalk.i64_in _ (by omega)
  have Hear := Lib.hid hear
  have Hcut := Lib.hid hcut
  have Hb0 := Lib.hid hb0
  have HN := Lib.hid hN
  have HC := Lib.hid hC
  clear hear hcut hb0 hN hC
  go_enter Try.func192, Try.ntmps192
  go_wp2
  go_quiet (fail)
  clear hw1 hw2 ha0
  have hb1 : Below w.heap.size w ((w.alloc (.cells #[.int .i64 0, .int .i64 0] 161)).drewN nq) := below_drewN ((Below.refl w.heap.size w).alloc (Nat.le_refl _) _) nq
  have hr1 := h.kept hb1
  have hgr1 := grown_kept (World.grownBy.refl w (some g)) hb1
  have hrs : ((w.alloc (.cells #[.int .i64 0, .int .i64 0] 161)).drewN nq).ownsRow w.heap.size 161 2 (.slice (some ⟨w.heap.size, 0, none⟩) 1 1) 1 (dcs [(0, 0)]) :=
    own_drewN (World.ownsRow_lit (e := 161) (size := 2) (base := w.heap.size) w (dcs [(0, 0)]).toArray 1 (Nat.le_refl _) (by decide) rfl) nq
  clear hb1
  clear c0
  generalize (w.alloc (.cells #[.int .i64 0, .int .i64 0] 161)).drewN nq = W1 at *
  have c0 := hr1.c0
  have Hhead := Hb0.out
  go_wp2
  clear Hhead
  -- the number ahead
  have f0 := hr1.fro (1 + a)
  have n0 := hr1.cN HN.out a (by omega)
  have hx := hnr a
  have hst := hr1.setN HN.out a (by omega) (N.getD a 0 - 1)
  rw [show N.set a (N.getD a 0 - 1) = decr N a from rfl] at hst
  have hnr2 := hnr.decr a
  generalize N.getD a 0 = x at *
  have a3 : (0 : Int) ≤ (a : Int) := by omega
  have a4 : (a : Int) < 12 := by omega
  have hw1 : IntKind.i64.wrap (x - 1) = x - 1 := IntWalk.i64_in _ (by omega)
  have Hst := Lib.hid hst
  have Hx := Lib.hid hx
  clear hst hx hnr
  rw [Hb0.out]
  go_big_region
  have hr2 : Ring (W1.setCell ⟨g, 1 + a, none⟩ (.int .i64 (x - 1))).drew base g m (decr N a) C := World.ownsRow.drew Hst.out.1
  have hg2 : W1.grownBy (W1.setCell ⟨g, 1 + a, none⟩ (.int .i64 (x - 1))).drew (some g) := grown_kept Hst.out.2 ((Below.refl _ _).drew)
  have hgr2 := hgr1.trans hg2
  have hrs2 := own_far hrs hg2 (own_ne hrs hr1.own (by decide))
  clear hr1 hgr1 hrs hg2 c0 f0 n0 Hst hw1 Hx
  generalize (W1.setCell ⟨g, 1 + a, none⟩ (.int .i64 (x - 1))).drew = W2 at *
  have HN2 : Hid ((decr N a).length = 12) := Lib.hid (by rw [decr_length]; exact HN.out)
  have c0 := hr2.c0
  have f0 := hr2.fro (1 + b)
  have n0 := hr2.cN HN2.out b (by omega)
  have hx := hnr2 b
  have hst := hr2.setN HN2.out b (by omega) ((decr N a).getD b 0 - 1)
  rw [show (decr N a).set b ((decr N a).getD b 0 - 1) = decr (decr N a) b from rfl] at hst
  have hnr3 := hnr2.decr b
  generalize (decr N a).getD b 0 = y at *
  have b3 : (0 : Int) ≤ (b : Int) := by omega
  have b4 : (b : Int) < 12 := by omega
  have hw1 : IntKind.i64.wrap (y - 1) = y - 1 := IntWalk.i64_in _ (by omega)
  have Hst := Lib.hid hst
  have Hx := Lib.hid hx
  clear hst hx hnr2
  go_wp2
  go_big_region
  have hr3 : Ring (W2.setCell ⟨g, 1 + b, none⟩ (.int .i64 (y - 1))).drew base g m (decr (decr N a) b) C := World.ownsRow.drew Hst.out.1
  have hg3 : W2.grownBy (W2.setCell ⟨g, 1 + b, none⟩ (.int .i64 (y - 1))).drew (some g) := grown_kept Hst.out.2 ((Below.refl _ _).drew)
  have hgr3 := hgr2.trans hg3
  have hrs3 := own_far hrs2 hg3 (own_ne hrs2 hr2.own (by decide))
  clear hr2 hgr2 hrs2 hg3 c0 f0 n0 Hst hw1 Hx hnr3
  generalize (W2.setCell ⟨g, 1 + b, none⟩ (.int .i64 (y - 1))).drew = W3 at *
  have HN3 : Hid ((decr (decr N a) b).length = 12) := Lib.hid (by rw [decr_length, decr_length]; exact HN.out)
  have na := hr3.cC HN3.out a (by omega)
  have nb := hr3.cC HN3.out b (by omega)
  have hg3' : g < W3.heap.size := (World.ownsRow.lt hr3.own g rfl).2
  generalize C.getD a 0 = x at *
  generalize C.getD b 0 = y at *
  go_wp2
  go_region_held3 (fun w' => w'.cell? ⟨g, 13 + a, none⟩ = some (.int .i64 x) ∧ w'.cell? ⟨g, 13 + b, none⟩ = some (.int .i64 y) ∧ Below W3.heap.size W3 w')
    (first
      | assumption
      | exact ⟨na, nb, (Below.refl _ _).drew⟩
      | (refine kept2 ?_ hb1 (Nat.le_refl _); assumption)
      | (refine kept2 ?_ ((Below.refl _ _).alloc (Nat.le_refl _) _) (Nat.le_refl _); assumption)
      | exact drew2 (kept2 ⟨na, nb, Below.refl _ _⟩ ((Below.refl _ _).alloc (Nat.le_refl _) _) (Nat.le_refl _))
      | exact kept2 (kept2 (w := W3.drew) ⟨na, nb, (Below.refl _ _).drew⟩ hb1 (Nat.le_refl _)) ((Below.refl _ _).alloc (Nat.le_refl _) _) (Nat.le_refl _)
      | (refine keptS (keptS ?_ (Nat.le_refl _) hg3' hg3') (Nat.le_refl _) hg3' hg3'; assumption))
    (first
      | (go_at_call 208; refine (impl_join _ _ _).mono ?_; rintro e w1 ⟨rfl, hb1⟩
         first
           | (have qd : w1.cell? ⟨W3.heap.size, 0, none⟩ = some (.int .i64 0) ∧ w1.cell? ⟨W3.heap.size, 1, none⟩ = some (.int .i64 0) ∧ w1.frozen? ⟨W3.heap.size, 0, none⟩ = false ∧ w1.frozen? ⟨W3.heap.size, 1, none⟩ = false := newD (W := W3) hb1
              obtain ⟨qd0, qd1, qf0, qf1⟩ := qd)
           | skip))
  · rename_i hS
    have hb4 := hS.2.2
    have e0 : (w1.alloc (.cells #[.int .i64 (min x y), .int .i64 (max x y)] 161)).cell? ⟨w1.heap.size, 0, none⟩ = some (.int .i64 (min x y)) := by simp [go_sem]
    have e1 : (w1.alloc (.cells #[.int .i64 (min x y), .int .i64 (max x y)] 161)).cell? ⟨w1.heap.size, 1, none⟩ = some (.int .i64 (max x y)) := by simp [go_sem]
    have hz := hb1.size
    have hn1 : w1.heap.size ≠ g := by simp at hz; omega
    have hn2 : w1.heap.size ≠ w.heap.size := by have := (World.ownsRow.lt hrs3 w.heap.size rfl).2; simp at hz; omega
    clear hS hb1 hz
    generalize w1.alloc (.cells #[.int .i64 (min x y), .int .i64 (max x y)] 161) = W4 at *
    generalize w1.heap.size = gd at *
    have hr4 := hr3.kept hb4
    have hgr4 := grown_kept hgr3 hb4
    have hrs4 := own_kept hrs3 hb4
    clear hr3 hgr3 hrs3 hb4 na nb
    generalize hN3 : decr (decr N a) b = N3 at *
    have c0 := hr4.c0
    have hbg : base ≤ g := (World.ownsRow.lt hr4.own g rfl).1
    have HH := Lib.hid (hr4.heap HN3.out HC.out)
    have k0 : (0 : Int) ≤ (k : Int) := by omega
    have k1 : (k : Int) ≤ 12 := by omega
    have k2 : (0 : Int) ≤ (k : Int) + 1 := by omega
    have k3 : (k : Int) + 1 ≤ (m : Int) := by omega
    have k4 : (m : Int) ≤ 12 := by omega
    have k5 : (0 : Int) ≤ (m : Int) := by omega
    have hkw : IntKind.i64.wrap ((k : Int) + 1) = (k : Int) + 1 := IntWalk.i64_in _ (by omega)
    have hkn : ((k : Int) + 1).toNat = k + 1 := by omega
    have HN3' := Lib.hid hN3
    clear hN3
    go_wp2
    go_region_held3 (fun w' => w'.cell? ⟨g, 0, none⟩ = some (.int .i64 m))
      (first
        | assumption
        | exact c0
        | exact hr5.c0)
      (first
        | (refine step_copyR rfl _ _ rfl _ _ _ _ _ _ rfl rfl g (1 + k) (ringL m N3 C) _ HH.out ((N3.take m).drop (k + 1)) (part_len HN3.out hk hm12) (Ring.posN (W := W4.drew) hr4 HN3.out hk hm12) (Ring.fit HN3.out HC.out HN3.out hk hm12 (by omega)) ?_
           intro w5 h5 g5
           have hr5 := Ring.doneN h5 HN3.out HC.out hk hm12 hbg))
    generalize (if 12 = k then (⟨g, 1, none⟩ : Addr) else ⟨g, 1 + k, none⟩) = u64
    generalize (if k = 11 then (⟨g, 1, none⟩ : Addr) else ⟨g, 1 + (k + 1), none⟩) = u74
    clear h5 c0
    rename_i hS5
    clear hS5
    have hg5 : W4.grownBy w5 (some g) := (grown_kept (World.grownBy.refl W4 (some g)) ((Below.refl _ _).drew)).trans g5
    have hgr5 := hgr4.trans hg5
    have hrs5 := own_far hrs4 hg5 (own_ne hrs4 hr4.own (by decide))
    have d0 := cell_far' e0 hg5 hn1
    have d1 := cell_far' e1 hg5 hn1
    clear hgr4 hg5 g5 hrs4 hr4 e0 e1 HH
    have HN5 : Hid ((splice N3 k ((N3.take m).drop (k + 1))).length = 12) := Lib.hid (by rw [splice_length _ _ _ hk (by rw [HN3.out]; exact hm12)]; exact HN3.out)
    have hcn : cutN N m k = splice N3 k ((N3.take m).drop (k + 1)) := Hcut.out
    rw [← hcn] at hr5 HN5
    have Hcn := Lib.hid hcn
    clear hcn
    have c0 := hr5.c0
    have HH := Lib.hid (hr5.heap HN5.out HC.out)
    go_wp2
    go_region_held3 (fun w' => w'.cell? ⟨g, 0, none⟩ = some (.int .i64 m))
      (first
        | assumption
        | exact c0
        | exact hr6.c0)
      (first
        | (refine step_copyR rfl _ _ rfl _ _ _ _ _ _ rfl rfl g (13 + k) (ringL m (cutN N m k) C) _ HH.out ((C.take m).drop (k + 1)) (part_len HC.out hk hm12) (Ring.posC (W := w5.drew) hr5 HN5.out HC.out hk hm12) (Ring.fit HN5.out HC.out HC.out hk hm12 (by omega)) ?_
           intro w6 h6 g6
           have hr6 := Ring.doneC h6 HN5.out HC.out hk hm12 hbg))
    generalize (if 12 = k then (⟨g, 13, none⟩ : Addr) else ⟨g, 13 + k, none⟩) = u80
    generalize (if k = 11 then (⟨g, 13, none⟩ : Addr) else ⟨g, 13 + (k + 1), none⟩) = u90
    clear h6 c0
    rename_i hS6
    clear hS6
    have hg6 : w5.grownBy w6 (some g) := (grown_kept (World.grownBy.refl w5 (some g)) ((Below.refl _ _).drew)).trans g6
    have hgr6 := hgr5.trans hg6
    have hrs6 := own_far hrs5 hg6 (own_ne hrs5 hr5.own (by decide))
    have q0 := cell_far' d0 hg6 hn1
    have q1 := cell_far' d1 hg6 hn1
    clear hgr5 hg6 g6 hrs5 hr5 d0 d1 HH hkw hkn
    have HC6 : Hid ((splice C k ((C.take m).drop (k + 1))).length = 12) := Lib.hid (by rw [splice_length _ _ _ hk (by rw [HC.out]; exact hm12)]; exact HC.out)
    have hr7 : Ring w6 base g m (cutN N m k) (cutC C m k) := hr6
    clear hr6
    have c0 := hr7.c0
    have f0 := hr7.fro 0
    obtain ⟨hr8, hg8⟩ := hr7.set0 ((m : Int) - 1)
    have hrs8 := own_far hrs6 hg8 (own_ne hrs6 hr7.own (by decide))
    have hgr8 := hgr6.trans hg8
    have q2 := cell_far' q0 hg8 hn1
    have q3 := cell_far' q1 hg8 hn1
    have r0 : w6.cell? ⟨w.heap.size, 0, none⟩ = some (.int .i64 0) := by rw [hrs6.cellAt 0 (by omega)]; rfl
    have r1 : w6.cell? ⟨w.heap.size, 1, none⟩ = some (.int .i64 0) := by rw [hrs6.cellAt 1 (by omega)]; rfl
    have rf0 := hrs6.frozenAt 0
    have rf1 := hrs6.frozenAt 1
    obtain ⟨hE, z0, z1⟩ := ring_end Hear.out hr8 hg hrs8 hgr8
    have HE := Lib.hid hE
    have Z0 := Lib.hid z0
    have Z1 := Lib.hid z1
    clear hr7 hrs6 hgr6 hg8 hE z0 z1 hr8 hrs8 hgr8 h
    go_wp2
    exact bodyPost_ret (v := .agg #[.int .i64 (min x y), .int .i64 (max x y)]) (by simp [results, Try.results192, go_sem, Z0.out, Z1.out]) rfl HE.out
  · rename_i hS
    have hb4 := hS.2.2
    obtain ⟨e0, e1⟩ := set2 (a' := .int .i64 (min x y)) (b' := .int .i64 (max x y)) qd0 qd1
    have hn1 : W3.heap.size ≠ g := by omega
    have hn2 : W3.heap.size ≠ w.heap.size := by have := (World.ownsRow.lt hrs3 w.heap.size rfl).2; omega
    clear hS hb1 qd0 qd1 qf0 qf1
    generalize (w1.setCell ⟨W3.heap.size, 0, none⟩ (.int .i64 (min x y))).setCell ⟨W3.heap.size, 1, none⟩ (.int .i64 (max x y)) = W4 at *
    generalize W3.heap.size = gd at e0 e1 hn1 hn2 ⊢
    have hr4 := hr3.kept hb4
    have hgr4 := grown_kept hgr3 hb4
    have hrs4 := own_kept hrs3 hb4
    clear hr3 hgr3 hrs3 hb4 na nb
    generalize hN3 : decr (decr N a) b = N3 at *
    have c0 := hr4.c0
    have hbg : base ≤ g := (World.ownsRow.lt hr4.own g rfl).1
    have HH := Lib.hid (hr4.heap HN3.out HC.out)
    have k0 : (0 : Int) ≤ (k : Int) := by omega
    have k1 : (k : Int) ≤ 12 := by omega
    have k2 : (0 : Int) ≤ (k : Int) + 1 := by omega
    have k3 : (k : Int) + 1 ≤ (m : Int) := by omega
    have k4 : (m : Int) ≤ 12 := by omega
    have k5 : (0 : Int) ≤ (m : Int) := by omega
    have hkw : IntKind.i64.wrap ((k : Int) + 1) = (k : Int) + 1 := IntWalk.i64_in _ (by omega)
    have hkn : ((k : Int) + 1).toNat = k + 1 := by omega
    have HN3' := Lib.hid hN3
    clear hN3
    go_wp2
    go_region_held3 (fun w' => w'.cell? ⟨g, 0, none⟩ = some (.int .i64 m))
      (first
        | assumption
        | exact c0
        | exact hr5.c0)
      (first
        | (refine step_copyR rfl _ _ rfl _ _ _ _ _ _ rfl rfl g (1 + k) (ringL m N3 C) _ HH.out ((N3.take m).drop (k + 1)) (part_len HN3.out hk hm12) (Ring.posN (W := W4.drew) hr4 HN3.out hk hm12) (Ring.fit HN3.out HC.out HN3.out hk hm12 (by omega)) ?_
           intro w5 h5 g5
           have hr5 := Ring.doneN h5 HN3.out HC.out hk hm12 hbg))
    generalize (if 12 = k then (⟨g, 1, none⟩ : Addr) else ⟨g, 1 + k, none⟩) = u64
    generalize (if k = 11 then (⟨g, 1, none⟩ : Addr) else ⟨g, 1 + (k + 1), none⟩) = u74
    clear h5 c0
    rename_i hS5
    clear hS5
    have hg5 : W4.grownBy w5 (some g) := (grown_kept (World.grownBy.refl W4 (some g)) ((Below.refl _ _).drew)).trans g5
    have hgr5 := hgr4.trans hg5
    have hrs5 := own_far hrs4 hg5 (own_ne hrs4 hr4.own (by decide))
    have d0 := cell_far' e0 hg5 hn1
    have d1 := cell_far' e1 hg5 hn1
    clear hgr4 hg5 g5 hrs4 hr4 e0 e1 HH
    have HN5 : Hid ((splice N3 k ((N3.take m).drop (k + 1))).length = 12) := Lib.hid (by rw [splice_length _ _ _ hk (by rw [HN3.out]; exact hm12)]; exact HN3.out)
    have hcn : cutN N m k = splice N3 k ((N3.take m).drop (k + 1)) := Hcut.out
    rw [← hcn] at hr5 HN5
    have Hcn := Lib.hid hcn
    clear hcn
    have c0 := hr5.c0
    have HH := Lib.hid (hr5.heap HN5.out HC.out)
    go_wp2
    go_region_held3 (fun w' => w'.cell? ⟨g, 0, none⟩ = some (.int .i64 m))
      (first
        | assumption
        | exact c0
        | exact hr6.c0)
      (first
        | (refine step_copyR rfl _ _ rfl _ _ _ _ _ _ rfl rfl g (13 + k) (ringL m (cutN N m k) C) _ HH.out ((C.take m).drop (k + 1)) (part_len HC.out hk hm12) (Ring.posC (W := w5.drew) hr5 HN5.out HC.out hk hm12) (Ring.fit HN5.out HC.out HC.out hk hm12 (by omega)) ?_
           intro w6 h6 g6
           have hr6 := Ring.doneC h6 HN5.out HC.out hk hm12 hbg))
    generalize (if 12 = k then (⟨g, 13, none⟩ : Addr) else ⟨g, 13 + k, none⟩) = u80
    generalize (if k = 11 then (⟨g, 13, none⟩ : Addr) else ⟨g, 13 + (k + 1), none⟩) = u90
    clear h6 c0
    rename_i hS6
    clear hS6
    have hg6 : w5.grownBy w6 (some g) := (grown_kept (World.grownBy.refl w5 (some g)) ((Below.refl _ _).drew)).trans g6
    have hgr6 := hgr5.trans hg6
    have hrs6 := own_far hrs5 hg6 (own_ne hrs5 hr5.own (by decide))
    have q0 := cell_far' d0 hg6 hn1
    have q1 := cell_far' d1 hg6 hn1
    clear hgr5 hg6 g6 hrs5 hr5 d0 d1 HH hkw hkn
    have HC6 : Hid ((splice C k ((C.take m).drop (k + 1))).length = 12) := Lib.hid (by rw [splice_length _ _ _ hk (by rw [HC.out]; exact hm12)]; exact HC.out)
    have hr7 : Ring w6 base g m (cutN N m k) (cutC C m k) := hr6
    clear hr6
    have c0 := hr7.c0
    have f0 := hr7.fro 0
    obtain ⟨hr8, hg8⟩ := hr7.set0 ((m : Int) - 1)
    have hrs8 := own_far hrs6 hg8 (own_ne hrs6 hr7.own (by decide))
    have hgr8 := hgr6.trans hg8
    have q2 := cell_far' q0 hg8 hn1
    have q3 := cell_far' q1 hg8 hn1
    have r0 : w6.cell? ⟨w.heap.size, 0, none⟩ = some (.int .i64 0) := by rw [hrs6.cellAt 0 (by omega)]; rfl
    have r1 : w6.cell? ⟨w.heap.size, 1, none⟩ = some (.int .i64 0) := by rw [hrs6.cellAt 1 (by omega)]; rfl
    have rf0 := hrs6.frozenAt 0
    have rf1 := hrs6.frozenAt 1
    obtain ⟨hE, z0, z1⟩ := ring_end Hear.out hr8 hg hrs8 hgr8
    have HE := Lib.hid hE
    have Z0 := Lib.hid z0
    have Z1 := Lib.hid z1
    clear hr7 hrs6 hgr6 hg8 hE z0 z1 hr8 hrs8 hgr8 h
    go_wp2
    exact bodyPost_ret (v := .agg #[.int .i64 (min x y), .int .i64 (max x y)]) (by simp [results, Try.results192, go_sem, Z0.out, Z1.out]) rfl HE.out
end Go.Proofs.Ytfkkbjbgjmaciaa
