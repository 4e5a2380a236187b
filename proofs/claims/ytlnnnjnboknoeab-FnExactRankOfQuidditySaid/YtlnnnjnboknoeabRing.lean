/- The program's ring: an ear is cut off it. -/
import Derived.Test.YtlnnnjnboknoeabRingM
import Derived.Test.YtlnnnjnboknoeabSort
import Derived.BigRegion
import Derived.RegionTactic
import Derived.IntWalk
import Derived.Deep.RegionLaw
namespace Go.Proofs.Ytlnnnjnboknoeab
set_option linter.unusedVariables false
open Go.RowKit

theorem impl_join (a b : Int) (w : World) : Calls Try.prog 112 #[.int .i64 a, .int .i64 b] w fun e w' => e = .returned (.agg #[.int .i64 (min a b), .int .i64 (max a b)]) ∧ Below w.heap.size w w' := by
  go_enter Try.func112, Try.ntmps112
  go_wp2
  all_goals exact bodyPost_ret (v := .agg #[.int .i64 (min a b), .int .i64 (max a b)]) (by simp [results, Try.results112, go_sem] <;> omega) rfl ⟨rfl, (Below.refl _ _).alloc (Nat.le_refl _) _⟩

section
variable {w w' : World} {base g : Nat} {m : Int} {N C : List Int}
end

theorem keptS {B : Nat} {w0 w : World} {p0 p1 p : Addr} {v0 v1 v : Value} (h : w.cell? p0 = some v0 ∧ w.cell? p1 = some v1 ∧ Below B w0 w) (hB : B ≤ p.block) (n0 : p0.block < B) (n1 : p1.block < B) : (w.setCell p v).cell? p0 = some v0 ∧ (w.setCell p v).cell? p1 = some v1 ∧ Below B w0 (w.setCell p v) :=
  ⟨(World.cell?_setCell_far _ _ _ _ (by omega)).trans h.1, (World.cell?_setCell_far _ _ _ _ (by omega)).trans h.2.1, h.2.2.setCell hB v⟩

theorem newD {W w1 : World} {t : TypeId} (hb : Below (W.alloc (.cells #[.int .i64 0, .int .i64 0] t)).drew.heap.size (W.alloc (.cells #[.int .i64 0, .int .i64 0] t)).drew w1) :
    w1.cell? ⟨W.heap.size, 0, none⟩ = some (.int .i64 0) ∧ w1.cell? ⟨W.heap.size, 1, none⟩ = some (.int .i64 0) ∧ w1.frozen? ⟨W.heap.size, 0, none⟩ = false ∧ w1.frozen? ⟨W.heap.size, 1, none⟩ = false :=
  ⟨cell_kept hb (by simp [go_sem]), cell_kept hb (by simp [go_sem]), (hb.frozen (p := ⟨W.heap.size, 0, none⟩) (by simp)).trans (by simp [go_sem]), (hb.frozen (p := ⟨W.heap.size, 1, none⟩) (by simp)).trans (by simp [go_sem])⟩

theorem cell_far' {w w' : World} {g gd o : Nat} {v : Value} (h : w.cell? ⟨gd, o, none⟩ = some v) (hg : w.grownBy w' (some g)) (hne : gd ≠ g) : w'.cell? ⟨gd, o, none⟩ = some v :=
  hg.cell h (by intro e; injection e with e; exact hne e)
theorem set2 {w : World} {g : Nat} {a b a' b' : Value} (h0 : w.cell? ⟨g, 0, none⟩ = some a) (h1 : w.cell? ⟨g, 1, none⟩ = some b) :
    ((w.setCell ⟨g, 0, none⟩ a').setCell ⟨g, 1, none⟩ b').cell? ⟨g, 0, none⟩ = some a' ∧ ((w.setCell ⟨g, 0, none⟩ a').setCell ⟨g, 1, none⟩ b').cell? ⟨g, 1, none⟩ = some b' := by
  constructor
  · rw [World.cell?_setCell_other _ _ _ _ (by simp)]
    exact World.cell?_setCell_same _ _ _ h0
  · refine World.cell?_setCell_same _ _ _ (u := b) ?_
    rw [World.cell?_setCell_other _ _ _ _ (by simp)]
    exact h1
/-- copy into a block that is known whole: all other blocks are as they were -/
theorem wp_copyR {o : Oper} {a : Act} {w : World} {K : Act → World → Prop} {Q : Exit → Act → World → Prop} (d s : Operand)
    (ho : o.op = .call { callee := .builtin .copy, args := #[d, s], argTypes := #[27, 27] })
    (dp sp : Option Addr) (dLen dCap sLen sCap : Nat) (hd : a.eval d = .slice dp dLen dCap) (hs : a.eval s = .slice sp sLen sCap)
    (g off : Nat) (cur : List Int) (t : TypeId) (hg : w.heap[g]? = some (.cells (ics cur).toArray t (0, 0))) (cs : List Int) (hn : cs.length = Nat.min sLen dLen)
    (hpos : 0 < cs.length → dp = some ⟨g, off, none⟩ ∧ ∃ ad, sp = some ad ∧ ∀ j, j < cs.length → w.cell? (ad.add j) = some (.int .i64 (cs.getD j 0)))
    (hfit : off + cs.length ≤ cur.length)
    (h : ∀ w', w'.heap[g]? = some (.cells (ics (splice cur off cs)).toArray t (0, 0)) → w.grownBy w' (some g) → K (a.put o.dst (goInt cs.length)) w') :
    Oper.wp Try.prog o a w K Q := by
  have hu : Try.prog.underlying 27 = some (.slice 3) := Try.underlying27
  have hsz : (Try.prog.info? 3).map (·.size) = some 1 := by kernel_rfl
  by_cases h0 : cs.length = 0
  · obtain rfl : cs = [] := List.eq_nil_of_length_eq_zero h0
    have hrun := run_copy_none (P := Try.prog) w 27 27 o.type 3 dp sp dLen dCap sLen sCap hu hsz (by simpa using hn.symm)
    unfold Oper.wp
    simp [execOp, ho, resolve, invoke, builtin, hd, hs, hrun, Result.andThen]
    exact h w (by simpa [splice] using hg) (World.grownBy.refl w _)
  · obtain ⟨rfl, ad, rfl, hsrc⟩ := hpos (by omega)
    have hrun := run_copy_row (P := Try.prog) w 27 27 o.type 3 g off dLen dCap ad sLen sCap (ics cur).toArray t (ics cs) hu hsz hg (by rw [ics_length]; exact hn)
      (fun j v hv => by
        have hj : j < cs.length := by
          have := (List.getElem?_eq_some_iff.1 hv).1
          rwa [ics_length] at this
        rw [ics_get cs j hj] at hv
        rw [← hv]
        exact hsrc j hj) (by simpa [ics_length] using hfit) (fun v hv => by simp only [ics, List.mem_map] at hv; obtain ⟨x, _, rfl⟩ := hv; rfl)
    unfold Oper.wp
    simp [execOp, ho, resolve, invoke, builtin, hd, hs, hrun, Result.andThen]
    rw [ics_length]
    refine h _ ?_ ⟨rfl, rfl, rfl, by simp [World.setRow], fun k hk hne => setRow_other w g k _ (by intro e; exact hne (by rw [e]))⟩
    have e : (ics (splice cur off cs)).toArray = ((ics cur).toArray.toList.take off ++ (ics cs ++ (ics cur).toArray.toList.drop (off + (ics cs).length))).toArray := by
      rw [ics_splice]
      rfl
    rw [e]
    simpa [ics_length] using setRow_heap w g (ics cur).toArray _ t _ hg
theorem step_copyR {ops : Array Oper} {o : Oper} {a : Act} {w : World} {K : Act → World → Prop} {Q : Exit → Act → World → Prop} {E : Prop} (hgd : o.guard = none) (d s : Operand)
    (ho : o.op = .call { callee := .builtin .copy, args := #[d, s], argTypes := #[27, 27] })
    (dp sp : Option Addr) (dLen dCap sLen sCap : Nat) (hd : a.eval d = .slice dp dLen dCap) (hs : a.eval s = .slice sp sLen sCap)
    (g off : Nat) (cur : List Int) (t : TypeId) (hg : w.heap[g]? = some (.cells (ics cur).toArray t (0, 0))) (cs : List Int) (hn : cs.length = Nat.min sLen dLen)
    (hpos : 0 < cs.length → dp = some ⟨g, off, none⟩ ∧ ∃ ad, sp = some ad ∧ ∀ j, j < cs.length → w.cell? (ad.add j) = some (.int .i64 (cs.getD j 0)))
    (hfit : off + cs.length ≤ cur.length)
    (h : ∀ w', w'.heap[g]? = some (.cells (ics (splice cur off cs)).toArray t (0, 0)) → w.grownBy w' (some g) → K (a.put o.dst (goInt cs.length)) w') :
    if Region.wanted o (yielded ops a.tmps) = true then Oper.wp Try.prog o a w K Q else E := by
  have hw : Region.wanted o (yielded ops a.tmps) = true := by simp [Region.wanted, hgd]
  rw [if_pos hw]
  exact wp_copyR d s ho dp sp dLen dCap sLen sCap hd hs g off cur t hg cs hn hpos hfit h
theorem wpList_copyR {ops : Array Oper} {rest : List Oper} {o : Oper} {a : Act} {w : World} {Q : Exit → Act → World → Prop} (hgd : o.guard = none) (d s : Operand)
    (ho : o.op = .call { callee := .builtin .copy, args := #[d, s], argTypes := #[27, 27] })
    (dp sp : Option Addr) (dLen dCap sLen sCap : Nat) (hd : a.eval d = .slice dp dLen dCap) (hs : a.eval s = .slice sp sLen sCap)
    (g off : Nat) (cur : List Int) (t : TypeId) (hg : w.heap[g]? = some (.cells (ics cur).toArray t (0, 0))) (cs : List Int) (hn : cs.length = Nat.min sLen dLen)
    (hpos : 0 < cs.length → dp = some ⟨g, off, none⟩ ∧ ∃ ad, sp = some ad ∧ ∀ j, j < cs.length → w.cell? (ad.add j) = some (.int .i64 (cs.getD j 0)))
    (hfit : off + cs.length ≤ cur.length)
    (h : ∀ w', w'.heap[g]? = some (.cells (ics (splice cur off cs)).toArray t (0, 0)) → w.grownBy w' (some g) → wpList Try.prog ops Q rest (a.put o.dst (goInt cs.length)) w') :
    wpList Try.prog ops Q (o :: rest) a w :=
  wpList_plain hgd fun _ hK => wp_copyR d s ho dp sp dLen dCap sLen sCap hd hs g off cur t hg cs hn hpos hfit fun w' h1 h2 => hK _ _ (h w' h1 h2)
theorem part_len {N : List Int} (hN : N.length = 12) {m k : Nat} (hk : k < m) (hm : m ≤ 12) : ((N.take m).drop (k + 1)).length = (m - (k + 1)).min (12 - k) := by
  rw [List.length_drop, List.length_take, hN]
  show min m 12 - (k + 1) = min (m - (k + 1)) (12 - k)
  omega
theorem part_len' {N : List Int} (hN : N.length = 12) {m k : Nat} (hk : k < m) (hm : m ≤ 12) : ((N.take m).drop (k + 1)).length = m - (k + 1) := by
  rw [List.length_drop, List.length_take, hN]
  omega
theorem part_get (N : List Int) (m k j : Nat) (h : k + 1 + j < m) : ((N.take m).drop (k + 1)).getD j 0 = N.getD (k + 1 + j) 0 := by
  simp only [List.getD_eq_getElem?_getD, List.getElem?_drop, List.getElem?_take, if_pos h]
theorem Ring.fit {M : Int} {N C X : List Int} (hN : N.length = 12) (hC : C.length = 12) (hX : X.length = 12) {m k o : Nat} (hk : k < m) (hm : m ≤ 12) (ho : o ≤ 13) : o + k + ((X.take m).drop (k + 1)).length ≤ (ringL M N C).length := by
  rw [ringL_length hN hC, part_len' hX hk hm]
  omega
theorem grown_new {w w1 w2 : World} {g n : Nat} (h : w.grownBy w1 (some g)) (k : w1.grownBy w2 (some n)) (hn : w.heap.size ≤ n) : w.grownBy w2 (some g) :=
  ⟨k.os.trans h.os, k.tape.trans h.tape, k.output.trans h.output, Nat.le_trans h.size k.size, fun i hi hne => (k.block i (Nat.lt_of_lt_of_le hi h.size) (by intro e; injection e with e; omega)).trans (h.block i hi hne)⟩
end Go.Proofs.Ytlnnnjnboknoeab
