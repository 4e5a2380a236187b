/- slices.Repeat of one number, none of them too; apart from rings and bands. -/
import Derived.Test.YtkekjcfhkecggaaContI
import Derived.Test.YtkekjcfhkecggaaRingM
import Derived.Laws.CopyRow
import Derived.OwnWalk
import Derived.Deep.RegionHeld3
namespace Go.Proofs.Ytkekjcfhkecggaa.Rep
set_option linter.unusedVariables false
open Go.RowKit

theorem wp_copyR {o : Oper} {a : Act} {w : World} {K : Act → World → Prop} {Q : Exit → Act → World → Prop} (d s : Operand)
    (ho : o.op = .call { callee := .builtin .copy, args := #[d, s], argTypes := #[22, 22] })
    (dp sp : Option Addr) (dLen dCap sLen sCap : Nat) (hd : a.eval d = .slice dp dLen dCap) (hs : a.eval s = .slice sp sLen sCap)
    (g off : Nat) (cur : List Int) (t : TypeId) (hg : w.heap[g]? = some (.cells (ics cur).toArray t (0, 0))) (cs : List Int) (hn : cs.length = Nat.min sLen dLen)
    (hpos : 0 < cs.length → dp = some ⟨g, off, none⟩ ∧ ∃ ad, sp = some ad ∧ ∀ j, j < cs.length → w.cell? (ad.add j) = some (.int .i64 (cs.getD j 0)))
    (hfit : off + cs.length ≤ cur.length)
    (h : ∀ w', w'.heap[g]? = some (.cells (ics (splice cur off cs)).toArray t (0, 0)) → w.grownBy w' (some g) → K (a.put o.dst (goInt cs.length)) w') :
    Oper.wp Try.prog o a w K Q := by
  have hu : Try.prog.underlying 22 = some (.slice 3) := Try.underlying22
  have hsz : (Try.prog.info? 3).map (·.size) = some 1 := by kernel_rfl
  by_cases h0 : cs.length = 0
  · obtain rfl : cs = [] := List.eq_nil_of_length_eq_zero h0
    have hrun := run_copy_none (P := Try.prog) w 22 22 o.type 3 dp sp dLen dCap sLen sCap hu hsz (by simpa using hn.symm)
    unfold Oper.wp
    simp [execOp, ho, resolve, invoke, builtin, hd, hs, hrun, Result.andThen]
    exact h w (by simpa [splice] using hg) (World.grownBy.refl w _)
  · obtain ⟨rfl, ad, rfl, hsrc⟩ := hpos (by omega)
    have hrun := run_copy_row (P := Try.prog) w 22 22 o.type 3 g off dLen dCap ad sLen sCap (ics cur).toArray t (ics cs) hu hsz hg (by rw [ics_length]; exact hn)
      (fun j v hv => by
        have hj : j < cs.length := by
          have := (List.getElem?_eq_some_iff.1 hv).1
          rwa [ics_length] at this
        rw [ics_get cs j hj] at hv
        rw [← hv]
        exact hsrc j hj) (by simpa [ics_length] using hfit) (fun v hv => by simp only [ics, List.mem_map] at hv; obtain ⟨x, _, rfl⟩ := hv; rfl)
    unfold Oper.wp
    simp [execOp, ho, resolve, invoke, builtin, hd, hs, hrun, Result.andThen]
    rw [ics_length]
    refine h _ ?_ ⟨rfl, rfl, rfl, by simp [World.setRow], fun k hk hne => setRow_other w g k _ (by intro e; exact hne (by rw [e]))⟩
    have e : (ics (splice cur off cs)).toArray = ((ics cur).toArray.toList.take off ++ (ics cs ++ (ics cur).toArray.toList.drop (off + (ics cs).length))).toArray := by
      rw [ics_splice]
      rfl
    rw [e]
    simpa [ics_length] using setRow_heap w g (ics cur).toArray _ t _ hg
theorem step_copyR {ops : Array Oper} {o : Oper} {a : Act} {w : World} {K : Act → World → Prop} {Q : Exit → Act → World → Prop} {E : Prop} (hgd : o.guard = none) (d s : Operand)
    (ho : o.op = .call { callee := .builtin .copy, args := #[d, s], argTypes := #[22, 22] })
    (dp sp : Option Addr) (dLen dCap sLen sCap : Nat) (hd : a.eval d = .slice dp dLen dCap) (hs : a.eval s = .slice sp sLen sCap)
    (g off : Nat) (cur : List Int) (t : TypeId) (hg : w.heap[g]? = some (.cells (ics cur).toArray t (0, 0))) (cs : List Int) (hn : cs.length = Nat.min sLen dLen)
    (hpos : 0 < cs.length → dp = some ⟨g, off, none⟩ ∧ ∃ ad, sp = some ad ∧ ∀ j, j < cs.length → w.cell? (ad.add j) = some (.int .i64 (cs.getD j 0)))
    (hfit : off + cs.length ≤ cur.length)
    (h : ∀ w', w'.heap[g]? = some (.cells (ics (splice cur off cs)).toArray t (0, 0)) → w.grownBy w' (some g) → K (a.put o.dst (goInt cs.length)) w') :
    if Region.wanted o (yielded ops a.tmps) = true then Oper.wp Try.prog o a w K Q else E := by
  have hw : Region.wanted o (yielded ops a.tmps) = true := by simp [Region.wanted, hgd]
  rw [if_pos hw]
  exact wp_copyR d s ho dp sp dLen dCap sLen sCap hd hs g off cur t hg cs hn hpos hfit h
theorem wpList_copyR {ops : Array Oper} {rest : List Oper} {o : Oper} {a : Act} {w : World} {Q : Exit → Act → World → Prop} (hgd : o.guard = none) (d s : Operand)
    (ho : o.op = .call { callee := .builtin .copy, args := #[d, s], argTypes := #[22, 22] })
    (dp sp : Option Addr) (dLen dCap sLen sCap : Nat) (hd : a.eval d = .slice dp dLen dCap) (hs : a.eval s = .slice sp sLen sCap)
    (g off : Nat) (cur : List Int) (t : TypeId) (hg : w.heap[g]? = some (.cells (ics cur).toArray t (0, 0))) (cs : List Int) (hn : cs.length = Nat.min sLen dLen)
    (hpos : 0 < cs.length → dp = some ⟨g, off, none⟩ ∧ ∃ ad, sp = some ad ∧ ∀ j, j < cs.length → w.cell? (ad.add j) = some (.int .i64 (cs.getD j 0)))
    (hfit : off + cs.length ≤ cur.length)
    (h : ∀ w', w'.heap[g]? = some (.cells (ics (splice cur off cs)).toArray t (0, 0)) → w.grownBy w' (some g) → wpList Try.prog ops Q rest (a.put o.dst (goInt cs.length)) w') :
    wpList Try.prog ops Q (o :: rest) a w :=
  wpList_plain hgd fun _ hK => wp_copyR d s ho dp sp dLen dCap sLen sCap hd hs g off cur t hg cs hn hpos hfit fun w' h1 h2 => hK _ _ (h w' h1 h2)

theorem ics_one (L : List Int) : (ics L).toArray.all (·.oneCell') = true := by
  rw [Array.all_eq_true_iff_forall_mem]
  intro v hv
  simp only [ics, List.mem_toArray, List.mem_map] at hv
  obtain ⟨x, _, rfl⟩ := hv
  rfl
def Blk (w : World) (g : Nat) (t : TypeId) (L : List Int) : Prop := w.heap[g]? = some (.cells (ics L).toArray t (0, 0))
theorem Blk.new (w : World) (t : TypeId) (L : List Int) : Blk (w.alloc (.cells (ics L).toArray t)) w.heap.size t L := heap_alloc_new w _
theorem sl_pos {w : World} {B : Nat} {A : Option Addr} {l : List Int} {a0 : Addr} (h : SlI w B A l) : 0 < l.length → some a0 = some a0 ∧ ∃ ad, A = some ad ∧ ∀ j, j < l.length → w.cell? (ad.add j) = some (.int .i64 (l.getD j 0)) := by
  intro h0
  obtain ⟨b, off, e, _, hc⟩ := h h0
  refine ⟨rfl, _, e, fun j hj => ?_⟩
  rw [Addr.add_lit]
  exact hc j hj
theorem Blk.cell {w : World} {g : Nat} {t : TypeId} {L : List Int} (h : Blk w g t L) (i : Nat) (hi : i < L.length) : w.cell? ⟨g, i, none⟩ = some (.int .i64 (L.getD i 0)) := by
  rw [cell_of_row w g i (ics L).toArray t (0, 0) h]
  have := ics_get L i hi
  simpa using this
set_option maxRecDepth 100000 in
set_option maxHeartbeats 3200000 in
theorem bits_Mul (n : Nat) (hn : n ≤ 12) (w : World) : Calls Try.prog 66 #[.int .u64 1, .int .u64 n] w fun e w' => e = .returned (.tuple #[.int .u64 0, .int .u64 n]) ∧ w = w' := by
  have h : n = 0 ∨ n = 1 ∨ n = 2 ∨ n = 3 ∨ n = 4 ∨ n = 5 ∨ n = 6 ∨ n = 7 ∨ n = 8 ∨ n = 9 ∨ n = 10 ∨ n = 11 ∨ n = 12 := by omega
  rcases h with rfl | rfl | rfl | rfl | rfl | rfl | rfl | rfl | rfl | rfl | rfl | rfl | rfl
  all_goals go_enter Try.func66, Try.ntmps66
  all_goals go_wp2
  all_goals go_ret2
  all_goals exact ⟨rfl, rfl⟩

/-- d ones of n, zeros behind them -/
def onesL (n d : Nat) : List Int := List.replicate d 1 ++ List.replicate (n - d) 0
theorem onesL_length (n d : Nat) (h : d ≤ n) : (onesL n d).length = n := by simp [onesL]; omega
theorem onesL_zero (n : Nat) : onesL n 0 = List.replicate n 0 := by simp [onesL]
theorem onesL_all (n : Nat) : onesL n n = List.replicate n 1 := by simp [onesL]
theorem onesL_splice (n d m : Nat) (h : d + m ≤ n) : splice (onesL n d) d (List.replicate m 1) = onesL n (d + m) := by
  unfold splice onesL
  rw [List.take_append_of_le_length (by simp), List.take_of_length_le (by simp), List.length_replicate, List.drop_append, List.drop_of_length_le (by simp)]
  simp only [List.length_replicate, List.nil_append, List.drop_replicate]
  rw [← List.append_assoc, List.replicate_append_replicate]
  congr 2
  omega
theorem onesL_get (n d j : Nat) (h : j < d) : (onesL n d).getD j 0 = 1 := by
  unfold onesL
  simp only [List.getD_eq_getElem?_getD]
  rw [List.getElem?_append_left (by simpa using h), List.getElem?_replicate, if_pos h]
  rfl
theorem Blk.of_own {w : World} {base g n : Nat} {t : TypeId} {L : List Int} (h : w.ownsRow base t 1 (.slice (some ⟨g, 0, none⟩) n n) n (ics L)) : Blk w g t L := by
  have h1 := h.1
  rw [ics_length] at h1
  rcases h.2 with ⟨h', _⟩ | ⟨g', cap, cur, h', _, hh, _, _, hs, ht⟩
  · cases h'
  · cases h'
    have e : cur = (ics L).toArray := by
      rw [← ht]
      apply Array.ext'
      rw [List.take_of_length_le]
      simp; omega
    rw [e] at hh
    exact hh
theorem Blk.own {w : World} {base g n : Nat} {t : TypeId} {L : List Int} (h : Blk w g t L) (hL : L.length = n) (hn : n ≤ 1000) (hb : base ≤ g) : w.ownsRow base t 1 (.slice (some ⟨g, 0, none⟩) n n) n (ics L) := by
  refine ⟨by rw [ics_length, hL]; omega, .inr ⟨g, n, _, rfl, hb, h, Nat.le_refl _, by unfold maxLen; omega, by simp [ics_length, hL], ?_⟩⟩
  rw [List.take_of_length_le]
  simp [ics_length, hL]

set_option maxRecDepth 100000 in
set_option maxHeartbeats 3200000 in
theorem slices_Repeat1 (g n : Nat) (w : World) (h0 : w.cell? ⟨g, 0, none⟩ = some (.int .i64 1)) (hn1 : 1 ≤ n) (hn12 : n ≤ 12) :
    Calls Try.prog 50 #[.slice (some ⟨g, 0, none⟩) 1 1, .int .i64 n] w (GivI w (List.replicate n 1)) := by
  have hgw : g < w.heap.size := World.block_lt_of_cell? w _ h0
  obtain ⟨i0', hii, hz0, hz1, hz3⟩ := info_parts infoI
  have hbytes : i0'.bytes * n ≤ 281474976710656 := by rw [hz3]; omega
  have hmax : n ≤ maxLen := by unfold maxLen; omega
  have n0 : (0 : Int) ≤ (n : Int) := by omega
  have n1 : (n : Int) ≤ 12 := by omega
  have k0 : (1 : Int) ≤ (n : Int) := by omega
  go_enter Try.func50, Try.ntmps50
  go_wp2_with fail
  refine (bits_Mul n hn12 _).mono ?_
  rintro e w1 ⟨rfl, rfl⟩
  go_wp2_with (first
    | (at_make; refine wpList_make_full _ rfl _ _ _ rfl w.heap.size 3 i0' (.int .i64 0) 1 Try.underlying22 hii hz0 hz1 _ _ _ _ n rfl rfl rfl rfl hbytes hmax (Nat.le_refl _) ?_
       intro w3 hown3 hgrow3
       have hb3 : Below w.heap.size w w3 := (Below.refl _ _).grown hgrow3 (Nat.le_refl _) (fun _ e => by cases e)
       have e1 : (madeCells (Value.int .i64 0).cells (n * 1)).toList = ics (onesL n 0) := by
         rw [Nat.mul_one]
         show (madeCells #[Value.int .i64 0] n).toList = _
         rw [toList_madeCells_one]
         simp [ics, onesL]
       rw [e1] at hown3
       have HB3 := Lib.hid (Blk.of_own hown3)
       have HS3 : Hid (SlI w3 w.heap.size (some ⟨g, 0, none⟩) [1]) := Lib.hid (fun _ => ⟨g, 0, rfl, hgw, fun j hj => by
         obtain rfl : j = 0 := by simpa using hj
         exact cell_kept hb3 h0⟩)
       have Hb3 := Lib.hid hb3
       clear hown3 hgrow3 e1 hb3)
    | (refine wpList_copyR rfl (.tmp 31) (.tmp 32) rfl (some ⟨w.heap.size, 0, none⟩) (some ⟨g, 0, none⟩) n n 1 1 rfl rfl w.heap.size 0 (onesL n 0) 3 HB3.out [1] (by show 1 = min 1 n; omega) (sl_pos HS3.out) (by rw [onesL_length n 0 (Nat.zero_le _)]; simpa using hn1) ?_
       intro w4 h4 g4
       have e4 := onesL_splice n 0 1 (by omega)
       rw [show (List.replicate 1 (1 : Int)) = [1] from rfl] at e4
       rw [e4] at h4
       have H4 : Hid (Blk w4 w.heap.size 3 (onesL n 1)) := Lib.hid h4
       have Hb4 := Lib.hid (below_grown Hb3.out g4 (Nat.le_refl _) (fun k hk => by injection hk with hk; omega))
       clear h4 g4 e4 HB3 HS3 Hb3))
  clear h0 hgw hii hz0 hz1 hz3 hbytes hmax
  go_loopw [8] (fun v wr => ∃ d : Nat, 1 ≤ d ∧ d ≤ n ∧ v = .int .i64 d ∧ Blk wr w.heap.size 3 (onesL n d) ∧ Below w.heap.size w wr) (fun v _ => n - (intOf v).toNat)
  case atStart => exact ⟨1, Nat.le_refl _, hn1, rfl, H4.out, Hb4.out⟩
  case round =>
    clear H4 Hb4
    obtain ⟨d, hd1, hdn, rfl, hblk, hb⟩ := hrel
    by_cases hlt : d < n
    · obtain ⟨m, hm⟩ : ∃ m, m = min d (n - d) := ⟨_, rfl⟩
      have hm1 : 1 ≤ m := by omega
      have HH := Lib.hid hblk
      have Hb := Lib.hid hb
      have Hm : Hid ((List.replicate m (1 : Int)).length = min d (n - d)) := Lib.hid (by rw [List.length_replicate, hm])
      have HC : Hid (∀ j, j < m → wr.cell? ⟨w.heap.size, 0 + j, none⟩ = some (.int .i64 ((List.replicate m (1 : Int)).getD j 0))) := Lib.hid fun j hj => by
        have := hblk.cell j (by rw [onesL_length n d hdn]; omega)
        rw [onesL_get n d j (by omega)] at this
        have e : (List.replicate m (1 : Int)).getD j 0 = 1 := by simp [List.getD_eq_getElem?_getD, List.getElem?_replicate, hj]
        rw [e, Nat.zero_add]
        exact this
      have Hf : Hid (d + (List.replicate m (1 : Int)).length ≤ (onesL n d).length) := Lib.hid (by rw [onesL_length n d hdn, List.length_replicate]; omega)
      have Hsp := Lib.hid (onesL_splice n d m (by omega))
      have d0 : (0 : Int) ≤ (d : Int) := by omega
      have d1 : (d : Int) ≤ (n : Int) := by omega
      have d2 : (d : Int) < (n : Int) := by omega
      have hmd : d + m ≤ n := by omega
      have hnd : ¬ n = d := by omega
      have hmn : (m : Int) ≤ 12 := by omega
      have hmw : IntKind.i64.wrap ((d : Int) + (m : Int)) = (d : Int) + (m : Int) := IntWalk.i64_in _ (by omega)
      have hmm : m ≤ d := by omega
      clear hblk hb hm
      go_wp2
      go_region_held3 (fun w' => Below w.heap.size w w')
        (first
          | assumption
          | exact Hb.out.drew
          | exact hb5)
        (first
          | (refine step_copyR rfl _ _ rfl _ _ _ _ _ _ rfl rfl w.heap.size d (onesL n d) 3 HH.out (List.replicate m 1) Hm.out (fun _ => ⟨by simp [hnd], _, rfl, fun j hj => by rw [Addr.add_lit]; exact HC.out j (by simpa using hj)⟩) Hf.out ?_
             intro w5 h5 g5
             have hb5 := below_grown Hb.out.drew g5 (Nat.le_refl _) (fun k hk => by injection hk with hk; omega)))
      rename_i hS5
      rw [Hsp.out] at h5
      have H5 : Hid (Blk w5 w.heap.size 3 (onesL n (d + m))) := Lib.hid h5
      have HS5 := Lib.hid hS5
      clear h5 g5 hS5 HH Hb Hm HC Hf Hsp
      go_wp2
      go_roundw
      case rel => exact ⟨d + m, by omega, by omega, by go_num, H5.out, HS5.out⟩
      case measure => simp [intOf]; omega
    · obtain rfl : d = n := by omega
      have hE : GivI w (List.replicate d 1) (.returned (.slice (some ⟨w.heap.size, 0, none⟩) d d)) wr := by
        rw [onesL_all] at hblk
        have e : (List.replicate d (1 : Int)).length = d := by simp
        exact ⟨some ⟨w.heap.size, 0, none⟩, d, by rw [e], by rw [e]; exact hblk.own e (by omega) (Nat.le_refl _), hb⟩
      have HE := Lib.hid hE
      clear hE hblk hb
      go_wp2
      go_ret
      exact HE.out

end Go.Proofs.Ytkekjcfhkecggaa.Rep
