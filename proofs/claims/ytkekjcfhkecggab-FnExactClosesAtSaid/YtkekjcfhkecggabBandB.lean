/- The program's bandBelow. -/
import Derived.Test.YtkekjcfhkecggabBandI
namespace Go.Proofs.Ytkekjcfhkecggab
set_option linter.unusedVariables false
open Go.RowKit

theorem pad_get (q : List Int) (i : Nat) (h : i < q.length) : (pad q).getD i 0 = q.getD i 0 := by
  unfold pad
  simp only [List.getD_eq_getElem?_getD]
  rw [List.getElem?_append_left h]
theorem pad_set (q : List Int) (x : Int) (h : q.length < 12) : (pad q).set q.length x = pad (q ++ [x]) := by
  unfold pad
  rw [List.set_append_right _ _ (Nat.le_refl _), Nat.sub_self, List.length_append, show 12 - q.length = (12 - (q.length + [x].length)) + 1 by simp; omega, List.replicate_succ, List.set_cons_zero, List.append_assoc]
  rfl
theorem pad_nil : pad [] = List.replicate 12 0 := rfl
theorem Blk.cell {w : World} {g : Nat} {t : TypeId} {L : List Int} (h : Blk w g t L) (i : Nat) (hi : i < L.length) : w.cell? ⟨g, i, none⟩ = some (.int .i64 (L.getD i 0)) := by
  rw [cell_of_row w g i (ics L).toArray t (0, 0) h]
  have := ics_get L i hi
  simpa using this
theorem results_cell_tmp {P : Program} {fn : Func} {p q : Tmp} {ty : TypeId} (h : fn.results = #[.cell p ty, .tmp q]) (tmps : Array Value) (w : World) (g : Nat) (t : TypeId) (cs : Array Value) (fr : Nat × Nat) (d : TypeDesc)
    (hp : tmps.getD p undef = .pointer (some ⟨g, 0, none⟩)) (hg : w.heap[g]? = some (.cells cs t fr))
    (hu : P.underlying ty = some d) (hd : (match d with | .struct _ | .array _ _ => true | _ => false) = true) (hi : (P.info? ty).map (·.size) = some cs.size) :
    (results fn tmps).run P w = .ok (.tuple #[.agg cs, tmps.getD q undef]) w := by
  have hp' : tmps[p]?.getD undef = .pointer (some ⟨g, 0, none⟩) := by simpa using hp
  simp [results, h, hp', asAddr, run_loadVar_row w g t ty cs fr d hg hu hd hi]

def outN (a r : List Int) : List Int := if nextOk a r = true then pad (xsN a r r.length) else List.replicate 12 0
def BelowEnd (a r : List Int) (w : World) (e : Ending) (w' : World) : Prop := e = .returned (.tuple #[.agg (ics (outN a r)).toArray, .bool (nextOk a r)]) ∧ Below w.heap.size w w'
theorem belowEnd_no {a r : List Int} {w w' : World} (h : nextOk a r = false) (hb : Below w.heap.size w w') : BelowEnd a r w (.returned (.tuple #[.agg (ics (List.replicate 12 0)).toArray, .bool false])) w' := by
  unfold BelowEnd outN
  rw [h]
  exact ⟨rfl, hb⟩
theorem belowEnd_yes {a r : List Int} {w w' : World} (h : nextOk a r = true) (hb : Below w.heap.size w w') : BelowEnd a r w (.returned (.tuple #[.agg (ics (pad (xsN a r r.length))).toArray, .bool true])) w' := by
  unfold BelowEnd outN
  rw [h]
  exact ⟨rfl, hb⟩
/-- the row below in the making: t numbers told; s: the first block of the call -/
def BelAt (w : World) (a r : List Int) (t : Nat) (wr : World) : Prop :=
  Band wr w.heap.size (w.heap.size + 3) (pad (xsN a r t)) ∧ Blk wr w.heap.size 47 (pad a) ∧ Blk wr (w.heap.size + 1) 47 (pad r) ∧ Blk wr (w.heap.size + 2) 47 (List.replicate 12 0) ∧ Below w.heap.size w wr

theorem BelAt.drewN {w : World} {a r : List Int} {t : Nat} {wr : World} (h : BelAt w a r t wr) (k : Nat) : BelAt w a r t (wr.drewN k) :=
  ⟨own_drewN h.1 k, h.2.1, h.2.2.1, h.2.2.2.1, below_drewN h.2.2.2.2 k⟩
theorem BelAt.start (w : World) (a r : List Int) : BelAt w a r 0 ((((w.alloc (.cells (ics (pad a)).toArray 47)).alloc (.cells (ics (pad r)).toArray 47)).alloc (.cells (ics (List.replicate 12 0)).toArray 47)).alloc (.cells (ics (List.replicate 12 0)).toArray 47)) := by
  have e2 : ((w.alloc (.cells (ics (pad a)).toArray 47)).alloc (.cells (ics (pad r)).toArray 47)).heap.size = w.heap.size + 2 := by simp
  have e3 : (((w.alloc (.cells (ics (pad a)).toArray 47)).alloc (.cells (ics (pad r)).toArray 47)).alloc (.cells (ics (List.replicate 12 0)).toArray 47)).heap.size = w.heap.size + 3 := by simp
  have b2 := Blk.new ((w.alloc (.cells (ics (pad a)).toArray 47)).alloc (.cells (ics (pad r)).toArray 47)) 47 (List.replicate 12 0)
  rw [e2] at b2
  have b3 := Blk.new (((w.alloc (.cells (ics (pad a)).toArray 47)).alloc (.cells (ics (pad r)).toArray 47)).alloc (.cells (ics (List.replicate 12 0)).toArray 47)) 47 (List.replicate 12 0)
  rw [e3] at b3
  refine ⟨Band.of_heap b3 rfl (by omega), ((Blk.new w _ _).alloc _ |>.alloc _).alloc _, ((Blk.new1 w _ _ _).alloc _).alloc _, b2.alloc _, ?_⟩
  exact ((((Below.refl _ _).alloc (Nat.le_refl _) _).alloc (by simp) _).alloc (by rw [e2]; omega) _).alloc (by rw [e3]; omega) _
theorem BelAt.step {w : World} {a r : List Int} {t : Nat} {wr : World} (h : BelAt w a r t wr) (ht : t < 12) :
    BelAt w a r (t + 1) (wr.setCell ⟨w.heap.size + 3, t, none⟩ (.int .i64 (xN a r t))) := by
  obtain ⟨o3, k0, k1, k2, hb⟩ := h
  obtain ⟨h1, h2⟩ := o3.set t (xN a r t)
  have hx := xsN_length a r t
  have e : (pad (xsN a r t)).set t (xN a r t) = pad (xsN a r (t + 1)) := by
    have := pad_set (xsN a r t) (xN a r t) (by omega)
    rw [hx] at this
    rw [this, xsN_succ]
  rw [e] at h1
  have hh : BelAt w a r (t + 1) (wr.setCell ⟨w.heap.size + 3, t, none⟩ (.int .i64 (xN a r t))) := ⟨h1, k0.grown h2 (by omega), k1.grown h2 (by omega), k2.grown h2 (by omega), below_grown hb h2 (Nat.le_refl _) (fun k hk => by injection hk with hk; omega)⟩
  exact hh
theorem BelAt.cells {w : World} {a r : List Int} {t : Nat} {wr : World} (h : BelAt w a r t wr) (hlen : a.length = r.length) (hn12 : r.length ≤ 12) (i : Nat) (hi : i < r.length) :
    wr.cell? ⟨w.heap.size, i, none⟩ = some (.int .i64 (a.getD i 0)) ∧ wr.cell? ⟨w.heap.size + 1, i, none⟩ = some (.int .i64 (r.getD i 0)) := by
  obtain ⟨o3, k0, k1, k2, hb⟩ := h
  have g0 := k0.cell i (by rw [pad_length a (by omega)]; omega)
  have g1 := k1.cell i (by rw [pad_length r (by omega)]; omega)
  rw [pad_get a i (by omega)] at g0
  rw [pad_get r i hi] at g1
  exact ⟨g0, g1⟩

set_option maxRecDepth 100000 in
set_option maxHeartbeats 3200000 in
theorem impl_bandBelow (a r : List Int) (w : World) (hlen : a.length = r.length) (hn3 : 3 ≤ r.length) (hn12 : r.length ≤ 12) (ha : rowB a) (hr : rowB r) :
    Calls Try.prog 71 #[.int .i64 r.length, .agg (ics (pad a)).toArray, .agg (ics (pad r)).toArray] w (BelowEnd a r w) := by
  have Ha := Lib.hid ha
  have Hr := Lib.hid hr
  have Hlen := Lib.hid hlen
  have HS := Lib.hid (BelAt.start w a r)
  clear ha hr hlen
  go_enter Try.func71, Try.ntmps71
  go_wp2
  go_loopw [9, 10, 11, 13] (fun _ _ _ i wr => ∃ t : Nat, t ≤ r.length ∧ i = .int .i64 t ∧ okUp a r t = true ∧ BelAt w a r t wr) (fun _ _ _ i _ => r.length - (intOf i).toNat)
  case atStart => exact ⟨0, Nat.zero_le _, rfl, rfl, HS.out⟩
  case round =>
    clear HS
    obtain ⟨t, ht, rfl, hu, hB⟩ := hrel
    have hs3 := hB.1.lt.2
    by_cases hlt : t < r.length
    · have hus := okUp_succ a r t
      rw [hu, Bool.true_and] at hus
      have hno := okUp_no a r r.length t hlt
      have hm : (t + 1) % r.length < r.length := Nat.mod_lt _ (by omega)
      have hmi : ((t : Int) + 1) % (r.length : Int) = (((t + 1) % r.length : Nat) : Int) := by
        rw [show (t : Int) + 1 = ((t + 1 : Nat) : Int) by omega]
        rfl
      have g0 := (hB.cells Hlen.out hn12 t hlt).2
      have g1 := (hB.cells Hlen.out hn12 _ hm).2
      have bx := Hr.out t hlt
      have by' := Hr.out _ hm
      have bd := Ha.out _ (Nat.lt_of_lt_of_eq hm Hlen.out.symm)
      have hcd : ∀ wd : World, BelAt w a r t wd → wd.cell? ⟨w.heap.size, (t + 1) % r.length, none⟩ = some (.int .i64 (a.getD ((t + 1) % r.length) 0)) := fun wd h => (h.cells Hlen.out hn12 _ hm).1
      have hokN : okN a r t = (decide ((r.getD t 0 * r.getD ((t + 1) % r.length) 0 - 1) % a.getD ((t + 1) % r.length) 0 = 0) && inB ((r.getD t 0 * r.getD ((t + 1) % r.length) 0 - 1) / a.getD ((t + 1) % r.length) 0) 1 10000) := rfl
      have hxN : xN a r t = (r.getD t 0 * r.getD ((t + 1) % r.length) 0 - 1) / a.getD ((t + 1) % r.length) 0 := rfl
      generalize (t + 1) % r.length = m at *
      generalize r.getD t 0 = x at *
      generalize r.getD m 0 = y at *
      generalize a.getD m 0 = d at *
      have pb := prod_bd bx by'
      have qb := quo_bd (p := x * y - 1) (d := d) (by omega) bd.1
      obtain ⟨p1, p2⟩ := pb
      obtain ⟨q1, q2, q3, q4⟩ := qb
      obtain ⟨d1, d2⟩ := bd
      have t1 : (t : Int) < (r.length : Int) := by omega
      have t2 : (t : Int) ≤ 11 := by omega
      have n1 : (1 : Int) ≤ (r.length : Int) := by omega
      have n2 : (r.length : Int) ≤ 12 := by omega
      have m0 : (0 : Int) ≤ (m : Int) := by omega
      have m1 : (m : Int) < (r.length : Int) := by omega
      have m2 : (m : Int) ≤ 11 := by omega
      have Hus := Lib.hid hus
      have Hno := Lib.hid hno
      have HokN := Lib.hid hokN
      have HxN := Lib.hid hxN
      have HB := Lib.hid hB
      have Hcd := Lib.hid hcd
      clear hus hno hokN hxN hB bx by' hu hcd
      go_wp2
      go_quiet (fail)
      generalize hwd : wr.drewN nq = wd
      have hD : BelAt w a r t wd := by rw [← hwd]; exact HB.out.drewN nq
      have hds : w.heap.size + 3 < wd.heap.size := hD.1.lt.2
      have g2 := Hcd.out wd hD
      have HD := Lib.hid hD
      clear hwd HB hs3 g0 g1 hD Hcd
      by_cases hr0 : (x * y - 1) % d = 0
      · have hxl := xsN_length a r t
        have c3 := HD.out.1.cell t (by omega)
        have f3 := HD.out.1.fro t
        have hB5 := HD.out.step (by omega)
        have c5 := hB5.1.cell t (by omega)
        have ex : (pad (xsN a r (t + 1))).getD t 0 = xN a r t := by
          rw [pad_get _ _ (by rw [xsN_length]; omega), xsN_succ]
          simp [hxl]
        rw [ex] at c5
        rw [HxN.out] at hB5 c5
        have hs5 := hB5.1.lt.2
        generalize (pad (xsN a r t)).getD t 0 = z at *
        have HB5 := Lib.hid hB5
        clear hB5 hxl ex HD
        cases hi : inB ((x * y - 1) / d) 1 10000
        · have hnn := Hno.out (by rw [HokN.out, hi, Bool.and_false])
          have Hnn := Lib.hid hnn
          have hv : ¬ (1 ≤ (x * y - 1) / d ∧ (x * y - 1) / d ≤ 10000) := fun h => by rw [inB_iff'.2 h] at hi; cases hi
          have Hv := Lib.hid hv
          clear hnn Hno Hus HokN HxN hi hv
          have Hz := Lib.hid HB5.out.2.2.2.1
          have Hb := Lib.hid HB5.out.2.2.2.2
          by_cases v1 : (x * y - 1) / d < 1
          · go_wp2_with (refine wpList_store_band rfl (.tmp 6) (.tmp 52) rfl rfl (w.heap.size + 2) (List.replicate 12 0) rfl rfl 47 (List.replicate 12 0) Hz.out rfl rfl ?_; intro w5 h5 g5; have hb5 := below_grown Hb.out g5 (Nat.le_refl _) (fun k hk => by injection hk with hk; omega); have H5 := Lib.hid h5; clear g5 h5)
            try simp only [Exit.inBlock, Exit.then]
            exact bodyPost_ret (v := .tuple #[.agg (ics (List.replicate 12 0)).toArray, .bool false]) (results_cell_tmp (fn := Try.f71) rfl _ w5 (w.heap.size + 2) 47 _ (0, 0) _ rfl H5.out Try.underlying47 rfl (by rw [band_size]; simp [ics_length])) rfl (belowEnd_no Hnn.out hb5)
          · have v2 : 10000 < (x * y - 1) / d := by
              have := Hv.out
              omega
            go_wp2_with (refine wpList_store_band rfl (.tmp 6) (.tmp 52) rfl rfl (w.heap.size + 2) (List.replicate 12 0) rfl rfl 47 (List.replicate 12 0) Hz.out rfl rfl ?_; intro w5 h5 g5; have hb5 := below_grown Hb.out g5 (Nat.le_refl _) (fun k hk => by injection hk with hk; omega); have H5 := Lib.hid h5; clear g5 h5)
            try simp only [Exit.inBlock, Exit.then]
            exact bodyPost_ret (v := .tuple #[.agg (ics (List.replicate 12 0)).toArray, .bool false]) (results_cell_tmp (fn := Try.f71) rfl _ w5 (w.heap.size + 2) 47 _ (0, 0) _ rfl H5.out Try.underlying47 rfl (by rw [band_size]; simp [ics_length])) rfl (belowEnd_no Hnn.out hb5)
        · obtain ⟨v1, v2⟩ := inB_iff'.1 hi
          have hyes := Hus.out
          rw [HokN.out, hi, Bool.and_true, decide_eq_true hr0] at hyes
          have Hyes := Lib.hid hyes
          clear hyes HxN Hno HokN Hus hi
          go_wp2
          go_roundw
          case rel => exact ⟨t + 1, by omega, by go_num, Hyes.out, HB5.out⟩
          case measure => simp [intOf]; omega
      · have hnn := Hno.out (by rw [HokN.out, decide_eq_false hr0, Bool.false_and])
        have Hnn := Lib.hid hnn
        have Hz := Lib.hid HD.out.2.2.2.1
        have Hb := Lib.hid HD.out.2.2.2.2
        clear hnn Hno Hus HokN HxN HD
        go_wp2_with (refine wpList_store_band rfl (.tmp 6) (.tmp 34) rfl rfl (w.heap.size + 2) (List.replicate 12 0) rfl rfl 47 (List.replicate 12 0) Hz.out rfl rfl ?_; intro w5 h5 g5; have hb5 := below_grown Hb.out g5 (Nat.le_refl _) (fun k hk => by injection hk with hk; omega); have H5 := Lib.hid h5; clear g5 h5)
        try simp only [Exit.inBlock, Exit.then]
        exact bodyPost_ret (v := .tuple #[.agg (ics (List.replicate 12 0)).toArray, .bool false]) (results_cell_tmp (fn := Try.f71) rfl _ w5 (w.heap.size + 2) 47 _ (0, 0) _ rfl H5.out Try.underlying47 rfl (by rw [band_size]; simp [ics_length])) rfl (belowEnd_no Hnn.out hb5)
    · obtain rfl : t = r.length := by omega
      have Hlp := Lib.hid (pad_length (xsN a r r.length) (by rw [xsN_length]; exact hn12))
      have Hh := Lib.hid hB.1.heap
      have Hz := Lib.hid hB.2.2.2.1
      have Hb := Lib.hid hB.2.2.2.2
      have Hu := Lib.hid hu
      clear hB hu
      go_wp2_with (first
        | (refine wpList_load_row rfl 47 (.tmp 8) rfl (w.heap.size + 3) rfl 47 (ics (pad (xsN a r r.length))).toArray (0, 0) _ Hh.out Try.underlying47 rfl (by rw [band_size]; simp [ics_length, Hlp.out]) ?_)
        | (refine wpList_store_band rfl (.tmp 6) (.tmp 54) rfl rfl (w.heap.size + 2) (pad (xsN a r r.length)) rfl rfl 47 (List.replicate 12 0) Hz.out rfl Hlp.out ?_
           intro w5 h5 g5
           have hb5 := below_grown Hb.out g5 (Nat.le_refl _) (fun k hk => by injection hk with hk; omega)
           have H5 := Lib.hid h5
           clear g5 h5))
      exact bodyPost_ret (v := .tuple #[.agg (ics (pad (xsN a r r.length))).toArray, .bool true]) (results_cell_tmp (fn := Try.f71) rfl _ w5 (w.heap.size + 2) 47 _ (0, 0) _ rfl H5.out Try.underlying47 rfl (by rw [band_size]; simp [ics_length, Hlp.out])) rfl (belowEnd_yes Hu.out hb5)

end Go.Proofs.Ytkekjcfhkecggab
