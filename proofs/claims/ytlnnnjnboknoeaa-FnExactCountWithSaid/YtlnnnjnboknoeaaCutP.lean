/- The program's cutPiece: the first piece that has both corners is parted; where none has, a panic. -/
import Derived.Test.YtlnnnjnboknoeaaCutI
import Derived.IntWalk
import Derived.Deep.RegionHeld3
namespace Go.Proofs.Ytlnnnjnboknoeaa
set_option linter.unusedVariables false
open Go.RowKit

theorem OwnPS.drewN {w : World} {base : Nat} {A : Option Addr} {c : Nat} {rs : List Value} {Ls : List (List Int)} (h : OwnPS w base A c rs Ls) (z : Nat) : OwnPS (w.drewN z) base A c rs Ls := h

theorem PcR.of_row {w : World} {base n c : Nat} {A : Option Addr} {l : List Int} (hn : l.length = n) (h0 : 0 < n) (h : w.ownsRow base 3 1 (.slice A n c) n (ics l)) : PcR w base (.slice A n c) l := by
  subst hn
  have hc := own_capP h
  obtain ⟨g, cap, hv, _, _⟩ := h.form h0
  cases hv
  exact PcR.of_own h hc
theorem cutS_at {Ls : List (List Int)} {d : Int × Int} {k : Nat} (hk : k < Ls.length) (hno : ∀ j, j < k → hasB d (rowOf Ls j) = false) (h : hasB d (rowOf Ls k) = true) : cutS Ls d = some (Ls.set k (innP (rowOf Ls k) d) ++ [outP (rowOf Ls k) d]) := by
  unfold cutS
  rw [hasB_take hk hno h]
theorem cutS_not {Ls : List (List Int)} {d : Int × Int} (hno : ∀ j, j < Ls.length → hasB d (rowOf Ls j) = false) : cutS Ls d = none := by
  unfold cutS
  rw [hasB_none hno]

set_option maxRecDepth 100000 in
set_option maxHeartbeats 3200000 in
theorem impl_cutPiece (base c : Nat) (A : Option Addr) (rs : List Value) (Ls : List (List Int)) (x y : Int) (w : World) (ho : OwnPS w base A c rs Ls) (hbase : base ≤ w.heap.size) (hN : Ls.length ≤ 100)
    (hrow : ∀ j, j < Ls.length → (rowOf Ls j).Pairwise (· < ·) ∧ (rowOf Ls j).length ≤ 12) (hxy : x < y) :
    Calls Try.prog 95 #[.slice A Ls.length c, .agg #[.int .i64 x, .int .i64 y]] w (CpE base w x y (cutS Ls (x, y))) := by
  obtain ⟨N, hNl⟩ : ∃ N, Ls.length = N := ⟨_, rfl⟩
  have HNl := Lib.hid hNl
  have HO := Lib.hid ho
  have HR := Lib.hid hrow
  rw [hNl] at hN ⊢
  clear hNl ho hrow
  go_enter Try.func95, Try.ntmps95
  go_wp2
  go_loopw [5, 6, 7, 8, 11] (fun _ _ _ _ i wr => ∃ k z : Nat, k ≤ N ∧ i = .int .i64 k ∧ wr = (w.alloc (.cells #[.int .i64 x, .int .i64 y] 49)).drewN z ∧ ∀ j, j < k → hasB (x, y) (rowOf Ls j) = false) (fun _ _ _ _ i _ => N - (intOf i).toNat)
  case atStart => exact ⟨0, 0, Nat.zero_le _, rfl, rfl, fun j hj => by omega⟩
  case round =>
    obtain ⟨k, z, hk, rfl, rfl, hno⟩ := hrel
    have Hno := Lib.hid hno
    clear hno
    have q0 : ((w.alloc (.cells #[.int .i64 x, .int .i64 y] 49)).drewN z).cell? ⟨w.heap.size, 0, none⟩ = some (.int .i64 x) := by simp [go_sem]
    have q1 : ((w.alloc (.cells #[.int .i64 x, .int .i64 y] 49)).drewN z).cell? ⟨w.heap.size, 1, none⟩ = some (.int .i64 y) := by simp [go_sem]
    have hbz : Below w.heap.size w ((w.alloc (.cells #[.int .i64 x, .int .i64 y] 49)).drewN z) := below_drewN ((Below.refl _ _).alloc (Nat.le_refl _) _) z
    have oz : OwnPS ((w.alloc (.cells #[.int .i64 x, .int .i64 y] 49)).drewN z) base A c rs Ls := (HO.out.alloc _).drewN z
    have hsz : ((w.alloc (.cells #[.int .i64 x, .int .i64 y] 49)).drewN z).heap.size = w.heap.size + 1 := by simp [go_sem]
    have hwz : ∀ q, ((w.alloc (.cells #[.int .i64 x, .int .i64 y] 49)).drewN z).drewN q = (w.alloc (.cells #[.int .i64 x, .int .i64 y] 49)).drewN (z + q) := fun q => by rw [World.drewN_drewN]
    have Hwz := Lib.hid hwz
    clear hwz
    generalize (w.alloc (.cells #[.int .i64 x, .int .i64 y] 49)).drewN z = wr at *
    by_cases hlt : k < N
    · obtain ⟨g, hA, hg1, hg2, hc⟩ := oz.outer (by rw [HNl.out]; omega)
      subst hA
      have y0 := hc k (by rw [HNl.out]; exact hlt)
      obtain ⟨gk, ok, ck, ev, hk1, hk2, hlc, hs⟩ := (oz.2.2.1 k (by rw [HNl.out]; exact hlt)).sl
      rw [ev] at y0
      have hrk := HR.out k (by rw [HNl.out]; exact hlt)
      have i0 : (0 : Int) ≤ (k : Int) := by omega
      have i1 : (k : Int) < (N : Int) := by omega
      have Hoz := Lib.hid oz
      have Hs := Lib.hid hs
      have Hev := Lib.hid ev
      have Hrk := Lib.hid hrk
      obtain ⟨m, hm⟩ : ∃ m, (rowOf Ls k).length = m := ⟨_, rfl⟩
      have Hm := Lib.hid hm
      rw [hm] at y0 hlc
      have hm12 : m ≤ 12 := by rw [← hm]; exact hrk.2
      have Hx := Lib.hid fun z' => slices_IndexI_x (some ⟨gk, ok, none⟩) m ck wr.heap.size (rowOf Ls k) x (wr.drewN z') hm hs (by omega)
      have Hy := Lib.hid fun z' => slices_IndexI_x (some ⟨gk, ok, none⟩) m ck wr.heap.size (rowOf Ls k) y (wr.drewN z') hm hs (by omega)
      have hfro := oz.2.1.frozenAt k
      have hpk := oz.2.2.1 k (by rw [HNl.out]; exact hlt)
      have Hpk := Lib.hid hpk
      have Hq0 := Lib.hid q0
      have Hq1 := Lib.hid q1
      clear hc oz hs ev hrk hm hpk
      cases hh : hasB (x, y) (rowOf Ls k)
      · have hnx : ∀ j, j < k + 1 → hasB (x, y) (rowOf Ls j) = false := fun j hj => by
          by_cases e : j = k
          · subst e; exact hh
          · exact Hno.out j (by omega)
        have Hnx := Lib.hid hnx
        by_cases hx : x ∈ rowOf Ls k
        · have hy : y ∉ rowOf Ls k := fun hy => by rw [hasB_iff.2 ⟨hx, hy⟩] at hh; cases hh
          obtain ⟨i, hi, e1, ex⟩ := ixI_yes hx
          rw [e1] at Hx
          rw [ixI_no hy] at Hy
          have t0 : ¬ (i : Int) < 0 := by omega
          clear hnx hx hy hh e1 ex hi hfro
          go_wp2
          go_quiet (first | (go_at_call 114; with_reducible exact Calls.quiet_of (Hx.out _)) | (go_at_call 114; with_reducible exact Calls.quiet_of (Hy.out _)))
          rename_i nq
          go_wp2
          go_roundw
          case rel => exact ⟨k + 1, z + nq, by omega, by go_num, Hwz.out nq, Hnx.out⟩
          case measure => simp [intOf]; omega
        · rw [ixI_no hx] at Hx
          generalize ixI (rowOf Ls k) y = r2 at *
          clear hnx hx hh hfro
          go_wp2
          go_quiet (first | (go_at_call 114; with_reducible exact Calls.quiet_of (Hx.out _)) | (go_at_call 114; with_reducible exact Calls.quiet_of (Hy.out _)))
          rename_i nq
          go_wp2
          go_roundw
          case rel => exact ⟨k + 1, z + nq, by omega, by go_num, Hwz.out nq, Hnx.out⟩
          case measure => simp [intOf]; omega
      · have hmm := hasB_iff.1 hh
        obtain ⟨i, hi, e1, ex⟩ := ixI_yes hmm.1
        obtain ⟨j, hj, e2, ey⟩ := ixI_yes hmm.2
        have hij := sort_of Hrk.out.1 hi hj (by rw [ex, ey]; exact hxy)
        dsimp only at e1 e2 ex ey
        rw [e1] at Hx
        rw [e2] at Hy
        have Hex := Lib.hid ex
        have Hey := Lib.hid ey
        have Hhh := Lib.hid hh
        rw [Hm.out] at hi hj
        clear hmm ex ey hh e1 e2
        have t0 : (0 : Int) ≤ (i : Int) := by omega
        have t1 : (0 : Int) ≤ (j : Int) := by omega
        have t2 : ¬ (i : Int) < 0 := by omega
        have t3 : ¬ (j : Int) < 0 := by omega
        have t4 : (i : Int) ≤ (j : Int) + 1 := by omega
        have t5 : (j : Int) + 1 ≤ (ck : Int) := by omega
        have t6 : (j : Int) + 1 ≤ (m : Int) := by omega
        go_wp2
        go_quiet (first | (go_at_call 114; with_reducible exact Calls.quiet_of (Hx.out _)) | (go_at_call 114; with_reducible exact Calls.quiet_of (Hy.out _)))
        rename_i nq
        go_wp2
        have hst : ∀ q, OwnPS ((wr.drewN q).setCell ⟨g, k, none⟩ (.slice (some ⟨gk, ok + i, none⟩) (j + 1 - i) (j + 1 - i))) base (some ⟨g, 0, none⟩) c (rs.set k (.slice (some ⟨gk, ok + i, none⟩) (j + 1 - i) (j + 1 - i))) (Ls.set k (innP (rowOf Ls k) (x, y))) ∧
            (wr.drewN q).grownBy ((wr.drewN q).setCell ⟨g, k, none⟩ (.slice (some ⟨gk, ok + i, none⟩) (j + 1 - i) (j + 1 - i))) (some g) := fun q => by
          have hp := Hpk.out
          rw [Hev.out] at hp
          have h2 := hp.part i (j + 1 - i) (by rw [Hm.out]; omega)
          rw [← inn_eq Hrk.out.1 (d := (x, y)) (by rw [Hm.out]; exact hi) (by rw [Hm.out]; exact hj) Hex.out Hey.out hij] at h2
          refine (Hoz.out.drewN q).store (by rw [HNl.out]; exact hlt) h2 (fun j' hj' hne k' hk' => ?_)
          refine Hoz.out.2.2.2 k j' (by rw [HNl.out]; exact hlt) hj' (fun e => hne e.symm) k' ?_
          rw [Hev.out]
          exact hk'
        obtain ⟨o2, g2⟩ := hst nq
        have p2 : PcR _ base _ _ := PcR.far (w := wr.drewN nq) Hpk.out g2 (pc_ne Hpk.out Hoz.out.2.1)
        rw [Hev.out] at p2
        obtain ⟨_, _, _, e3, _, _, _, s2⟩ := p2.sl
        cases e3
        have b2 : Below base w _ := (below_drewN (hbz.mono hbase) nq).grown g2 (Nat.le_trans hbase hbz.size) (fun z hz => by cases hz; exact hg1)
        have z0 : w.heap.size ≤ (wr.drewN nq).heap.size := hbz.size
        have z2 := Nat.le_trans z0 g2.size
        have O2 := Lib.hid o2
        have S2 := Lib.hid s2
        have B2 := Lib.hid b2
        clear o2 s2 b2 g2 p2 hst hfro y0 Hx Hy
        generalize (wr.drewN nq).setCell ⟨g, k, none⟩ (.slice (some ⟨gk, ok + i, none⟩) (j + 1 - i) (j + 1 - i)) = W2 at *
        have HT : Hid (((rowOf Ls k).take (i + 1)).length = i + 1) := Lib.hid (by have := Hm.out; simp; omega)
        have HD : Hid (((rowOf Ls k).drop j).length = m - j) := Lib.hid (by have := Hm.out; simp; omega)
        have u0 : ¬ ck = j := by omega
        have u1 : 0 < i + 1 := by omega
        have u2 : 0 < m - j := by omega
        have u3 : i + 1 + (m - j) ≤ 1000000 := by omega
        have u4 : (i : Int) + 1 ≤ (ck : Int) := by omega
        have u5 : (0 : Int) ≤ (i : Int) + 1 := by omega
        have u6 : (j : Int) ≤ (m : Int) := by omega
        have u7 : (m : Int) ≤ (ck : Int) := by omega
        have u8 : base ≤ W2.heap.size := Nat.le_trans hbase z2
        have u9 : N ≤ 1000000 := by omega
        have hnl : (rs.set k (Value.slice (some ⟨gk, ok + i, none⟩) (j + 1 - i) (j + 1 - i))).length = N := by have := O2.out.1; simp at this; have := HNl.out; simp; omega
        have hL2 : (Ls.set k (innP (rowOf Ls k) (x, y))).length = N := by have := HNl.out; simp; omega
        have HL2 := Lib.hid hL2
        have own2 := O2.out.2.1
        rw [hL2] at own2
        clear hnl hL2
        have hpw : IntKind.i64.wrap ((i : Int) + 1) = (i : Int) + 1 := IntWalk.i64_in _ (by omega)
        have hpn : ((i : Int) + 1).toNat = i + 1 := by omega
        have u10 : ¬ ck < i + 1 := by omega
        have u11 : i + 1 ≤ ck := by omega
        go_region_held3 (fun w' => Below base w w')
          (first
            | assumption
            | exact B2.out.drew
            | exact (below_grown B2.out.drew g7 hbase (fun j hj => by cases hj))
            | exact ((below_grown B2.out.drew g7 hbase (fun j hj => by cases hj)).alloc (Nat.le_trans u8 g7.size) _)
            | exact (below_grown ((below_grown B2.out.drew g7 hbase (fun j hj => by cases hj)).alloc (Nat.le_trans u8 g7.size) _) g9 hbase (fun j hj => by cases hj; exact hg1)))
          (first
            | (refine step_growI W2.drew rfl _ _ rfl (some ⟨gk, ok, none⟩) (i + 1) W2.heap.size ((rowOf Ls k).take (i + 1)) HT.out u1 rfl (S2.out.take (i + 1)).drw (some ⟨gk, ok + j, none⟩) (m - j) _ W2.heap.size (i + 1 + (m - j)) ((rowOf Ls k).drop j) rfl HD.out u2 rfl (S2.out.cutAt j).drw u3 ?_
               intro A7 c7 w7 o7 g7)
            | (refine step_append1SS (w7.alloc (.cells #[.slice A7 (i + 1 + (m - j)) c7] 35)) rfl _ _ rfl base (.slice (some ⟨g, 0, none⟩) N c) N (rs.set k (Value.slice (some ⟨gk, ok + i, none⟩) (j + 1 - i) (j + 1 - i))) rfl ((own_far (row := none) (own_drewN own2 1) g7 (fun k hk => by simp)).alloc _) w7.heap.size (.slice A7 (i + 1 + (m - j)) c7) rfl rfl (by simp [go_sem]) u9 (Nat.le_trans u8 (Nat.le_trans g7.size (by simp))) ?_
               intro A9 c9 w9 own9 g9))
        rename_i hS
        have o7' : OwnPS w7 base (some ⟨g, 0, none⟩) c (rs.set k (.slice (some ⟨gk, ok + i, none⟩) (j + 1 - i) (j + 1 - i))) (Ls.set k (innP (rowOf Ls k) (x, y))) := by
          have h1 := O2.out
          exact ⟨h1.1, own_far (row := none) (own_drewN h1.2.1 1) g7 (fun _ _ => by simp), fun j' hj' => PcR.far (w := W2.drew) (row := none) (h1.2.2.1 j' hj') g7 (fun _ _ => by simp), h1.2.2.2⟩
        have n7 := PcR.of_row (by simp only [List.length_append, HT.out, HD.out]) (by omega) (o7.mono (show base ≤ W2.drew.heap.size from u8))
        have hfin := o7'.app (b := W2.heap.size) (fun j' hj' k' hk' => O2.out.blk j' hj' k' hk') n7 (fun k' hk' => (o7.lt k' hk').1) (by rw [HL2.out]; exact own9) (by rw [HL2.out]; exact g9)
        rw [← out_eq Hrk.out.1 (d := (x, y)) (by rw [Hm.out]; exact hi) (by rw [Hm.out]; exact hj) Hex.out Hey.out hij] at hfin
        have hcs := cutS_at (by rw [HNl.out]; exact hlt) Hno.out Hhh.out
        have HF : Hid (CpE base w x y (cutS Ls (x, y)) (.returned (.slice A9 (N + 1) c9)) w9) := Lib.hid ⟨hS, by
          rw [hcs]
          exact ⟨A9, c9, _, by simp [HNl.out], hfin⟩⟩
        clear hS o7' n7 hfin hcs own9 g9 o7 g7
        go_wp2
        go_ret
        exact HF.out
    · obtain rfl : k = N := by omega
      have hcs := cutS_not (d := (x, y)) (Ls := Ls) (by rw [HNl.out]; exact Hno.out)
      have HF : Hid (CpE base w x y (cutS Ls (x, y)) (.panicked [{ v := crP x y, recovered := false }]) wr) := Lib.hid ⟨hbz.mono hbase, by rw [hcs]⟩
      clear hcs
      go_wp2
      exact ⟨rfl, HF.out⟩
end Go.Proofs.Ytlnnnjnboknoeaa
