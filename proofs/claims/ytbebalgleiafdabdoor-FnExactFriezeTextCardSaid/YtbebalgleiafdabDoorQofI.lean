/- The program's QuiddityOfFrieze. -/
import Derived.Test.YtbebalgleiafdabDoorQofS
import Derived.Test.YtbebalgleiafdabDoorBndO
import Derived.Test.YtbebalgleiafdabDoorBndE
import Derived.Test.YtbebalgleiafdabDoorQcM
namespace Go.Proofs.YtbebalgleiafdabDoor
set_option linter.unusedVariables false
open Go.RowKit

theorem impl_qof1 (g : Nat) (n : Int) (A : Option Addr) (k c : Nat) (w : World) (h0 : w.cell? ⟨g, 0, none⟩ = some (.int .i64 n)) :
    Calls Tryd.prog 65 #[.slice A k c, .pointer (some ⟨g, 0, none⟩)] w fun e w' => e = .returned (.bool (decide ((k : Int) ≠ n))) ∧ w = w' := by
  go_enter Tryd.func65, Tryd.ntmps65
  go_wp2
  all_goals go_ret
  all_goals refine ⟨ret_bool ?_, rfl⟩
  all_goals (rw [Bool.eq_iff_iff]; simp)

def lenAny (n : Int) (Ls : List (List Int)) (k : Nat) : Bool := (List.range k).any fun j => decide (((rowOf Ls j).length : Int) ≠ n)
theorem lenAny_succ (n : Int) (Ls : List (List Int)) (k : Nat) : lenAny n Ls (k + 1) = (lenAny n Ls k || decide (((rowOf Ls k).length : Int) ≠ n)) := by simp [lenAny, List.range_succ]
theorem lenAny_hit {n : Int} {Ls : List (List Int)} {k m : Nat} (h : k < m) (hc : decide (((rowOf Ls k).length : Int) ≠ n) = true) : lenAny n Ls m = true := by
  unfold lenAny
  rw [List.any_eq_true]
  exact ⟨k, by simpa using h, hc⟩
theorem lenAny_no {n : Int} {Ls : List (List Int)} {m : Nat} (h : lenAny n Ls m = false) : ∀ j, j < m → ((rowOf Ls j).length : Int) = n := by
  intro j hj
  unfold lenAny at h
  rw [List.any_eq_false] at h
  have := h j (by simpa using hj)
  simpa using this

set_option maxHeartbeats 800000 in
theorem indexFunc_len (g : Nat) (n : Int) (A : Option Addr) (c B N : Nat) (Ls : List (List Int)) (w : World) (h0 : w.cell? ⟨g, 0, none⟩ = some (.int .i64 n)) (hN : Ls.length = N)
    (h : SlSS w B A Ls) (hl : N ≤ 1048576) :
    Calls Tryd.prog 85 #[.slice A N c, .func (.func 65) #[] #[.pointer (some ⟨g, 0, none⟩)]] w (FoundI (lenAny n Ls N) w) := by
  have H := Lib.hid h
  have HN := Lib.hid hN
  clear h hN
  go_enter Tryd.func85, Tryd.ntmps85
  go_wp2
  go_loop [5, 8] (fun _ i => ∃ k : Nat, k ≤ N ∧ i = .int .i64 k ∧ lenAny n Ls k = false) (fun _ i => N - (intOf i).toNat)
  case atStart => exact ⟨0, Nat.zero_le _, rfl, by simp [lenAny]⟩
  case round =>
    obtain ⟨k, hk, rfl, hno⟩ := hrel
    by_cases hlt : k < N
    · obtain ⟨b', off, rfl, hbB, hc⟩ := H.out (by rw [HN.out]; omega)
      obtain ⟨Ak, ck, g0, _⟩ := hc k (by rw [HN.out]; exact hlt)
      have i0 : (0 : Int) ≤ (k : Int) := by omega
      have i1 : (k : Int) < (N : Int) := by omega
      have hst := lenAny_succ n Ls k
      have hhit := fun h => lenAny_hit (n := n) (Ls := Ls) (k := k) (m := N) hlt h
      rw [hno, Bool.false_or] at hst
      clear hc hno
      generalize (rowOf Ls k).length = x at *
      have Hst := Lib.hid hst
      have Hhit := Lib.hid hhit
      clear hst hhit
      go_wp2_with fail
      refine (impl_qof1 g n Ak x ck _ h0).mono ?_
      rintro e w1 ⟨rfl, rfl⟩
      clear g0 h0
      cases hx : decide ((x : Int) ≠ n)
      · go_wp2
        go_round
        case rel => exact ⟨k + 1, by omega, by go_num, by rw [Hst.out, hx]⟩
        case measure => simp [intOf]; omega
      · go_wp2
        go_ret
        exact ⟨k, rfl, by rw [Hhit.out hx]; simp, rfl⟩
    · obtain rfl : k = N := by omega
      have Hno := Lib.hid hno
      clear hno
      go_wp2
      go_ret
      exact ⟨-1, rfl, by rw [Hno.out]; rfl, rfl⟩

theorem containsFunc_len (g : Nat) (n : Int) (A : Option Addr) (c B N : Nat) (Ls : List (List Int)) (w : World) (h0 : w.cell? ⟨g, 0, none⟩ = some (.int .i64 n)) (hN : Ls.length = N)
    (h : SlSS w B A Ls) (hl : N ≤ 1048576) :
    Calls Tryd.prog 64 #[.slice A N c, .func (.func 65) #[] #[.pointer (some ⟨g, 0, none⟩)]] w fun e w' => e = .returned (.bool (lenAny n Ls N)) ∧ w = w' := by
  go_enter Tryd.func64, Tryd.ntmps64
  go_wp2_with fail
  refine (indexFunc_len g n A c B N Ls _ h0 hN h hl).mono ?_
  rintro e w1 ⟨r, rfl, hr, rfl⟩
  have Hr := Lib.hid hr
  clear hr h0 h
  go_wp2
  all_goals go_ret
  exact ⟨ret_bool Hr.out, rfl⟩

/-- k numbers of a row laid one place on, around -/
def rotK (n : Nat) (R : List Int) : Nat → List Int
  | 0 => List.replicate n 0
  | k + 1 => (rotK n R k).set ((k + 1) % n) (R.getD k 0)
theorem rotK_length (n : Nat) (R : List Int) (k : Nat) : (rotK n R k).length = n := by
  induction k with
  | zero => simp [rotK]
  | succ k ih => simp [rotK, ih]
theorem rotK_part {n : Nat} {R : List Int} (hR : R.length = n) (k : Nat) (hk : k + 1 ≤ n) : rotK n R k = 0 :: (R.take k ++ List.replicate (n - 1 - k) 0) := by
  induction k with
  | zero =>
    simp only [rotK, List.take_zero, List.nil_append, Nat.sub_zero]
    rw [← List.replicate_succ]
    congr 1
    omega
  | succ k ih =>
    rw [rotK, ih (by omega), Nat.mod_eq_of_lt (by omega), List.set_cons_succ, List.set_append_right _ _ (by rw [List.length_take]; omega), List.length_take, Nat.min_eq_left (by omega), Nat.sub_self, show n - 1 - k = (n - 1 - (k + 1)) + 1 by omega, List.replicate_succ, List.set_cons_zero,
      List.take_succ_eq_append_getElem (by omega), List.append_assoc]
    have e : R.getD k 0 = R[k]'(by omega) := by simp [show k < R.length by omega]
    rw [e]
    rfl
theorem rotK_all {n : Nat} {R : List Int} (hR : R.length = n) (hn : 1 ≤ n) : rotK n R n = rotR R := by
  obtain ⟨m, rfl⟩ : ∃ m, n = m + 1 := ⟨n - 1, by omega⟩
  rw [rotK, rotK_part hR m (by omega), Nat.mod_self, List.set_cons_zero]
  unfold rotR
  rw [hR]
  simp
theorem halfR_pad (q : List Int) (k : Int) (n : Nat) : halfR q k n = pad (rowL q k n) := by
  unfold halfR pad
  rw [rowL_length]
theorem pad_eq {l r : List Int} (hl : l.length = r.length) : pad l = pad r ↔ l = r := by
  constructor
  · intro h
    rw [← pad_take l, ← pad_take r, h, hl]
  · rintro rfl; rfl

theorem friB_len {Ls : List (List Int)} (h : friB Ls = true) : ∀ j, j < Ls.length → (rowOf Ls j).length = Ls.length + 3 := by
  intro j hj
  unfold friB at h
  simp only [Bool.and_eq_true, decide_eq_true_eq] at h
  obtain ⟨⟨⟨h1, h2, h3, h4⟩, _⟩, h5⟩ := h
  unfold rowsB at h5
  rw [List.all_eq_true] at h5
  have := h5 j (by simpa using hj)
  have e : rowOf Ls j = rowL (rotR (rowOf Ls 0)) ((j : Int) + 1) (rotR (rowOf Ls 0)).length := by simpa using this
  rw [e, rowL_length, rotR_length (by omega)]
  exact h4.symm
theorem friB_any {Ls : List (List Int)} {N : Nat} (hN : Ls.length = N) (h : lenAny ((N : Int) + 3) Ls N = true) : friB Ls = false := by
  rw [Bool.eq_false_iff]
  intro e
  unfold lenAny at h
  rw [List.any_eq_true] at h
  obtain ⟨j, hj, hne⟩ := h
  have := friB_len e j (by rw [hN]; simpa using hj)
  have h2 : ¬((rowOf Ls j).length : Int) = (N : Int) + 3 := by simpa using hne
  omega

set_option maxRecDepth 100000 in
set_option maxHeartbeats 3200000 in
theorem impl_QuiddityOfFrieze (A : Option Addr) (c B N : Nat) (Ls : List (List Int)) (w : World) (hN : Ls.length = N) (h : SlSS w B A Ls) (hB : B ≤ w.heap.size) (hl : N ≤ 1048576) (hr : ∀ j, j < Ls.length → (rowOf Ls j).length ≤ 1048576) :
    Calls Tryd.prog 50 #[.slice A N c] w (RetI w (friQ Ls) (friB Ls)) := by
  have hmf : ∀ (fn : Fn) (first cap : Array Value) (w : World), (Instr.makeFunc fn first cap).run Tryd.prog w = .ok (.func fn first cap) w := fun _ _ _ _ => rfl
  have H := Lib.hid h
  have HN := Lib.hid hN
  have Hr := Lib.hid hr
  clear h hN hr
  have hb0 : Below w.heap.size w (w.alloc (.cells #[.int .i64 ((N : Int) + 3)] 3)) := (Below.refl _ _).alloc (Nat.le_refl _) _
  obtain ⟨wb, hwb⟩ : ∃ wb, wb = w.alloc (.cells #[.int .i64 ((N : Int) + 3)] 3) := ⟨_, rfl⟩
  have hx0 : wb.cell? ⟨w.heap.size, 0, none⟩ = some (.int .i64 ((N : Int) + 3)) := by rw [hwb]; simp [go_sem]
  have hsz : wb.heap.size = w.heap.size + 1 := by rw [hwb]; simp
  rw [← hwb] at hb0
  have Hwb := Lib.hid hwb
  have Hb0 := Lib.hid hb0
  have Hx0 := Lib.hid hx0
  have Hsz := Lib.hid hsz
  clear hb0 hwb hx0 hsz
  by_cases hlo : N = 0 ∨ 9 < N
  · have hf : friB Ls = false := friB_1 (by rw [HN.out]; omega)
    have HE := Lib.hid (frI_none (w := w) hf Hb0.out)
    clear hf
    rcases hlo with rfl | h9
    · go_enter Tryd.func50, Tryd.ntmps50
      go_wp2
      go_ret2
      have := HE.out
      rw [Hwb.out] at this
      exact this
    · have i0 : ¬((N : Int) + 3 < 4) := by omega
      have i1 : (12 : Int) < (N : Int) + 3 := by omega
      go_enter Tryd.func50, Tryd.ntmps50
      go_wp2
      go_ret2
      have := HE.out
      rw [Hwb.out] at this
      exact this
  · obtain ⟨n, hn⟩ : ∃ n : Nat, n = N + 3 := ⟨_, rfl⟩
    have i0 : ¬((N : Int) + 3 < 4) := by omega
    have i1 : ¬((12 : Int) < (N : Int) + 3) := by omega
    have i2 : (4 : Int) ≤ (N : Int) + 3 := by omega
    have i3 : (N : Int) + 3 ≤ 12 := by omega
    have hnn : (N : Int) + 3 = (n : Int) := by omega
    have HC := Lib.hid (containsFunc_len w.heap.size ((N : Int) + 3) A c B N Ls wb Hx0.out HN.out (H.out.below (Hb0.out.mono hB)) hl)
    have Hnn := Lib.hid hnn
    have Hn := Lib.hid hn
    clear hnn hn
    go_enter Tryd.func50, Tryd.ntmps50
    go_wp2_with fail
    rw [← Hwb.out]
    clear Hwb
    refine HC.out.mono ?_
    rintro e w1 ⟨rfl, rfl⟩
    clear HC
    rw [Hnn.out] at Hx0
    cases hla : lenAny ((N : Int) + 3) Ls N
    · have hlen := lenAny_no hla
      rw [Hnn.out] at hlen
      have Hlen := Lib.hid hlen
      obtain ⟨b, off, rfl, hbB, hc⟩ := H.out (by rw [HN.out]; omega)
      obtain ⟨A0, c0, g0, hs0⟩ := hc 0 (by rw [HN.out]; omega)
      rw [Nat.add_zero] at g0
      obtain ⟨R, hR⟩ : ∃ R, rowOf Ls 0 = R := ⟨_, rfl⟩
      have hRn : R.length = n := by have := hlen 0 (by omega); rw [hR] at this; omega
      rw [hR] at hs0
      rw [hR, hRn] at g0
      have g0' : wb.cell? ⟨b, off, none⟩ = some (.slice A0 n c0) := by rw [(Hb0.out.mono hB).cell (p := ⟨b, off, none⟩) hbB]; exact g0
      have HR := Lib.hid hR
      have HRn := Lib.hid hRn
      have Hc := Lib.hid hc
      have Hs0 := Lib.hid hs0
      have Hla := Lib.hid hla
      have hN9 : 1 ≤ N ∧ N ≤ 9 := by omega
      obtain ⟨hN1, hN9⟩ := hN9
      have hn12 : n ≤ 12 := by have := Hn.out; omega
      have hn4 : 4 ≤ n := by have := Hn.out; omega
      have j0 : 0 < N := by omega
      have j1 : (0 : Int) < (N : Int) := by omega
      obtain ⟨i0', hii, hz0, hz1, hz2⟩ := info_parts infoI
      have hbytes : i0'.bytes * n ≤ 281474976710656 := by rw [hz2]; omega
      have hmax : n ≤ maxLen := by unfold maxLen; omega
      clear hlen hc hR hRn hs0 hla g0 i0 i1 i2 i3 hlo
      have g1 := Hx0.out
      go_wp2_with (at_make; refine wpList_make_full _ rfl _ _ _ rfl wb.heap.size 3 i0' (.int .i64 0) 1 Tryd.underlying49 hii hz0 hz1 _ _ _ _ n rfl rfl rfl rfl hbytes hmax (Nat.le_refl _) ?_; intro w3 hown3 hgrow3
                   have b3 : Below wb.heap.size wb w3 := (Below.refl _ _).grown hgrow3 (Nat.le_refl _) (by simp)
                   have e1 : (madeCells (Value.int .i64 0).cells (n * 1)).toList = ics (List.replicate n 0) := (by
                     rw [Nat.mul_one]
                     show (madeCells #[Value.int .i64 0] n).toList = _
                     rw [toList_madeCells_one]
                     simp [ics])
                   rw [e1] at hown3
                   have g0'' := cell_kept b3 g0'
                   clear e1 hgrow3)
      have Hd3 := Lib.hid (below_kept Hb0.out (Nat.le_refl _) b3)
      have Hg1 := Lib.hid g1
      clear hmf
      go_loopw [6, 7, 30] (fun _ _ i wr => ∃ k : Nat, k ≤ n ∧ i = .int .i64 k ∧ wr.ownsRow wb.heap.size 3 1 (.slice (some ⟨wb.heap.size, 0, none⟩) n n) n (ics (rotK n R k)) ∧ Below wb.heap.size wb wr) (fun _ _ i _ => n - (intOf i).toNat)
      case atStart => exact ⟨0, Nat.zero_le _, rfl, hown3, b3⟩
      case round =>
        clear hown3 b3 g0'' g1
        obtain ⟨k, hk, rfl, ho, hb⟩ := hrel
        by_cases hlt : k < n
        · obtain ⟨b3, off3, rfl, hbB3, hc3⟩ := (Hs0.out.below ((Hb0.out.mono hB))).below (hb.mono (Nat.le_trans hB Hb0.out.size)) (by rw [HRn.out]; omega)
          have x0 := hc3 k (by rw [HRn.out]; exact hlt)
          obtain ⟨r, hr⟩ : ∃ r, r = (k + 1) % n := ⟨_, rfl⟩
          have hrn : r < n := by rw [hr]; exact Nat.mod_lt _ (by omega)
          have hm1 : ((k : Int) + 1).tmod (n : Int) = (r : Int) := by rw [hr]; rfl
          have hcell : wr.cell? ⟨wb.heap.size, r, none⟩ = some (.int .i64 ((rotK n R k).getD r 0)) := by
            rw [ho.cellAt r (by omega), ics_get _ _ (by rw [rotK_length]; exact hrn)]
          have hfro := ho.frozenAt r
          have hst := ho.stored r (.int .i64 (R.getD k 0))
          have hnext : (rotK n R k).set r (R.getD k 0) = rotK n R (k + 1) := by rw [rotK, hr]
          rw [ics_set, hnext] at hst
          obtain ⟨hs1, hs2⟩ := hst
          have hb2 := hb.grown hs2 hb.size (by simp)
          have q1 := cell_kept hb Hg1.out
          have n0 : ¬(n : Int) = 0 := by omega
          have r0 : (0 : Int) ≤ (r : Int) := by omega
          have r1 : (r : Int) < (n : Int) := by omega
          have k0 : (0 : Int) ≤ (k : Int) := by omega
          have k1 : (k : Int) < (n : Int) := by omega
          clear ho hs2 hnext hb hc3 hr
          generalize (rotK n R k).getD r 0 = z at *
          generalize R.getD k 0 = x at *
          go_wp2
          go_roundw
          case rel => exact ⟨k + 1, by omega, by go_num, hs1, hb2⟩
          case measure => simp [intOf]; omega
        · obtain rfl : k = n := by omega
          rw [rotK_all HRn.out (by omega)] at ho
          have Hb := Lib.hid hb
          have Ho := Lib.hid ho
          obtain ⟨wo, hwo⟩ : ∃ wo, wo = wr := ⟨_, rfl⟩
          rw [← hwo] at Hb Ho ⊢
          clear hwo
          clear hb ho
          obtain ⟨q, hqq⟩ : ∃ q, rotR R = q := ⟨_, rfl⟩
          have hql : q.length = k := by rw [← hqq, rotR_length (by rw [HRn.out]; omega), HRn.out]
          rw [hqq] at Ho
          have Hqq := Lib.hid hqq
          have Hql := Lib.hid hql
          clear hqq hql
          have hQ := impl_IsQuiddity (some ⟨wb.heap.size, 0, none⟩) k wo.heap.size q wo (SlI.of_own Ho.out) (Nat.le_refl _) (by rw [Hql.out]; omega) (by rw [Hql.out]; exact Nat.le_refl _)
          rw [Hql.out] at hQ
          have HQ := Lib.hid hQ
          have Hd := Lib.hid (below_kept Hb0.out (Nat.le_refl _) Hb.out)
          clear hQ
          go_wp2_with fail
          refine HQ.out.mono ?_
          rintro e w2 ⟨rfl, hb2⟩
          clear HQ
          have Hd2 := Lib.hid (below_kept Hd.out (Nat.le_refl _) hb2)
          have Hq2 := Lib.hid (own_kept Ho.out hb2)
          clear Hd Ho hb2
          cases hqi : isQ q
          · have hf := friB_2 (Ls := Ls) (by rw [HR.out, Hqq.out]; exact hqi)
            have HE := Lib.hid (frI_none (w := w) hf Hd2.out)
            clear hf hqi
            go_wp2
            go_ret2
            exact HE.out
          · have hq1 : 1 ≤ Ls.length ∧ 4 ≤ (rowOf Ls 0).length ∧ (rowOf Ls 0).length ≤ 12 ∧ Ls.length + 3 = (rowOf Ls 0).length := by have := Hn.out; rw [HR.out, HRn.out, HN.out]; omega
            have hyes : rowsB q Ls Ls.length = true → friB Ls = true := fun h => friB_yes hq1 (by rw [HR.out, Hqq.out]; exact hqi) (by rw [HR.out, Hqq.out]; exact h)
            have hno : rowsB q Ls Ls.length = false → friB Ls = false := fun h => friB_3 (by rw [HR.out, Hqq.out]; exact h)
            have hqe : friB Ls = true → friQ Ls = q := fun h => by rw [friQ_yes h, HR.out, Hqq.out]
            have Hyes := Lib.hid hyes
            have Hno := Lib.hid hno
            have Hqe := Lib.hid hqe
            have Hbw := Lib.hid (Nat.le_trans hB Hb0.out.size)
            have Hwb2 : Hid (w.heap.size ≤ wb.heap.size) := Lib.hid Hb0.out.size
            clear hqi hq1 hyes hno hqe Hqq
            go_wp2
            go_loopw [8, 9, 48] (fun _ _ i wr => ∃ j : Nat, j ≤ N ∧ i = .int .i64 j ∧ rowsB q Ls j = true ∧ Below w2.heap.size w2 wr) (fun _ _ i _ => N - (intOf i).toNat)
            case atStart => exact ⟨0, Nat.zero_le _, rfl, rowsB_zero _ _, Below.refl _ _⟩
            case round =>
              obtain ⟨j, hj, rfl, hrb, hb⟩ := hrel
              have Hrb := Lib.hid hrb
              have Hbj := Lib.hid hb
              have Hdj := Lib.hid (below_kept Hd2.out (Nat.le_refl _) hb)
              have Hqj := Lib.hid (own_kept Hq2.out hb)
              clear hrb hb
              by_cases hlt : j < N
              · have y0 : (0 : Int) ≤ (j : Int) := by omega
                have y1 : (j : Int) < (N : Int) := by omega
                obtain ⟨Ak, ck, gk, hsk⟩ := Hc.out j (by rw [HN.out]; exact hlt)
                have gk' := (Hdj.out.mono hB).cell (p := ⟨b, off + j, none⟩) hbB
                rw [gk] at gk'
                have hRl := Hlen.out j hlt
                obtain ⟨Rk, hRk⟩ : ∃ Rk, rowOf Ls j = Rk := ⟨_, rfl⟩
                rw [hRk] at hsk hRl gk'
                have hRl' : Rk.length = k := by omega
                rw [hRl'] at gk'
                have HRk := Lib.hid hRk
                have HRl := Lib.hid hRl'
                have Hskj := Lib.hid (hsk.below (Hdj.out.mono hB))
                have hbd : ∀ w', Below wr.heap.size wr w' → Calls Tryd.prog 67 #[.slice Ak k ck] w' fun e w'' => e = .returned (.agg (ics (pad Rk)).toArray) ∧ Below wr.heap.size wr w'' := fun w' hw => by
                  have := impl_bandOf Ak ck wr.heap.size Rk w' ((Hskj.out.mono (Nat.le_trans hB Hdj.out.size)).below hw) hw.size (by rw [HRl.out]; exact hn12)
                  rw [HRl.out] at this
                  refine this.mono ?_
                  rintro e w'' ⟨he, hb⟩
                  exact ⟨he, below_kept hw (Nat.le_refl _) hb⟩
                have hra : ∀ w', Below wr.heap.size wr w' → Calls Tryd.prog 68 #[.slice (some ⟨wb.heap.size, 0, none⟩) k k, .int .i64 ((j : Int) + 1)] w' fun e w'' => e = .returned (.agg (ics (pad (rowL q ((j : Int) + 1) k))).toArray) ∧ Below wr.heap.size wr w'' := fun w' hw => by
                  have := impl_rowAt (some ⟨wb.heap.size, 0, none⟩) k wr.heap.size q ((j : Int) + 1) w' ((SlI.of_own Hqj.out).below hw) hw.size (by rw [Hql.out]; omega) (by rw [Hql.out]; exact hn12) (by omega) (by omega)
                  rw [Hql.out] at this
                  refine this.mono ?_
                  rintro e w'' ⟨he, hb⟩
                  exact ⟨by rw [he, halfR_pad], below_kept hw (Nat.le_refl _) hb⟩
                obtain ⟨V, hV⟩ : ∃ V, rowL q ((j : Int) + 1) k = V := ⟨_, rfl⟩
                have hVl : V.length = k := by rw [← hV, rowL_length]
                rw [hV] at hra
                have hrun := run_band_eq (pad Rk) (pad V) (pad_length _ (by rw [HRl.out]; exact hn12)) (pad_length _ (by rw [hVl]; exact hn12))
                have hpe : pad Rk = pad V ↔ Rk = V := pad_eq (by rw [HRl.out, hVl])
                have hne : ¬pad Rk = pad V → friB Ls = false := fun h => Hno.out (rowsB_no (by rw [HN.out]; exact hlt) (by rw [HRk.out, Hql.out, hV]; exact fun e => h (hpe.2 e)))
                have hsame : pad Rk = pad V → rowsB q Ls (j + 1) = true := fun h => by rw [rowsB_succ, Hrb.out, HRk.out, Hql.out, hV, hpe.1 h]; simp
                have Hbd := Lib.hid hbd
                have Hra := Lib.hid hra
                have Hne := Lib.hid hne
                have Hsame := Lib.hid hsame
                have jw : IntKind.i64.wrap ((j : Int) + 1) = (j : Int) + 1 := IntWalk.i64_in _ (by omega)
                clear gk hsk hRk hRl hRl' hbd hra hpe hne hsame hV hVl Hskj HRk HRl
                generalize pad Rk = u at *
                generalize pad V = v at *
                go_wp2_with fail
                refine (Hbd.out _ (Below.refl _ _)).mono ?_
                rintro e w4 ⟨rfl, hb4⟩
                clear Hbd
                go_wp2_with fail
                refine (Hra.out _ hb4).mono ?_
                rintro e w5 ⟨rfl, hb5⟩
                have Hb5 := Lib.hid (below_kept Hbj.out (Nat.le_refl _) hb5)
                have Hd5 := Lib.hid (below_kept Hdj.out (Nat.le_refl _) hb5)
                clear Hra hb4 hb5 gk' jw
                by_cases huv : u = v
                · rw [decide_eq_true huv] at hrun
                  have HE := Lib.hid (Hsame.out huv)
                  clear huv Hsame Hne
                  go_wp2
                  go_roundw
                  case rel => exact ⟨j + 1, by omega, by go_num, HE.out, Hb5.out⟩
                  case measure => simp [intOf]; omega
                · rw [decide_eq_false huv] at hrun
                  have HE := Lib.hid (frI_none (w := w) (Hne.out huv) Hd5.out)
                  clear huv Hsame Hne
                  go_wp2
                  go_ret2
                  exact HE.out
              · obtain rfl : j = N := by omega
                have hy := Hyes.out (by rw [HN.out]; exact Hrb.out)
                have hres : RetI w (friQ Ls) (friB Ls) (.returned (.tuple #[.slice (some ⟨wb.heap.size, 0, none⟩) k k, .bool true])) wr := by
                  rw [Hqe.out hy, hy]
                  exact ⟨_, k, by rw [Hql.out], by rw [Hql.out]; exact Hqj.out.mono Hwb2.out, Hdj.out⟩
                have HE := Lib.hid hres
                clear hres hy
                go_wp2
                go_ret2
                exact HE.out
    · have hf : friB Ls = false := friB_any HN.out hla
      have HE := Lib.hid (frI_none (w := w) hf Hb0.out)
      clear hf
      go_wp2
      go_ret2
      exact HE.out
theorem impl_IsFrieze (A : Option Addr) (c B N : Nat) (Ls : List (List Int)) (w : World) (hN : Ls.length = N) (h : SlSS w B A Ls) (hB : B ≤ w.heap.size) (hl : N ≤ 1048576) (hr : ∀ j, j < Ls.length → (rowOf Ls j).length ≤ 1048576) :
    Calls Tryd.prog 32 #[.slice A N c] w fun e w' => e = .returned (.bool (friB Ls)) ∧ Below w.heap.size w w' := by
  have HC := Lib.hid (impl_QuiddityOfFrieze A c B N Ls w hN h hB hl hr)
  clear h hr
  go_enter Tryd.func32, Tryd.ntmps32
  go_wp2_with fail
  refine HC.out.mono ?_
  rintro e w1 ⟨A1, c1, rfl, ho, hb⟩
  have HE := Lib.hid hb
  clear ho hb
  go_wp2
  go_ret
  exact ⟨rfl, HE.out⟩
end Go.Proofs.YtbebalgleiafdabDoor
