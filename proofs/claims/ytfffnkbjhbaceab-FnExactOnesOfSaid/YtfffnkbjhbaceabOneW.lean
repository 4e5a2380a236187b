/- OnesOf: the program's contract, and the law's walk. -/
import Derived.Test.YtfffnkbjhbaceabOneS
import Derived.Test.YtfffnkbjhbaceabOnesOfC
namespace Go.Proofs.Ytfffnkbjhbaceab
set_option linter.unusedVariables false
open Go.RowKit

set_option maxRecDepth 100000 in
set_option maxHeartbeats 3200000 in
theorem impl_allDiagonals (n : Nat) (w : World) (hn3 : 3 ≤ n) (hn12 : n ≤ 12) : Calls Try.prog 65 #[.int .i64 n] w (GivD w (rws (dB n) n n)) := by
  have nn : (n : Int) ≤ 12 := by omega
  have nn3 : (3 : Int) ≤ (n : Int) := by omega
  obtain ⟨R, hR⟩ : ∃ R, rws (dB n) n n = R := ⟨_, rfl⟩
  rw [hR]
  have HR := Lib.hid hR
  clear hR
  go_enter Try.func65, Try.ntmps65
  go_wp2
  go_loopw [3, 4, 5, 6, 8] (fun v _ _ _ i wr => ∃ (a : Nat) (L : List (Int × Int)) (A' : Option Addr) (c' : Nat), a ≤ n ∧ L = rws (dB n) n a ∧ i = .int .i64 a ∧ v = .slice A' L.length c' ∧ wr.ownsRow w.heap.size 83 2 (.slice A' L.length c') L.length (dcs L) ∧ Below w.heap.size w wr) (fun _ _ _ _ i _ => n - (intOf i).toNat)
  case atStart => exact ⟨0, [], none, 0, Nat.zero_le _, rfl, rfl, rfl, World.ownsRow_nil _ _ _ _, Below.refl _ _⟩
  case round =>
    obtain ⟨a, L, A', c', ha, hL, rfl, rfl, ho, hb⟩ := hrel
    obtain ⟨w0, hw0⟩ : ∃ w0, w0 = wr := ⟨_, rfl⟩
    subst hw0
    by_cases hlt : a < n
    · have a1 : (a : Int) < (n : Int) := by omega
      have a0 : (0 : Int) ≤ (a : Int) := by omega
      have Hs1 := Lib.hid hL
      have Ho := Lib.hid ho
      have Hb := Lib.hid hb
      clear hL ho hb
      go_wp2
      go_loopw [3, 5, 6] (fun v i _ wr => ∃ (b : Nat) (M : List (Int × Int)) (A' : Option Addr) (c' : Nat), a + 1 ≤ b ∧ b ≤ n ∧ M = L ++ prs a (dB n a) b ∧ i = .int .i64 b ∧ v = .slice A' M.length c' ∧ wr.ownsRow w.heap.size 83 2 (.slice A' M.length c') M.length (dcs M) ∧ Below w.heap.size w wr) (fun _ i _ _ => n + 2 - (intOf i).toNat)
      case atStart =>
        refine ⟨a + 1, L, A', c', Nat.le_refl _, hlt, ?_, by simp, rfl, Ho.out, Hb.out⟩
        rw [prs_none (fun b hb => dB_low (by omega)), List.append_nil]
      case round =>
        clear Ho Hb
        obtain ⟨b, M, A2, c2, hab, hbn, hM, rfl, rfl, ho, hb⟩ := hrel
        by_cases hbl : b < n
        · have b1 : (b : Int) < (n : Int) := by omega
          have b0 : (a : Int) + 1 ≤ (b : Int) := by omega
          have hML : M.length ≤ 1000000 := by
            have h1 := prs_length a (dB n a) b
            have h2 := rws_length (dB n) n a
            have h3 : a * n ≤ 12 * 12 := Nat.mul_le_mul (by omega) (by omega)
            rw [hM, List.length_append, Hs1.out]
            omega
          have hob := ho.lt
          have Hob := Lib.hid hob
          have hz := hb.size
          have Ho := Lib.hid ho
          have Hb := Lib.hid hb
          have HM := Lib.hid hM
          have hcall := impl_IsDiagonal (n : Int) (a : Int) (b : Int)
          have hdd : dgB (n : Int) (a : Int) (b : Int) = dB n a b := rfl
          rw [hdd] at hcall
          obtain ⟨bd, hbd⟩ : ∃ bd, dB n a b = bd := ⟨_, rfl⟩
          rw [hbd] at hcall
          have Hcall := Lib.hid hcall
          have Hbd := Lib.hid hbd
          clear hcall hdd hbd ho hb hM
          go_wp2_with fail
          refine (Hcall.out _).mono ?_
          rintro e w5 ⟨rfl, hb5⟩
          have o5 := own_kept (Ho.out.alloc (.cells #[.int .i64 (a : Int), .int .i64 (b : Int)] 83)) hb5
          have b5 := below_kept (Hb.out.alloc hz (.cells #[.int .i64 (a : Int), .int .i64 (b : Int)] 83)) (Nat.le_refl _) hb5
          have c50 : w5.cell? ⟨wr.heap.size, 0, none⟩ = some (.int .i64 (a : Int)) := (hb5.cell (p := ⟨wr.heap.size, 0, none⟩) (by simp)).trans (by simp [go_sem])
          have c51 : w5.cell? ⟨wr.heap.size, 1, none⟩ = some (.int .i64 (b : Int)) := (hb5.cell (p := ⟨wr.heap.size, 1, none⟩) (by simp)).trans (by simp [go_sem])
          have z5 : wr.heap.size < w5.heap.size := World.block_lt_of_cell? w5 _ c50
          clear hb5 Hcall Ho Hb
          cases bd
          · have hst : M = L ++ prs a (dB n a) (b + 1) := by rw [prs_no Hbd.out]; exact HM.out
            have Hst := Lib.hid hst
            have HO := Lib.hid o5
            have HB := Lib.hid b5
            clear hst o5 b5 HM
            go_wp2
            go_roundw
            case rel => exact ⟨b + 1, M, A2, c2, by omega, by omega, Hst.out, by go_num, rfl, HO.out, HB.out⟩
            case measure => simp [intOf]; omega
          · have hst : M ++ [((a : Int), (b : Int))] = L ++ prs a (dB n a) (b + 1) := by rw [prs_yes Hbd.out, ← List.append_assoc, HM.out]
            have Hst := Lib.hid hst
            have hz5 := b5.size
            have own2 := o5.alloc (.cells #[.int .i64 (a : Int), .int .i64 (b : Int)] 83)
            have hb2 := b5.alloc hz5 (.cells #[.int .i64 (a : Int), .int .i64 (b : Int)] 83)
            have hb6 := hb2.size
            have Hob5 := Lib.hid o5.lt
            clear hst o5 b5 HM Hob
            go_wp2_with (first
              | (at_builtin; refine append1Dn _ rfl _ _ rfl w.heap.size (.slice A2 M.length c2) M.length M rfl rfl own2 w5.heap.size (a : Int) (b : Int) rfl ?c1 ?c2 ?c3 hb6 ?_; (case c1 => simp [go_sem]); (case c2 => simp [go_sem]); (case c3 => omega); intro A3 c3 w3 own3 hg3))
            have hb7 := hb2.grown hg3 hb6 (fun j hj => (Hob5.out j hj).1)
            have hlen : M.length + 1 = (M ++ [((a : Int), (b : Int))]).length := by simp
            rw [hlen] at own3 ⊢
            rw [Hst.out] at own3 ⊢
            clear hg3 hb2 own2 hlen c50 c51
            generalize hMM : L ++ prs a (dB n a) (b + 1) = MM at *
            have HMM := Lib.hid hMM
            clear hMM
            go_wp2
            go_roundw
            case rel => exact ⟨b + 1, MM, A3, c3, by omega, by omega, HMM.out.symm, by go_num, rfl, own3, hb7⟩
            case measure => simp [intOf]; omega
        · have he : M = rws (dB n) n (a + 1) := by rw [rws_succ, hM, Hs1.out, prs_end (n := n) (fun b hb => dB_low hb) (fun b hb => dB_high hb) (by omega)]
          have He := Lib.hid he
          have Ho := Lib.hid ho
          have Hb := Lib.hid hb
          clear he ho hb hM
          go_wp2
          go_roundw
          case rel => exact ⟨a + 1, M, A2, c2, by omega, He.out, by go_num, rfl, Ho.out, Hb.out⟩
          case measure => simp [intOf]; omega
    · obtain rfl : a = n := by omega
      have hE : GivD w R (.returned (.slice A' L.length c')) w0 := by
        rw [← HR.out, ← hL]
        exact ⟨A', c', rfl, ho, hb⟩
      have HE := Lib.hid hE
      clear hE ho hb hL
      go_wp2
      go_ret
      exact HE.out

set_option maxRecDepth 100000 in
set_option maxHeartbeats 3200000 in
theorem impl_OnesOf (A : Option Addr) (c B : Nat) (q : List Int) (w : World) (h : SlI w B A q) (hB : B ≤ w.heap.size) (hl : q.length ≤ 1048576) (hlc : q.length ≤ c) :
    Calls Try.prog 27 #[.slice A q.length c] w (RetD w (onR q) (isQ q)) := by
  have hcq := impl_IsQuiddity A c B q w h hB hl hlc
  have HQ := Lib.hid hcq
  clear hcq
  cases hq : isQ q
  · have hE := Lib.hid (fun w' hb => retD_on_no (q := q) (w := w) (w' := w') hq hb)
    rw [hq] at HQ hE
    go_enter Try.func27, Try.ntmps27
    go_wp2_with fail
    refine HQ.out.mono ?_
    rintro e w1 ⟨rfl, hb1⟩
    have hE2 := Lib.hid (hE.out _ hb1)
    clear HQ hE h hb1
    go_wp2
    go_ret2
    exact hE2.out
  · rw [hq] at HQ
    obtain ⟨hn3, hn12⟩ := isQ_len hq
    have hR1 := onR_yes hq
    rw [← rws_filter] at hR1
    have HR := Lib.hid hR1
    clear hR1
    generalize onR q = R at *
    have H := Lib.hid h
    have Hent := Lib.hid (impl_entriesOf A c q)
    have Hone := Lib.hid (fun gq gn (i j : Int) (w : World) (hcp : Caps w gq gn A c q) (h : SlI w B A q) (hB : B ≤ w.heap.size) (hi : -2000 ≤ i ∧ i ≤ 2000) (hij : i ≤ j) (hj : j ≤ i + 20) => impl_entries1 gq gn A c B q i j w hcp h hB hn3 hn12 hi hij hj)
    have Hall := Lib.hid (fun w => impl_allDiagonals q.length w hn3 hn12)
    have HDB := Lib.hid (fun (p : Int × Int) (hp : p ∈ rws (dB q.length) q.length q.length) => rws_mem hp)
    have HLn := Lib.hid (rws_length (dB q.length) q.length q.length)
    have Hn12 := Lib.hid hn12
    clear hq h hl hlc
    generalize rws (dB q.length) q.length q.length = D at *
    go_enter Try.func27, Try.ntmps27
    go_wp2_with fail
    refine HQ.out.mono ?_
    rintro e w1 ⟨rfl, hb1⟩
    go_wp2_with fail
    refine (Hent.out _).mono ?_
    rintro e w2 ⟨rfl, hcp, hb2⟩
    have hd2 := below_kept hb1 (Nat.le_refl _) hb2
    generalize w1.heap.size = gq at *
    clear hb1 hb2 HQ Hent
    go_wp2_with fail
    refine (Hall.out _).mono ?_
    rintro e w3 ⟨Ad, cd, rfl, hod, hb3⟩
    have hcp3 : Caps w3 gq (gq + 1) A c q := ⟨cell_kept hb3 hcp.1, cell_kept hb3 hcp.2⟩
    have hd3 := below_kept hd2 (Nat.le_refl _) hb3
    have hsd := SlD.of_own hod
    have Hcp := Lib.hid hcp3
    have Hd := Lib.hid hd3
    have Hsd := Lib.hid hsd
    have hw3 := hd3.size
    have hD12 : D.length ≤ 144 := by
      have h2 : q.length * q.length ≤ 12 * 12 := Nat.mul_le_mul Hn12.out Hn12.out
      have := HLn.out
      omega
    clear hcp hcp3 hd2 hd3 hsd hod hb3 Hall
    go_wp2
    go_loopw [5, 7, 17] (fun v _ i wr => ∃ (k : Nat) (L : List (Int × Int)) (A' : Option Addr) (c' : Nat), k ≤ D.length ∧ L = (D.take k).filter (eP q) ∧ i = .int .i64 k ∧ v = .slice A' L.length c' ∧ wr.ownsRow w3.heap.size 83 2 (.slice A' L.length c') L.length (dcs L) ∧ Below w3.heap.size w3 wr) (fun _ _ i _ => D.length - (intOf i).toNat)
    case atStart => exact ⟨0, [], none, 0, Nat.zero_le _, rfl, rfl, rfl, World.ownsRow_nil _ _ _ _, Below.refl _ _⟩
    case round =>
      obtain ⟨k, L, A', c', hk, hL, rfl, rfl, ho, hb⟩ := hrel
      by_cases hlt : k < D.length
      · obtain ⟨bd, od, rfl, hbd, hcd⟩ := Hsd.out (by omega)
        obtain ⟨x0, x1⟩ := hcd k hlt
        have k0 : (0 : Int) ≤ (k : Int) := by omega
        have k1 : (k : Int) < (D.length : Int) := by omega
        have hmem : D.getD k (0, 0) ∈ D := by
          have e : D.getD k (0, 0) = D[k] := by simp [hlt]
          rw [e]
          exact List.getElem_mem hlt
        obtain ⟨m0, m1, m2⟩ := HDB.out _ hmem
        have hst := take_filter (p := eP q) D k hlt
        rw [← hL] at hst
        have hLL : L.length ≤ 1000000 := by
          have h1 : L.length ≤ D.length := by
            rw [hL]
            refine Nat.le_trans (List.length_filter_le _ _) ?_
            rw [List.length_take]
            omega
          omega
        generalize D.getD k (0, 0) = p at *
        obtain ⟨lo, hi⟩ := p
        dsimp only at x0 x1 m0 m1 m2
        replace x0 : wr.cell? ⟨bd, od + k * 2, none⟩ = some (.int .i64 lo) := (hb.cell (p := ⟨bd, od + k * 2, none⟩) hbd).trans x0
        replace x1 : wr.cell? ⟨bd, od + k * 2 + 1, none⟩ = some (.int .i64 hi) := (hb.cell (p := ⟨bd, od + k * 2 + 1, none⟩) hbd).trans x1
        have ybd : bd < wr.heap.size := Nat.lt_of_lt_of_le hbd hb.size
        have hz := hb.size
        have Hob := Lib.hid ho.lt
        have Ho := Lib.hid ho
        have Hb := Lib.hid hb
        have Hst := Lib.hid hst
        clear hcd hmem hst ho hb hL
        go_wp2_with fail
        have hal : Below wr.heap.size wr (wr.alloc (.cells #[.int .i64 lo, .int .i64 hi] 83)) := (Below.refl _ _).alloc (Nat.le_refl _) _
        have hba := below_kept Hb.out (Nat.le_refl _) hal
        have hcw : Caps (wr.alloc (.cells #[.int .i64 lo, .int .i64 hi] 83)) gq (gq + 1) A c q := ⟨cell_kept hba Hcp.out.1, cell_kept hba Hcp.out.2⟩
        have hwB : B ≤ w3.heap.size := Nat.le_trans hB Hd.out.size
        have hsw := (H.out.below (Hd.out.mono hB)).below (hba.mono hwB)
        refine (Hone.out gq (gq + 1) lo hi _ hcw hsw (Nat.le_trans hwB hba.size) ⟨by omega, by omega⟩ (by omega) (by omega)).mono ?_
        rintro e w5 ⟨rfl, hb5⟩
        have o5 := own_kept (Ho.out.alloc (.cells #[.int .i64 lo, .int .i64 hi] 83)) hb5
        have b5 := below_kept hba (Nat.le_refl _) hb5
        have c50 : w5.cell? ⟨wr.heap.size, 0, none⟩ = some (.int .i64 lo) := (hb5.cell (p := ⟨wr.heap.size, 0, none⟩) (by simp)).trans (by simp [go_sem])
        have c51 : w5.cell? ⟨wr.heap.size, 1, none⟩ = some (.int .i64 hi) := (hb5.cell (p := ⟨wr.heap.size, 1, none⟩) (by simp)).trans (by simp [go_sem])
        have z5 : wr.heap.size < w5.heap.size := World.block_lt_of_cell? w5 _ c50
        clear hb5 hal hba hcw hsw Ho Hb x0 x1
        obtain ⟨x, hx⟩ : ∃ x, ent q lo hi = x := ⟨_, rfl⟩
        rw [hx]
        by_cases hx1 : x = 1
        · have hp : eP q (lo, hi) = true := by unfold eP; simpa using hx.trans hx1
          have hs2 : (D.take (k + 1)).filter (eP q) = L ++ [(lo, hi)] := by rw [Hst.out, if_pos hp]
          have Hs2 := Lib.hid hs2
          subst hx1
          have hz5 := b5.size
          have own2 := o5.alloc (.cells #[.int .i64 lo, .int .i64 hi] 83)
          have hb2 := b5.alloc hz5 (.cells #[.int .i64 lo, .int .i64 hi] 83)
          have hb6 := hb2.size
          have Hob5 := Lib.hid o5.lt
          clear hs2 hp hx o5 b5 Hst Hob
          go_wp2_with (first
            | (at_builtin; refine append1Dn _ rfl _ _ rfl w3.heap.size (.slice A' L.length c') L.length L rfl rfl own2 w5.heap.size lo hi rfl ?c1 ?c2 ?c3 hb6 ?_; (case c1 => simp [go_sem]); (case c2 => simp [go_sem]); (case c3 => omega); intro A3 c3 w6 own3 hg3))
          have hb7 := hb2.grown hg3 hb6 (fun j hj => (Hob5.out j hj).1)
          have hlen : L.length + 1 = (L ++ [(lo, hi)]).length := by simp
          rw [hlen] at own3 ⊢
          generalize hMM : L ++ [(lo, hi)] = MM at *
          have HMM := Lib.hid hMM
          clear hg3 hb2 own2 hlen c50 c51 hMM
          go_wp2
          go_roundw
          case rel => exact ⟨k + 1, MM, A3, c3, by omega, Hs2.out.symm, by go_num, rfl, own3, hb7⟩
          case measure => simp [intOf]; omega
        · have hp : eP q (lo, hi) = false := by unfold eP; rw [hx]; simpa using hx1
          have hs2 : (D.take (k + 1)).filter (eP q) = L := by rw [Hst.out, if_neg (by rw [hp]; simp), List.append_nil]
          have Hs2 := Lib.hid hs2
          have hxe : (x == 1) = false := by simpa using hx1
          have HO := Lib.hid o5
          have HB := Lib.hid b5
          clear hs2 hp hx o5 b5 Hst hx1
          go_wp2
          go_roundw
          case rel => exact ⟨k + 1, L, A', c', by omega, Hs2.out.symm, by go_num, rfl, HO.out, HB.out⟩
          case measure => simp [intOf]; omega
      · obtain rfl : k = D.length := by omega
        rw [List.take_length] at hL
        have hE : RetD w R true (.returned (.tuple #[.slice A' L.length c', .bool true])) wr := by
          rw [HR.out, ← hL]
          exact ⟨A', c', rfl, ho.mono Hd.out.size, below_kept Hd.out (Nat.le_refl _) hb⟩
        have HE := Lib.hid hE
        clear hE ho hb hL
        go_wp2
        go_ret2
        exact HE.out
theorem WOnesOf.walk (w : World) (A : Option Addr) (c : Nat) (l : List Int) (h : SlI w w.heap.size A l)
    (hj : l.length ≤ c ∧ c ≤ maxLen ∧ ∀ x ∈ l, (Lit.int .i64 x).wf = true) :
    Calls Try.prog 8 #[.slice A l.length c] w fun e w' => e = .returned (.bool true) ∧ Below w.heap.size w w' :=
  WOnesOf.core w A c l h hj.1 hj.2.1 _ _ (onR_length l) (Lib.hid fun A c w h hl hlc => spec_OnesOf A c _ l w h (Nat.le_refl _) hl hlc) (Lib.hid fun A c w h hl hlc => impl_OnesOf A c _ l w h (Nat.le_refl _) hl hlc)
end Go.Proofs.Ytfffnkbjhbaceab
