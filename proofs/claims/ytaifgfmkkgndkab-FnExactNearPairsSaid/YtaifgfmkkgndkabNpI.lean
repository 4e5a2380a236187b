/- The program's near pairs, and the law's walk. -/
import Derived.Test.YtaifgfmkkgndkabNpS
import Derived.Test.YtaifgfmkkgndkabNearPairsC
namespace Go.Proofs.Ytaifgfmkkgndkab
set_option linter.unusedVariables false
open Go.RowKit

theorem eN_nat (l : List (Int × Int)) (a b : Nat) (x : Int) (h : crs ((crn l).getD a (0, 0)) ((crn l).getD b (0, 0)) = x) : eN l ((a : Int), (b : Int)) = decide (x = 1) := by subst h; rfl
set_option maxRecDepth 100000 in
set_option maxHeartbeats 3200000 in
theorem impl_NearPairs (A : Option Addr) (c B : Nat) (l : List (Int × Int)) (w : World) (h : SlD w B A l) (hB : B ≤ w.heap.size) (hl : l.length ≤ 1048576) (hlc : l.length ≤ c) :
    Calls Try.prog 36 #[.slice A l.length c] w (RetD w (npR l) (polB l)) := by
  have hcq := impl_IsFractionPolygon A c B l w h hB hl hlc
  have HQ := Lib.hid hcq
  clear hcq
  cases hq : polB l
  · have hE := Lib.hid (fun w' hb => retD_np_no (l := l) (w := w) (w' := w') hq hb)
    rw [hq] at HQ hE
    go_enter Try.func36, Try.ntmps36
    go_wp2_with fail
    refine HQ.out.mono ?_
    rintro e w1 ⟨rfl, hb1⟩
    have hE2 := Lib.hid (hE.out _ hb1)
    clear HQ hE h hb1
    go_wp2
    go_ret2
    exact hE2.out
  · rw [hq] at HQ
    obtain ⟨⟨hn3, hn12⟩, _⟩ := polB_iff.1 hq
    have Hpol := Lib.hid hq
    have hR1 := npR_yes hq
    rw [← rws_filterN] at hR1
    have HR := Lib.hid hR1
    clear hR1
    generalize npR l = R at *
    have H := Lib.hid h
    have HC := Lib.hid (fun w h hB => impl_cornersOf A c B l w h hB hn3 hn12 hlc)
    have hcl : (crn l).length = l.length := crn_length (by omega)
    have Hcl := Lib.hid hcl
    clear hcl
    have Hall := Lib.hid (fun w => impl_allDiagonals l.length w hn3 hn12)
    have HDB := Lib.hid (fun (p : Int × Int) (hp : p ∈ rws (dB l.length) l.length l.length) => rws_mem2 hp)
    have HLn := Lib.hid (rws_length (dB l.length) l.length l.length)
    have Hn12 := Lib.hid hn12
    clear hq h hl hlc
    generalize rws (dB l.length) l.length l.length = D at *
    go_enter Try.func36, Try.ntmps36
    go_wp2_with fail
    refine HQ.out.mono ?_
    rintro e w1 ⟨rfl, hb1⟩
    have Hb1 := Lib.hid hb1
    have H1 := Lib.hid (H.out.below (hb1.mono hB))
    clear hb1 HQ H
    go_wp2_with fail
    refine (HC.out _ H1.out (Nat.le_trans hB Hb1.out.size)).mono ?_
    rintro e w2 ⟨Ac, cc, rfl, hoc, hb2⟩
    rw [Hcl.out] at hoc ⊢
    have hd2 := below_kept Hb1.out (Nat.le_refl _) hb2
    have HSc := Lib.hid (show SlD w2 w2.heap.size Ac (crn l) from SlD.of_own hoc)
    clear hoc hb2 HC H1 Hb1
    go_wp2_with fail
    refine (Hall.out _).mono ?_
    rintro e w3 ⟨Ad, cd, rfl, hod, hb3⟩
    have Hb3 := Lib.hid hb3
    have hd3 := below_kept hd2 (Nat.le_refl _) hb3
    have hsd := SlD.of_own hod
    have Hd := Lib.hid hd3
    have Hsd := Lib.hid hsd
    have hw3 := hd3.size
    have hD12 : D.length ≤ 144 := by
      have h2 : l.length * l.length ≤ 12 * 12 := Nat.mul_le_mul Hn12.out Hn12.out
      have := HLn.out
      omega
    clear hd2 hd3 hsd hod hb3 Hall
    go_wp2
    go_loopw [5, 7, 17] (fun v _ i wr => ∃ (k : Nat) (L : List (Int × Int)) (A' : Option Addr) (c' : Nat), k ≤ D.length ∧ L = (D.take k).filter (eN l) ∧ i = .int .i64 k ∧ v = .slice A' L.length c' ∧ wr.ownsRow w3.heap.size 83 2 (.slice A' L.length c') L.length (dcs L) ∧ Below w3.heap.size w3 wr) (fun _ _ i _ => D.length - (intOf i).toNat)
    case atStart => exact ⟨0, [], none, 0, Nat.zero_le _, rfl, rfl, rfl, World.ownsRow_nil _ _ _ _, Below.refl _ _⟩
    case round =>
      obtain ⟨k, L, A', c', hk, hL, rfl, rfl, ho, hb⟩ := hrel
      by_cases hlt : k < D.length
      · obtain ⟨bd, od, rfl, hbd, hcd⟩ := Hsd.out (by omega)
        obtain ⟨x0, x1⟩ := hcd k hlt
        have k0 : (0 : Int) ≤ (k : Int) := by omega
        have k1 : (k : Int) < (D.length : Int) := by omega
        have hmem : D.getD k (0, 0) ∈ D := by
          have e : D.getD k (0, 0) = D[k] := by simp [hlt]
          rw [e]
          exact List.getElem_mem hlt
        obtain ⟨ma, mb, hmp, hmab, hmbn⟩ := HDB.out _ hmem
        have hst := take_filter (p := eN l) D k hlt
        rw [← hL] at hst
        have hLL : L.length ≤ 1000000 := by
          have h1 : L.length ≤ D.length := by
            rw [hL]
            refine Nat.le_trans (List.length_filter_le _ _) ?_
            rw [List.length_take]
            omega
          omega
        rw [hmp] at x0 x1 hst
        clear hmp
        obtain ⟨lo, hlo⟩ : ∃ lo : Int, lo = (ma : Int) := ⟨_, rfl⟩
        obtain ⟨hi, hhi⟩ : ∃ hi : Int, hi = (mb : Int) := ⟨_, rfl⟩
        dsimp only at x0 x1
        have Hlo := Lib.hid hlo
        have Hhi := Lib.hid hhi
        have hX := fun w h hB => impl_crossAlong Ac cc w2.heap.size l.length ma mb (crn l) w Hcl.out h hB hn12 (by omega) hmbn (fun k hk => crn_sm Hpol.out k hk)
        rw [← hlo] at x0
        rw [← hhi] at x1
        rw [← hlo, ← hhi] at hst hX
        have HX := Lib.hid hX
        clear hX hlo hhi
        replace x0 : wr.cell? ⟨bd, od + k * 2, none⟩ = some (.int .i64 lo) := (hb.cell (p := ⟨bd, od + k * 2, none⟩) hbd).trans x0
        replace x1 : wr.cell? ⟨bd, od + k * 2 + 1, none⟩ = some (.int .i64 hi) := (hb.cell (p := ⟨bd, od + k * 2 + 1, none⟩) hbd).trans x1
        have ybd : bd < wr.heap.size := Nat.lt_of_lt_of_le hbd hb.size
        have hz := hb.size
        have Hob := Lib.hid ho.lt
        have Ho := Lib.hid ho
        have Hb := Lib.hid hb
        have Hst := Lib.hid hst
        clear hcd hmem hst ho hb hL
        go_wp2_with fail
        have hal : Below wr.heap.size wr (wr.alloc (.cells #[.int .i64 lo, .int .i64 hi] 83)) := (Below.refl _ _).alloc (Nat.le_refl _) _
        have hba := below_kept Hb.out (Nat.le_refl _) hal
        have hsw := HSc.out.below (Hb3.out.trans (hba.mono Hb3.out.size))
        refine (HX.out _ hsw (Nat.le_trans Hb3.out.size hba.size)).mono ?_
        rintro e w5 ⟨rfl, hb5⟩
        have o5 := own_kept (Ho.out.alloc (.cells #[.int .i64 lo, .int .i64 hi] 83)) hb5
        have b5 := below_kept hba (Nat.le_refl _) hb5
        have c50 : w5.cell? ⟨wr.heap.size, 0, none⟩ = some (.int .i64 lo) := (hb5.cell (p := ⟨wr.heap.size, 0, none⟩) (by simp)).trans (by simp [go_sem])
        have c51 : w5.cell? ⟨wr.heap.size, 1, none⟩ = some (.int .i64 hi) := (hb5.cell (p := ⟨wr.heap.size, 1, none⟩) (by simp)).trans (by simp [go_sem])
        have z5 : wr.heap.size < w5.heap.size := World.block_lt_of_cell? w5 _ c50
        clear hb5 hal hba hsw Ho Hb x0 x1 HX
        obtain ⟨x, hx⟩ : ∃ x, crs ((crn l).getD ma (0, 0)) ((crn l).getD mb (0, 0)) = x := ⟨_, rfl⟩
        rw [hx]
        by_cases hx1 : x = 1
        · have hp : eN l (lo, hi) = true := by rw [Hlo.out, Hhi.out, eN_nat l ma mb x hx]; simpa using hx1
          have hs2 : (D.take (k + 1)).filter (eN l) = L ++ [(lo, hi)] := by rw [Hst.out, if_pos hp]
          have Hs2 := Lib.hid hs2
          subst hx1
          have hz5 := b5.size
          have own2 := o5.alloc (.cells #[.int .i64 lo, .int .i64 hi] 83)
          have hb2 := b5.alloc hz5 (.cells #[.int .i64 lo, .int .i64 hi] 83)
          have hb6 := hb2.size
          have Hob5 := Lib.hid o5.lt
          clear hs2 hp hx o5 b5 Hst Hob
          go_wp2_with (first
            | (at_builtin; refine append1Dn _ rfl _ _ rfl w3.heap.size (.slice A' L.length c') L.length L rfl rfl own2 w5.heap.size lo hi rfl ?c1 ?c2 ?c3 hb6 ?_; (case c1 => simp [go_sem]); (case c2 => simp [go_sem]); (case c3 => omega); intro A3 c3 w6 own3 hg3))
          have hb7 := hb2.grown hg3 hb6 (fun j hj => (Hob5.out j hj).1)
          have hlen : L.length + 1 = (L ++ [(lo, hi)]).length := by simp
          rw [hlen] at own3 ⊢
          generalize hMM : L ++ [(lo, hi)] = MM at *
          have HMM := Lib.hid hMM
          clear hg3 hb2 own2 hlen c50 c51 hMM
          go_wp2
          go_roundw
          case rel => exact ⟨k + 1, MM, A3, c3, by omega, Hs2.out.symm, by go_num, rfl, own3, hb7⟩
          case measure => simp [intOf]; omega
        · have hp : eN l (lo, hi) = false := by rw [Hlo.out, Hhi.out, eN_nat l ma mb x hx]; simpa using hx1
          have hs2 : (D.take (k + 1)).filter (eN l) = L := by rw [Hst.out, if_neg (by rw [hp]; simp), List.append_nil]
          have Hs2 := Lib.hid hs2
          have hxe : (x == 1) = false := by simpa using hx1
          have HO := Lib.hid o5
          have HB := Lib.hid b5
          clear hs2 hp hx o5 b5 Hst hx1
          go_wp2
          go_roundw
          case rel => exact ⟨k + 1, L, A', c', by omega, Hs2.out.symm, by go_num, rfl, HO.out, HB.out⟩
          case measure => simp [intOf]; omega
      · obtain rfl : k = D.length := by omega
        rw [List.take_length] at hL
        have hE : RetD w R true (.returned (.tuple #[.slice A' L.length c', .bool true])) wr := by
          rw [HR.out, ← hL]
          exact ⟨A', c', rfl, ho.mono Hd.out.size, below_kept Hd.out (Nat.le_refl _) hb⟩
        have HE := Lib.hid hE
        clear hE ho hb hL
        go_wp2
        go_ret2
        exact HE.out
theorem WNearPairs.walk (w : World) (A : Option Addr) (c : Nat) (l : List (Int × Int)) (h : SlD w w.heap.size A l)
    (hj : l.length ≤ c ∧ c ≤ maxLen ∧ ∀ x ∈ l, (Lit.int .i64 x.1).wf = true ∧ (Lit.int .i64 x.2).wf = true) :
    Calls Try.prog 9 #[.slice A l.length c] w fun e w' => e = .returned (.bool true) ∧ Below w.heap.size w w' :=
  WNearPairs.core w A c l h hj.1 hj.2.1 _ _ (npR_length l) (Lib.hid fun A c w h hl hlc => spec_NearPairs A c _ l w h (Nat.le_refl _) hl hlc) (Lib.hid fun A c w h hl hlc => impl_NearPairs A c _ l w h (Nat.le_refl _) hl hlc)
end Go.Proofs.Ytaifgfmkkgndkab
