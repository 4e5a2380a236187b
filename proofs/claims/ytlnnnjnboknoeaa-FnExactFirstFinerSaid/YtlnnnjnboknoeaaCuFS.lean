/- The model's cuFree: the diagonals that are free in a cut. -/
import Derived.Test.YtlnnnjnboknoeaaFreM
import Derived.Test.YtlnnnjnboknoeaaCugS
import Derived.Test.YtlnnnjnboknoeaaFliS
import Derived.Test.YtlnnnjnboknoeaaApp
namespace Go.Proofs.Ytlnnnjnboknoeaa
set_option linter.unusedVariables false
open Go.RowKit

theorem freP_low {n : Nat} {l : List (Int × Int)} {a b : Nat} (h : b < a + 2) : freP n l a b = false := by unfold freP; rw [dB_low h]; rfl
theorem freP_high {n : Nat} {l : List (Int × Int)} {a b : Nat} (h : n ≤ b) : freP n l a b = false := by unfold freP; rw [dB_high h]; rfl

set_option maxRecDepth 100000 in
set_option maxHeartbeats 6400000 in
theorem spec_cuFree (n : Nat) (A : Option Addr) (q c B : Nat) (l : List (Int × Int)) (w : World) (hn3 : 3 ≤ n) (hn12 : n ≤ 12) (h : SlD w B A l) (hB : B ≤ w.heap.size) (hq : l.length = q) (hq9 : q ≤ 1000) :
    Calls Try.prog 69 #[.int .i64 n, .slice A q c] w (GivD w (freL n l)) := by
  obtain ⟨R, hR⟩ : ∃ R, freL n l = R := ⟨_, rfl⟩
  rw [hR]
  have HR := Lib.hid hR
  have H := Lib.hid h
  have Hq := Lib.hid hq
  clear hR h hq
  go_enter Try.func69, Try.ntmps69
  go_wp2
  go_loopw [5, 6, 7, 8, 9, 11] (fun v i _ _ _ _ wr => ∃ (a : Nat) (L : List (Int × Int)) (A' : Option Addr) (c' : Nat), a ≤ n ∧ L = rws (freP n l) n a ∧ i = .int .i64 a ∧ v = .slice A' L.length c' ∧ wr.ownsRow w.heap.size 49 2 (.slice A' L.length c') L.length (dcs L) ∧ Below w.heap.size w wr) (fun _ i _ _ _ _ _ => n - (intOf i).toNat)
  case atStart => exact ⟨0, [], none, 0, Nat.zero_le _, rfl, rfl, rfl, World.ownsRow_nil _ _ _ _, Below.refl _ _⟩
  case round =>
    obtain ⟨a, L, A', c', ha, hL, rfl, rfl, ho, hb⟩ := hrel
    obtain ⟨w0, hw0⟩ : ∃ w0, w0 = wr := ⟨_, rfl⟩
    subst hw0
    by_cases hlt : a < n
    · have a1 : (a : Int) < (n : Int) := by omega
      have a0 : (0 : Int) ≤ (a : Int) := by omega
      have Hs1 := Lib.hid hL
      have Ho := Lib.hid ho
      have Hb := Lib.hid hb
      clear hL ho hb
      go_wp2
      go_loopw [5, 7, 8, 9, 11] (fun v i _ _ _ wr => ∃ (b : Nat) (M : List (Int × Int)) (A' : Option Addr) (c' : Nat), a + 2 ≤ b ∧ (b ≤ n ∨ b = a + 2) ∧ M = L ++ prs a (freP n l a) b ∧ i = .int .i64 b ∧ v = .slice A' M.length c' ∧ wr.ownsRow w.heap.size 49 2 (.slice A' M.length c') M.length (dcs M) ∧ Below w.heap.size w wr) (fun _ i _ _ _ _ => n + 2 - (intOf i).toNat)
      case atStart =>
        refine ⟨a + 2, L, A', c', Nat.le_refl _, .inr rfl, ?_, by simp, rfl, Ho.out, Hb.out⟩
        rw [prs_none (fun b hb => freP_low hb), List.append_nil]
      case round =>
        clear Ho Hb
        obtain ⟨b, M, A2, c2, hab, hbn, hM, rfl, rfl, ho, hb⟩ := hrel
        by_cases hbl : b < n
        · have b1 : (b : Int) < (n : Int) := by omega
          have b0 : (a : Int) + 2 ≤ (b : Int) := by omega
          have hML : M.length ≤ 1000000 := by
            have h1 := prs_length a (freP n l a) b
            have h2 := rws_length (freP n l) n a
            have h3 : a * n ≤ 12 * 12 := Nat.mul_le_mul (by omega) (by omega)
            rw [hM, List.length_append, Hs1.out]
            omega
          have hz := hb.size
          have Ho := Lib.hid (ho.alloc (.cells #[.int .i64 (a : Int), .int .i64 (b : Int)] 49))
          have Hb := Lib.hid (hb.alloc hz (.cells #[.int .i64 (a : Int), .int .i64 (b : Int)] 49))
          have HM := Lib.hid hM
          have p0 : (wr.alloc (.cells #[.int .i64 (a : Int), .int .i64 (b : Int)] 49)).cell? ⟨wr.heap.size, 0, none⟩ = some (.int .i64 (a : Int)) := by simp [go_sem]
          have p1 : (wr.alloc (.cells #[.int .i64 (a : Int), .int .i64 (b : Int)] 49)).cell? ⟨wr.heap.size, 1, none⟩ = some (.int .i64 (b : Int)) := by simp [go_sem]
          have P0 := Lib.hid p0
          have P1 := Lib.hid p1
          have hdd : dgB (n : Int) (a : Int) (b : Int) = dB n a b := rfl
          have Hcall := Lib.hid (spec_poDiagonal (n : Int) (a : Int) (b : Int))
          rw [hdd] at Hcall
          have hno : dB n a b = false ∨ decide (((a : Int), (b : Int)) ∈ l) = true ∨ anyCross ((a : Int), (b : Int)) l = true → M = L ++ prs a (freP n l a) (b + 1) := fun hh => by
            have : freP n l a b = false := by unfold freP; rcases hh with hh | hh | hh <;> rw [hh] <;> simp
            rw [prs_no this]; exact HM.out
          have hyes : dB n a b = true → decide (((a : Int), (b : Int)) ∈ l) = false → anyCross ((a : Int), (b : Int)) l = false → M ++ [((a : Int), (b : Int))] = L ++ prs a (freP n l a) (b + 1) := fun h1 h2 h3 => by
            have : freP n l a b = true := by unfold freP; rw [h1, h2, h3]; rfl
            rw [prs_yes this, ← List.append_assoc, HM.out]
          have Hno := Lib.hid hno
          have Hyes := Lib.hid hyes
          clear hno hyes hdd p0 p1 ho hb hM HM
          generalize dB n a b = bd at *
          obtain ⟨wd, hwd⟩ : ∃ wd, wd = wr.alloc (.cells #[.int .i64 (a : Int), .int .i64 (b : Int)] 49) := ⟨_, rfl⟩
          have Hwd := Lib.hid hwd
          have hzd : wr.heap.size < wd.heap.size := by rw [hwd]; simp
          go_wp2_with fail
          rw [← hwd] at Ho Hb P0 P1 ⊢
          have q0 := P0.out
          have q1 := P1.out
          clear hwd
          refine (Hcall.out _).mono ?_
          rintro e w1 ⟨rfl, hb1⟩
          have O1 := Lib.hid (own_kept Ho.out hb1)
          have B1 := Lib.hid (below_kept Hb.out (Nat.le_refl _) hb1)
          have q2 := cell_kept hb1 q0
          have q3 := cell_kept hb1 q1
          have zz1 : wr.heap.size < w1.heap.size := Nat.lt_of_lt_of_le hzd hb1.size
          clear hb1 Hcall q0 q1 P0 P1 Ho Hb Hwd
          cases bd
          · have Hst := Lib.hid (Hno.out (.inl rfl))
            clear Hno Hyes
            go_wp2
            go_roundw
            case rel => exact ⟨b + 1, M, A2, c2, by omega, .inl (by omega), Hst.out, by go_num, rfl, O1.out, B1.out⟩
            case measure => simp [intOf]; omega
          · have Hfl := Lib.hid (spec_flIn A q c B l (a : Int) (b : Int) _ w1 (H.out.below (B1.out.mono hB)) Hq.out (Nat.le_trans hB B1.out.size) (by omega) rfl)
            go_wp2_with fail
            refine Hfl.out.mono ?_
            rintro e w2 ⟨rfl, hb2⟩
            have O2 := Lib.hid (own_kept O1.out hb2)
            have B2 := Lib.hid (below_kept B1.out (Nat.le_refl _) hb2)
            have q0 := cell_kept hb2 q2
            have q1 := cell_kept hb2 q3
            have zz2 : wr.heap.size < w2.heap.size := Nat.lt_of_lt_of_le zz1 hb2.size
            clear hb2 Hfl q2 q3 O1 B1
            cases hm : decide (((a : Int), (b : Int)) ∈ l)
            · have Hyes2 := Lib.hid (Hyes.out (by first | rfl | trivial) hm)
              have Hno2 := Lib.hid (fun hh => Hno.out (.inr (.inr hh)))
              clear Hno Hyes hm
              go_wp2
              obtain ⟨wp, hwp⟩ : ∃ wp : World, wp = w2 := ⟨_, rfl⟩
              obtain ⟨wo, hwo⟩ : ∃ wo : World, wo = wr := ⟨_, rfl⟩
              subst hwp
              subst hwo
              go_loopw [9, 11, 38] (fun f _ i wr => ∃ (j : Nat) (fb : Bool), j ≤ q ∧ i = .int .i64 j ∧ f = .bool fb ∧ fb = (!anyCross ((a : Int), (b : Int)) (l.take j)) ∧ Below wp.heap.size wp wr) (fun _ _ i _ => q - (intOf i).toNat)
              case atStart => exact ⟨0, true, Nat.zero_le _, rfl, rfl, by simp [anyCross], Below.refl _ _⟩
              case round =>
                obtain ⟨j, fb, hj, rfl, rfl, hfb, hb⟩ := hrel
                have Hfb := Lib.hid hfb
                have bw := below_kept B2.out (Nat.le_refl _) hb
                have Hbw := Lib.hid bw
                have q2 := cell_kept hb q0
                have q3 := cell_kept hb q1
                have zz3 : wo.heap.size < wr.heap.size := Nat.lt_of_lt_of_le zz2 hb.size
                clear hfb
                by_cases hjq : j < q
                · obtain ⟨b3, off3, rfl, hbB3, hc3⟩ := H.out.below (bw.mono hB) (by rw [Hq.out]; omega)
                  obtain ⟨s0, s1⟩ := hc3 j (by rw [Hq.out]; omega)
                  have m0 : (0 : Int) ≤ (j : Int) := by omega
                  have m1 : (j : Int) < (q : Int) := by omega
                  have hst := anyCross_take ((a : Int), (b : Int)) l j (by rw [Hq.out]; omega)
                  dsimp only at hst
                  generalize (l.getD j (0, 0)).1 = u at *
                  generalize (l.getD j (0, 0)).2 = v at *
                  have Hst := Lib.hid hst
                  have Hb := Lib.hid hb
                  clear hst hc3 q0 q1 bw hb
                  cases fb
                  · have hn : false = (!anyCross ((a : Int), (b : Int)) (l.take (j + 1))) := by
                      have := Hfb.out
                      rw [Hst.out]
                      cases hx : anyCross ((a : Int), (b : Int)) (l.take j)
                      · rw [hx] at this; simp at this
                      · simp
                    have Hn := Lib.hid hn
                    clear hn
                    go_wp2
                    go_roundw
                    case rel => exact ⟨j + 1, false, by omega, by go_num, rfl, Hn.out, Hb.out.alloc Hb.out.size _⟩
                    case measure => simp [intOf]; omega
                  · have hn : (!crB (a : Int) (b : Int) u v) = (!anyCross ((a : Int), (b : Int)) (l.take (j + 1))) := by
                      have := Hfb.out
                      rw [Hst.out]
                      cases hx : anyCross ((a : Int), (b : Int)) (l.take j)
                      · simp
                      · rw [hx] at this; simp at this
                    have Hn := Lib.hid hn
                    clear hn
                    go_wp2_with fail
                    refine (spec_poCross (a : Int) (b : Int) u v _).mono ?_
                    rintro e w5 ⟨rfl, hb5⟩
                    have B5 := Lib.hid (below_kept (Hb.out.alloc Hb.out.size _) (Nat.le_refl _) hb5)
                    clear hb5 s0 s1 q2 q3
                    generalize crB (a : Int) (b : Int) u v = cr at *
                    go_wp2
                    go_roundw
                    case rel => exact ⟨j + 1, !cr, by omega, by go_num, rfl, Hn.out, B5.out⟩
                    case measure => simp [intOf]; omega
                · obtain rfl : j = q := by omega
                  have hall : l.take j = l := by rw [← Hq.out]; exact List.take_length
                  rw [hall] at Hfb
                  have O3 := Lib.hid (own_kept O2.out hb)
                  clear hall q0 q1 bw hb
                  cases fb
                  · have Hst := Lib.hid (Hno2.out (by have := Hfb.out; simpa using this))
                    clear Hno2 Hyes2 Hfb
                    go_wp2
                    go_roundw
                    case rel => exact ⟨b + 1, M, A2, c2, by omega, .inl (by omega), Hst.out, by go_num, rfl, O3.out, Hbw.out⟩
                    case measure => simp [intOf]; omega
                  · have Hst := Lib.hid (Hyes2.out (by have := Hfb.out; simpa using this))
                    have own3 := O3.out.alloc (.cells #[.int .i64 (a : Int), .int .i64 (b : Int)] 49)
                    have hb3 := Hbw.out.alloc Hbw.out.size (.cells #[.int .i64 (a : Int), .int .i64 (b : Int)] 49)
                    have hb6 := hb3.size
                    clear Hno2 Hyes2 Hfb
                    go_wp2_with (first
                      | (at_builtin; refine append1Dn _ rfl _ _ rfl w.heap.size (.slice A2 M.length c2) M.length M rfl rfl own3 wr.heap.size (a : Int) (b : Int) rfl ?c1 ?c2 ?c3 hb6 ?_; (case c1 => simp [go_sem]); (case c2 => simp [go_sem]); (case c3 => omega); intro A3 c3 w3 own4 hg3))
                    have hb7 := hb3.grown hg3 hb6 (fun j hj => (O3.out.lt j hj).1)
                    have hlen : M.length + 1 = (M ++ [((a : Int), (b : Int))]).length := by simp
                    rw [hlen] at own4 ⊢
                    rw [Hst.out] at own4 ⊢
                    clear hg3 hb3 own3 hlen
                    generalize hMM : L ++ prs a (freP n l a) (b + 1) = MM at *
                    have HMM := Lib.hid hMM
                    clear hMM
                    go_wp2
                    go_roundw
                    case rel => exact ⟨b + 1, MM, A3, c3, by omega, .inl (by omega), HMM.out.symm, by go_num, rfl, own4, hb7⟩
                    case measure => simp [intOf]; omega
            · have Hst := Lib.hid (Hno.out (.inr (.inl hm)))
              clear Hno Hyes hm
              go_wp2
              go_roundw
              case rel => exact ⟨b + 1, M, A2, c2, by omega, .inl (by omega), Hst.out, by go_num, rfl, O2.out, B2.out⟩
              case measure => simp [intOf]; omega
        · have he : M = rws (freP n l) n (a + 1) := by rw [rws_succ, hM, Hs1.out, prs_end (n := n) (fun b hb => freP_low hb) (fun b hb => freP_high hb) (by omega)]
          have He := Lib.hid he
          have Ho := Lib.hid ho
          have Hb := Lib.hid hb
          clear he ho hb hM
          go_wp2
          go_roundw
          case rel => exact ⟨a + 1, M, A2, c2, by omega, He.out, by go_num, rfl, Ho.out, Hb.out⟩
          case measure => simp [intOf]; omega
    · obtain rfl : a = n := by omega
      have hE : GivD w R (.returned (.slice A' L.length c')) w0 := by
        rw [← HR.out, freL, ← hL]
        exact ⟨A', c', rfl, ho, hb⟩
      have HE := Lib.hid hE
      clear hE ho hb hL
      go_wp2
      go_ret
      exact HE.out
end Go.Proofs.Ytlnnnjnboknoeaa
