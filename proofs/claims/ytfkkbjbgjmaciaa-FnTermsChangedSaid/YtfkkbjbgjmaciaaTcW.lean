/- The walk of the law of changed terms. Made by wip/glaw/gl_terms.py. -/
import Derived.Test.YtfkkbjbgjmaciaaTcB
import Derived.Test.YtfkkbjbgjmaciaaTcD
import Derived.Deep.DeepCutAuto
import Derived.Deep.Cut
namespace Go.Proofs.Ytfkkbjbgjmaciaa
set_option linter.unusedVariables false
open Go.RowKit

set_option maxRecDepth 100000 in
set_option maxHeartbeats 25600000 in
theorem WTermsChanged.walk (w : World) (A1 : Option Addr) (n1 c1 : Nat) (h1 : CodeB w w.heap.size A1 n1) (m1 : n1 ≤ maxLen) (A2 : Option Addr) (n2 c2 : Nat) (h2 : CodeB w w.heap.size A2 n2) (m2 : n2 ≤ maxLen) :
    Calls Try.prog 4 #[.slice A1 n1 c1, .slice A2 n2 c2] w fun e w' => e = .returned (.bool true) ∧ Below w.heap.size w w' := by
  have HB := Lib.hid (laws_big A1 A2 n1 c1 n2 c2 w m1 m2)
  have H2 := Lib.hid h2
  have H1 := Lib.hid h1
  clear h1 h2 m1 m2
  go_enter Try.func4, Try.ntmps4
  go_wp2_with fail
  refine HB.out.mono ?_
  rintro e w' ⟨b, rfl, hb, rfl⟩
  cases b
  · have hn := hb rfl
    clear hb HB
    have H1 := Lib.hid (spec_DrawPutOne A1 n1 c1 w.heap.size w H1.out (Nat.le_refl _) (by omega))
    go_wp2_with fail
    refine H1.out.mono ?_
    rintro e w1 ⟨A_L, c_L, l_L, i0, rfl, hl_L, hlc_L, hs, hi0, hb⟩
    have S_L := Lib.hid hs
    have K1 := Lib.hid hb
    clear hb hs H1
    clear H1
    obtain ⟨P, hP⟩ : ∃ P, optL (poR l_L i0) = P := ⟨_, rfl⟩
    obtain ⟨ok, hok⟩ : ∃ ok, (poR l_L i0).isSome = ok := ⟨_, rfl⟩
    have HP := Lib.hid hP
    have HOK := Lib.hid hok
    have hPl : P.length ≤ 10 := hP ▸ poR_len _ _
    clear hP hok
    have hKK : (ok != ok) = false := by simp
    have H2 := Lib.hid (impl_PutOne A_L c_L _ l_L i0 w1 S_L.out (Nat.le_refl _) (by omega) hlc_L)
    rw [HP.out] at H2
    rw [HOK.out] at H2
    go_wp2_with fail
    refine H2.out.mono ?_
    rintro e w2 ⟨A_put, c_put, rfl, ho, hb⟩
    have S_put : Hid (SlI w2 w2.heap.size A_put P) := Lib.hid (SlI.of_own ho)
    have hlc_put : P.length ≤ c_put := own_capI ho
    have K2 := Lib.hid hb
    clear hb ho H2
    have H3 := Lib.hid (spec_PutOne A_L c_L _ l_L i0 w2 (S_L.out.below K2.out) K2.out.size (by omega) hlc_L)
    rw [HP.out] at H3
    rw [HOK.out] at H3
    go_wp2_with fail
    refine H3.out.mono ?_
    rintro e w3 ⟨A_right, c_right, rfl, ho, hb⟩
    have S_right : Hid (SlI w3 w3.heap.size A_right P) := Lib.hid (SlI.of_own ho)
    have hlc_right : P.length ≤ c_right := own_capI ho
    have K3 := Lib.hid hb
    clear hb ho H3
    have H4 := Lib.hid (laws_dSame_q A_put A_right _ c_put c_right _ _ P w3 rfl (S_put.out.below K3.out) S_right.out (by omega))
    go_wp2_with fail
    refine H4.out.mono ?_
    rintro e wx ⟨rfl, zz, rfl⟩
    have K4 : Hid (Below w3.heap.size w3 (w3.drewN zz)) := Lib.hid (below_drewN (Below.refl _ _) zz)
    generalize w3.drewN zz = w4 at *
    clear H4
    go_upto_if 98 with fail
    go_cut [] from 11 to 142 (fun wx => Below w4.heap.size w4 wx)
    case first =>
      as_aux_lemma =>
        clear hKK H2
        cases ok
        · go_wp2_with fail
          go_meet
          exact Below.refl _ _
        · obtain ⟨g1, g2, t1, t2, k, hk, k1, k2⟩ := put_all (optL_some HP.out HOK.out)
          subst hk
          obtain ⟨x, hx⟩ : ∃ x, ctv (-1) l_L = x := ⟨_, rfl⟩
          have HG1 := Lib.hid g1
          have HG2 := Lib.hid g2
          have HT := Lib.hid t1
          have HX := Lib.hid hx
          have HX2 := Lib.hid (t2.trans hx)
          have HK2 := Lib.hid k2
          have hxx : (x != x) = false := by simp
          clear g1 g2 t1 t2 hx k2
          have H5 := Lib.hid (impl_ctg A_L c_L _ l_L x w4 (S_L.out.below (below_kept (below_kept K2.out (Nat.le_refl _) K3.out) (Nat.le_refl _) K4.out)) HG1.out HX.out hlc_L)
          go_wp2_with fail
          refine H5.out.mono ?_
          rintro e w5 ⟨rfl, hb⟩
          have K5 := Lib.hid hb
          clear hb H5
          have H6 := Lib.hid (impl_ctg A_put c_put _ P x w5 (S_put.out.below (below_kept (below_kept K3.out (Nat.le_refl _) K4.out) (Nat.le_refl _) K5.out)) HG2.out HX2.out hlc_put)
          go_wp2_with fail
          refine H6.out.mono ?_
          rintro e w6 ⟨rfl, hb⟩
          have K6 := Lib.hid hb
          clear hb H6
          have H7 := Lib.hid (impl_take_yes A_put c_put _ P l_L (k : Int) w6 (S_put.out.below (below_kept (below_kept (below_kept K3.out (Nat.le_refl _) K4.out) (Nat.le_refl _) K5.out) (Nat.le_refl _) K6.out)) (below_kept (below_kept (below_kept K3.out (Nat.le_refl _) K4.out) (Nat.le_refl _) K5.out) (Nat.le_refl _) K6.out).size (by omega) hlc_put HT.out)
          go_wp2_with fail
          refine H7.out.mono ?_
          rintro e w7 ⟨A_back, c_back, rfl, ho, hb⟩
          have S_back : Hid (SlI w7 w7.heap.size A_back l_L) := Lib.hid (SlI.of_own ho)
          have hlc_back : l_L.length ≤ c_back := own_capI ho
          have K7 := Lib.hid hb
          clear hb ho H7
          have H8 := Lib.hid (laws_dSame_q A_back A_L _ c_back c_L _ _ l_L w7 rfl S_back.out (S_L.out.below (below_kept (below_kept (below_kept (below_kept (below_kept K2.out (Nat.le_refl _) K3.out) (Nat.le_refl _) K4.out) (Nat.le_refl _) K5.out) (Nat.le_refl _) K6.out) (Nat.le_refl _) K7.out)) (by omega))
          go_wp2_with fail
          refine H8.out.mono ?_
          rintro e wx ⟨rfl, zz, rfl⟩
          have K8 : Hid (Below w7.heap.size w7 (w7.drewN zz)) := Lib.hid (below_drewN (Below.refl _ _) zz)
          generalize w7.drewN zz = w8 at *
          clear H8
          obtain ⟨bl, off, hA, _, hcl⟩ := (S_put.out.below (below_kept (below_kept (below_kept (below_kept (below_kept K3.out (Nat.le_refl _) K4.out) (Nat.le_refl _) K5.out) (Nat.le_refl _) K6.out) (Nat.le_refl _) K7.out) (Nat.le_refl _) K8.out)) (by omega)
          subst hA
          have g0 := hcl k k1
          rw [HK2.out] at g0
          have i0 : (0 : Int) ≤ (k : Int) := by omega
          have i1 : (k : Int) < (P.length : Int) := by omega
          clear hcl
          go_wp2_with fail
          go_meet
          exact (below_kept (below_kept (below_kept K5.out (Nat.le_refl _) K6.out) (Nat.le_refl _) K7.out) (Nat.le_refl _) K8.out)
    case rest =>
      as_aux_lemma =>
        clear HP HOK S_put S_right hKK hlc_put hlc_right
        obtain ⟨v9, hv0⟩ : ∃ v0, v0 = wc := ⟨_, rfl⟩
        subst hv0
        have K5 := Lib.hid hcut
        clear hcut
        have H10 := Lib.hid (spec_DrawTakeOne A2 n2 c2 w.heap.size v9 (H2.out.below (below_kept (below_kept (below_kept (below_kept K1.out (Nat.le_refl _) K2.out) (Nat.le_refl _) K3.out) (Nat.le_refl _) K4.out) (Nat.le_refl _) K5.out)) (below_kept (below_kept (below_kept (below_kept K1.out (Nat.le_refl _) K2.out) (Nat.le_refl _) K3.out) (Nat.le_refl _) K4.out) (Nat.le_refl _) K5.out).size (by omega))
        go_wp2_with fail
        refine H10.out.mono ?_
        rintro e w6 ⟨A_s, c_s, l_s, k0, rfl, hl_s, hlc_s, hs, hk0, hb⟩
        have S_s := Lib.hid hs
        have K6 := Lib.hid hb
        clear hb hs H10
        obtain ⟨T, hT⟩ : ∃ T, optL (toR l_s k0) = T := ⟨_, rfl⟩
        obtain ⟨one, hone⟩ : ∃ one, (toR l_s k0).isSome = one := ⟨_, rfl⟩
        have HT := Lib.hid hT
        have HO := Lib.hid hone
        have hTl : T.length ≤ 10 := hT ▸ toR_len _ _
        clear hT hone
        have hOO : (one != one) = false := by simp
        have H11 := Lib.hid (impl_TakeOne A_s _ c_s _ l_s k0 w6 rfl S_s.out (Nat.le_refl _) (by omega) hlc_s)
        rw [HT.out] at H11
        rw [HO.out] at H11
        go_wp2_with fail
        refine H11.out.mono ?_
        rintro e w7 ⟨A_taken, c_taken, rfl, ho, hb⟩
        have S_taken : Hid (SlI w7 w7.heap.size A_taken T) := Lib.hid (SlI.of_own ho)
        have hlc_taken : T.length ≤ c_taken := own_capI ho
        have K7 := Lib.hid hb
        clear hb ho H11
        have H12 := Lib.hid (spec_TakeOne A_s c_s _ l_s k0 w7 (S_s.out.below K7.out) K7.out.size (by omega) hlc_s)
        rw [HT.out] at H12
        rw [HO.out] at H12
        go_wp2_with fail
        refine H12.out.mono ?_
        rintro e w8 ⟨A_want, c_want, rfl, ho, hb⟩
        have S_want : Hid (SlI w8 w8.heap.size A_want T) := Lib.hid (SlI.of_own ho)
        have hlc_want : T.length ≤ c_want := own_capI ho
        have K8 := Lib.hid hb
        clear hb ho H12
        have H13 := Lib.hid (spec_DrawReduceOnes A2 n2 c2 w.heap.size w8 (H2.out.below (below_kept (below_kept (below_kept (below_kept (below_kept (below_kept (below_kept K1.out (Nat.le_refl _) K2.out) (Nat.le_refl _) K3.out) (Nat.le_refl _) K4.out) (Nat.le_refl _) K5.out) (Nat.le_refl _) K6.out) (Nat.le_refl _) K7.out) (Nat.le_refl _) K8.out)) (below_kept (below_kept (below_kept (below_kept (below_kept (below_kept (below_kept K1.out (Nat.le_refl _) K2.out) (Nat.le_refl _) K3.out) (Nat.le_refl _) K4.out) (Nat.le_refl _) K5.out) (Nat.le_refl _) K6.out) (Nat.le_refl _) K7.out) (Nat.le_refl _) K8.out).size (by omega))
        go_wp2_with fail
        refine H13.out.mono ?_
        rintro e w9 ⟨A_r, c_r, l_r, rfl, hl_r, hlc_r, hs, hb⟩
        have S_r := Lib.hid hs
        have K9 := Lib.hid hb
        clear hb hs H13
        obtain ⟨R, hR⟩ : ∃ R, optL (roR l_r) = R := ⟨_, rfl⟩
        obtain ⟨three, hthree⟩ : ∃ three, (roR l_r).isSome = three := ⟨_, rfl⟩
        have HR := Lib.hid hR
        have HTH := Lib.hid hthree
        have hRl : R.length ≤ 10 := hR ▸ roR_len _
        clear hR hthree
        have hTT : (three != three) = false := by simp
        have H14 := Lib.hid (impl_ReduceOnes A_r c_r _ l_r w9 S_r.out (Nat.le_refl _) (by omega))
        rw [HR.out] at H14
        rw [HTH.out] at H14
        go_wp2_with fail
        refine H14.out.mono ?_
        rintro e w10 ⟨A_reduced, c_reduced, rfl, ho, hb⟩
        have S_reduced : Hid (SlI w10 w10.heap.size A_reduced R) := Lib.hid (SlI.of_own ho)
        have hlc_reduced : R.length ≤ c_reduced := own_capI ho
        have K10 := Lib.hid hb
        clear hb ho H14
        have H15 := Lib.hid (spec_ReduceOnes A_r c_r _ l_r w10 (S_r.out.below K10.out) K10.out.size (by omega))
        rw [HR.out] at H15
        rw [HTH.out] at H15
        go_wp2_with fail
        refine H15.out.mono ?_
        rintro e w11 ⟨A_model, c_model, rfl, ho, hb⟩
        have S_model : Hid (SlI w11 w11.heap.size A_model R) := Lib.hid (SlI.of_own ho)
        have hlc_model : R.length ≤ c_model := own_capI ho
        have K11 := Lib.hid hb
        clear hb ho H15
        have H16 := Lib.hid (laws_dSame_q A_taken A_want _ c_taken c_want _ _ T w11 rfl (S_taken.out.below (below_kept (below_kept (below_kept K8.out (Nat.le_refl _) K9.out) (Nat.le_refl _) K10.out) (Nat.le_refl _) K11.out)) (S_want.out.below (below_kept (below_kept K9.out (Nat.le_refl _) K10.out) (Nat.le_refl _) K11.out)) (by omega))
        go_wp2_with fail
        refine H16.out.mono ?_
        rintro e wx ⟨rfl, zz, rfl⟩
        have K12 : Hid (Below w11.heap.size w11 (w11.drewN zz)) := Lib.hid (below_drewN (Below.refl _ _) zz)
        generalize w11.drewN zz = w12 at *
        clear H16
        have H17 := Lib.hid (laws_dSame_q A_reduced A_model _ c_reduced c_model _ _ R w12 rfl (S_reduced.out.below (below_kept K11.out (Nat.le_refl _) K12.out)) (S_model.out.below K12.out) (by omega))
        go_wp2_with fail
        refine H17.out.mono ?_
        rintro e wx ⟨rfl, zz, rfl⟩
        have K13 : Hid (Below w12.heap.size w12 (w12.drewN zz)) := Lib.hid (below_drewN (Below.refl _ _) zz)
        generalize w12.drewN zz = w13 at *
        clear H17
        clear HT HO S_taken S_want hOO hlc_taken hlc_want S_s hlc_s
        go_upto_if 192 with fail
        go_cut [] from 28 to 232 (fun wx => Below w13.heap.size w13 wx)
        case first =>
          as_aux_lemma =>
            clear hTT H2
            cases three
            · go_wp2_with fail
              go_meet
              exact Below.refl _ _
            · obtain ⟨g1, g2, t2, tl, tn⟩ := red_all (optL_some HR.out HTH.out)
              obtain ⟨x, hx⟩ : ∃ x, ctv (-1) l_r = x := ⟨_, rfl⟩
              have HG1 := Lib.hid g1
              have HG2 := Lib.hid g2
              have HX := Lib.hid hx
              have HX2 := Lib.hid (t2.trans hx)
              have HN := Lib.hid tn
              have hxx : (x != x) = false := by simp
              have i3 : ¬ (l_r.length : Int) < (R.length : Int) := by omega
              clear g1 g2 t2 hx tn
              have H18 := Lib.hid (impl_ctg A_r c_r _ l_r x w13 (S_r.out.below (below_kept (below_kept (below_kept K10.out (Nat.le_refl _) K11.out) (Nat.le_refl _) K12.out) (Nat.le_refl _) K13.out)) HG1.out HX.out hlc_r)
              go_wp2_with fail
              refine H18.out.mono ?_
              rintro e w14 ⟨rfl, hb⟩
              have K14 := Lib.hid hb
              clear hb H18
              have H19 := Lib.hid (impl_ctg A_reduced c_reduced _ R x w14 (S_reduced.out.below (below_kept (below_kept (below_kept K11.out (Nat.le_refl _) K12.out) (Nat.le_refl _) K13.out) (Nat.le_refl _) K14.out)) HG2.out HX2.out hlc_reduced)
              go_wp2_with fail
              refine H19.out.mono ?_
              rintro e w15 ⟨rfl, hb⟩
              have K15 := Lib.hid hb
              clear hb H19
              have HS := Lib.hid (S_reduced.out.below (below_kept (below_kept (below_kept (below_kept K11.out (Nat.le_refl _) K12.out) (Nat.le_refl _) K13.out) (Nat.le_refl _) K14.out) (Nat.le_refl _) K15.out))
              have HE := Lib.hid (below_kept K14.out (Nat.le_refl _) K15.out)
              go_wp2_with fail
              go_loop [32] (fun i => ∃ d : Nat, 1 ≤ d ∧ d ≤ 20 ∧ i = .int .i64 d) (fun i => R.length - (intOf i).toNat)
              case atStart => exact ⟨1, Nat.le_refl _, by omega, rfl⟩
              case round =>
                obtain ⟨d, hd1, hd2, rfl⟩ := hrel
                by_cases hlt : d + 1 < R.length
                · obtain ⟨bl, off, hA, _, hcl⟩ := HS.out (by omega)
                  subst hA
                  have g0 := hcl d (by omega)
                  have hne := HN.out d hd1 hlt
                  generalize R.getD d 0 = y at *
                  have i0 : (0 : Int) ≤ (d : Int) := by omega
                  have i1 : (d : Int) < (R.length : Int) := by omega
                  have i2 : (d : Int) + 1 < (R.length : Int) := by omega
                  have hyb : (y == 1) = false := by simpa using hne
                  clear hcl hne
                  go_wp2
                  go_round
                  case rel => exact ⟨d + 1, by omega, by omega, by go_num⟩
                  case measure => simp [intOf]; omega
                · have i2 : ¬ (d : Int) + 1 < (R.length : Int) := by omega
                  go_wp2
                  go_meet
                  exact HE.out
        case rest =>
          as_aux_lemma =>
            clear HR HTH S_reduced S_model hTT hlc_reduced hlc_model S_r hlc_r
            obtain ⟨v20, hv0⟩ : ∃ v0, v0 = wc := ⟨_, rfl⟩
            subst hv0
            have K14 := Lib.hid hcut
            clear hcut
            have HD := Lib.hid (spec_DrawMinusTerms A2 n2 c2 w.heap.size v20 (H2.out.below (below_kept (below_kept (below_kept (below_kept (below_kept (below_kept (below_kept (below_kept (below_kept (below_kept (below_kept (below_kept (below_kept K1.out (Nat.le_refl _) K2.out) (Nat.le_refl _) K3.out) (Nat.le_refl _) K4.out) (Nat.le_refl _) K5.out) (Nat.le_refl _) K6.out) (Nat.le_refl _) K7.out) (Nat.le_refl _) K8.out) (Nat.le_refl _) K9.out) (Nat.le_refl _) K10.out) (Nat.le_refl _) K11.out) (Nat.le_refl _) K12.out) (Nat.le_refl _) K13.out) (Nat.le_refl _) K14.out)) (below_kept (below_kept (below_kept (below_kept (below_kept (below_kept (below_kept (below_kept (below_kept (below_kept (below_kept (below_kept (below_kept K1.out (Nat.le_refl _) K2.out) (Nat.le_refl _) K3.out) (Nat.le_refl _) K4.out) (Nat.le_refl _) K5.out) (Nat.le_refl _) K6.out) (Nat.le_refl _) K7.out) (Nat.le_refl _) K8.out) (Nat.le_refl _) K9.out) (Nat.le_refl _) K10.out) (Nat.le_refl _) K11.out) (Nat.le_refl _) K12.out) (Nat.le_refl _) K13.out) (Nat.le_refl _) K14.out).size (by omega))
            go_wp2_with fail
            refine HD.out.mono ?_
            rintro e w15 ⟨num, den, rfl, hnum, hden, hb⟩
            have K15 := Lib.hid hb
            clear hb HD
            obtain ⟨M, hM⟩ : ∃ M, tmR (mtR num den) = M := ⟨_, rfl⟩
            obtain ⟨five, hfive⟩ : ∃ five, (mtR num den).isSome = five := ⟨_, rfl⟩
            have HM := Lib.hid hM
            have HF := Lib.hid hfive
            have hMl : M.length ≤ 10 := hM ▸ mtR_len _ _
            clear hM hfive
            have h55 : (five != five) = false := by simp
            have H21 := Lib.hid (impl_MinusTerms num den w15)
            rw [HM.out] at H21
            rw [HF.out] at H21
            go_wp2_with fail
            refine H21.out.mono ?_
            rintro e w16 ⟨A_minus, c_minus, rfl, ho, hb⟩
            have S_minus : Hid (SlI w16 w16.heap.size A_minus M) := Lib.hid (SlI.of_own ho)
            have hlc_minus : M.length ≤ c_minus := own_capI ho
            have K16 := Lib.hid hb
            clear hb ho H21
            have H22 := Lib.hid (spec_MinusTerms num den w16)
            rw [HM.out] at H22
            rw [HF.out] at H22
            go_wp2_with fail
            refine H22.out.mono ?_
            rintro e w17 ⟨A_value, c_value, rfl, ho, hb⟩
            have S_value : Hid (SlI w17 w17.heap.size A_value M) := Lib.hid (SlI.of_own ho)
            have hlc_value : M.length ≤ c_value := own_capI ho
            have K17 := Lib.hid hb
            clear hb ho H22
            obtain ⟨Q, hQ⟩ : ∃ Q, tmR (ptR num den) = Q := ⟨_, rfl⟩
            obtain ⟨seven, hseven⟩ : ∃ seven, (ptR num den).isSome = seven := ⟨_, rfl⟩
            have HQ := Lib.hid hQ
            have HSV := Lib.hid hseven
            have hQl : Q.length ≤ 10 := hQ ▸ ptR_len _ _
            clear hQ hseven
            have h77 : (seven != seven) = false := by simp
            have H23 := Lib.hid (impl_PlusTerms num den w17)
            rw [HQ.out] at H23
            rw [HSV.out] at H23
            go_wp2_with fail
            refine H23.out.mono ?_
            rintro e w18 ⟨A_plus, c_plus, rfl, ho, hb⟩
            have S_plus : Hid (SlI w18 w18.heap.size A_plus Q) := Lib.hid (SlI.of_own ho)
            have hlc_plus : Q.length ≤ c_plus := own_capI ho
            have K18 := Lib.hid hb
            clear hb ho H23
            have H24 := Lib.hid (spec_PlusTerms num den w18)
            rw [HQ.out] at H24
            rw [HSV.out] at H24
            go_wp2_with fail
            refine H24.out.mono ?_
            rintro e w19 ⟨A_due, c_due, rfl, ho, hb⟩
            have S_due : Hid (SlI w19 w19.heap.size A_due Q) := Lib.hid (SlI.of_own ho)
            have hlc_due : Q.length ≤ c_due := own_capI ho
            have K19 := Lib.hid hb
            clear hb ho H24
            have H25 := Lib.hid (spec_DrawFractionOfPlus A2 n2 c2 w.heap.size w19 (H2.out.below (below_kept (below_kept (below_kept (below_kept (below_kept (below_kept (below_kept (below_kept (below_kept (below_kept (below_kept (below_kept (below_kept (below_kept (below_kept (below_kept (below_kept (below_kept K1.out (Nat.le_refl _) K2.out) (Nat.le_refl _) K3.out) (Nat.le_refl _) K4.out) (Nat.le_refl _) K5.out) (Nat.le_refl _) K6.out) (Nat.le_refl _) K7.out) (Nat.le_refl _) K8.out) (Nat.le_refl _) K9.out) (Nat.le_refl _) K10.out) (Nat.le_refl _) K11.out) (Nat.le_refl _) K12.out) (Nat.le_refl _) K13.out) (Nat.le_refl _) K14.out) (Nat.le_refl _) K15.out) (Nat.le_refl _) K16.out) (Nat.le_refl _) K17.out) (Nat.le_refl _) K18.out) (Nat.le_refl _) K19.out)) (below_kept (below_kept (below_kept (below_kept (below_kept (below_kept (below_kept (below_kept (below_kept (below_kept (below_kept (below_kept (below_kept (below_kept (below_kept (below_kept (below_kept (below_kept K1.out (Nat.le_refl _) K2.out) (Nat.le_refl _) K3.out) (Nat.le_refl _) K4.out) (Nat.le_refl _) K5.out) (Nat.le_refl _) K6.out) (Nat.le_refl _) K7.out) (Nat.le_refl _) K8.out) (Nat.le_refl _) K9.out) (Nat.le_refl _) K10.out) (Nat.le_refl _) K11.out) (Nat.le_refl _) K12.out) (Nat.le_refl _) K13.out) (Nat.le_refl _) K14.out) (Nat.le_refl _) K15.out) (Nat.le_refl _) K16.out) (Nat.le_refl _) K17.out) (Nat.le_refl _) K18.out) (Nat.le_refl _) K19.out).size (by omega))
            go_wp2_with fail
            refine H25.out.mono ?_
            rintro e w20 ⟨A_p, c_p, l_p, rfl, hl_p, hlc_p, hs, hb⟩
            have S_p := Lib.hid hs
            have K20 := Lib.hid hb
            clear hb hs H25
            obtain ⟨⟨X, Y, nine⟩, hFP⟩ : ∃ F, fpR l_p = F := ⟨_, rfl⟩
            have HFP := Lib.hid hFP
            clear hFP
            have hXX : (X != X) = false := by simp
            have hYY : (Y != Y) = false := by simp
            have h99 : (nine != nine) = false := by simp
            have H26 := Lib.hid (impl_fpl A_p c_p _ l_p X Y nine w20 S_p.out (by omega) hlc_p HFP.out)
            go_wp2_with fail
            refine H26.out.mono ?_
            rintro e w21 ⟨rfl, hb⟩
            have K21 := Lib.hid hb
            clear hb H26
            have H27 := Lib.hid (spec_fpl A_p c_p _ l_p X Y nine w21 (S_p.out.below K21.out) (by omega) HFP.out)
            go_wp2_with fail
            refine H27.out.mono ?_
            rintro e w22 ⟨rfl, hb⟩
            have K22 := Lib.hid hb
            clear hb H27
            obtain ⟨C, hC⟩ : ∃ C, tmR (mpR l_p) = C := ⟨_, rfl⟩
            obtain ⟨eleven, hel⟩ : ∃ eleven, (mpR l_p).isSome = eleven := ⟨_, rfl⟩
            have HC := Lib.hid hC
            have HEL := Lib.hid hel
            have hCl : C.length ≤ 10 := hC ▸ mpR_len _
            clear hC hel
            have h11 : (eleven != eleven) = false := by simp
            have H28 := Lib.hid (impl_MinusOfPlus A_p c_p _ l_p w22 (S_p.out.below (below_kept K21.out (Nat.le_refl _) K22.out)) (by omega) hlc_p)
            rw [HC.out] at H28
            rw [HEL.out] at H28
            go_wp2_with fail
            refine H28.out.mono ?_
            rintro e w23 ⟨A_changed, c_changed, rfl, ho, hb⟩
            have S_changed : Hid (SlI w23 w23.heap.size A_changed C) := Lib.hid (SlI.of_own ho)
            have hlc_changed : C.length ≤ c_changed := own_capI ho
            have K23 := Lib.hid hb
            clear hb ho H28
            have H29 := Lib.hid (spec_MinusOfPlus A_p c_p _ l_p w23 (S_p.out.below (below_kept (below_kept K21.out (Nat.le_refl _) K22.out) (Nat.le_refl _) K23.out)) (by omega))
            rw [HC.out] at H29
            rw [HEL.out] at H29
            go_wp2_with fail
            refine H29.out.mono ?_
            rintro e w24 ⟨A_rows, c_rows, rfl, ho, hb⟩
            have S_rows : Hid (SlI w24 w24.heap.size A_rows C) := Lib.hid (SlI.of_own ho)
            have hlc_rows : C.length ≤ c_rows := own_capI ho
            have K24 := Lib.hid hb
            clear hb ho H29
            go_upto_region 42 with fail
            go_cut [338] from 286 to 338 (fun v wx => v = .bool false ∧ Below w24.heap.size w24 wx)
            case first =>
              as_aux_lemma =>
                clear H2
                cases eleven
                · skip
                  have H30 := Lib.hid (laws_dSame_q A_minus A_value _ c_minus c_value _ _ M w24 rfl (S_minus.out.below (below_kept (below_kept (below_kept (below_kept (below_kept (below_kept (below_kept K17.out (Nat.le_refl _) K18.out) (Nat.le_refl _) K19.out) (Nat.le_refl _) K20.out) (Nat.le_refl _) K21.out) (Nat.le_refl _) K22.out) (Nat.le_refl _) K23.out) (Nat.le_refl _) K24.out)) (S_value.out.below (below_kept (below_kept (below_kept (below_kept (below_kept (below_kept K18.out (Nat.le_refl _) K19.out) (Nat.le_refl _) K20.out) (Nat.le_refl _) K21.out) (Nat.le_refl _) K22.out) (Nat.le_refl _) K23.out) (Nat.le_refl _) K24.out)) (by omega))
                  go_wp2_with fail
                  refine H30.out.mono ?_
                  rintro e wx ⟨rfl, zz, rfl⟩
                  have K25 : Hid (Below w24.heap.size w24 (w24.drewN zz)) := Lib.hid (below_drewN (Below.refl _ _) zz)
                  generalize w24.drewN zz = w25 at *
                  clear H30
                  have H31 := Lib.hid (laws_dSame_q A_plus A_due _ c_plus c_due _ _ Q w25 rfl (S_plus.out.below (below_kept (below_kept (below_kept (below_kept (below_kept (below_kept K19.out (Nat.le_refl _) K20.out) (Nat.le_refl _) K21.out) (Nat.le_refl _) K22.out) (Nat.le_refl _) K23.out) (Nat.le_refl _) K24.out) (Nat.le_refl _) K25.out)) (S_due.out.below (below_kept (below_kept (below_kept (below_kept (below_kept K20.out (Nat.le_refl _) K21.out) (Nat.le_refl _) K22.out) (Nat.le_refl _) K23.out) (Nat.le_refl _) K24.out) (Nat.le_refl _) K25.out)) (by omega))
                  go_wp2_with fail
                  refine H31.out.mono ?_
                  rintro e wx ⟨rfl, zz, rfl⟩
                  have K26 : Hid (Below w25.heap.size w25 (w25.drewN zz)) := Lib.hid (below_drewN (Below.refl _ _) zz)
                  generalize w25.drewN zz = w26 at *
                  clear H31
                  have H32 := Lib.hid (laws_dSame_q A_changed A_rows _ c_changed c_rows _ _ C w26 rfl (S_changed.out.below (below_kept (below_kept K24.out (Nat.le_refl _) K25.out) (Nat.le_refl _) K26.out)) (S_rows.out.below (below_kept K25.out (Nat.le_refl _) K26.out)) (by omega))
                  go_wp2_with fail
                  refine H32.out.mono ?_
                  rintro e wx ⟨rfl, zz, rfl⟩
                  have K27 : Hid (Below w26.heap.size w26 (w26.drewN zz)) := Lib.hid (below_drewN (Below.refl _ _) zz)
                  generalize w26.drewN zz = w27 at *
                  clear H32
                  go_wp2_with fail
                  go_meet
                  exact ⟨rfl, (below_kept (below_kept K25.out (Nat.le_refl _) K26.out) (Nat.le_refl _) K27.out)⟩
                · have hn9 := (mp_fp (tmR_some HC.out HEL.out) HFP.out).1
                  subst hn9
                  have H33 := Lib.hid (laws_dSame_q A_minus A_value _ c_minus c_value _ _ M w24 rfl (S_minus.out.below (below_kept (below_kept (below_kept (below_kept (below_kept (below_kept (below_kept K17.out (Nat.le_refl _) K18.out) (Nat.le_refl _) K19.out) (Nat.le_refl _) K20.out) (Nat.le_refl _) K21.out) (Nat.le_refl _) K22.out) (Nat.le_refl _) K23.out) (Nat.le_refl _) K24.out)) (S_value.out.below (below_kept (below_kept (below_kept (below_kept (below_kept (below_kept K18.out (Nat.le_refl _) K19.out) (Nat.le_refl _) K20.out) (Nat.le_refl _) K21.out) (Nat.le_refl _) K22.out) (Nat.le_refl _) K23.out) (Nat.le_refl _) K24.out)) (by omega))
                  go_wp2_with fail
                  refine H33.out.mono ?_
                  rintro e wx ⟨rfl, zz, rfl⟩
                  have K25 : Hid (Below w24.heap.size w24 (w24.drewN zz)) := Lib.hid (below_drewN (Below.refl _ _) zz)
                  generalize w24.drewN zz = w25 at *
                  clear H33
                  have H34 := Lib.hid (laws_dSame_q A_plus A_due _ c_plus c_due _ _ Q w25 rfl (S_plus.out.below (below_kept (below_kept (below_kept (below_kept (below_kept (below_kept K19.out (Nat.le_refl _) K20.out) (Nat.le_refl _) K21.out) (Nat.le_refl _) K22.out) (Nat.le_refl _) K23.out) (Nat.le_refl _) K24.out) (Nat.le_refl _) K25.out)) (S_due.out.below (below_kept (below_kept (below_kept (below_kept (below_kept K20.out (Nat.le_refl _) K21.out) (Nat.le_refl _) K22.out) (Nat.le_refl _) K23.out) (Nat.le_refl _) K24.out) (Nat.le_refl _) K25.out)) (by omega))
                  go_wp2_with fail
                  refine H34.out.mono ?_
                  rintro e wx ⟨rfl, zz, rfl⟩
                  have K26 : Hid (Below w25.heap.size w25 (w25.drewN zz)) := Lib.hid (below_drewN (Below.refl _ _) zz)
                  generalize w25.drewN zz = w26 at *
                  clear H34
                  have H35 := Lib.hid (laws_dSame_q A_changed A_rows _ c_changed c_rows _ _ C w26 rfl (S_changed.out.below (below_kept (below_kept K24.out (Nat.le_refl _) K25.out) (Nat.le_refl _) K26.out)) (S_rows.out.below (below_kept K25.out (Nat.le_refl _) K26.out)) (by omega))
                  go_wp2_with fail
                  refine H35.out.mono ?_
                  rintro e wx ⟨rfl, zz, rfl⟩
                  have K27 : Hid (Below w26.heap.size w26 (w26.drewN zz)) := Lib.hid (below_drewN (Below.refl _ _) zz)
                  generalize w26.drewN zz = w27 at *
                  clear H35
                  go_wp2_with fail
                  go_meet
                  exact ⟨rfl, (below_kept (below_kept K25.out (Nat.le_refl _) K26.out) (Nat.le_refl _) K27.out)⟩
            case rest =>
              as_aux_lemma =>
                obtain ⟨rfl, hcut⟩ := hcut
                clear S_value S_due S_rows h55 h77 h99 h11 hXX hYY hlc_value hlc_due hlc_rows
                obtain ⟨v36, hv0⟩ : ∃ v0, v0 = wc := ⟨_, rfl⟩
                subst hv0
                have K25 := Lib.hid hcut
                clear hcut
                go_upto_if 339 with fail
                go_cut [] from 54 to 373 (fun wx => Below v36.heap.size v36 wx)
                case first =>
                  as_aux_lemma =>
                    clear HQ HSV HC HEL HFP H2 S_plus S_changed
                    cases five
                    · go_wp2_with fail
                      go_meet
                      exact Below.refl _ _
                    · obtain ⟨g1, g2, g3, g4, g5⟩ := mt_of (tmR_some HM.out HF.out)
                      have HG2 := Lib.hid g2
                      have HG4 := Lib.hid g4
                      have HG5 := Lib.hid g5
                      have hnn : (num != num) = false := by simp
                      have hdd : (den != den) = false := by simp
                      clear g1 g2 g4 g5 HM HF
                      have H37 := Lib.hid (impl_fml A_minus c_minus _ M num den true v36 (S_minus.out.below (below_kept (below_kept (below_kept (below_kept (below_kept (below_kept (below_kept (below_kept K17.out (Nat.le_refl _) K18.out) (Nat.le_refl _) K19.out) (Nat.le_refl _) K20.out) (Nat.le_refl _) K21.out) (Nat.le_refl _) K22.out) (Nat.le_refl _) K23.out) (Nat.le_refl _) K24.out) (Nat.le_refl _) K25.out)) (below_kept (below_kept (below_kept (below_kept (below_kept (below_kept (below_kept (below_kept K17.out (Nat.le_refl _) K18.out) (Nat.le_refl _) K19.out) (Nat.le_refl _) K20.out) (Nat.le_refl _) K21.out) (Nat.le_refl _) K22.out) (Nat.le_refl _) K23.out) (Nat.le_refl _) K24.out) (Nat.le_refl _) K25.out).size (by omega) hlc_minus HG2.out)
                      go_wp2_with fail
                      refine H37.out.mono ?_
                      rintro e w26 ⟨rfl, hb⟩
                      have K26 := Lib.hid hb
                      clear hb H37
                      have HS := Lib.hid (S_minus.out.below (below_kept (below_kept (below_kept (below_kept (below_kept (below_kept (below_kept (below_kept (below_kept K17.out (Nat.le_refl _) K18.out) (Nat.le_refl _) K19.out) (Nat.le_refl _) K20.out) (Nat.le_refl _) K21.out) (Nat.le_refl _) K22.out) (Nat.le_refl _) K23.out) (Nat.le_refl _) K24.out) (Nat.le_refl _) K25.out) (Nat.le_refl _) K26.out))
                      have HE := Lib.hid K26.out
                      obtain ⟨bl, off, hA, _, hcl⟩ := HS.out g3
                      subst hA
                      have g0 := hcl 0 g3
                      rw [Nat.add_zero] at g0
                      have hge := HG4.out
                      generalize M.getD 0 0 = m0 at *
                      have i1 : (0 : Int) < (M.length : Int) := by omega
                      have i2 : ¬ m0 < 1 := by omega
                      have i3 : (1 : Int) ≤ (M.length : Int) := by omega
                      have i5 : M.length ≤ c_minus := hlc_minus
                      have i6 : 1 ≤ M.length := g3
                      have i7 : ((M.length : Int) - 1) = ((M.length - 1 : Nat) : Int) := by omega
                      obtain ⟨A', hA', hsA⟩ : ∃ A', (if c_minus = 1 then some (⟨bl, off, none⟩ : Addr) else some ⟨bl, off + 1, none⟩) = A' ∧ SlI w26 w16.heap.size A' (M.drop 1) := by
                        refine ⟨_, rfl, ?_⟩
                        have := SlI.cutIf (a0 := ⟨bl, off, none⟩) HS.out 1 (c := c_minus) i5
                        by_cases hc1 : c_minus = 1
                        · rw [if_pos hc1] at this ⊢; exact this
                        · rw [if_neg hc1] at this ⊢; exact this
                      have HSA := Lib.hid hsA
                      clear hcl hsA
                      go_wp2_with fail
                      clear hA'
                      go_loop [58, 367] (fun _ i => ∃ d : Nat, d < M.length ∧ i = .int .i64 d) (fun _ i => M.length - (intOf i).toNat)
                      case atStart => exact ⟨0, g3, rfl⟩
                      case round =>
                        obtain ⟨d, hd, rfl⟩ := hrel
                        by_cases hlt : d + 1 < M.length
                        · obtain ⟨b', off', rfl, _, hc'⟩ := HSA.out (by simp; omega)
                          have ga := hc' d (by simp; omega)
                          have h2 := HG5.out d hlt
                          rw [show (M.drop 1).getD d 0 = M.getD (d + 1) 0 by simp [List.getD_eq_getElem?_getD, Nat.add_comm]] at ga
                          generalize M.getD (d + 1) 0 = y at *
                          have j0 : (0 : Int) ≤ (d : Int) := by omega
                          have j1 : (d : Int) < (M.length : Int) - 1 := by omega
                          have j3 : d < M.length - 1 := by omega
                          have j2 : ¬ y < 2 := by omega
                          clear hc'
                          go_wp2
                          go_round
                          case rel => exact ⟨d + 1, by omega, by go_num⟩
                          case measure => simp [intOf]; omega
                        · have j1 : ¬ (d : Int) < (M.length : Int) - 1 := by omega
                          have j3 : ¬ d < M.length - 1 := by omega
                          go_wp2
                          go_meet
                          exact HE.out
                case rest =>
                  as_aux_lemma =>
                    clear HM HF S_minus hlc_minus
                    obtain ⟨v38, hv0⟩ : ∃ v0, v0 = wc := ⟨_, rfl⟩
                    subst hv0
                    have K26 := Lib.hid hcut
                    clear hcut
                    go_upto_if 374 with fail
                    go_cut [] from 59 to 406 (fun wx => Below v38.heap.size v38 wx)
                    case first =>
                      as_aux_lemma =>
                        clear HC HEL HFP H2 S_changed
                        cases seven
                        · go_wp2_with fail
                          go_meet
                          exact Below.refl _ _
                        · obtain ⟨g2, g3, g4, g5⟩ := pt_of (tmR_some HQ.out HSV.out)
                          have HG2 := Lib.hid g2
                          have HG5 := Lib.hid g5
                          have hnn : (num != num) = false := by simp
                          have hdd : (den != den) = false := by simp
                          clear g2 g5 HQ HSV
                          have H39 := Lib.hid (impl_fpl A_plus c_plus _ Q num den true v38 (S_plus.out.below (below_kept (below_kept (below_kept (below_kept (below_kept (below_kept (below_kept K19.out (Nat.le_refl _) K20.out) (Nat.le_refl _) K21.out) (Nat.le_refl _) K22.out) (Nat.le_refl _) K23.out) (Nat.le_refl _) K24.out) (Nat.le_refl _) K25.out) (Nat.le_refl _) K26.out)) (by omega) hlc_plus HG2.out)
                          go_wp2_with fail
                          refine H39.out.mono ?_
                          rintro e w27 ⟨rfl, hb⟩
                          have K27 := Lib.hid hb
                          clear hb H39
                          have HE := Lib.hid K27.out
                          by_cases hl1 : 1 < Q.length
                          · obtain ⟨bl, off, hA, _, hcl⟩ := (S_plus.out.below (below_kept (below_kept (below_kept (below_kept (below_kept (below_kept (below_kept (below_kept K19.out (Nat.le_refl _) K20.out) (Nat.le_refl _) K21.out) (Nat.le_refl _) K22.out) (Nat.le_refl _) K23.out) (Nat.le_refl _) K24.out) (Nat.le_refl _) K25.out) (Nat.le_refl _) K26.out) (Nat.le_refl _) K27.out)) g4
                            subst hA
                            have g0 := hcl (Q.length - 1) (by omega)
                            have hge := HG5.out hl1
                            generalize Q.getD (Q.length - 1) 0 = y at *
                            have j1 : (1 : Int) < (Q.length : Int) := by omega
                            have j2 : (0 : Int) ≤ (Q.length : Int) - 1 := by omega
                            have j3 : (Q.length : Int) - 1 < (Q.length : Int) := by omega
                            have j4 : ((Q.length : Int) - 1).toNat = Q.length - 1 := by omega
                            have j5 : IntKind.i64.wrap ((Q.length : Int) - 1) = (Q.length : Int) - 1 := IntWalk.i64_in _ (by omega)
                            have j6 : ¬ y < 2 := by omega
                            have j7 : (1 : Int) ≤ (Q.length : Int) := by omega
                            clear hcl
                            go_wp2_with fail
                            go_meet
                            exact HE.out
                          · have j1 : ¬ (1 : Int) < (Q.length : Int) := by omega
                            go_wp2_with fail
                            go_meet
                            exact HE.out
                    case rest =>
                      as_aux_lemma =>
                        clear HQ HSV S_plus hlc_plus
                        obtain ⟨v40, hv0⟩ : ∃ v0, v0 = wc := ⟨_, rfl⟩
                        subst hv0
                        have K27 := Lib.hid hcut
                        clear hcut
                        go_upto_if 407 with fail
                        go_cut [] from 62 to 434 (fun wx => Below v40.heap.size v40 wx)
                        case first =>
                          as_aux_lemma =>
                            clear HC HEL H2 S_changed
                            cases nine
                            · go_wp2_with fail
                              go_meet
                              exact Below.refl _ _
                            · obtain ⟨g1, g2, g3, g4, g5⟩ := fp_of HFP.out rfl
                              have HG1 := Lib.hid g1
                              have HG3 := Lib.hid g3
                              have HG4 := Lib.hid g4
                              have HG5 := Lib.hid g5
                              have hXX : (X != X) = false := by simp
                              have hYY : (Y != Y) = false := by simp
                              clear g1 g3 g4 g5 HFP
                              have H41 := Lib.hid (impl_pcg A_p c_p _ _ l_p X v40 rfl (S_p.out.below (below_kept (below_kept (below_kept (below_kept (below_kept (below_kept K21.out (Nat.le_refl _) K22.out) (Nat.le_refl _) K23.out) (Nat.le_refl _) K24.out) (Nat.le_refl _) K25.out) (Nat.le_refl _) K26.out) (Nat.le_refl _) K27.out)) HG1.out HG3.out hlc_p)
                              go_wp2_with fail
                              refine H41.out.mono ?_
                              rintro e w28 ⟨rfl, hb⟩
                              have K28 := Lib.hid hb
                              clear hb H41
                              have hsp := (S_p.out.below (below_kept (below_kept (below_kept (below_kept (below_kept (below_kept (below_kept K21.out (Nat.le_refl _) K22.out) (Nat.le_refl _) K23.out) (Nat.le_refl _) K24.out) (Nat.le_refl _) K25.out) (Nat.le_refl _) K26.out) (Nat.le_refl _) K27.out) (Nat.le_refl _) K28.out))
                              obtain ⟨bl, off, hA, _, _⟩ := hsp g2
                              subst hA
                              have i5 : l_p.length ≤ c_p := hlc_p
                              have i3 : (1 : Int) ≤ (l_p.length : Int) := by omega
                              have i6 : 1 ≤ l_p.length := g2
                              obtain ⟨A', hA', hsA⟩ : ∃ A', (if c_p = 1 then some (⟨bl, off, none⟩ : Addr) else some ⟨bl, off + 1, none⟩) = A' ∧ SlI w28 w20.heap.size A' (l_p.drop 1) := by
                                refine ⟨_, rfl, ?_⟩
                                have := SlI.cutIf (a0 := ⟨bl, off, none⟩) hsp 1 (c := c_p) i5
                                by_cases hc1 : c_p = 1
                                · rw [if_pos hc1] at this ⊢; exact this
                                · rw [if_neg hc1] at this ⊢; exact this
                              have HSA := Lib.hid hsA
                              clear hsp hsA
                              have H42 := Lib.hid (impl_pcg A' (c_p - 1) _ (l_p.length - 1) (l_p.drop 1) Y w28 (by simp) HSA.out HG4.out HG5.out (by omega))
                              go_wp2_with fail
                              refine H42.out.mono ?_
                              rintro e w29 ⟨rfl, hb⟩
                              have K29 := Lib.hid hb
                              clear hb H42
                              go_wp2_with fail
                              go_meet
                              exact (below_kept K28.out (Nat.le_refl _) K29.out)
                        case rest =>
                          as_aux_lemma =>
                            clear S_p hlc_p
                            obtain ⟨v43, hv0⟩ : ∃ v0, v0 = wc := ⟨_, rfl⟩
                            subst hv0
                            have K28 := Lib.hid hcut
                            clear hcut
                            cases eleven
                            · clear HC HEL HFP S_changed H2
                              go_wp2_with fail
                              go_ret
                              exact ⟨rfl, (below_kept (below_kept (below_kept (below_kept (below_kept (below_kept (below_kept (below_kept (below_kept (below_kept (below_kept (below_kept (below_kept (below_kept (below_kept (below_kept (below_kept (below_kept (below_kept (below_kept (below_kept (below_kept (below_kept (below_kept (below_kept (below_kept (below_kept K1.out (Nat.le_refl _) K2.out) (Nat.le_refl _) K3.out) (Nat.le_refl _) K4.out) (Nat.le_refl _) K5.out) (Nat.le_refl _) K6.out) (Nat.le_refl _) K7.out) (Nat.le_refl _) K8.out) (Nat.le_refl _) K9.out) (Nat.le_refl _) K10.out) (Nat.le_refl _) K11.out) (Nat.le_refl _) K12.out) (Nat.le_refl _) K13.out) (Nat.le_refl _) K14.out) (Nat.le_refl _) K15.out) (Nat.le_refl _) K16.out) (Nat.le_refl _) K17.out) (Nat.le_refl _) K18.out) (Nat.le_refl _) K19.out) (Nat.le_refl _) K20.out) (Nat.le_refl _) K21.out) (Nat.le_refl _) K22.out) (Nat.le_refl _) K23.out) (Nat.le_refl _) K24.out) (Nat.le_refl _) K25.out) (Nat.le_refl _) K26.out) (Nat.le_refl _) K27.out) (Nat.le_refl _) K28.out)⟩
                            · obtain ⟨h9, g1, g2⟩ := mp_fp (tmR_some HC.out HEL.out) HFP.out
                              have HG2 := Lib.hid g2
                              have hXX : (X == X) = true := by simp
                              have hYY : (Y == Y) = true := by simp
                              clear h9 g1 g2 HC HEL HFP H2
                              have H44 := Lib.hid (impl_fml A_changed c_changed _ C X Y true v43 (S_changed.out.below (below_kept (below_kept (below_kept (below_kept K24.out (Nat.le_refl _) K25.out) (Nat.le_refl _) K26.out) (Nat.le_refl _) K27.out) (Nat.le_refl _) K28.out)) (below_kept (below_kept (below_kept (below_kept K24.out (Nat.le_refl _) K25.out) (Nat.le_refl _) K26.out) (Nat.le_refl _) K27.out) (Nat.le_refl _) K28.out).size (by omega) hlc_changed HG2.out)
                              go_wp2_with fail
                              refine H44.out.mono ?_
                              rintro e w29 ⟨rfl, hb⟩
                              have K29 := Lib.hid hb
                              clear hb H44
                              go_wp2_with fail
                              go_ret
                              exact ⟨rfl, (below_kept (below_kept (below_kept (below_kept (below_kept (below_kept (below_kept (below_kept (below_kept (below_kept (below_kept (below_kept (below_kept (below_kept (below_kept (below_kept (below_kept (below_kept (below_kept (below_kept (below_kept (below_kept (below_kept (below_kept (below_kept (below_kept (below_kept (below_kept K1.out (Nat.le_refl _) K2.out) (Nat.le_refl _) K3.out) (Nat.le_refl _) K4.out) (Nat.le_refl _) K5.out) (Nat.le_refl _) K6.out) (Nat.le_refl _) K7.out) (Nat.le_refl _) K8.out) (Nat.le_refl _) K9.out) (Nat.le_refl _) K10.out) (Nat.le_refl _) K11.out) (Nat.le_refl _) K12.out) (Nat.le_refl _) K13.out) (Nat.le_refl _) K14.out) (Nat.le_refl _) K15.out) (Nat.le_refl _) K16.out) (Nat.le_refl _) K17.out) (Nat.le_refl _) K18.out) (Nat.le_refl _) K19.out) (Nat.le_refl _) K20.out) (Nat.le_refl _) K21.out) (Nat.le_refl _) K22.out) (Nat.le_refl _) K23.out) (Nat.le_refl _) K24.out) (Nat.le_refl _) K25.out) (Nat.le_refl _) K26.out) (Nat.le_refl _) K27.out) (Nat.le_refl _) K28.out) (Nat.le_refl _) K29.out)⟩
  · clear HB H1 H2 hb
    go_wp2
    go_ret
    exact ⟨rfl, Below.refl _ _⟩
end Go.Proofs.Ytfkkbjbgjmaciaa
