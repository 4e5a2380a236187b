/- The model's FriezeOfDiagonal: its walk. -/
import Derived.Test.YtbebalgleiafdabFodS
namespace Go.Proofs.Ytbebalgleiafdab
set_option linter.unusedVariables false
open Go.RowKit

theorem own_oneI (w : World) (x : Int) : (w.alloc (.cells #[.int .i64 x] 3)).ownsRow w.heap.size 3 1 (.slice (some ⟨w.heap.size, 0, none⟩) 1 1) 1 (ics [x]) := ⟨rfl, .inr ⟨w.heap.size, 1, #[.int .i64 x], rfl, Nat.le_refl _, heap_alloc_new w _, Nat.le_refl _, by decide, rfl, rfl⟩⟩
set_option maxRecDepth 100000 in
set_option maxHeartbeats 3200000 in
theorem spec_FriezeOfDiagonal (A : Option Addr) (c B : Nat) (l : List Int) (w : World) (h : SlI w B A l) (hB : B ≤ w.heap.size) (hl : l.length ≤ 1048576) :
    Calls Try.prog 36 #[.slice A l.length c] w (RetI w (fdR l) (fdB l)) := by
  obtain ⟨n, hn⟩ : ∃ n, l.length = n := ⟨_, rfl⟩
  have Hn := Lib.hid hn
  have H := Lib.hid h
  rw [hn] at hl ⊢
  cases h1 : inB (n : Int) 3 11
  · have HE := Lib.hid (fdI_none (w := w) (fdB_len (l := l) (by rw [hn, h1]; rfl)) (Below.refl _ _))
    clear hn h
    go_enter Try.func36, Try.ntmps36
    go_wp2_with fail
    refine (spec_l1In' _ _ _ _).mono ?_
    rintro e w1 ⟨rfl, rfl⟩
    rw [h1]
    go_wp2
    go_ret2
    exact HE.out
  · have hin := inB_iff'.1 h1
    have hall := spec_l1All A c B l 1 100000 w h (by omega)
    rw [hn] at hall
    have Hall := Lib.hid hall
    cases h2 : allB l 1 100000
    · have HE := Lib.hid (fdI_none (w := w) (fdB_len (l := l) (by rw [h2]; simp)) (Below.refl _ _))
      clear hn h hall
      go_enter Try.func36, Try.ntmps36
      go_wp2_with fail
      refine (spec_l1In' _ _ _ _).mono ?_
      rintro e w1 ⟨rfl, rfl⟩
      rw [h1]
      go_wp2_with fail
      refine Hall.out.mono ?_
      rintro e w1 ⟨rfl, rfl⟩
      rw [h2]
      go_wp2
      go_ret2
      exact HE.out
    · obtain ⟨hn3, hn11⟩ := hin
      have H2 := Lib.hid h2
      obtain ⟨i0', hii, hz0, hz1, hz2⟩ := info_parts infoI
      have hbytes : i0'.bytes * (n + 1) ≤ 281474976710656 := by rw [hz2]; omega
      have hmax : n + 1 ≤ maxLen := by unfold maxLen; omega
      have hcast : ((n + 1 : Nat) : Int) = (n : Int) + 1 := by omega
      clear hn h hall
      go_enter Try.func36, Try.ntmps36
      go_wp2_with fail
      refine (spec_l1In' _ _ _ _).mono ?_
      rintro e w1 ⟨rfl, rfl⟩
      rw [h1]
      go_wp2_with fail
      refine Hall.out.mono ?_
      rintro e w1 ⟨rfl, rfl⟩
      rw [h2]
      clear Hall h1 h2
      go_wp2_with (first
        | (at_make; refine wpList_make_full _ rfl _ _ _ rfl w.heap.size 3 i0' (.int .i64 0) 1 Try.underlying25 hii hz0 hz1 _ _ _ _ (n + 1) rfl rfl ?_ ?_ hbytes hmax (Nat.le_refl _) ?_
           · exact hcast.symm
           · exact hcast.symm
           intro w3 hown3 hgrow3
           have b3 : Below w.heap.size w w3 := (Below.refl _ _).grown hgrow3 (Nat.le_refl _) (by simp)
           have e1 : (madeCells (Value.int .i64 0).cells ((n + 1) * 1)).toList = ics (List.replicate (n + 1) 0) := (by
             rw [Nat.mul_one]
             show (madeCells #[Value.int .i64 0] (n + 1)).toList = _
             rw [toList_madeCells_one]
             simp [ics])
           rw [e1] at hown3
           have hz3 : w.heap.size < w3.heap.size := (hown3.lt _ rfl).2
           clear e1 hgrow3)
        | (at_builtin; refine wpList_appendNI _ rfl _ _ rfl w3.heap.size (.slice (some ⟨w3.heap.size, 0, none⟩) 1 1) 1 [0] rfl rfl (own_oneI w3 0) A n c l B (1 + n) rfl rfl Hn.out (H.out.below ((b3.alloc (Nat.le_of_lt hz3) _).mono hB)) (by decide) (by omega) (by simp) ?_; intro A6 c6 w6 own6 hg6)
        | (at_builtin; refine append1In _ rfl _ _ rfl w3.heap.size (.slice A6 (1 + n) c6) (1 + n) ([0] ++ l) (by simp [Hn.out]; omega) rfl (own6.alloc _) w6.heap.size 0 rfl ?c1 (by omega) ?c2 ?_
           case c1 => simp [go_sem]
           case c2 => have := hg6.size; simp at this ⊢; omega
           intro A7 c7 w7 own7 hg7))
      have hs6 := hg6.size
      simp at hs6
      have b6 : Below w.heap.size w w6 := below_grown (b3.alloc (Nat.le_of_lt hz3) _) hg6 (Nat.le_refl _) (fun k hk => by have h1 : w3.heap.size = k := Option.some.inj hk; omega)
      have q6 := own_far (hown3.alloc (.cells #[.int .i64 0] 3)) hg6 (fun k hk e => by have h1 : w.heap.size = k := Option.some.inj hk; have h2 : k = w3.heap.size := Option.some.inj e; omega)
      have hl6 := own6.lt
      have b7 : Below w.heap.size w w7 := below_grown (b6.alloc (by omega) _) hg7 (Nat.le_refl _) (fun k hk => by have := (hl6 k hk).1; omega)
      have q7 := own_far (q6.alloc (.cells #[.int .i64 0] 3)) hg7 (fun k hk e => by have h1 : w.heap.size = k := Option.some.inj hk; have := (hl6 k e.symm).1; omega)
      have hq0 : List.replicate (n + 1) (0 : Int) = qP l 0 := by unfold qP; rw [Hn.out]
      have ha : [0] ++ l ++ [0] = arL l := rfl
      rw [hq0] at q7
      rw [ha] at own7
      obtain ⟨g7, cap7, hv7, hg7b, hg7l⟩ := own7.form (by omega)
      cases hv7
      have hne : ¬g7 = w.heap.size := by omega
      have Q7 := Lib.hid q7
      have O7 := Lib.hid own7
      have B7 := Lib.hid b7
      clear hs6 b6 q6 hl6 b7 q7 hq0 ha own7 hg6 hg7 own6 hown3 b3 hii hz0 hz1 hz2 hbytes hmax hg7l
      obtain ⟨wz, hwz⟩ : ∃ wz, wz = w7 := ⟨_, rfl⟩
      go_loopw [7, 8, 9] (fun t i _ wr => ∃ k : Nat, k ≤ n ∧ i = .int .i64 ((k : Int) + 1) ∧ t = .int .i64 (totL l k) ∧ divB l k = true ∧ wr.ownsRow w.heap.size 3 1 (.slice (some ⟨w.heap.size, 0, none⟩) (n + 1) (n + 1)) (n + 1) (ics (qP l k)) ∧ wr.ownsRow w3.heap.size 3 1 (.slice (some ⟨g7, 0, none⟩) (1 + n + 1) c7) (1 + n + 1) (ics (arL l)) ∧ Below w.heap.size w wr) (fun _ i _ _ => n + 2 - (intOf i).toNat)
      case atStart => exact ⟨0, Nat.zero_le _, rfl, rfl, rfl, Q7.out, O7.out, B7.out⟩
      case round =>
        clear Q7 O7 B7
        obtain ⟨k, hk, rfl, rfl, hdv, hq, ho, hb⟩ := hrel
        have Hdv := Lib.hid hdv
        have Hb := Lib.hid hb
        have hal := arL_length l
        rw [Hn.out] at hal
        have htb := totL_bd H2.out k (by rw [Hn.out]; exact hk)
        by_cases hlt : k < n
        · have x0 := ho.cellAt k (by omega)
          have x1 := ho.cellAt (k + 1) (by omega)
          have x2 := ho.cellAt (k + 1 + 1) (by omega)
          rw [ics_get _ _ (by omega)] at x0 x1 x2
          have p1 := arL_mid H2.out (j := k + 1) (by omega) (by rw [Hn.out]; omega)
          have p0 := arL_bd H2.out k
          have p2 := arL_bd H2.out (k + 1 + 1)
          have hqb := quL_bd H2.out (j := k + 1) (by omega) (by rw [Hn.out]; omega)
          have hnu : nuL l (k + 1) = (arL l).getD k 0 + (arL l).getD (k + 1 + 1) 0 := rfl
          have hqu : quL l (k + 1) = (nuL l (k + 1)).tdiv ((arL l).getD (k + 1) 0) := rfl
          have hds := divB_succ l k
          have hdn := fun h => fdB_div (divB_no (l := l) (k := k) (m := l.length) (by rw [Hn.out]; exact hlt) h)
          have hts : totL l (k + 1) = totL l k + quL l (k + 1) := rfl
          have hcell := hq.cellAt (k + 1) (by omega)
          rw [ics_get _ _ (by rw [qP_length, Hn.out]; omega)] at hcell
          have hfro := hq.frozenAt (k + 1)
          have hnx : (qP l k).set (k + 1) (quL l (k + 1)) = qP l (k + 1) := rfl
          have Hnx := Lib.hid hnx
          have HQ := Lib.hid hq
          rw [hnu] at hqu hds hdn
          rw [Hdv.out, Bool.true_and] at hds
          have Hds := Lib.hid hds
          have Hdn := Lib.hid hdn
          have Hts := Lib.hid hts
          have Ho := Lib.hid ho
          clear hds hdn hts hnx hnu hdv hq ho hb hwz
          generalize (qP l k).getD (k + 1) 0 = z at *
          generalize (arL l).getD k 0 = a0 at *
          generalize (arL l).getD (k + 1) 0 = a1 at *
          generalize (arL l).getD (k + 1 + 1) 0 = a2 at *
          generalize totL l k = t at *
          generalize quL l (k + 1) = y at *
          have j0 : (0 : Int) ≤ (k : Int) := by omega
          have j1 : (k : Int) < 1 + (n : Int) + 1 := by omega
          have j2 : (k : Int) + 1 < 1 + (n : Int) + 1 := by omega
          have j3 : (k : Int) + 1 + 1 < 1 + (n : Int) + 1 := by omega
          have j4 : (k : Int) + 1 < (n : Int) + 1 := by omega
          have t1 : ((k : Int) + 1).toNat = k + 1 := by omega
          have t2 : ((k : Int) + 1 + 1).toNat = k + 1 + 1 := by omega
          have n1 : ¬a1 = 0 := by omega
          go_wp2
          go_quiet (fail)
          have hte : (a0 + a2).tmod a1 = (a0 + a2) % a1 := Int.tmod_eq_emod_of_nonneg (by omega)
          rw [hte] at Hds Hdn
          clear hte
          by_cases hd0 : (a0 + a2) % a1 = 0
          · have hy : (a0 + a2).tdiv a1 = y := hqu.symm
            have Hy := Lib.hid hy
            clear hy
            have W1 := own_drewN HQ.out nq
            have W2 := W1.stored (k + 1) (.int .i64 y)
            rw [ics_set, Hnx.out] at W2
            have W3 := own_far (own_drewN Ho.out nq) W2.2 (fun j hj e => by have h1 : g7 = j := Option.some.inj hj; have h2 : j = w.heap.size := Option.some.inj e; omega)
            have W4 := below_grown (below_drewN Hb.out nq) W2.2 (Nat.le_refl _) (fun j hj => by have h1 : w.heap.size = j := Option.some.inj hj; omega)
            have HW := Lib.hid (And.intro W2.1 (And.intro W3 W4))
            have Hd0 := Lib.hid hd0
            clear W1 W2 W3 W4
            go_wp2
            rw [Hy.out]
            go_roundw
            case rel => exact ⟨k + 1, by omega, by go_num, by rw [Hts.out], by rw [Hds.out]; simpa using Hd0.out, HW.out.1, HW.out.2.1, HW.out.2.2⟩
            case measure => simp [intOf]; omega
          · go_wp2
            go_ret2
            exact fdI_none (w := w) (Hdn.out hd0) (below_drewN Hb.out _)
        · obtain rfl : k = n := by omega
          have hst := hq.stored 0 (.int .i64 (3 * ((k : Int) + 1) - 6 - totL l k))
          have hnx : (qP l k).set 0 (3 * ((k : Int) + 1) - 6 - totL l k) = fdL l := by unfold fdL; rw [Hn.out]
          rw [ics_set, hnx] at hst
          have hcell := hq.cellAt 0 (by omega)
          rw [ics_get _ _ (by rw [qP_length, Hn.out]; omega)] at hcell
          have hfro := hq.frozenAt 0
          have hbd := below_grown hb hst.2 (Nat.le_refl _) (fun j hj => by have h1 : w.heap.size = j := Option.some.inj hj; omega)
          have hfl : (fdL l).length = k + 1 := by rw [fdL_length, Hn.out]
          have Hfl := Lib.hid hfl
          generalize totL l k = t at *
          obtain ⟨wS, hwS⟩ : ∃ wS, wS = wr.setCell ⟨w.heap.size, 0, none⟩ (.int .i64 (3 * ((k : Int) + 1) - 6 - t)) := ⟨_, rfl⟩
          rw [← hwS] at hst hbd
          have hQ := spec_IsQuiddity (some ⟨w.heap.size, 0, none⟩) (k + 1) wS.heap.size (fdL l) wS (SlI.of_own hst.1) (Nat.le_refl _) (by rw [Hfl.out]; omega) (by rw [Hfl.out]; exact Nat.le_refl _)
          rw [Hfl.out] at hQ
          have HQ := Lib.hid hQ
          have HO := Lib.hid hst.1
          have HB := Lib.hid hbd
          have HwS := Lib.hid hwS
          generalize (qP l k).getD 0 0 = z0 at *
          clear hst hnx hbd hfl hQ hwS hq ho hb
          go_wp2_with fail
          rw [← HwS.out]
          clear hcell hfro HwS
          refine HQ.out.mono ?_
          rintro e w4 ⟨rfl, hb4⟩
          have HB4 := Lib.hid (below_kept HB.out (Nat.le_refl _) hb4)
          have HO4 := Lib.hid (own_kept HO.out hb4)
          clear HQ HB HO hb4
          cases hqi : isQ (fdL l)
          · have HE := Lib.hid (fdI_none (w := w) (fdB_q hqi) HB4.out)
            clear hqi
            go_wp2
            go_ret2
            exact HE.out
          · have hyes : entB l (fdL l) k = true → fdB l = true := fun h => by unfold fdB; rw [Hn.out, (inB_iff'.2 ⟨hn3, hn11⟩), H2.out, Hdv.out, hqi, h]; rfl
            have hno : ∀ j, j < k → ¬ent (fdL l) 0 ((j : Int) + 1) = l.getD j 0 → fdB l = false := fun j hj h => fdB_e (entB_no (by rw [Hn.out]; exact hj) h)
            have Hyes := Lib.hid hyes
            have Hno := Lib.hid hno
            clear hyes hno hqi
            go_wp2
            go_loopw [10] (fun i wq => ∃ j : Nat, j ≤ k ∧ i = .int .i64 ((j : Int) + 1) ∧ entB l (fdL l) j = true ∧ Below w4.heap.size w4 wq) (fun i _ => k + 2 - (intOf i).toNat)
            case atStart => exact ⟨0, Nat.zero_le _, rfl, rfl, Below.refl _ _⟩
            case round =>
              obtain ⟨j, hj, rfl, he, hb⟩ := hrel
              have He := Lib.hid he
              have Hbq := Lib.hid hb
              have Hdq := Lib.hid (below_kept HB4.out (Nat.le_refl _) hb)
              have HOq := Lib.hid (own_kept HO4.out hb)
              clear he hb
              by_cases hlt : j < k
              · obtain ⟨b0, off0, rfl, hb0, hc0⟩ := (H.out.below (Hdq.out.mono hB)) (by rw [Hn.out]; omega)
                have x0 := hc0 j (by rw [Hn.out]; exact hlt)
                have hf : ∀ N : Nat, Calls Try.prog 62 #[.slice (some ⟨w.heap.size, 0, none⟩) (k + 1) (k + 1), .int .i64 0, .int .i64 ((j : Int) + 1)] (wr.drewN N) fun e w' => e = .returned (.int .i64 (ent (fdL l) 0 ((j : Int) + 1))) ∧ w' = wr.drewN N := fun N => by
                  have := spec_frEntry (some ⟨w.heap.size, 0, none⟩) (k + 1) (wr.drewN N).heap.size (fdL l) 0 ((j : Int) + 1) (wr.drewN N) (SlI.of_own (own_drewN HOq.out N)) (by rw [Hfl.out]; omega) (by rw [Hfl.out]; omega) (by omega) (by omega) (by omega)
                  rw [Hfl.out] at this
                  refine this.mono ?_
                  rintro e w' ⟨h1, h2⟩
                  exact ⟨h1, h2.symm⟩
                have hes := entB_succ l (fdL l) j
                rw [He.out, Bool.true_and] at hes
                have hnj := Hno.out j hlt
                generalize ent (fdL l) 0 ((j : Int) + 1) = u at *
                generalize l.getD j 0 = v at *
                have Hf := Lib.hid hf
                have Hes := Lib.hid hes
                have Hnj := Lib.hid hnj
                have j0 : (0 : Int) ≤ (j : Int) := by omega
                have j1 : (j : Int) < (k : Int) := by omega
                have j2 : (j : Int) + 1 < (k : Int) + 1 := by omega
                clear hf hes hnj hc0
                go_wp2
                go_quiet ((go_at_call 62; exact Calls.quiet_of_same (Hf.out _)))
                by_cases huv : u = v
                · have HE : Hid (entB l (fdL l) (j + 1) = true) := Lib.hid (by rw [Hes.out]; simpa using huv)
                  subst huv
                  go_wp2
                  go_roundw
                  case rel => exact ⟨j + 1, by omega, by go_num, HE.out, below_drewN Hbq.out _⟩
                  case measure => simp [intOf]; omega
                · go_wp2
                  go_ret2
                  exact fdI_none (w := w) (Hnj.out huv) (below_drewN Hdq.out _)
              · obtain rfl : j = k := by omega
                have hy := Hyes.out He.out
                have hres : RetI w (fdR l) (fdB l) (.returned (.tuple #[.slice (some ⟨w.heap.size, 0, none⟩) (j + 1) (j + 1), .bool true])) wr := by
                  rw [fdR_yes hy, hy]
                  exact ⟨_, j + 1, by rw [Hfl.out], by rw [Hfl.out]; exact HOq.out, Hdq.out⟩
                have HE := Lib.hid hres
                clear hres hy
                go_wp2
                go_ret2
                exact HE.out
end Go.Proofs.Ytbebalgleiafdab
