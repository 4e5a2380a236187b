/- The fraction behind one in a Farey list. -/
import Derived.Test.YtaifgfmkkgndkabFareyListW
import Derived.Test.YtaifgfmkkgndkabIdxF
import Derived.Test.YtaifgfmkkgndkabNextFareyC
namespace Go.Proofs.Ytaifgfmkkgndkab
set_option linter.unusedVariables false
open Go.RowKit

theorem far_good {n : Nat} (h1 : 1 ≤ n) (h2 : n ≤ 40) {i : Nat} (hi : i < (far n).length) : nbB ((far n).getD i (0, 0)).1 ((far n).getD i (0, 0)).2 = true := by
  have hm := (okSeq_chn (far_ok h1 h2).1).2 (far n)[i] (List.getElem_mem hi)
  have e : (far n).getD i (0, 0) = (far n)[i] := by simp [hi]
  rw [e]
  have := fOk_iff.1 hm
  rw [nbB_iff]
  exact ⟨by omega, by omega, this.2.2.2.2⟩
theorem nx_bad {a b : Int} (n : Int) (h : nbB a b = false) : nxF (farR n) (a, b) = none := by
  cases hn : inB n 1 40
  · rw [farR_no hn]; rfl
  · obtain ⟨m, rfl, h1, h2⟩ := inB_nat hn
    rw [farR_yes hn]
    refine nxF_no _ _ fun j hj e => ?_
    have := far_good h1 h2 (show j < (far m).length by omega)
    rw [e] at this
    simp [h] at this
theorem nx_out {n : Int} (p : Int × Int) (h : inB n 1 40 = false) : nxF (farR n) p = none := by rw [farR_no h]; rfl
theorem boxF1 (w : World) (a b : Int) : Bx2 ((w.alloc (.cells #[.int .i64 a, .int .i64 b] 32)).alloc (.cells #[.int .i64 0, .int .i64 0] 32)) w.heap.size a b := (Bx2.new w _ a b).alloc _
theorem boxF2 (w : World) (a b : Int) : Bx2 ((w.alloc (.cells #[.int .i64 a, .int .i64 b] 32)).alloc (.cells #[.int .i64 0, .int .i64 0] 32)) (w.heap.size + 1) 0 0 := by
  have h := Bx2.new (w.alloc (.cells #[.int .i64 a, .int .i64 b] 32)) 32 0 0
  simpa using h

set_option maxRecDepth 100000 in
set_option maxHeartbeats 3200000 in
theorem spec_NextFarey (a b n : Int) (w : World) : Calls Try.prog 19 #[.agg #[.int .i64 a, .int .i64 b], .int .i64 n] w (NxE (nxF (farR n) (a, b)) w) := by
  have G := Lib.hid (fun w => spec_nbGood a b w)
  have I := Lib.hid (fun w => spec_l1In' n 1 40 w)
  have B0 := Lib.hid (below_two w (.cells #[.int .i64 a, .int .i64 b] 32) (.cells #[.int .i64 0, .int .i64 0] 32))
  have X0 := Lib.hid (boxF1 w a b)
  have Z0 := Lib.hid (boxF2 w a b)
  cases hg : nbB a b
  · have HE := Lib.hid (fun w' hb => nxE_no (w := w) (w' := w') (nx_bad n hg) hb)
    rw [hg] at G
    clear hg I
    generalize nxF (farR n) (a, b) = o at *
    go_enter Try.func19, Try.ntmps19
    go_wp2_with fail
    refine (G.out _).mono ?_
    rintro e w1 ⟨rfl, hb⟩
    have X := Lib.hid (X0.out.kept hb)
    have Z := Lib.hid (Z0.out.kept hb)
    have D := Lib.hid (below_kept B0.out (Nat.le_refl _) hb)
    clear hb X0 Z0 B0 G
    obtain ⟨⟨z0, z1⟩, z2, z3⟩ := id Z.out
    have zl := Z.out.lt
    go_wp2
    exact bodyPost_ret (v := .tuple #[.agg #[.int .i64 0, .int .i64 0], .bool false]) (by simp [results, Try.results19, go_sem, z0, z1, z2, z3]) rfl (HE.out _ (below_setP D.out (by omega)))
  · rw [hg] at G
    cases hn : inB n 1 40
    · have HE := Lib.hid (fun w' hb => nxE_no (w := w) (w' := w') (nx_out (a, b) hn) hb)
      rw [hn] at I
      clear hg hn
      generalize nxF (farR n) (a, b) = o at *
      go_enter Try.func19, Try.ntmps19
      go_wp2_with fail
      refine (G.out _).mono ?_
      rintro e w1 ⟨rfl, hb⟩
      have X := Lib.hid (X0.out.kept hb)
      have Z := Lib.hid (Z0.out.kept hb)
      have D := Lib.hid (below_kept B0.out (Nat.le_refl _) hb)
      clear hb X0 Z0 B0 G
      go_wp2_with fail
      refine (I.out _).mono ?_
      rintro e w2 ⟨rfl, rfl⟩
      obtain ⟨⟨z0, z1⟩, z2, z3⟩ := id Z.out
      have zl := Z.out.lt
      go_wp2
      exact bodyPost_ret (v := .tuple #[.agg #[.int .i64 0, .int .i64 0], .bool false]) (by simp [results, Try.results19, go_sem, z0, z1, z2, z3]) rfl (HE.out _ (below_setP D.out (by omega)))
    · obtain ⟨m, rfl, h1, h2⟩ := inB_nat hn
      rw [farR_yes hn]
      rw [hn] at I
      have HF := Lib.hid (fun w => spec_nbFarey m w h1 h2)
      have hl := (far_ok h1 h2).2.2
      have hl2 : 2 ≤ (far m).length := by unfold far; simp
      clear hg hn
      generalize far m = F at *
      go_enter Try.func19, Try.ntmps19
      go_wp2_with fail
      refine (G.out _).mono ?_
      rintro e w1 ⟨rfl, hb⟩
      have X1 := Lib.hid (X0.out.kept hb)
      have Z1 := Lib.hid (Z0.out.kept hb)
      have D1 := Lib.hid (below_kept B0.out (Nat.le_refl _) hb)
      clear hb X0 Z0 B0 G
      go_wp2_with fail
      refine (I.out _).mono ?_
      rintro e w2 ⟨rfl, rfl⟩
      go_wp2_with fail
      refine (HF.out _).mono ?_
      rintro e w3 ⟨A, c, rfl, ho, hb⟩
      have X := Lib.hid (X1.out.kept hb)
      have Z := Lib.hid (Z1.out.kept hb)
      have D := Lib.hid (below_kept D1.out (Nat.le_refl _) hb)
      have S := Lib.hid (SlD.of_own ho)
      clear ho hb X1 Z1 D1 I HF
      go_wp2
      go_loopw [7] (fun i wr => ∃ k : Nat, k + 1 ≤ F.length ∧ i = .int .i64 k ∧ (∀ j, j < k → F.getD j (0, 0) ≠ (a, b)) ∧ Below w3.heap.size w3 wr) (fun i _ => F.length - (intOf i).toNat)
      case atStart => exact ⟨0, by omega, rfl, fun j hj => by omega, Below.refl _ _⟩
      case round =>
        obtain ⟨k, hk, rfl, hno, hb⟩ := hrel
        have Hno := Lib.hid hno
        clear hno
        have Xr := Lib.hid (X.out.kept hb)
        have Zr := Lib.hid (Z.out.kept hb)
        have Dr := Lib.hid (below_kept D.out (Nat.le_refl _) hb)
        have yX := Xr.out.lt
        have yZ := Zr.out.lt
        obtain ⟨⟨x0, x1⟩, x2, x3⟩ := id Xr.out
        obtain ⟨⟨z0, z1⟩, z2, z3⟩ := id Zr.out
        by_cases hlt : k + 1 < F.length
        · obtain ⟨g, off, rfl, hgB, hc⟩ := S.out.below hb (by omega)
          obtain ⟨g0, g1⟩ := hc k (by omega)
          obtain ⟨f0, f1⟩ := hc (k + 1) hlt
          have i0 : (0 : Int) ≤ (k : Int) := by omega
          have i1 : (k : Int) < (F.length : Int) := by omega
          have i2 : (k : Int) + 1 < (F.length : Int) := by omega
          have hval := fun e => nxF_at F (a, b) k hlt e Hno.out
          have hnext : F.getD k (0, 0) ≠ (a, b) → ∀ j, j < k + 1 → F.getD j (0, 0) ≠ (a, b) := fun hne j hj => by
            by_cases e : j = k
            · subst e; exact hne
            · exact Hno.out j (by omega)
          generalize F.getD k (0, 0) = d at *
          generalize F.getD (k + 1) (0, 0) = v at *
          obtain ⟨d1, d2⟩ := d
          obtain ⟨v1, v2⟩ := v
          dsimp only at g0 g1 f0 f1
          have hEq := run_fr_eq d1 d2 a b
          have Hb := Lib.hid hb
          have Hval := Lib.hid hval
          have Hnext := Lib.hid hnext
          clear hc hb hval hnext Hno S X Z D
          by_cases hx : (d1, d2) = (a, b)
          · have ht : ((d1 == a) && (d2 == b)) = true := frEq_iff.2 hx
            rw [ht] at hEq
            have HE := Lib.hid (fun w' hb => nxE_yes (w := w) (w' := w') (Hval.out hx) hb)
            clear ht hx Hval Hnext
            go_wp2
            go_quiet (fail)
            go_wp2
            exact bodyPost_ret (v := .tuple #[.agg #[.int .i64 v1, .int .i64 v2], .bool true]) (by simp [results, Try.results19, go_sem, z0, z1, z2, z3]) rfl (HE.out _ (below_setP (below_drewN Dr.out _) (by omega)))
          · have ht : ((d1 == a) && (d2 == b)) = false := by rw [Bool.eq_false_iff]; exact fun e => hx (frEq_iff.1 e)
            rw [ht] at hEq
            have Hn := Lib.hid (Hnext.out hx)
            clear ht hx Hval Hnext z0 z1 z2 z3
            go_wp2
            go_quiet (fail)
            go_wp2
            go_roundw
            case rel => exact ⟨k + 1, by omega, by go_num, Hn.out, below_drewN Hb.out _⟩
            case measure => simp [intOf]; omega
        · have HE := Lib.hid (fun w' hb => nxE_no (w := w) (w' := w') (nxF_no F (a, b) fun j hj => Hno.out j (by omega)) hb)
          have i2 : ¬ (k : Int) + 1 < (F.length : Int) := by omega
          clear hb Hno X Z D S
          go_wp2
          exact bodyPost_ret (v := .tuple #[.agg #[.int .i64 0, .int .i64 0], .bool false]) (by simp [results, Try.results19, go_sem, z0, z1, z2, z3]) rfl (HE.out _ (below_setP Dr.out (by omega)))

set_option maxRecDepth 100000 in
set_option maxHeartbeats 3200000 in
theorem impl_NextFarey (a b n : Int) (w : World) : Calls Try.prog 21 #[.agg #[.int .i64 a, .int .i64 b], .int .i64 n] w (NxE (nxF (farR n) (a, b)) w) := by
  have HF := Lib.hid (fun w => impl_FareyList n w)
  have B0 := Lib.hid (below_two w (.cells #[.int .i64 a, .int .i64 b] 32) (.cells #[.int .i64 0, .int .i64 0] 32))
  have X0 := Lib.hid (boxF1 w a b)
  have Z0 := Lib.hid (boxF2 w a b)
  have hl := farR_length n
  have Hn := Lib.hid (fun h => @nx_out n (a, b) h)
  generalize farR n = F at *
  generalize inB n 1 40 = ok at *
  go_enter Try.func21, Try.ntmps21
  go_wp2_with fail
  refine (HF.out _).mono ?_
  rintro e w3 ⟨A, c, rfl, ho, hb⟩
  have X := Lib.hid (X0.out.kept hb)
  have Z := Lib.hid (Z0.out.kept hb)
  have D := Lib.hid (below_kept B0.out (Nat.le_refl _) hb)
  have S := Lib.hid (SlD.of_own ho)
  clear ho hb X0 Z0 B0 HF
  cases ok
  · have HE := Lib.hid (fun w' hb => nxE_no (w := w) (w' := w') (Hn.out rfl) hb)
    obtain ⟨⟨z0, z1⟩, z2, z3⟩ := id Z.out
    have zl := Z.out.lt
    go_wp2
    exact bodyPost_ret (v := .tuple #[.agg #[.int .i64 0, .int .i64 0], .bool false]) (by simp [results, Try.results21, go_sem, z0, z1, z2, z3]) rfl (HE.out _ (below_setP D.out (by omega)))
  · clear Hn
    have yX := X.out.lt
    obtain ⟨⟨x0, x1⟩, x2, x3⟩ := id X.out
    go_wp2_with fail
    refine (slices_IndexP A F.length c _ F a b _ S.out rfl (Nat.le_refl _) (by omega)).mono ?_
    rintro e w4 ⟨r, rfl, hr, hb⟩
    have Z4 := Lib.hid (Z.out.kept hb)
    have D4 := Lib.hid (below_kept D.out (Nat.le_refl _) hb)
    obtain ⟨⟨z0, z1⟩, z2, z3⟩ := id Z4.out
    have zl := Z4.out.lt
    clear x0 x1 x2 x3 X Z D yX
    rcases hr with ⟨k, hk, rfl, hd, hno⟩ | ⟨rfl, hno⟩
    · have i0 : (0 : Int) ≤ (k : Int) := by omega
      have i3 : ¬ (k : Int) < 0 := by omega
      by_cases hlt : k + 1 < F.length
      · obtain ⟨g, off, rfl, hgB, hc⟩ := S.out.below hb (by omega)
        obtain ⟨f0, f1⟩ := hc (k + 1) hlt
        have HE := Lib.hid (fun w' hb => nxE_yes (w := w) (w' := w') (nxF_at F (a, b) k hlt hd hno) hb)
        generalize F.getD (k + 1) (0, 0) = v at *
        obtain ⟨v1, v2⟩ := v
        dsimp only at f0 f1
        have i1 : (k : Int) + 1 < (F.length : Int) := by omega
        have i2 : ((k : Int) == (F.length : Int) - 1) = false := by rw [beq_eq_false_iff_ne]; omega
        have i4 : ¬ (k : Int) = (F.length : Int) - 1 := by omega
        clear hc hb hd hno S
        go_wp2
        exact bodyPost_ret (v := .tuple #[.agg #[.int .i64 v1, .int .i64 v2], .bool true]) (by simp [results, Try.results21, go_sem, z0, z1, z2, z3]) rfl (HE.out _ (below_setP D4.out (by omega)))
      · have HE := Lib.hid (fun w' hb => nxE_no (w := w) (w' := w') (nxF_no F (a, b) fun j hj => hno j (by omega)) hb)
        have i2 : ((k : Int) == (F.length : Int) - 1) = true := by rw [beq_iff_eq]; omega
        have i4 : (k : Int) = (F.length : Int) - 1 := by omega
        have I4 := Lib.hid i4
        clear hb hd hno S i4
        go_wp2
        exact bodyPost_ret (v := .tuple #[.agg #[.int .i64 0, .int .i64 0], .bool false]) (by simp [results, Try.results21, go_sem, z0, z1, z2, z3]) rfl (HE.out _ (below_setP D4.out (by omega)))
    · have HE := Lib.hid (fun w' hb => nxE_no (w := w) (w' := w') (nxF_no F (a, b) fun j hj => hno j (by omega)) hb)
      clear hb hno S
      go_wp2
      exact bodyPost_ret (v := .tuple #[.agg #[.int .i64 0, .int .i64 0], .bool false]) (by simp [results, Try.results21, go_sem, z0, z1, z2, z3]) rfl (HE.out _ (below_setP D4.out (by omega)))
theorem WNextFarey.walk (w : World) (a b n : Int) (hj : (Lit.int .i64 n).wf = true) :
    Calls Try.prog 5 #[.agg #[.int .i64 a, .int .i64 b], .int .i64 n] w fun e w' => e = .returned (.bool true) ∧ Below w.heap.size w w' :=
  WNextFarey.core w a b n _ _ _ (Lib.hid fun w => spec_NextFarey a b n w) (Lib.hid fun w => impl_NextFarey a b n w)
end Go.Proofs.Ytaifgfmkkgndkab
