/- The program's TakeOne. -/
import Derived.Test.YtkekjcfhkecggabPutA
namespace Go.Proofs.Ytkekjcfhkecggab
set_option linter.unusedVariables false
open Go.RowKit
set_option maxRecDepth 100000 in
set_option maxHeartbeats 6400000 in
theorem impl_TakeOne (A : Option Addr) (n c B : Nat) (l : List Int) (i : Int) (w : World) (hn : l.length = n) (h : SlI w B A l) (hB : B ≤ w.heap.size) (hl : n ≤ 1048576) (hlc : n ≤ c) :
    Calls Try.prog 40 #[.slice A n c, .int .i64 i] w (RetI w (optL (toR l i)) (toR l i).isSome) := by
  have Hn := Lib.hid hn
  go_enter Try.func40, Try.ntmps40
  go_wp2_with fail
  refine (impl_IsTermList A _ c B l _ Hn.out h hl).mono ?_
  rintro e w1 ⟨rfl, rfl⟩
  cases hg : good l
  · have HE := Lib.hid (retO_no (R := toR l i) (w := w) (toR_no1 hg) (Below.refl _ _))
    clear h hn hg
    go_wp2
    go_ret2
    exact HE.out
  · have h10 := (good_iff.1 hg).1
    by_cases h1 : i < 1
    · have HE := Lib.hid (retO_no (R := toR l i) (w := w) (toR_no2 (by omega)) (Below.refl _ _))
      clear h hn hg
      go_wp2
      go_ret2
      exact HE.out
    · by_cases h2 : (n : Int) - 1 ≤ i
      · have HE := Lib.hid (retO_no (R := toR l i) (w := w) (toR_no2 (by omega)) (Below.refl _ _))
        clear h hn hg
        go_wp2
        go_ret2
        exact HE.out
      · obtain ⟨k, rfl⟩ := Int.eq_ofNat_of_zero_le (show 0 ≤ i by omega)
        obtain ⟨b', off, rfl, hbB, hc⟩ := h (by omega)
        have g0 := hc k (by omega)
        have i0 : (0 : Int) ≤ (k : Int) := by omega
        have i1 : (k : Int) < (n : Int) := by omega
        have n10 : n ≤ 10 := by omega
        have hk1 : 1 ≤ k := by omega
        have hk2 : k + 1 < n := by omega
        by_cases hx : l.getD k 0 = 1
        · have Hat := Lib.hid (toR_at hg hk1 (by omega) hx)
          have hsm := good_small hg
          obtain ⟨N, hN⟩ : ∃ N, N = n - 1 := ⟨_, rfl⟩
          have H := Lib.hid h
          have HBs := Lib.hid (takB_small hsm k)
          have HBl : Hid ((takB l k).length = N) := Lib.hid (by rw [takB_length l k (by omega), hn, hN])
          have HT : Hid ((l.take k).length = k) := Lib.hid (by simp; omega)
          have HD : Hid ((l.drop (k + 1)).length = n - (k + 1)) := Lib.hid (by simp; omega)
          have HN : Hid (N = k + (n - (k + 1))) := Lib.hid (by omega)
          rw [hx] at g0
          have k1 : (k : Int) ≤ (c : Int) := by omega
          have k2 : (0 : Int) ≤ (k : Int) + 1 := by omega
          have k3 : (k : Int) + 1 ≤ (n : Int) := by omega
          have k4 : (n : Int) ≤ (c : Int) := by omega
          have k5 : ¬ c = k + 1 := by omega
          have k6 : 0 < k := by omega
          have k7 : 0 < n - (k + 1) := by omega
          have k8 : N ≤ 1000000 := by omega
          have Hk1 := Lib.hid hk1
          have Hk2 := Lib.hid hk2
          have hNa : N + 1 ≤ n := by omega
          have hNb : n ≤ N + 1 := by omega
          have Hl := Lib.hid n10
          clear hc h hsm hn hN hg hx h10
          go_wp2
          have hpw : IntKind.i64.wrap ((k : Int) + 1) = (k : Int) + 1 := IntWalk.i64_in _ (by omega)
          have hpn : ((k : Int) + 1).toNat = k + 1 := by omega
          clear g0
          go_region_held3 (fun w' => Below w.heap.size w w')
            (first
              | assumption
              | exact (Below.refl _ _).drew
              | exact (below_grown (Below.refl _ _).drew g7 (Nat.le_refl _) (fun j hj => by cases hj)))
            (first
              | (refine step_growI w.drew rfl _ _ rfl (some ⟨b', off, none⟩) k B (l.take k) HT.out k6 rfl (H.out.take k).drw (some ⟨b', off + (k + 1), none⟩) (n - (k + 1)) _ B N (l.drop (k + 1)) HN.out HD.out k7 rfl (H.out.cutAt (k + 1)).drw k8 ?_; intro A7 c7 w7 o7 g7))
          rename_i hS7
          have hk1 := Hk1.out
          have hk2 := Hk2.out
          have hl := Hl.out
          rw [show l.take k ++ l.drop (k + 1) = takB l k from rfl] at o7
          replace o7 := o7.mono (show w.heap.size ≤ w.drew.heap.size from Nat.le_refl _)
          have Hb7 := Lib.hid hS7
          clear hS7 g7 hpw hpn H
          obtain ⟨gl, cap0, hv, hgl, _⟩ := o7.form (by omega)
          cases hv
          have x1 := HBs.out.get (k - 1) (by rw [HBl.out]; omega)
          have x2 := HBs.out.get (k) (by rw [HBl.out]; omega)
          have hfd : takL l k = decr (decr (takB l k) (k - 1)) (k) := rfl
          have hg2 : (decr (takB l k) (k - 1)).getD (k) 0 = (takB l k).getD (k) 0 := by unfold decr; exact set_get _ _ _ _ (by omega)
          have HFl : Hid ((takL l k).length = N) := Lib.hid (by rw [hfd, decr_length, decr_length, HBl.out])
          have Hfd := Lib.hid hfd
          generalize takB l k = L0 at *
          have ca : w7.cell? ⟨gl, k - 1, none⟩ = some (.int .i64 (L0.getD (k - 1) 0)) := by rw [o7.cellAt _ (by omega), ics_get _ _ (by rw [HBl.out]; omega)]
          have fa := o7.frozenAt (k - 1)
          obtain ⟨o8, g8⟩ := o7.stored (k - 1) (.int .i64 (L0.getD (k - 1) 0 - 1))
          rw [ics_set, show L0.set (k - 1) (L0.getD (k - 1) 0 - 1) = decr L0 (k - 1) from rfl] at o8
          have cb : (w7.setCell ⟨gl, k - 1, none⟩ (.int .i64 (L0.getD (k - 1) 0 - 1))).cell? ⟨gl, k, none⟩ = some (.int .i64 (L0.getD (k) 0)) := by rw [o8.cellAt _ (by omega), ics_get _ _ (by rw [decr_length, HBl.out]; omega), hg2]
          have fb := o8.frozenAt (k)
          obtain ⟨o9, g9⟩ := o8.stored (k) (.int .i64 (L0.getD (k) 0 - 1))
          rw [ics_set, show (decr L0 (k - 1)).set (k) (L0.getD (k) 0 - 1) = decr (decr L0 (k - 1)) (k) by rw [← hg2]; rfl, ← Hfd.out] at o9
          have b8 := below_grown Hb7.out g8 (Nat.le_refl _) (fun k hk => by injection hk with hk; omega)
          have b9 := below_grown b8 g9 (Nat.le_refl _) (fun k hk => by injection hk with hk; omega)
          obtain ⟨W9, hW9⟩ : ∃ W9, W9 = (w7.setCell ⟨gl, k - 1, none⟩ (.int .i64 (L0.getD (k - 1) 0 - 1))).setCell ⟨gl, k, none⟩ (.int .i64 (L0.getD (k) 0 - 1)) := ⟨_, rfl⟩
          rw [← hW9] at o9 b9
          have HW9 := Lib.hid hW9
          have O9 := Lib.hid o9
          have B9 := Lib.hid b9
          obtain ⟨_, _⟩ := x1
          obtain ⟨_, _⟩ := x2
          clear o7 o8 o9 g8 g9 b8 b9 hW9 hg2 hfd hgl Hb7
          generalize L0.getD (k - 1) 0 = xa at *
          generalize L0.getD (k) 0 = xb at *
          have i0 : (0 : Int) ≤ (k : Int) - 1 := by omega
          have i1 : (k : Int) - 1 < (N : Int) := by omega
          have j0 : (0 : Int) ≤ (k : Int) := by omega
          have j1 : (k : Int) < (N : Int) := by omega
          have e0 : (1 : Int) ≤ (k : Int) := by omega
          have e1 : (k : Int) ≤ (N : Int) := by omega
          have e2 : (k : Int) < (N : Int) + 1 := by omega
          have e3 : k ≤ N := by omega
          have e4 : 1 ≤ k := by omega
          have it : ((k : Int) - 1).toNat = k - 1 := by omega
          have jt : ((k : Int)).toNat = k := by omega
          go_wp2_with fail
          rw [← HW9.out]
          clear HW9 ca cb fa fb it jt
          refine (impl_IsTermList _ N _ _ (takL l k) _ HFl.out (SlI.of_own O9.out) (by omega)).mono ?_
          rintro e w10 ⟨rfl, rfl⟩
          cases hg : good (takL l k)
          · have hE := retO_no (w := w) (Hat.out.trans (if_neg (by rw [hg]; simp))) B9.out
            have HE := Lib.hid hE
            clear hE hg O9
            go_wp2
            go_ret2
            exact HE.out
          · have hE := retO_yes (w := w) (Hat.out.trans (if_pos hg)) HFl.out O9.out B9.out
            have HE := Lib.hid hE
            clear hE hg O9
            go_wp2
            go_ret2
            exact HE.out
        · have HE := Lib.hid (retO_no (R := toR l k) (w := w) (toR_no3 hx) (Below.refl _ _))
          have hx' : (l.getD k 0 != 1) = true := by simpa using hx
          generalize l.getD k 0 = x at *
          clear h hn hg hc hx
          go_wp2
          go_ret2
          exact HE.out
end Go.Proofs.Ytkekjcfhkecggab
