/- PutOne, TakeOne: the model's and the program's contracts, and the laws' walks. -/
import Derived.Test.YtkekjcfhkecggaaPutT
import Derived.Test.YtkekjcfhkecggaaPutU
import Derived.Deep.Cut
import Derived.Test.YtkekjcfhkecggaaPutOneC
import Derived.Test.YtkekjcfhkecggaaTakeOneC
namespace Go.Proofs.Ytkekjcfhkecggaa
set_option linter.unusedVariables false
open Go.RowKit

theorem inBp_iff {n lo hi : Int} : inB n lo hi = true ↔ lo ≤ n ∧ n ≤ hi := by unfold inB; simp

set_option maxRecDepth 100000 in
set_option maxHeartbeats 6400000 in
theorem spec_PutOne (A : Option Addr) (c B : Nat) (l : List Int) (i : Int) (w : World) (h : SlI w B A l) (hB : B ≤ w.heap.size) (hl : l.length ≤ 1048576) (hlc : l.length ≤ c) :
    Calls Try.prog 37 #[.slice A l.length c, .int .i64 i] w (RetI w (optL (poR l i)) (poR l i).isSome) := by
  obtain ⟨n, hn⟩ : ∃ n, l.length = n := ⟨_, rfl⟩
  rw [hn] at hl hlc ⊢
  have Hn := Lib.hid hn
  go_enter Try.func37, Try.ntmps37
  go_wp2_with fail
  refine (spec_ctGood A _ c B l _ Hn.out h hl).mono ?_
  rintro e w1 ⟨rfl, rfl⟩
  cases hg : good l
  · have HE := Lib.hid (retO_no (R := poR l i) (w := w) (poR_no1 hg) (Below.refl _ _))
    clear h hn hg
    go_wp2
    go_ret2
    exact HE.out
  · have h10 := (good_iff.1 hg).1
    have n10 : n ≤ 10 := by omega
    go_wp2_with fail
    refine (spec_l1In' _ _ _ _).mono ?_
    rintro e w1 ⟨rfl, rfl⟩
    cases hi : inB i 1 ((n : Int) - 1)
    · have HE := Lib.hid (retO_no (R := poR l i) (w := w) (poR_no2 (by rw [hn]; intro e; rw [inBp_iff.2 e] at hi; cases hi)) (Below.refl _ _))
      clear h hn hg hi
      go_wp2
      go_ret2
      exact HE.out
    · obtain ⟨h1, h2⟩ := inBp_iff.1 hi
      clear hi
      obtain ⟨k, rfl⟩ := Int.eq_ofNat_of_zero_le (show 0 ≤ i by omega)
      obtain ⟨b', off, rfl, hbB, hc⟩ := h (by omega)
      have hk1 : 1 ≤ k := by omega
      have hk2 : k < n := by omega
      have Hat := Lib.hid (poR_at hg hk1 (by omega))
      have hsm := good_small hg
      obtain ⟨N, hN⟩ : ∃ N, N = n + 1 := ⟨_, rfl⟩
      have H := Lib.hid h
      have HBs := Lib.hid (putB_small hsm k)
      have HBl : Hid ((putB l k).length = N) := Lib.hid (by rw [putB_length l k (by omega), hn, hN])
      have HT : Hid ((l.take k).length = k) := Lib.hid (by simp; omega)
      have HT1 : Hid ((l.take k ++ [1]).length = k + 1) := Lib.hid (by simp; omega)
      have HD : Hid ((l.drop k).length = n - k) := Lib.hid (by simp; omega)
      have HN : Hid (N = k + 1 + (n - k)) := Lib.hid (by omega)
      have k0 : (0 : Int) ≤ (k : Int) := by omega
      have k1 : (k : Int) ≤ (c : Int) := by omega
      have k3 : (k : Int) ≤ (n : Int) := by omega
      have k4 : (n : Int) ≤ (c : Int) := by omega
      have k5 : ¬ c = k := by omega
      have k6 : 0 < k := by omega
      have k7 : k ≤ 1000000 := by omega
      have k8 : n - k ≤ 1000000 := by omega
      have k9 : k + 1 ≤ 1000000 := by omega
      have Hk1 := Lib.hid hk1
      have Hk2 := Lib.hid hk2
      have hNa : n + 1 ≤ N := by omega
      have hNb : N ≤ n + 1 := by omega
      have Hl := Lib.hid n10
      clear hc h hsm hn hN hg h10
      go_wp2_with fail
      refine (spec_l1Own_at (some ⟨b', off, none⟩) k c B (l.take k) _ HT.out (H.out.take k) hB (by omega)).mono ?_
      rintro e w2 ⟨A2, c2, rfl, o2, b2⟩
      have own2 := o2.alloc (.cells #[.int .i64 1] 3)
      have hb2 := b2.alloc b2.size (.cells #[.int .i64 1] 3)
      have Hob := Lib.hid o2.lt
      have Hb2 := Lib.hid hb2
      clear hb2 o2 b2
      go_upto_region 5 with (first
        | (at_builtin; refine append1In _ rfl _ _ rfl w.heap.size (.slice A2 k c2) k (l.take k) HT.out rfl own2 w2.heap.size 1 rfl ?c1 ?c2 Hb2.out.size ?_; (case c1 => simp [go_sem]); (case c2 => omega); intro A3 c3 w3 own3 hg3
           have hob3 := Lib.hid own3.lt
           have hb3 := below_grown Hb2.out hg3 (Nat.le_refl _) (fun j hj => (Hob.out j hj).1)
           have Hb3 := Lib.hid hb3
           have Ow3 := Lib.hid own3
           clear hg3 own2 hb3 own3)
        | (at_builtin; refine wpList_appendNI _ rfl _ _ rfl w.heap.size (.slice A3 (k + 1) c3) (k + 1) (l.take k ++ [1]) HT1.out rfl Ow3.out (some ⟨b', off + k, none⟩) (n - k) _ (l.drop k) B N HN.out rfl HD.out ((H.out.cutAt k).below (Hb3.out.mono hB)) k9 k8 Hb3.out.size ?_; intro A7 c7 w7 o7 g7
           have hb7 := below_grown Hb3.out g7 (Nat.le_refl _) (fun j hj => (hob3.out j hj).1)
           have Hb7 := Lib.hid hb7
           rw [show l.take k ++ [1] ++ l.drop k = putB l k from rfl] at o7
           have O7 := Lib.hid o7
           clear hb7 g7 o7 Ow3))
      have o7 := O7.out
      have hk1 := Hk1.out
      have hk2 := Hk2.out
      have hl := Hl.out
      clear O7 H
      obtain ⟨gl, cap0, hv, hgl, _⟩ := o7.form (by omega)
      cases hv
      have x1 := HBs.out.get (k - 1) (by rw [HBl.out]; omega)
      have x2 := HBs.out.get (k + 1) (by rw [HBl.out]; omega)
      have hfd : putL l k = incr (incr (putB l k) (k - 1)) (k + 1) := rfl
      have hg2 : (incr (putB l k) (k - 1)).getD (k + 1) 0 = (putB l k).getD (k + 1) 0 := by unfold incr; exact set_get _ _ _ _ (by omega)
      have HFl : Hid ((putL l k).length = N) := Lib.hid (by rw [hfd, incr_length, incr_length, HBl.out])
      have Hfd := Lib.hid hfd
      generalize putB l k = L0 at *
      have ca : w7.cell? ⟨gl, k - 1, none⟩ = some (.int .i64 (L0.getD (k - 1) 0)) := by rw [o7.cellAt _ (by omega), ics_get _ _ (by rw [HBl.out]; omega)]
      have fa := o7.frozenAt (k - 1)
      obtain ⟨o8, g8⟩ := o7.stored (k - 1) (.int .i64 (L0.getD (k - 1) 0 + 1))
      rw [ics_set, show L0.set (k - 1) (L0.getD (k - 1) 0 + 1) = incr L0 (k - 1) from rfl] at o8
      have cb : (w7.setCell ⟨gl, k - 1, none⟩ (.int .i64 (L0.getD (k - 1) 0 + 1))).cell? ⟨gl, k + 1, none⟩ = some (.int .i64 (L0.getD (k + 1) 0)) := by rw [o8.cellAt _ (by omega), ics_get _ _ (by rw [incr_length, HBl.out]; omega), hg2]
      have fb := o8.frozenAt (k + 1)
      obtain ⟨o9, g9⟩ := o8.stored (k + 1) (.int .i64 (L0.getD (k + 1) 0 + 1))
      rw [ics_set, show (incr L0 (k - 1)).set (k + 1) (L0.getD (k + 1) 0 + 1) = incr (incr L0 (k - 1)) (k + 1) by rw [← hg2]; rfl, ← Hfd.out] at o9
      have b8 := below_grown Hb7.out g8 (Nat.le_refl _) (fun k hk => by injection hk with hk; omega)
      have b9 := below_grown b8 g9 (Nat.le_refl _) (fun k hk => by injection hk with hk; omega)
      obtain ⟨W9, hW9⟩ : ∃ W9, W9 = (w7.setCell ⟨gl, k - 1, none⟩ (.int .i64 (L0.getD (k - 1) 0 + 1))).setCell ⟨gl, k + 1, none⟩ (.int .i64 (L0.getD (k + 1) 0 + 1)) := ⟨_, rfl⟩
      rw [← hW9] at o9 b9
      have HW9 := Lib.hid hW9
      have O9 := Lib.hid o9
      have B9 := Lib.hid b9
      obtain ⟨_, _⟩ := x1
      obtain ⟨_, _⟩ := x2
      clear o7 o8 o9 g8 g9 b8 b9 hW9 hg2 hfd hgl Hb7
      generalize L0.getD (k - 1) 0 = xa at *
      generalize L0.getD (k + 1) 0 = xb at *
      have i0 : (0 : Int) ≤ (k : Int) - 1 := by omega
      have i1 : (k : Int) - 1 < (N : Int) := by omega
      have j0 : (0 : Int) ≤ (k : Int) + 1 := by omega
      have j1 : (k : Int) + 1 < (N : Int) := by omega
      have e0 : (1 : Int) ≤ (k : Int) := by omega
      have e1 : (k : Int) ≤ (N : Int) := by omega
      have e2 : (k : Int) < (N : Int) + 1 := by omega
      have e3 : k ≤ N := by omega
      have e4 : 1 ≤ k := by omega
      have it : ((k : Int) - 1).toNat = k - 1 := by omega
      have jt : ((k : Int) + 1).toNat = k + 1 := by omega
      go_wp2_with fail
      rw [← HW9.out]
      clear HW9 ca cb fa fb it jt
      refine (spec_ctGood _ N _ _ (putL l k) _ HFl.out (SlI.of_own O9.out) (by omega)).mono ?_
      rintro e w10 ⟨rfl, rfl⟩
      cases hg : good (putL l k)
      · have hE := retO_no (w := w) (Hat.out.trans (if_neg (by rw [hg]; simp))) B9.out
        have HE := Lib.hid hE
        clear hE hg O9
        go_wp2
        go_ret2
        exact HE.out
      · have hE := retO_yes (w := w) (Hat.out.trans (if_pos hg)) HFl.out O9.out B9.out
        have HE := Lib.hid hE
        clear hE hg O9
        go_wp2
        go_ret2
        exact HE.out

set_option maxRecDepth 100000 in
set_option maxHeartbeats 6400000 in
theorem impl_PutOne (A : Option Addr) (c B : Nat) (l : List Int) (i : Int) (w : World) (h : SlI w B A l) (hB : B ≤ w.heap.size) (hl : l.length ≤ 1048576) (hlc : l.length ≤ c) :
    Calls Try.prog 38 #[.slice A l.length c, .int .i64 i] w (RetI w (optL (poR l i)) (poR l i).isSome) := by
  obtain ⟨n, hn⟩ : ∃ n, l.length = n := ⟨_, rfl⟩
  rw [hn] at hl hlc ⊢
  have Hn := Lib.hid hn
  go_enter Try.func38, Try.ntmps38
  go_wp2_with fail
  refine (impl_IsTermList A _ c B l _ Hn.out h hl).mono ?_
  rintro e w1 ⟨rfl, rfl⟩
  cases hg : good l
  · have HE := Lib.hid (retO_no (R := poR l i) (w := w) (poR_no1 hg) (Below.refl _ _))
    clear h hn hg
    go_wp2
    go_ret2
    exact HE.out
  · have h10 := (good_iff.1 hg).1
    have n10 : n ≤ 10 := by omega
    by_cases h1 : i < 1
    · have HE := Lib.hid (retO_no (R := poR l i) (w := w) (poR_no2 (by omega)) (Below.refl _ _))
      clear h hn hg
      go_wp2
      go_ret2
      exact HE.out
    · by_cases h2 : (n : Int) ≤ i
      · have HE := Lib.hid (retO_no (R := poR l i) (w := w) (poR_no2 (by omega)) (Below.refl _ _))
        clear h hn hg
        go_wp2
        go_ret2
        exact HE.out
      · skip
        obtain ⟨k, rfl⟩ := Int.eq_ofNat_of_zero_le (show 0 ≤ i by omega)
        obtain ⟨b', off, rfl, hbB, hc⟩ := h (by omega)
        have hk1 : 1 ≤ k := by omega
        have hk2 : k < n := by omega
        have Hat := Lib.hid (poR_at hg hk1 (by omega))
        have hsm := good_small hg
        obtain ⟨N, hN⟩ : ∃ N, N = n + 1 := ⟨_, rfl⟩
        have H := Lib.hid h
        have HBs := Lib.hid (putB_small hsm k)
        have HBl : Hid ((putB l k).length = N) := Lib.hid (by rw [putB_length l k (by omega), hn, hN])
        have HT : Hid ((l.take k).length = k) := Lib.hid (by simp; omega)
        have HT1 : Hid ((l.take k ++ [1]).length = k + 1) := Lib.hid (by simp; omega)
        have HD : Hid ((l.drop k).length = n - k) := Lib.hid (by simp; omega)
        have HN : Hid (N = k + 1 + (n - k)) := Lib.hid (by omega)
        have k0 : (0 : Int) ≤ (k : Int) := by omega
        have k1 : (k : Int) ≤ (c : Int) := by omega
        have k3 : (k : Int) ≤ (n : Int) := by omega
        have k4 : (n : Int) ≤ (c : Int) := by omega
        have k5 : ¬ c = k := by omega
        have k6 : 0 < k := by omega
        have k7 : k ≤ 1000000 := by omega
        have k8 : n - k ≤ 1000000 := by omega
        have k9 : k + 1 ≤ 1000000 := by omega
        have Hk1 := Lib.hid hk1
        have Hk2 := Lib.hid hk2
        have hNa : n + 1 ≤ N := by omega
        have hNb : N ≤ n + 1 := by omega
        have Hl := Lib.hid n10
        clear hc h hsm hn hN hg h10
        have hb2 : Below w.heap.size w (w.alloc (.cells #[.int .i64 1] 3)) := (Below.refl _ _).alloc (Nat.le_refl _) _
        have hs2 := (H.out.take k).below (hb2.mono hB)
        have hc2 : (w.alloc (.cells #[.int .i64 1] 3)).cell? ⟨w.heap.size, 0, none⟩ = some (.int .i64 1) := by simp [go_sem]
        have Hs2 := Lib.hid hs2
        have Hc2 : Hid (SlI (w.alloc (.cells #[.int .i64 1] 3)) (w.heap.size + 1) (some ⟨w.heap.size, 0, none⟩) [1]) := Lib.hid (SlI.cell1 hc2 (by omega))
        have Hb2 := Lib.hid hb2
        clear hb2 hs2 hc2
        go_upto_region 5 with (first
          | (at_builtin; refine wpList_growI _ rfl _ _ rfl (some ⟨b', off, none⟩) k B (l.take k) HT.out k6 rfl Hs2.out (some ⟨w.heap.size, 0, none⟩) 1 1 (w.heap.size + 1) (k + 1) [1] rfl rfl (by decide) rfl Hc2.out k9 ?_; intro A3 c3 w3 own3 hg3
             have own4 := own3.mono Hb2.out.size
             have hob3 := Lib.hid own4.lt
             have hb3 := below_grown Hb2.out hg3 (Nat.le_refl _) (fun j hj => by cases hj)
             have Hb3 := Lib.hid hb3
             have Ow3 := Lib.hid own4
             clear hg3 hb3 own3 own4)
          | (at_builtin; refine wpList_appendNI _ rfl _ _ rfl w.heap.size (.slice A3 (k + 1) c3) (k + 1) (l.take k ++ [1]) HT1.out rfl Ow3.out (some ⟨b', off + k, none⟩) (n - k) _ (l.drop k) B N HN.out rfl HD.out ((H.out.cutAt k).below (Hb3.out.mono hB)) k9 k8 Hb3.out.size ?_; intro A7 c7 w7 o7 g7
             have hb7 := below_grown Hb3.out g7 (Nat.le_refl _) (fun j hj => (hob3.out j hj).1)
             have Hb7 := Lib.hid hb7
             rw [show l.take k ++ [1] ++ l.drop k = putB l k from rfl] at o7
             have O7 := Lib.hid o7
             clear hb7 g7 o7 Ow3))
        have o7 := O7.out
        have hk1 := Hk1.out
        have hk2 := Hk2.out
        have hl := Hl.out
        clear O7 H
        obtain ⟨gl, cap0, hv, hgl, _⟩ := o7.form (by omega)
        cases hv
        have x1 := HBs.out.get (k - 1) (by rw [HBl.out]; omega)
        have x2 := HBs.out.get (k + 1) (by rw [HBl.out]; omega)
        have hfd : putL l k = incr (incr (putB l k) (k - 1)) (k + 1) := rfl
        have hg2 : (incr (putB l k) (k - 1)).getD (k + 1) 0 = (putB l k).getD (k + 1) 0 := by unfold incr; exact set_get _ _ _ _ (by omega)
        have HFl : Hid ((putL l k).length = N) := Lib.hid (by rw [hfd, incr_length, incr_length, HBl.out])
        have Hfd := Lib.hid hfd
        generalize putB l k = L0 at *
        have ca : w7.cell? ⟨gl, k - 1, none⟩ = some (.int .i64 (L0.getD (k - 1) 0)) := by rw [o7.cellAt _ (by omega), ics_get _ _ (by rw [HBl.out]; omega)]
        have fa := o7.frozenAt (k - 1)
        obtain ⟨o8, g8⟩ := o7.stored (k - 1) (.int .i64 (L0.getD (k - 1) 0 + 1))
        rw [ics_set, show L0.set (k - 1) (L0.getD (k - 1) 0 + 1) = incr L0 (k - 1) from rfl] at o8
        have cb : (w7.setCell ⟨gl, k - 1, none⟩ (.int .i64 (L0.getD (k - 1) 0 + 1))).cell? ⟨gl, k + 1, none⟩ = some (.int .i64 (L0.getD (k + 1) 0)) := by rw [o8.cellAt _ (by omega), ics_get _ _ (by rw [incr_length, HBl.out]; omega), hg2]
        have fb := o8.frozenAt (k + 1)
        obtain ⟨o9, g9⟩ := o8.stored (k + 1) (.int .i64 (L0.getD (k + 1) 0 + 1))
        rw [ics_set, show (incr L0 (k - 1)).set (k + 1) (L0.getD (k + 1) 0 + 1) = incr (incr L0 (k - 1)) (k + 1) by rw [← hg2]; rfl, ← Hfd.out] at o9
        have b8 := below_grown Hb7.out g8 (Nat.le_refl _) (fun k hk => by injection hk with hk; omega)
        have b9 := below_grown b8 g9 (Nat.le_refl _) (fun k hk => by injection hk with hk; omega)
        obtain ⟨W9, hW9⟩ : ∃ W9, W9 = (w7.setCell ⟨gl, k - 1, none⟩ (.int .i64 (L0.getD (k - 1) 0 + 1))).setCell ⟨gl, k + 1, none⟩ (.int .i64 (L0.getD (k + 1) 0 + 1)) := ⟨_, rfl⟩
        rw [← hW9] at o9 b9
        have HW9 := Lib.hid hW9
        have O9 := Lib.hid o9
        have B9 := Lib.hid b9
        obtain ⟨_, _⟩ := x1
        obtain ⟨_, _⟩ := x2
        clear o7 o8 o9 g8 g9 b8 b9 hW9 hg2 hfd hgl Hb7
        generalize L0.getD (k - 1) 0 = xa at *
        generalize L0.getD (k + 1) 0 = xb at *
        have i0 : (0 : Int) ≤ (k : Int) - 1 := by omega
        have i1 : (k : Int) - 1 < (N : Int) := by omega
        have j0 : (0 : Int) ≤ (k : Int) + 1 := by omega
        have j1 : (k : Int) + 1 < (N : Int) := by omega
        have e0 : (1 : Int) ≤ (k : Int) := by omega
        have e1 : (k : Int) ≤ (N : Int) := by omega
        have e2 : (k : Int) < (N : Int) + 1 := by omega
        have e3 : k ≤ N := by omega
        have e4 : 1 ≤ k := by omega
        have it : ((k : Int) - 1).toNat = k - 1 := by omega
        have jt : ((k : Int) + 1).toNat = k + 1 := by omega
        go_wp2_with fail
        rw [← HW9.out]
        clear HW9 ca cb fa fb it jt
        refine (impl_IsTermList _ N _ _ (putL l k) _ HFl.out (SlI.of_own O9.out) (by omega)).mono ?_
        rintro e w10 ⟨rfl, rfl⟩
        cases hg : good (putL l k)
        · have hE := retO_no (w := w) (Hat.out.trans (if_neg (by rw [hg]; simp))) B9.out
          have HE := Lib.hid hE
          clear hE hg O9
          go_wp2
          go_ret2
          exact HE.out
        · have hE := retO_yes (w := w) (Hat.out.trans (if_pos hg)) HFl.out O9.out B9.out
          have HE := Lib.hid hE
          clear hE hg O9
          go_wp2
          go_ret2
          exact HE.out

set_option maxRecDepth 100000 in
set_option maxHeartbeats 3200000 in
theorem spec_TakeOne (A : Option Addr) (c B : Nat) (l : List Int) (i : Int) (w : World) (h : SlI w B A l) (hB : B ≤ w.heap.size) (hl : l.length ≤ 1048576) (hlc : l.length ≤ c) :
    Calls Try.prog 39 #[.slice A l.length c, .int .i64 i] w (RetI w (optL (toR l i)) (toR l i).isSome) := by
  obtain ⟨n, hn⟩ : ∃ n, l.length = n := ⟨_, rfl⟩
  rw [hn] at hl hlc ⊢
  have Hn := Lib.hid hn
  go_enter Try.func39, Try.ntmps39
  go_wp2_with fail
  refine (spec_ctGood A _ c B l _ Hn.out h hl).mono ?_
  rintro e w1 ⟨rfl, rfl⟩
  cases hg : good l
  · have HE := Lib.hid (retO_no (R := toR l i) (w := w) (toR_no1 hg) (Below.refl _ _))
    clear h hn hg
    go_wp2
    go_ret2
    exact HE.out
  · have h10 := (good_iff.1 hg).1
    have n10 : n ≤ 10 := by omega
    go_wp2_with fail
    refine (spec_l1In' _ _ _ _).mono ?_
    rintro e w1 ⟨rfl, rfl⟩
    cases hi : inB i 1 ((n : Int) - 2)
    · have HE := Lib.hid (retO_no (R := toR l i) (w := w) (toR_no2 (by rw [hn]; intro e; rw [inBp_iff.2 e] at hi; cases hi)) (Below.refl _ _))
      clear h hn hg hi
      go_wp2
      go_ret2
      exact HE.out
    · obtain ⟨h1, h2⟩ := inBp_iff.1 hi
      clear hi
      obtain ⟨k, rfl⟩ := Int.eq_ofNat_of_zero_le (show 0 ≤ i by omega)
      obtain ⟨b', off, rfl, hbB, hc⟩ := h (by omega)
      have g0 := hc k (by omega)
      have hk1 : 1 ≤ k := by omega
      have hk2 : k + 1 < n := by omega
      have i0 : (0 : Int) ≤ (k : Int) := by omega
      have i1 : (k : Int) < (n : Int) := by omega
      by_cases hx : l.getD k 0 = 1
      · have Hat := Lib.hid (toR_at hg hk1 (by omega) hx)
        have hsm := good_small hg
        have Hcall := Lib.hid (spec_ctTake (some ⟨b', off, none⟩) n c B l k w hn h hB hsm n10 hlc hk1 hk2)
        rw [hx] at g0
        clear hc h hn hg hx hsm
        go_wp2_with fail
        refine Hcall.out.mono ?_
        rintro e w2 ⟨A2, c2, rfl, o2, b2⟩
        have hE1 : good (takL l k) = true → RetI w (optL (toR l k)) (toR l k).isSome (.returned (.tuple #[.slice A2 (takL l k).length c2, .bool true])) w2 := fun e => retO_yes (Hat.out.trans (if_pos e)) rfl o2 b2
        have hE2 : good (takL l k) = false → RetI w (optL (toR l k)) (toR l k).isSome (.returned (.tuple #[.slice none 0 0, .bool false])) w2 := fun e => retO_no (Hat.out.trans (if_neg (by rw [e]; simp))) b2
        have HE1 := Lib.hid hE1
        have HE2 := Lib.hid hE2
        clear hE1 hE2 o2 b2 g0
        generalize (takL l k).length = z at *
        cases hgd : good (takL l k)
        · have HF := Lib.hid (HE2.out hgd)
          clear hgd
          go_wp2
          go_ret2
          exact HF.out
        · have HF := Lib.hid (HE1.out hgd)
          clear hgd
          go_wp2
          go_ret2
          exact HF.out
      · have HE := Lib.hid (retO_no (R := toR l k) (w := w) (toR_no3 hx) (Below.refl _ _))
        have hx' : (l.getD k 0 != 1) = true := by simpa using hx
        generalize l.getD k 0 = x at *
        clear h hn hg hc hx
        go_wp2
        go_ret2
        exact HE.out

theorem WPutOne.walk (w : World) (A : Option Addr) (c : Nat) (l : List Int) (h : SlI w w.heap.size A l)
    (hj : l.length ≤ c ∧ c ≤ maxLen ∧ ∀ x ∈ l, (Lit.int .i64 x).wf = true) (i : Int) (wi : (Lit.int .i64 i).wf = true) :
    Calls Try.prog 12 #[.slice A l.length c, .int .i64 i] w fun e w' => e = .returned (.bool true) ∧ Below w.heap.size w w' :=
  WPutOne.core w A c l i h hj.1 hj.2.1 (optL (poR l i)) (poR l i).isSome (poR_length l i)
    (Lib.hid fun A c w h hl hlc => spec_PutOne A c _ l i w h (Nat.le_refl _) hl hlc)
    (Lib.hid fun A c w h hl hlc => impl_PutOne A c _ l i w h (Nat.le_refl _) hl hlc)
theorem WTakeOne.walk (w : World) (A : Option Addr) (c : Nat) (l : List Int) (h : SlI w w.heap.size A l)
    (hj : l.length ≤ c ∧ c ≤ maxLen ∧ ∀ x ∈ l, (Lit.int .i64 x).wf = true) (i : Int) (wi : (Lit.int .i64 i).wf = true) :
    Calls Try.prog 13 #[.slice A l.length c, .int .i64 i] w fun e w' => e = .returned (.bool true) ∧ Below w.heap.size w w' :=
  WTakeOne.core w A c l i h hj.1 hj.2.1 (optL (toR l i)) (toR l i).isSome (toR_length l i)
    (Lib.hid fun A c w h hl hlc => spec_TakeOne A c _ l i w h (Nat.le_refl _) hl hlc)
    (Lib.hid fun A c w h hl hlc => impl_TakeOne A _ c _ l i w rfl h (Nat.le_refl _) hl hlc)
end Go.Proofs.Ytkekjcfhkecggaa
