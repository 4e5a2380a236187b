/- The model's ctTake. -/
import Derived.Test.YtkekjcfhkecggabPutA
namespace Go.Proofs.Ytkekjcfhkecggab
set_option linter.unusedVariables false
open Go.RowKit
set_option maxRecDepth 100000 in
set_option maxHeartbeats 6400000 in
theorem spec_ctTake (A : Option Addr) (n c B : Nat) (l : List Int) (k : Nat) (w : World) (hn : l.length = n) (h : SlI w B A l) (hB : B ≤ w.heap.size) (hsm : Small l) (hl : n ≤ 10) (hlc : n ≤ c) (hk1 : 1 ≤ k) (hk2 : k + 1 < n) :
    Calls Try.prog 36 #[.slice A n c, .int .i64 k] w (RetI w (takL l k) (good (takL l k))) := by
  obtain ⟨b', off, rfl, hbB, hc⟩ := h (by omega)
  obtain ⟨N, hN⟩ : ∃ N, N = n - 1 := ⟨_, rfl⟩
  have H := Lib.hid h
  have HBs := Lib.hid (takB_small hsm k)
  have HBl : Hid ((takB l k).length = N) := Lib.hid (by rw [takB_length l k (by omega), hn, hN])
  have HT : Hid ((l.take k).length = k) := Lib.hid (by simp; omega)
  have HD : Hid ((l.drop (k + 1)).length = n - (k + 1)) := Lib.hid (by simp; omega)
  have HN : Hid (N = k + (n - (k + 1))) := Lib.hid (by omega)
  have k0 : (0 : Int) ≤ (k : Int) := by omega
  have k1 : (k : Int) ≤ (c : Int) := by omega
  have k2 : (0 : Int) ≤ (k : Int) + 1 := by omega
  have k3 : (k : Int) + 1 ≤ (n : Int) := by omega
  have k4 : (n : Int) ≤ (c : Int) := by omega
  have k5 : ¬ c = k + 1 := by omega
  have k6 : k ≤ 1000000 := by omega
  have k7 : n - (k + 1) ≤ 1000000 := by omega
  have Hk1 := Lib.hid hk1
  have Hk2 := Lib.hid hk2
  have hNa : N + 1 ≤ n := by omega
  have hNb : n ≤ N + 1 := by omega
  have Hl := Lib.hid hl
  clear hc h hsm hn hN
  go_enter Try.func36, Try.ntmps36
  go_wp2
  have hpw : IntKind.i64.wrap ((k : Int) + 1) = (k : Int) + 1 := IntWalk.i64_in _ (by omega)
  have hpn : ((k : Int) + 1).toNat = k + 1 := by omega
  go_region_held3 (fun w' => Below w.heap.size w w')
    (first
      | assumption
      | exact (Below.refl _ _).drew
      | exact b6
      | exact below_kept (Below.refl _ _).drew (Nat.le_refl _) b6
      | (refine below_grown ?_ g7 (Nat.le_refl _) (fun j hj => (o6.lt j hj).1); assumption))
    (first
      | (refine step_ownP w.drew rfl _ rfl (some ⟨b', off, none⟩) k _ B (l.take k) rfl HT.out (H.out.take k).drw hB k6 ?_; intro A6 c6 w6 o6 b6)
      | (refine step_appendNI _ rfl _ _ rfl w.heap.size (.slice A6 k c6) k (l.take k) HT.out rfl o6 _ (n - (k + 1)) _ (l.drop (k + 1)) B N ?_ rfl HD.out ?_ ?_ ?_ b6.size ?_
         · exact HN.out
         · exact ((H.out.cutAt (k + 1)).drw.below (b6.mono hB))
         · exact k6
         · exact k7
         intro A7 c7 w7 o7 g7))
  rename_i hS7
  have hk1 := Hk1.out
  have hk2 := Hk2.out
  have hl := Hl.out
  rw [show l.take k ++ l.drop (k + 1) = takB l k from rfl] at o7
  have Hb7 := Lib.hid hS7
  clear hS7 g7 o6 b6 hpw hpn H
  obtain ⟨gl, cap0, hv, hgl, _⟩ := o7.form (by omega)
  cases hv
  have x1 := HBs.out.get (k - 1) (by rw [HBl.out]; omega)
  have x2 := HBs.out.get (k) (by rw [HBl.out]; omega)
  have hfd : takL l k = decr (decr (takB l k) (k - 1)) (k) := rfl
  have hg2 : (decr (takB l k) (k - 1)).getD (k) 0 = (takB l k).getD (k) 0 := by unfold decr; exact set_get _ _ _ _ (by omega)
  have HFl : Hid ((takL l k).length = N) := Lib.hid (by rw [hfd, decr_length, decr_length, HBl.out])
  have Hfd := Lib.hid hfd
  generalize takB l k = L0 at *
  have ca : w7.cell? ⟨gl, k - 1, none⟩ = some (.int .i64 (L0.getD (k - 1) 0)) := by rw [o7.cellAt _ (by omega), ics_get _ _ (by rw [HBl.out]; omega)]
  have fa := o7.frozenAt (k - 1)
  obtain ⟨o8, g8⟩ := o7.stored (k - 1) (.int .i64 (L0.getD (k - 1) 0 - 1))
  rw [ics_set, show L0.set (k - 1) (L0.getD (k - 1) 0 - 1) = decr L0 (k - 1) from rfl] at o8
  have cb : (w7.setCell ⟨gl, k - 1, none⟩ (.int .i64 (L0.getD (k - 1) 0 - 1))).cell? ⟨gl, k, none⟩ = some (.int .i64 (L0.getD (k) 0)) := by rw [o8.cellAt _ (by omega), ics_get _ _ (by rw [decr_length, HBl.out]; omega), hg2]
  have fb := o8.frozenAt (k)
  obtain ⟨o9, g9⟩ := o8.stored (k) (.int .i64 (L0.getD (k) 0 - 1))
  rw [ics_set, show (decr L0 (k - 1)).set (k) (L0.getD (k) 0 - 1) = decr (decr L0 (k - 1)) (k) by rw [← hg2]; rfl, ← Hfd.out] at o9
  have b8 := below_grown Hb7.out g8 (Nat.le_refl _) (fun k hk => by injection hk with hk; omega)
  have b9 := below_grown b8 g9 (Nat.le_refl _) (fun k hk => by injection hk with hk; omega)
  obtain ⟨W9, hW9⟩ : ∃ W9, W9 = (w7.setCell ⟨gl, k - 1, none⟩ (.int .i64 (L0.getD (k - 1) 0 - 1))).setCell ⟨gl, k, none⟩ (.int .i64 (L0.getD (k) 0 - 1)) := ⟨_, rfl⟩
  rw [← hW9] at o9 b9
  have HW9 := Lib.hid hW9
  have O9 := Lib.hid o9
  have B9 := Lib.hid b9
  obtain ⟨_, _⟩ := x1
  obtain ⟨_, _⟩ := x2
  clear o7 o8 o9 g8 g9 b8 b9 hW9 hg2 hfd hgl Hb7
  generalize L0.getD (k - 1) 0 = xa at *
  generalize L0.getD (k) 0 = xb at *
  have i0 : (0 : Int) ≤ (k : Int) - 1 := by omega
  have i1 : (k : Int) - 1 < (N : Int) := by omega
  have j0 : (0 : Int) ≤ (k : Int) := by omega
  have j1 : (k : Int) < (N : Int) := by omega
  have e0 : (1 : Int) ≤ (k : Int) := by omega
  have e1 : (k : Int) ≤ (N : Int) := by omega
  have e2 : (k : Int) < (N : Int) + 1 := by omega
  have e3 : k ≤ N := by omega
  have e4 : 1 ≤ k := by omega
  have it : ((k : Int) - 1).toNat = k - 1 := by omega
  have jt : ((k : Int)).toNat = k := by omega
  go_wp2_with fail
  rw [← HW9.out]
  clear HW9 ca cb fa fb it jt
  refine (spec_ctGood _ N _ _ (takL l k) _ HFl.out (SlI.of_own O9.out) (by omega)).mono ?_
  rintro e w10 ⟨rfl, rfl⟩
  have hE : RetI w (takL l k) (good (takL l k)) (.returned (.tuple #[.slice (some ⟨gl, 0, none⟩) N c7, .bool (good (takL l k))])) W9 := ⟨_, _, by rw [HFl.out], by rw [HFl.out]; exact O9.out, B9.out⟩
  have HE := Lib.hid hE
  clear hE O9
  generalize good (takL l k) = gd at *
  go_wp2
  go_ret2
  exact HE.out
end Go.Proofs.Ytkekjcfhkecggab
