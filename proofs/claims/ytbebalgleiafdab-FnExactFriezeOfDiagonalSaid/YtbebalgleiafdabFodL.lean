/- The program's likelyQuiddity. -/
import Derived.Test.YtbebalgleiafdabFodC
import Derived.Test.YtbebalgleiafdabCatW
import Derived.BigRegion
namespace Go.Proofs.Ytbebalgleiafdab
set_option linter.unusedVariables false
open Go.RowKit

theorem below_three (w : World) (x y z : Obj) : Below w.heap.size w (((w.alloc x).alloc y).alloc z) := (((Below.refl _ _).alloc (Nat.le_refl _) _).alloc (by simp) _).alloc (by simp; omega) _
theorem quo_in (s a : Int) (h : 1 ≤ a) : -9223372036854775808 ≤ (wrap64 s).tdiv a ∧ (wrap64 s).tdiv a ≤ 9223372036854775807 := by
  obtain ⟨u, hu, hb⟩ : ∃ u, wrap64 s = u ∧ (-9223372036854775808 ≤ u ∧ u ≤ 9223372036854775807) := ⟨_, rfl, by unfold wrap64; omega⟩
  rw [hu]
  by_cases h0 : 0 ≤ u
  · rw [Int.tdiv_eq_ediv_of_nonneg h0]
    have h1 := Int.ediv_le_self a h0
    have h2 : 0 ≤ u / a := Int.ediv_nonneg h0 (by omega)
    omega
  · obtain ⟨v, rfl⟩ : ∃ v, u = -v := ⟨-u, by omega⟩
    rw [Int.neg_tdiv, Int.tdiv_eq_ediv_of_nonneg (by omega)]
    have h1 := Int.ediv_le_self a (show 0 ≤ v by omega)
    have h2 : 0 ≤ v / a := Int.ediv_nonneg (by omega) (by omega)
    omega

set_option maxRecDepth 100000 in
set_option maxHeartbeats 3200000 in
theorem impl_likelyQuiddity (A : Option Addr) (c B n : Nat) (l : List Int) (w : World) (hn : l.length = n) (h : SlI w B A l) (hB : B ≤ w.heap.size) (h3 : 3 ≤ n) (h11 : n ≤ 11) (hp : posB l = true) :
    Calls Try.prog 65 #[.slice A n c] w (GivI w (pP l n)) := by
  have hSl : SlSS (((w.alloc (.cells #[.int .i64 0] 3)).alloc (.cells #[.int .i64 0] 3)).alloc (.cells #[.slice (some ⟨w.heap.size, 0, none⟩) 1 1, .slice A n c, .slice (some ⟨w.heap.size + 1, 0, none⟩) 1 1] 25)) (w.heap.size + 3) (some ⟨w.heap.size + 2, 0, none⟩) [[0], l, [0]] := by
    intro _
    refine ⟨w.heap.size + 2, 0, rfl, by omega, fun j hj => ?_⟩
    have hb := below_three w (.cells #[.int .i64 0] 3) (.cells #[.int .i64 0] 3) (.cells #[.slice (some ⟨w.heap.size, 0, none⟩) 1 1, .slice A n c, .slice (some ⟨w.heap.size + 1, 0, none⟩) 1 1] 25)
    match j, hj with
    | 0, _ =>
      refine ⟨some ⟨w.heap.size, 0, none⟩, 1, by simp [go_sem, rowOf], fun _ => ⟨w.heap.size, 0, rfl, by omega, fun i hi => ?_⟩⟩
      obtain rfl : i = 0 := by simp [rowOf] at hi; omega
      simp [go_sem, rowOf]
    | 1, _ =>
      refine ⟨A, c, ?_, ?_⟩
      · have e : (rowOf [[0], l, [0]] 1).length = n := by simp [rowOf, hn]
        rw [e]
        simp [go_sem]
      · exact (h.below (hb.mono hB)).mono (by omega)
    | 2, _ =>
      refine ⟨some ⟨w.heap.size + 1, 0, none⟩, 1, by simp [go_sem, rowOf], fun _ => ⟨w.heap.size + 1, 0, rfl, by omega, fun i hi => ?_⟩⟩
      obtain rfl : i = 0 := by simp [rowOf] at hi; omega
      simp [go_sem, rowOf]
  have hrow : ∀ j, j < 3 → 1 ≤ (rowOf [[(0 : Int)], l, [0]] j).length ∧ (rowOf [[(0 : Int)], l, [0]] j).length ≤ 12 := by
    intro j hj
    match j, hj with
    | 0, _ => simp [rowOf]
    | 1, _ => simp [rowOf] <;> omega
    | 2, _ => simp [rowOf]
  have hcat : catL [[(0 : Int)], l, [0]] 3 = arL l := by simp [catL, arL]
  have HS := Lib.hid hSl
  have Hrow := Lib.hid hrow
  have Hcat := Lib.hid hcat
  have Hn := Lib.hid hn
  have Hp := Lib.hid hp
  have Hb2 := Lib.hid (below_three w (.cells #[.int .i64 0] 3) (.cells #[.int .i64 0] 3) (.cells #[.slice (some ⟨w.heap.size, 0, none⟩) 1 1, .slice A n c, .slice (some ⟨w.heap.size + 1, 0, none⟩) 1 1] 25))
  have hal : (arL l).length = n + 2 := by rw [arL_length, hn]
  have Hal := Lib.hid hal
  obtain ⟨i0', hii, hz0, hz1, hz2⟩ := info_parts infoI
  have hbytes : i0'.bytes * (n + 1) ≤ 281474976710656 := by rw [hz2]; omega
  have hmax : n + 1 ≤ maxLen := by unfold maxLen; omega
  have hcast : ((n + 1 : Nat) : Int) = (n : Int) + 1 := by omega
  clear hSl hrow hcat h hp hn hal
  go_enter Try.func65, Try.ntmps65
  go_wp2_with fail
  refine (slices_Concat (some ⟨w.heap.size + 2, 0, none⟩) 3 (w.heap.size + 3) 3 [[0], l, [0]] _ rfl HS.out (by simp) (by omega) (by omega) Hrow.out).mono ?_
  rintro e w2 ⟨A2, c2, rfl, ho, hb⟩
  rw [Hcat.out, Hal.out] at ho ⊢
  have HB2 := Lib.hid (below_kept Hb2.out (Nat.le_refl _) hb)
  obtain ⟨g7, cap7, hv7, hg7b, hg7l⟩ := ho.form (by omega)
  cases hv7
  have Ho := Lib.hid (ho.mono (show w.heap.size ≤ _ by simp; omega))
  have z2 : w.heap.size ≤ w2.heap.size := HB2.out.size
  clear hg7b
  clear ho hb HS Hrow Hcat Hb2
  go_wp2_with (first
        | (at_make; refine wpList_make_full _ rfl _ _ _ rfl w2.heap.size 3 i0' (.int .i64 0) 1 Try.underlying25 hii hz0 hz1 _ _ _ _ (n + 1) rfl rfl ?_ ?_ hbytes hmax (Nat.le_refl _) ?_
           · exact hcast.symm
           · exact hcast.symm
           intro w3 hown3 hgrow3
           have b3 : Below w.heap.size w w3 := HB2.out.grown hgrow3 z2 (by simp)
           have e1 : (madeCells (Value.int .i64 0).cells ((n + 1) * 1)).toList = ics (List.replicate (n + 1) 0) := (by
             rw [Nat.mul_one]
             show (madeCells #[Value.int .i64 0] (n + 1)).toList = _
             rw [toList_madeCells_one]
             simp [ics])
           rw [e1] at hown3
           have q7 := own_far Ho.out hgrow3 (fun k hk e => by simp at e)
           have hz3 : w2.heap.size < w3.heap.size := (hown3.lt _ rfl).2
           have hcell := hown3.cellAt 0 (by omega)
           rw [ics_get _ _ (by simp)] at hcell
           have hfro := hown3.frozenAt 0
           have st0 := hown3.stored 0 (.int .i64 (3 * ((n : Int) + 1) - 6))
           have e0 : (List.replicate (n + 1) (0 : Int)).set 0 (3 * ((n : Int) + 1) - 6) = pP l 0 := by unfold pP; rw [Hn.out]
           rw [ics_set, e0] at st0
           have Q0 := Lib.hid (own_far q7 st0.2 (fun k hk e => by have h1 : g7 = k := Option.some.inj hk; have h2 : k = w2.heap.size := Option.some.inj e; omega))
           have B0 := Lib.hid (below_grown b3 st0.2 (Nat.le_refl _) (fun k hk => by have h1 : w2.heap.size = k := Option.some.inj hk; omega))
           have O0 := Lib.hid st0.1
           clear e1 hgrow3 st0 e0 q7 b3 hown3))
  clear hcell hfro hz3 hcast hmax hbytes hz2 hz1 hz0 hii Ho HB2
  go_loopw [6] (fun i wr => ∃ k : Nat, k ≤ n ∧ i = .int .i64 ((k : Int) + 1) ∧ wr.ownsRow w2.heap.size 3 1 (.slice (some ⟨w2.heap.size, 0, none⟩) (n + 1) (n + 1)) (n + 1) (ics (pP l k)) ∧ wr.ownsRow w.heap.size 3 1 (.slice (some ⟨g7, 0, none⟩) (n + 2) c2) (n + 2) (ics (arL l)) ∧ Below w.heap.size w wr) (fun i _ => n + 2 - (intOf i).toNat)
  case atStart => exact ⟨0, Nat.zero_le _, rfl, O0.out, Q0.out, B0.out⟩
  case round =>
    clear O0 Q0 B0
    obtain ⟨k, hk, rfl, hq, ho, hb⟩ := hrel
    have hpl := pP_length l k
    rw [Hn.out] at hpl
    by_cases hlt : k < n
    · have hx1 : 1 ≤ (arL l).getD (k + 1) 0 := by
        rw [arL_at (by rw [Hn.out]; exact hlt)]
        exact posB_iff.1 Hp.out k (by rw [Hn.out]; exact hlt)
      have x0 := ho.cellAt k (by omega)
      have x1 := ho.cellAt (k + 1) (by omega)
      have x2 := ho.cellAt (k + 1 + 1) (by omega)
      rw [ics_get _ _ (by rw [Hal.out]; omega)] at x0 x1 x2
      have hcell := hq.cellAt (k + 1) (by omega)
      rw [ics_get _ _ (by rw [hpl]; omega)] at hcell
      have hfro := hq.frozenAt (k + 1)
      have hy : pqL l (k + 1) = (wrap64 ((arL l).getD k 0 + (arL l).getD (k + 1 + 1) 0)).tdiv ((arL l).getD (k + 1) 0) := rfl
      have hyb := quo_in ((arL l).getD k 0 + (arL l).getD (k + 1 + 1) 0) ((arL l).getD (k + 1) 0) hx1
      rw [← hy] at hyb
      have s1 := hq.stored (k + 1) (.int .i64 (pqL l (k + 1)))
      rw [ics_set] at s1
      have t1 := own_far ho s1.2 (fun j hj e => by have h1 : g7 = j := Option.some.inj hj; have h2 : j = w2.heap.size := Option.some.inj e; omega)
      have u1 := below_grown hb s1.2 (Nat.le_refl _) (fun j hj => by have h1 : w2.heap.size = j := Option.some.inj hj; omega)
      have hnx : ((pP l k).set (k + 1) (pqL l (k + 1))).set 0 (wrap64 ((pP l k).getD 0 0 - pqL l (k + 1))) = pP l (k + 1) := rfl
      have y0 : ((pP l k).set (k + 1) (pqL l (k + 1))).getD 0 0 = (pP l k).getD 0 0 := by simp
      have y1 : ((pP l k).set (k + 1) (pqL l (k + 1))).getD (k + 1) 0 = pqL l (k + 1) := by simp [hpl, hlt]
      have yl : ((pP l k).set (k + 1) (pqL l (k + 1))).length = n + 1 := by simp [hpl]
      have S1 := Lib.hid s1.1
      have T1 := Lib.hid t1
      have U1 := Lib.hid u1
      have Hnx := Lib.hid hnx
      have Y0 := Lib.hid y0
      have Y1 := Lib.hid y1
      have Yl := Lib.hid yl
      clear s1 t1 u1 hnx y0 y1 yl hq ho hb
      generalize (pP l k).set (k + 1) (pqL l (k + 1)) = M at *
      generalize (pP l k).getD (k + 1) 0 = z at *
      generalize (pP l k).getD 0 0 = z0 at *
      generalize (arL l).getD k 0 = a0 at *
      generalize (arL l).getD (k + 1) 0 = a1 at *
      generalize (arL l).getD (k + 1 + 1) 0 = a2 at *
      generalize pqL l (k + 1) = y at *
      generalize hu : wrap64 (a0 + a2) = u at *
      have hu' : IntKind.i64.wrap (a0 + a2) = u := (IntWalk.i64_left _).trans hu
      have hy' : u.tdiv a1 = y := hy.symm
      have hy2 : IntKind.i64.wrap y = y := IntWalk.i64_in _ hyb
      have n1 : ¬a1 = 0 := by omega
      have n2 : (a1 == 0) = false := by simpa using n1
      have j0 : (0 : Int) ≤ (k : Int) := by omega
      have j1 : (k : Int) < (n : Int) + 2 := by omega
      have j2 : (k : Int) + 1 < (n : Int) + 2 := by omega
      have j3 : (k : Int) + 1 + 1 < (n : Int) + 2 := by omega
      have j4 : (k : Int) + 1 < (n : Int) + 1 := by omega
      have j5 : (0 : Int) ≤ (k : Int) + 1 := by omega
      have j6 : (0 : Int) ≤ (k : Int) + 1 + 1 := by omega
      have t1 : ((k : Int) + 1).toNat = k + 1 := by omega
      have t2 : ((k : Int) + 1 + 1).toNat = k + 1 + 1 := by omega
      have t3 : (k : Int) + 1 - 1 = (k : Int) := by omega
      have w1' : IntKind.i64.wrap (k : Int) = (k : Int) := IntWalk.i64_in _ (by omega)
      have w2' : IntKind.i64.wrap ((k : Int) + 1 + 1) = (k : Int) + 1 + 1 := IntWalk.i64_in _ (by omega)
      clear hy
      go_wp2_with fail
      go_big_region
      have o8 := S1.out.drew
      have o9 := T1.out.drew
      have b8 := U1.out.drew
      clear S1 T1 U1 x0 x1 x2 hcell hfro
      obtain ⟨W1, hW1⟩ : ∃ W1, W1 = (wr.setCell ⟨w2.heap.size, k + 1, none⟩ (.int .i64 y)).drew := ⟨_, rfl⟩
      rw [← hW1] at o8 o9 b8 ⊢
      clear hW1
      have hc0 := o8.cellAt 0 (by omega)
      have hc1 := o8.cellAt (k + 1) (by omega)
      rw [ics_get _ _ (by rw [Yl.out]; omega)] at hc0 hc1
      rw [Y0.out] at hc0
      rw [Y1.out] at hc1
      have hf0 := o8.frozenAt 0
      have s2 := o8.stored 0 (.int .i64 (wrap64 (z0 - y)))
      rw [ics_set, Hnx.out] at s2
      have S2 := Lib.hid s2.1
      have T2 := Lib.hid (own_far o9 s2.2 (fun j hj e => by have h1 : g7 = j := Option.some.inj hj; have h2 : j = w2.heap.size := Option.some.inj e; omega))
      have U2 := Lib.hid (below_grown b8 s2.2 (Nat.le_refl _) (fun j hj => by have h1 : w2.heap.size = j := Option.some.inj hj; omega))
      clear s2 o8 o9 b8 Y0 Y1 hu hu' hy' hy2
      generalize hv : wrap64 (z0 - y) = v at *
      have hv' : IntKind.i64.wrap (z0 - y) = v := (IntWalk.i64_left _).trans hv
      have n3 : (0 : Int) < (n : Int) + 1 := by omega
      go_wp2_with fail
      go_big_region
      clear hc0 hc1 hf0 hv hv'
      go_wp2
      go_roundw
      case rel => exact ⟨k + 1, by omega, by go_num, S2.out.drew, T2.out.drew, U2.out.drew⟩
      case measure => simp [intOf]; omega
    · obtain rfl : k = n := by omega
      have HE := Lib.hid (show GivI w (pP l k) (.returned (.slice (some ⟨w2.heap.size, 0, none⟩) (k + 1) (k + 1))) wr from ⟨_, k + 1, by rw [hpl], by rw [hpl]; exact hq.mono z2, hb⟩)
      clear hq ho hb
      go_wp2
      go_ret
      exact HE.out
end Go.Proofs.Ytbebalgleiafdab
