/- OrderOf: the model's and the program's contracts, and the law's walk. -/
import Derived.Test.YtfffnkbjhbaceaaMatE
import Derived.Test.YtfffnkbjhbaceaaKept
import Derived.Test.YtfffnkbjhbaceaaOrderOfC
import Derived.Deep.DeepCutAuto
namespace Go.Proofs.Ytfffnkbjhbaceaa
set_option linter.unusedVariables false
open Go.RowKit

/-- the first power from the k-th on, of so many, that changes nothing; 0 if there is none -/
def ordG (m : M4) : Nat → Nat → Nat
  | _, 0 => 0
  | k, f + 1 => if (m.pw k).eqB M4.one = true then k else ordG m (k + 1) f
theorem ordG_hit {m : M4} {k f : Nat} (h : (m.pw k).eqB M4.one = true) : ordG m k (f + 1) = k := by
  unfold ordG
  rw [if_pos h]
theorem ordG_miss {m : M4} {k f : Nat} (h : (m.pw k).eqB M4.one = false) : ordG m k (f + 1) = ordG m (k + 1) f := by
  conv => lhs; unfold ordG
  rw [if_neg (by rw [h]; simp)]
theorem ordG_zero {m : M4} : ∀ (f k : Nat), (∀ j, k ≤ j → m.pw j = M4.zero) → ordG m k f = 0 := by
  intro f
  induction f with
  | zero => intro k _; rfl
  | succ f ih =>
    intro k h
    rw [ordG_miss (by rw [h k (Nat.le_refl _)]; rfl)]
    exact ih (k + 1) (fun j hj => h j (by omega))
/-- a number comes back, and whether it is one at all -/
def OrdE (R : Nat) (w : World) (e : Ending) (w' : World) : Prop := e = .returned (.tuple #[.int .i64 R, .bool (decide (1 ≤ R))]) ∧ Below w.heap.size w w'
theorem ordE_no {R : Nat} {w w' : World} (h : R = 0) (hb : Below w.heap.size w w') : OrdE R w (.returned (.tuple #[.int .i64 0, .bool false])) w' := by
  subst h
  exact ⟨rfl, hb⟩
theorem ordE_yes {R k : Nat} {w w' : World} (h : R = k) (hk : 1 ≤ k) (hb : Below w.heap.size w w') : OrdE R w (.returned (.tuple #[.int .i64 k, .bool true])) w' := by
  subst h
  refine ⟨?_, hb⟩
  rw [decide_eq_true hk]

theorem impl_OrderOf_no (a b c d : Int) (w : World) (h : mxB a b c d = false) : Calls Try.prog 35 #[.agg #[.int .i64 a, .int .i64 b, .int .i64 c, .int .i64 d]] w (OrdE 0 w) := by
  have hc := impl_IsMatrix a b c d
  rw [h] at hc
  have Hc := Lib.hid hc
  clear hc h
  go_enter Try.func35, Try.ntmps35
  go_wp2_with fail
  refine (Hc.out _).mono ?_
  rintro e w1 ⟨rfl, hb1⟩
  have hd := ordE_no (R := 0) rfl (((Below.refl w.heap.size w).alloc (Nat.le_refl _) _).trans (hb1.mono (by simp)))
  clear hb1 Hc
  go_wp2
  go_ret2
  exact hd
theorem spec_OrderOf_no (a b c d : Int) (w : World) (h : mxB a b c d = false) : Calls Try.prog 34 #[.agg #[.int .i64 a, .int .i64 b, .int .i64 c, .int .i64 d]] w (OrdE 0 w) := by
  have hc := spec_mxGood a b c d
  rw [h] at hc
  have Hc := Lib.hid hc
  clear hc h
  go_enter Try.func34, Try.ntmps34
  go_wp2_with fail
  refine (Hc.out _).mono ?_
  rintro e w1 ⟨rfl, hb1⟩
  have hd := ordE_no (R := 0) rfl (((Below.refl w.heap.size w).alloc (Nat.le_refl _) _).trans (hb1.mono (by simp)))
  clear hb1 Hc
  go_wp2
  go_ret2
  exact hd

set_option maxHeartbeats 3200000 in
theorem spec_OrderOf_yes (a b c d : Int) (w : World) (h : mxB a b c d = true) : Calls Try.prog 34 #[.agg #[.int .i64 a, .int .i64 b, .int .i64 c, .int .i64 d]] w (OrdE (ordG ⟨a, b, c, d⟩ 1 6) w) := by
  have hc := spec_mxGood a b c d
  rw [h] at hc
  have Hc := Lib.hid hc
  have Hin := Lib.hid (M4.ok_in (m := ⟨a, b, c, d⟩) h)
  obtain ⟨R, hR⟩ : ∃ R, R = ordG ⟨a, b, c, d⟩ 1 6 := ⟨_, rfl⟩
  rw [← hR]
  have HR := Lib.hid hR
  clear hc h hR
  go_enter Try.func34, Try.ntmps34
  go_wp2_with fail
  refine (Hc.out _).mono ?_
  rintro e w1 ⟨rfl, hb1⟩
  have A := (Bx.new w 25 a b c d).kept hb1
  have hd := ((Below.refl w.heap.size w).alloc (Nat.le_refl _) _).trans (hb1.mono (by simp))
  have hA := Lib.hid A
  have hy := A.lt
  obtain ⟨ga, hga⟩ : ∃ ga, ga = w.heap.size := ⟨_, rfl⟩
  clear hb1 Hc A
  go_wp2_with fail
  refine (spec_mxOne _).mono ?_
  rintro e w2 ⟨rfl, hb2⟩
  have A2 := Lib.hid (hA.out.kept hb2)
  have hd2 := Lib.hid (below_kept hd (Nat.le_refl _) hb2)
  have hy2 := A2.out.lt
  clear hb2 hd hA
  obtain ⟨g, hg⟩ : ∃ g, g = w2.heap.size := ⟨_, rfl⟩
  obtain ⟨wz, hwz⟩ : ∃ wz, wz = w2.alloc (.cells #[.int .i64 1, .int .i64 0, .int .i64 0, .int .i64 1] 25) := ⟨_, rfl⟩
  have Q1 := Lib.hid (show Bx wz g 1 0 0 1 by rw [hwz, hg]; exact Bx.new w2 _ 1 0 0 1)
  have Q2 := Lib.hid (show Fz wz g by rw [hwz, hg]; exact Fz.new w2 _ 1 0 0 1)
  have A3 := Lib.hid (show Bx wz w.heap.size a b c d by rw [hwz]; exact A2.out.alloc _)
  have hdz := Lib.hid (show Below w.heap.size w wz by rw [hwz]; exact below_alloc1 hd2.out (Nat.le_refl _) _)
  have hgz : w.heap.size < g := by omega
  clear A2 hd2
  go_wp2
  rw [← hwz, ← hg]
  clear hwz hg hy hy2
  go_loopw [5] (fun i wr => ∃ k : Nat, 1 ≤ k ∧ k ≤ 7 ∧ i = .int .i64 k ∧ Bx wr g (M4.pw ⟨a, b, c, d⟩ (k - 1)).a (M4.pw ⟨a, b, c, d⟩ (k - 1)).b (M4.pw ⟨a, b, c, d⟩ (k - 1)).c (M4.pw ⟨a, b, c, d⟩ (k - 1)).d ∧ Fz wr g ∧ Bx wr w.heap.size a b c d ∧ Below w.heap.size w wr ∧ ordG ⟨a, b, c, d⟩ k (7 - k) = R) (fun i _ => 7 - (intOf i).toNat)
  case atStart => exact ⟨1, Nat.le_refl _, by omega, rfl, Q1.out, Q2.out, A3.out, hdz.out, HR.out.symm⟩
  case round =>
    clear Q1 Q2 A3 hdz HR
    obtain ⟨k, hk1, hk7, rfl, hq, hfq, ha, hb, hR⟩ := hrel
    by_cases hlt : k ≤ 6
    · have HR := Lib.hid hR
      have hst : M4.pw ⟨a, b, c, d⟩ k = (M4.pw ⟨a, b, c, d⟩ (k - 1)).within ⟨a, b, c, d⟩ := by
        obtain ⟨i, rfl⟩ : ∃ i, k = i + 1 := ⟨k - 1, by omega⟩
        rfl
      have hno := M4.pw_no ⟨a, b, c, d⟩ (k - 1)
      have hin := M4.pw_in ⟨a, b, c, d⟩ (k - 1)
      have k6 : (k : Int) ≤ 6 := by omega
      have k0 : (1 : Int) ≤ (k : Int) := by omega
      have Hst := Lib.hid hst
      have Hno := Lib.hid hno
      clear hst hno hR
      generalize M4.pw ⟨a, b, c, d⟩ (k - 1) = m at *
      obtain ⟨p, q, r, s⟩ := m
      dsimp only at *
      have Ht := Lib.hid (fun w => spec_mxTimes p q r s a b c d 1000000000 1000000000 w hin Hin.out (by omega))
      have hE2 := Lib.hid (show M4.mul ⟨p, q, r, s⟩ ⟨a, b, c, d⟩ = ⟨p * a + q * c, p * b + q * d, r * a + s * c, r * b + s * d⟩ from rfl)
      clear hin
      generalize p * a + q * c = t0 at *
      generalize p * b + q * d = t1 at *
      generalize r * a + s * c = t2 at *
      generalize r * b + s * d = t3 at *
      have y0 := ha.lt
      have y1 := hq.lt
      have Ha := Lib.hid ha
      have Hq := Lib.hid hq
      have Hfq := Lib.hid hfq
      have Hb := Lib.hid hb
      obtain ⟨q0, q1, q2, q3⟩ := hq
      obtain ⟨a0, a1, a2, a3⟩ := ha
      clear hfq hb
      go_wp2_with fail
      refine (Ht.out _).mono ?_
      rintro e1 w2 ⟨rfl, hb2⟩
      have G1 := Hq.out.kept hb2
      have G2 := Hfq.out.kept y1 hb2
      have G3 := Ha.out.kept hb2
      have G5 := below_kept Hb.out (Nat.le_refl _) hb2
      clear hb2 Ht q0 q1 q2 q3 a0 a1 a2 a3 Hq Hfq Ha Hb y0 y1
      cases hok : mxB t0 t1 t2 t3
      · have hz : ordG ⟨a, b, c, d⟩ k (7 - k) = 0 := ordG_zero _ _ (fun j hj => Hno.out (by rw [hE2.out]; exact hok) j (by omega))
        have hR0 : R = 0 := HR.out.symm.trans hz
        go_wp2_with fail
        refine (spec_mxIf_no _ _ _ _ _ hok).mono ?_
        rintro e1 w3 ⟨rfl, hb3⟩
        have hE := Lib.hid (ordE_no hR0 (below_alloc1 (below_kept G5 (Nat.le_refl _) hb3) (Nat.le_refl _) (.cells #[.int .i64 0, .int .i64 0, .int .i64 0, .int .i64 0] 25)))
        clear G1 G2 G3 G5 hb3 hz hR0 hok
        go_wp2
        go_ret2
        exact hE.out
      · go_wp2_with fail
        refine (spec_mxIf_yes _ _ _ _ _ hok).mono ?_
        rintro e1 w3 ⟨rfl, hb3⟩
        have hpw : M4.pw ⟨a, b, c, d⟩ k = ⟨t0, t1, t2, t3⟩ := by
          rw [Hst.out, M4.within_yes (by rw [hE2.out]; exact hok), hE2.out]
        have y3 := G1.lt
        replace G1 := (G1.kept hb3)
        replace G2 := (G2.kept y3 hb3)
        replace G3 := (G3.kept hb3)
        replace G5 := (below_kept G5 (Nat.le_refl _) hb3)
        have y4 := G1.lt
        have y5 := G3.lt
        obtain ⟨wq, hwq⟩ : ∃ wq, wq = (sto4 w3 g t0 t1 t2 t3).alloc (.cells #[.int .i64 t0, .int .i64 t1, .int .i64 t2, .int .i64 t3] 25) := ⟨_, rfl⟩
        have G6 : Bx wq g t0 t1 t2 t3 := by rw [hwq]; exact (bx_sto4 G1 t0 t1 t2 t3).alloc _
        have G7 : Fz wq g := by rw [hwq]; exact (fz_sto4 (g := g) G2 t0 t1 t2 t3).kept (bx_sto4 G1 t0 t1 t2 t3).lt ((Below.refl _ _).alloc (Nat.le_refl _) _)
        have G8 : Bx wq w.heap.size a b c d := by rw [hwq]; exact (bx_sto4_far G3 (show w.heap.size ≠ g by omega) t0 t1 t2 t3).alloc _
        have G9 : Below w.heap.size w wq := by rw [hwq]; exact below_alloc1 (below_put4 (g := g) G5 (by omega) t0 t1 t2 t3) (Nat.le_refl _) _
        have Hpw := Lib.hid hpw
        have H6 := Lib.hid G6
        have H7 := Lib.hid G7
        have H8 := Lib.hid G8
        have H9 := Lib.hid G9
        obtain ⟨q0, q1, q2, q3⟩ := G1
        obtain ⟨f0, f1, f2, f3⟩ := G2
        unfold sto4 at hwq
        clear hb3 hok hpw G3 G5 G6 G7 G8 G9
        have hrun := run_mx_eq t0 t1 t2 t3 1 0 0 1
        obtain ⟨bq, hbq⟩ : ∃ bq, bq = M4.eqB ⟨t0, t1, t2, t3⟩ ⟨1, 0, 0, 1⟩ := ⟨_, rfl⟩
        rw [← hbq] at hrun
        have Hbq := Lib.hid hbq
        clear hbq
        go_upto_region 11 with fail
        rw [← hwq]
        clear hwq q0 q1 q2 q3 f0 f1 f2 f3 y3 y4 y5
        go_region_held3 (fun w' => w'.cell? ⟨g, 0, none⟩ = some (.int .i64 t0) ∧ w'.cell? ⟨g, 1, none⟩ = some (.int .i64 t1) ∧ w'.cell? ⟨g, 2, none⟩ = some (.int .i64 t2) ∧ w'.cell? ⟨g, 3, none⟩ = some (.int .i64 t3) ∧ Below w.heap.size w w')
          (first
            | with_reducible exact keptB4 (by assumption) hb1 (Nat.le_refl _)
            | exact ⟨H6.out.1, H6.out.2.1, H6.out.2.2.1, H6.out.2.2.2, H9.out.drew⟩)
          (first | (go_at_call 59; refine (spec_mxOne _).mono ?_; rintro e w1 ⟨rfl, hb1⟩))
        rename_i hS
        clear hS
        have J1 := Bx.kept (w := wq.drew) H6.out hb1
        have J2 := Fz.kept (w := wq.drew) H7.out H6.out.lt hb1
        have J3 := Bx.kept (w := wq.drew) H8.out hb1
        have J4 := below_kept (w := wq.drew) H9.out.drew (Nat.le_refl _) hb1
        clear hb1 H6 H7 H8 H9 hrun
        cases bq
        · have hm : ordG ⟨a, b, c, d⟩ k (7 - k) = ordG ⟨a, b, c, d⟩ (k + 1) (6 - k) := by
            have e : 7 - k = (6 - k) + 1 := by omega
            rw [e]
            exact ordG_miss (by rw [Hpw.out]; exact Hbq.out.symm)
          have hR2 := Lib.hid (hm.symm.trans HR.out)
          have HJ1 := Lib.hid J1
          have HJ2 := Lib.hid J2
          have HJ3 := Lib.hid J3
          have HJ4 := Lib.hid J4
          clear hm J1 J2 J3 J4 HR Hbq
          go_wp2
          go_roundw
          case rel => exact ⟨k + 1, by omega, by omega, by go_num, by rw [Nat.add_sub_cancel, Hpw.out]; exact HJ1.out, HJ2.out, HJ3.out, HJ4.out, by rw [show 7 - (k + 1) = 6 - k by omega]; exact hR2.out⟩
          case measure => simp [intOf]; omega
        · have hm : ordG ⟨a, b, c, d⟩ k (7 - k) = k := by
            have e : 7 - k = (6 - k) + 1 := by omega
            rw [e]
            exact ordG_hit (by rw [Hpw.out]; exact Hbq.out.symm)
          have hE := Lib.hid (ordE_yes (HR.out.symm.trans hm) hk1 J4)
          clear hm J1 J2 J3 J4 HR Hbq
          go_wp2
          go_ret2
          exact hE.out
    · obtain rfl : k = 7 := by omega
      have hR0 : R = 0 := hR.symm
      have hE := Lib.hid (ordE_no hR0 hb)
      clear hq hfq ha hb hR hR0
      go_wp2
      go_ret2
      exact hE.out
set_option maxHeartbeats 3200000 in
theorem impl_OrderOf_yes (a b c d : Int) (w : World) (h : mxB a b c d = true) : Calls Try.prog 35 #[.agg #[.int .i64 a, .int .i64 b, .int .i64 c, .int .i64 d]] w (OrdE (ordG ⟨a, b, c, d⟩ 1 6) w) := by
  have hc := impl_IsMatrix a b c d
  rw [h] at hc
  have Hc := Lib.hid hc
  have Hin := Lib.hid (M4.ok_in (m := ⟨a, b, c, d⟩) h)
  obtain ⟨R, hR⟩ : ∃ R, R = ordG ⟨a, b, c, d⟩ 1 6 := ⟨_, rfl⟩
  rw [← hR]
  have HR := Lib.hid hR
  clear hc h hR
  go_enter Try.func35, Try.ntmps35
  go_wp2_with fail
  refine (Hc.out _).mono ?_
  rintro e w1 ⟨rfl, hb1⟩
  have A := (Bx.new w 25 a b c d).kept hb1
  have hd := ((Below.refl w.heap.size w).alloc (Nat.le_refl _) _).trans (hb1.mono (by simp))
  have hA := Lib.hid A
  have hy := A.lt
  obtain ⟨ga, hga⟩ : ∃ ga, ga = w.heap.size := ⟨_, rfl⟩
  clear hb1 Hc A
  go_wp2_with fail
  refine (impl_unitSquare _).mono ?_
  rintro e w2 ⟨rfl, hb2⟩
  have A2 := Lib.hid (hA.out.kept hb2)
  have hd2 := Lib.hid (below_kept hd (Nat.le_refl _) hb2)
  have hy2 := A2.out.lt
  clear hb2 hd hA
  obtain ⟨g, hg⟩ : ∃ g, g = w2.heap.size := ⟨_, rfl⟩
  obtain ⟨wz, hwz⟩ : ∃ wz, wz = w2.alloc (.cells #[.int .i64 1, .int .i64 0, .int .i64 0, .int .i64 1] 54) := ⟨_, rfl⟩
  have Q1 := Lib.hid (show Bx wz g 1 0 0 1 by rw [hwz, hg]; exact Bx.new w2 _ 1 0 0 1)
  have Q2 := Lib.hid (show Fz wz g by rw [hwz, hg]; exact Fz.new w2 _ 1 0 0 1)
  have A3 := Lib.hid (show Bx wz w.heap.size a b c d by rw [hwz]; exact A2.out.alloc _)
  have hdz := Lib.hid (show Below w.heap.size w wz by rw [hwz]; exact below_alloc1 hd2.out (Nat.le_refl _) _)
  have hgz : w.heap.size < g := by omega
  clear A2 hd2
  go_wp2
  rw [← hwz, ← hg]
  clear hwz hg hy hy2
  go_loopw [5] (fun i wr => ∃ k : Nat, 1 ≤ k ∧ k ≤ 7 ∧ i = .int .i64 k ∧ Bx wr g (M4.pw ⟨a, b, c, d⟩ (k - 1)).a (M4.pw ⟨a, b, c, d⟩ (k - 1)).b (M4.pw ⟨a, b, c, d⟩ (k - 1)).c (M4.pw ⟨a, b, c, d⟩ (k - 1)).d ∧ Fz wr g ∧ Bx wr w.heap.size a b c d ∧ Below w.heap.size w wr ∧ ordG ⟨a, b, c, d⟩ k (7 - k) = R) (fun i _ => 7 - (intOf i).toNat)
  case atStart => exact ⟨1, Nat.le_refl _, by omega, rfl, Q1.out, Q2.out, A3.out, hdz.out, HR.out.symm⟩
  case round =>
    clear Q1 Q2 A3 hdz HR
    obtain ⟨k, hk1, hk7, rfl, hq, hfq, ha, hb, hR⟩ := hrel
    by_cases hlt : k ≤ 6
    · have HR := Lib.hid hR
      have hst : M4.pw ⟨a, b, c, d⟩ k = (M4.pw ⟨a, b, c, d⟩ (k - 1)).within ⟨a, b, c, d⟩ := by
        obtain ⟨i, rfl⟩ : ∃ i, k = i + 1 := ⟨k - 1, by omega⟩
        rfl
      have hno := M4.pw_no ⟨a, b, c, d⟩ (k - 1)
      have hin := M4.pw_in ⟨a, b, c, d⟩ (k - 1)
      have k6 : (k : Int) ≤ 6 := by omega
      have k0 : (1 : Int) ≤ (k : Int) := by omega
      have Hst := Lib.hid hst
      have Hno := Lib.hid hno
      clear hst hno hR
      generalize M4.pw ⟨a, b, c, d⟩ (k - 1) = m at *
      obtain ⟨p, q, r, s⟩ := m
      dsimp only at *
      have Ht := Lib.hid (fun w => impl_within p q r s a b c d w hin Hin.out)
      clear hin
      generalize M4.within ⟨p, q, r, s⟩ ⟨a, b, c, d⟩ = M at *
      obtain ⟨t0, t1, t2, t3⟩ := M
      have y0 := ha.lt
      have y1 := hq.lt
      have Ha := Lib.hid ha
      have Hq := Lib.hid hq
      have Hfq := Lib.hid hfq
      have Hb := Lib.hid hb
      obtain ⟨q0, q1, q2, q3⟩ := hq
      obtain ⟨a0, a1, a2, a3⟩ := ha
      obtain ⟨f0, f1, f2, f3⟩ := hfq
      clear hb
      go_upto_region 7 with fail
      go_cut [] (fun wx => Bx wx g t0 t1 t2 t3 ∧ Fz wx g ∧ Bx wx w.heap.size a b c d ∧ Below w.heap.size w wx)
      case first =>
        go_region_with (first
          | (go_at_call 45; refine (impl_squareOf _ _ _ _ _).mono ?_; rintro e5 w5 ⟨rfl, hb5⟩; (have Q5 := Lib.hid (Bx.kept (w := wr.drew) Hq.out hb5)); (have F5 := Lib.hid (Fz.kept (w := wr.drew) Hfq.out Hq.out.lt hb5)); obtain ⟨q50, q51, q52, q53⟩ := Q5.out)
          | (go_at_call 60; refine (Ht.out _).mono ?_; rintro e6 w6 ⟨rfl, hb6⟩; (have Q6 := Lib.hid (Q5.out.kept hb6)); (have F6 := Lib.hid (F5.out.kept Q5.out.lt hb6)); obtain ⟨q60, q61, q62, q63⟩ := Q6.out; obtain ⟨f60, f61, f62, f63⟩ := F6.out))
        all_goals (
          have K3 := bx_sto4_far ((Bx.kept (w := wr.drew) Ha.out hb5).kept hb6) (show w.heap.size ≠ g by omega) t0 t1 t2 t3
          have K1 := bx_sto4 Q6.out t0 t1 t2 t3
          have K2 := fz_sto4 (g := g) F6.out t0 t1 t2 t3
          have K4 := below_put4 (g := g) (below_kept (below_kept (w := wr.drew) Hb.out.drew (Nat.le_refl _) hb5) (Nat.le_refl _) hb6) (by omega) t0 t1 t2 t3
          have K := Lib.hid (And.intro K1 (And.intro K2 (And.intro K3 K4)))
          clear K1 K2 K3 K4 hb5 hb6
          go_wp2_with fail
          go_meet
          exact K.out)
      case rest =>
        obtain ⟨H6, H7, H8, H9⟩ := hcut
        have hrun := run_sq_eq t0 t1 t2 t3 1 0 0 1
        obtain ⟨bq, hbq⟩ : ∃ bq, bq = M4.eqB ⟨t0, t1, t2, t3⟩ ⟨1, 0, 0, 1⟩ := ⟨_, rfl⟩
        rw [← hbq] at hrun
        have Hbq := Lib.hid hbq
        have G6 := Lib.hid H6
        have G7 := Lib.hid H7
        have G8 := Lib.hid H8
        have G9 := Lib.hid H9
        clear hbq H6 H7 H8 H9 q0 q1 q2 q3 a0 a1 a2 a3 f0 f1 f2 f3 y0 y1 Ht
        go_upto_region 8 with fail
        go_region_held3 (fun w' => w'.cell? ⟨g, 0, none⟩ = some (.int .i64 t0) ∧ w'.cell? ⟨g, 1, none⟩ = some (.int .i64 t1) ∧ w'.cell? ⟨g, 2, none⟩ = some (.int .i64 t2) ∧ w'.cell? ⟨g, 3, none⟩ = some (.int .i64 t3) ∧ Below w.heap.size w w')
          (first
            | with_reducible exact keptB4 (by assumption) hb1 (Nat.le_refl _)
            | exact ⟨G6.out.1, G6.out.2.1, G6.out.2.2.1, G6.out.2.2.2, G9.out.drew⟩)
          (first | (go_at_call 62; refine (impl_unitSquare _).mono ?_; rintro e w1 ⟨rfl, hb1⟩))
        rename_i hS
        clear hS
        have J1 := Bx.kept (w := wc.drew) G6.out hb1
        have J2 := Fz.kept (w := wc.drew) G7.out G6.out.lt hb1
        have J3 := Bx.kept (w := wc.drew) G8.out hb1
        have J4 := below_kept (w := wc.drew) G9.out.drew (Nat.le_refl _) hb1
        clear hb1 G6 G7 G8 G9 hrun
        cases bq
        · have hm : ordG ⟨a, b, c, d⟩ k (7 - k) = ordG ⟨a, b, c, d⟩ (k + 1) (6 - k) := by
            have e : 7 - k = (6 - k) + 1 := by omega
            rw [e]
            exact ordG_miss (by rw [Hst.out]; exact Hbq.out.symm)
          have hR2 := Lib.hid (hm.symm.trans HR.out)
          have HJ1 := Lib.hid J1
          have HJ2 := Lib.hid J2
          have HJ3 := Lib.hid J3
          have HJ4 := Lib.hid J4
          clear hm J1 J2 J3 J4 HR Hbq
          go_wp2
          go_roundw
          case rel => exact ⟨k + 1, by omega, by omega, by go_num, by rw [Nat.add_sub_cancel, Hst.out]; exact HJ1.out, HJ2.out, HJ3.out, HJ4.out, by rw [show 7 - (k + 1) = 6 - k by omega]; exact hR2.out⟩
          case measure => simp [intOf]; omega
        · have hm : ordG ⟨a, b, c, d⟩ k (7 - k) = k := by
            have e : 7 - k = (6 - k) + 1 := by omega
            rw [e]
            exact ordG_hit (by rw [Hst.out]; exact Hbq.out.symm)
          have hE := Lib.hid (ordE_yes (HR.out.symm.trans hm) hk1 J4)
          clear hm J1 J2 J3 J4 HR Hbq
          go_wp2
          go_ret2
          exact hE.out
    · obtain rfl : k = 7 := by omega
      have hR0 : R = 0 := hR.symm
      have hE := Lib.hid (ordE_no hR0 hb)
      clear hq hfq ha hb hR hR0
      go_wp2
      go_ret2
      exact hE.out
theorem WOrderOf.walk (w : World) (a b c d : Int) : Calls Try.prog 11 #[.agg #[.int .i64 a, .int .i64 b, .int .i64 c, .int .i64 d]] w fun e w' => e = .returned (.bool true) ∧ Below w.heap.size w w' := by
  cases h : mxB a b c d
  · exact WOrderOf.core w a b c d _ _ (Lib.hid fun w => spec_OrderOf_no a b c d w h) (Lib.hid fun w => impl_OrderOf_no a b c d w h)
  · exact WOrderOf.core w a b c d _ _ (Lib.hid fun w => spec_OrderOf_yes a b c d w h) (Lib.hid fun w => impl_OrderOf_yes a b c d w h)
end Go.Proofs.Ytfffnkbjhbaceaa
