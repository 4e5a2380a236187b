/- PowerMatrix: the model's and the program's contracts, and the law's walk. -/
import Derived.Test.YtfffnkbjhbaceaaTimW
import Derived.Test.YtfffnkbjhbaceaaRepQ
import Derived.Test.YtfffnkbjhbaceaaMatE
import Derived.Test.YtfffnkbjhbaceaaPowerMatrixC
namespace Go.Proofs.Ytfffnkbjhbaceaa
set_option linter.unusedVariables false
open Go.RowKit

/-- powers, those of the inverse for numbers below 0 -/
def powF (m : M4) (k : Int) : M4 := if k < 0 then m.inv.pw (-k).toNat else m.pw k.toNat
theorem bx_put {w : World} {g : Nat} {a b c d : Int} (h : Bx w g a b c d) (e f i j : Int) : Bx ((((w.setCell ⟨g, 0, none⟩ (.int .i64 e)).setCell ⟨g, 1, none⟩ (.int .i64 f)).setCell ⟨g, 2, none⟩ (.int .i64 i)).setCell ⟨g, 3, none⟩ (.int .i64 j)) g e f i j := bx_sto4 h e f i j
theorem prodRep (m : M4) (n : Nat) : ∀ k, k ≤ n → prodF M4.within ((List.replicate n m).take k) = m.pw k := by
  intro k; induction k with
  | zero => intro _; rfl
  | succ k ih =>
    intro hk
    rw [prodF_take M4.within _ k (by simp; omega), ih (by omega), M4.pw_succ]
    have e : (List.replicate n m).getD k M4.one = m := by simp [show k < n by omega]
    rw [e]
theorem spec_PowerMatrix_no1 (a b c d k : Int) (w : World) (h1 : mxB a b c d = false) : Calls Try.prog 32 #[.agg #[.int .i64 a, .int .i64 b, .int .i64 c, .int .i64 d], .int .i64 k] w fun r w' => r = .returned (.tuple #[.agg #[.int .i64 0, .int .i64 0, .int .i64 0, .int .i64 0], .bool false]) ∧ Below w.heap.size w w' := by
  have hc := spec_mxGood a b c d
  rw [h1] at hc
  have Hc := Lib.hid hc
  clear hc h1
  go_enter Try.func32, Try.ntmps32
  go_wp2_with fail
  refine (Hc.out _).mono ?_
  rintro e w1 ⟨rfl, hb1⟩
  obtain ⟨hc1, hf1, hz1⟩ := bcell hb1
  have hy1 : w.heap.size + 1 < w1.heap.size := by simp at hz1; omega
  have hy0 : w.heap.size < w1.heap.size := by omega
  have hd := (below2 w _ _).trans (hb1.mono (by simp; omega))
  clear hb1 Hc
  go_wp2
  exact bodyPost_ret (v := .tuple #[.agg #[.int .i64 0, .int .i64 0, .int .i64 0, .int .i64 0], .bool false]) (by simp [results, Try.results32, go_sem, hc1, hf1, hy0, hy1]) rfl ⟨rfl, below_set4 hd (by omega)⟩
theorem spec_PowerMatrix_no2 (a b c d k : Int) (w : World) (h1 : mxB a b c d = true) (hk : inB k (-20) 20 = false) : Calls Try.prog 32 #[.agg #[.int .i64 a, .int .i64 b, .int .i64 c, .int .i64 d], .int .i64 k] w fun r w' => r = .returned (.tuple #[.agg #[.int .i64 0, .int .i64 0, .int .i64 0, .int .i64 0], .bool false]) ∧ Below w.heap.size w w' := by
  have hc := spec_mxGood a b c d
  rw [h1] at hc
  have Hc := Lib.hid hc
  clear hc h1
  have hi := spec_l1In' k (-20) 20
  rw [hk] at hi
  have Hi := Lib.hid hi
  clear hi hk
  go_enter Try.func32, Try.ntmps32
  go_wp2_with fail
  refine (Hc.out _).mono ?_
  rintro e w1 ⟨rfl, hb1⟩
  obtain ⟨hc1, hf1, hz1⟩ := bcell hb1
  have hy1 : w.heap.size + 1 < w1.heap.size := by simp at hz1; omega
  have hy0 : w.heap.size < w1.heap.size := by omega
  have hd := (below2 w _ _).trans (hb1.mono (by simp; omega))
  clear hb1 Hc
  go_wp2_with fail
  refine (Hi.out _).mono ?_
  rintro e w2 ⟨rfl, rfl⟩
  clear Hi
  go_wp2
  exact bodyPost_ret (v := .tuple #[.agg #[.int .i64 0, .int .i64 0, .int .i64 0, .int .i64 0], .bool false]) (by simp [results, Try.results32, go_sem, hc1, hf1, hy0, hy1]) rfl ⟨rfl, below_set4 hd (by omega)⟩
theorem impl_PowerMatrix_no1 (a b c d k : Int) (w : World) (h1 : mxB a b c d = false) : Calls Try.prog 33 #[.agg #[.int .i64 a, .int .i64 b, .int .i64 c, .int .i64 d], .int .i64 k] w fun r w' => r = .returned (.tuple #[.agg #[.int .i64 0, .int .i64 0, .int .i64 0, .int .i64 0], .bool false]) ∧ Below w.heap.size w w' := by
  have hc := impl_IsMatrix a b c d
  rw [h1] at hc
  have Hc := Lib.hid hc
  clear hc h1
  go_enter Try.func33, Try.ntmps33
  go_wp2_with fail
  refine (Hc.out _).mono ?_
  rintro e w1 ⟨rfl, hb1⟩
  obtain ⟨hc1, hf1, hz1⟩ := bcell hb1
  have hy1 : w.heap.size + 1 < w1.heap.size := by simp at hz1; omega
  have hy0 : w.heap.size < w1.heap.size := by omega
  have hd := (below2 w _ _).trans (hb1.mono (by simp; omega))
  clear hb1 Hc
  go_wp2
  exact bodyPost_ret (v := .tuple #[.agg #[.int .i64 0, .int .i64 0, .int .i64 0, .int .i64 0], .bool false]) (by simp [results, Try.results33, go_sem, hc1, hf1, hy0, hy1]) rfl ⟨rfl, below_set4 hd (by omega)⟩
theorem impl_PowerMatrix_no2 (a b c d k : Int) (w : World) (h1 : mxB a b c d = true) (hk : inB k (-20) 20 = false) : Calls Try.prog 33 #[.agg #[.int .i64 a, .int .i64 b, .int .i64 c, .int .i64 d], .int .i64 k] w fun r w' => r = .returned (.tuple #[.agg #[.int .i64 0, .int .i64 0, .int .i64 0, .int .i64 0], .bool false]) ∧ Below w.heap.size w w' := by
  have hc := impl_IsMatrix a b c d
  rw [h1] at hc
  have Hc := Lib.hid hc
  clear hc h1
  have hk2 : k < -20 ∨ 20 < k := by unfold inB at hk; simp at hk; omega
  clear hk
  go_enter Try.func33, Try.ntmps33
  go_wp2_with fail
  refine (Hc.out _).mono ?_
  rintro e w1 ⟨rfl, hb1⟩
  obtain ⟨hc1, hf1, hz1⟩ := bcell hb1
  have hy1 : w.heap.size + 1 < w1.heap.size := by simp at hz1; omega
  have hy0 : w.heap.size < w1.heap.size := by omega
  have hd := (below2 w _ _).trans (hb1.mono (by simp; omega))
  clear hb1 Hc
  by_cases hk3 : k < -20
  · go_wp2
    exact bodyPost_ret (v := .tuple #[.agg #[.int .i64 0, .int .i64 0, .int .i64 0, .int .i64 0], .bool false]) (by simp [results, Try.results33, go_sem, hc1, hf1, hy0, hy1]) rfl ⟨rfl, below_set4 hd (by omega)⟩
  · have hk4 : 20 < k := by omega
    go_wp2
    exact bodyPost_ret (v := .tuple #[.agg #[.int .i64 0, .int .i64 0, .int .i64 0, .int .i64 0], .bool false]) (by simp [results, Try.results33, go_sem, hc1, hf1, hy0, hy1]) rfl ⟨rfl, below_set4 hd (by omega)⟩
set_option maxHeartbeats 3200000 in
theorem spec_PowerMatrix_yes (a b c d k : Int) (w : World) (h1 : mxB a b c d = true) (hk : inB k (-20) 20 = true) : Calls Try.prog 32 #[.agg #[.int .i64 a, .int .i64 b, .int .i64 c, .int .i64 d], .int .i64 k] w (RetMx (powF ⟨a, b, c, d⟩ k) w) := by
  have hc := spec_mxGood a b c d
  rw [h1] at hc
  have Hc := Lib.hid hc
  clear hc
  have hk2 : -20 ≤ k ∧ k ≤ 20 := by unfold inB at hk; simp at hk; omega
  obtain ⟨k1, k2⟩ := hk2
  have hi := spec_l1In' k (-20) 20
  rw [hk] at hi
  have Hi := Lib.hid hi
  clear hi
  clear hk
  obtain ⟨⟨-, bb, cc, -⟩, -⟩ := mxB_iff.1 h1
  have HV := Lib.hid (fun w => spec_mxInverse a b c d w bb cc)
  have Hv1 := Lib.hid (M4.inv_ok (m := ⟨a, b, c, d⟩) h1)
  have H1 := Lib.hid h1
  clear bb cc h1
  by_cases hn : k < 0
  · obtain ⟨K, hK⟩ : ∃ K : Nat, -k = (K : Int) := ⟨(-k).toNat, by omega⟩
    have hK20 : K ≤ 20 := by omega
    obtain rfl : k = -(K : Int) := by omega
    have hF : powF ⟨a, b, c, d⟩ (-(K : Int)) = M4.pw ⟨d, -b, -c, a⟩ K := by unfold powF; rw [if_pos hn]; simp [M4.inv]
    have hok : M4.ok ⟨d, -b, -c, a⟩ = true := Hv1.out
    have kn : -(K : Int) < 0 := hn
    rw [hF]
    clear hF hn hK
    go_enter Try.func32, Try.ntmps32
    go_wp2_with fail
    have A0 := (show Bx ((w.alloc (.cells #[.int .i64 a, .int .i64 b, .int .i64 c, .int .i64 d] 25)).alloc (.cells #[.int .i64 0, .int .i64 0, .int .i64 0, .int .i64 0] 25)) w.heap.size a b c d by simp [Bx, go_sem])
    have F0 := (show Fz ((w.alloc (.cells #[.int .i64 a, .int .i64 b, .int .i64 c, .int .i64 d] 25)).alloc (.cells #[.int .i64 0, .int .i64 0, .int .i64 0, .int .i64 0] 25)) w.heap.size by simp [Fz, go_sem])
    have R0 := (show Zb ((w.alloc (.cells #[.int .i64 a, .int .i64 b, .int .i64 c, .int .i64 d] 25)).alloc (.cells #[.int .i64 0, .int .i64 0, .int .i64 0, .int .i64 0] 25)) (w.heap.size + 1) from (by have := Zb.new (w.alloc (.cells #[.int .i64 a, .int .i64 b, .int .i64 c, .int .i64 d] 25)) 25; simpa using this))
    refine (Hc.out _).mono ?_
    rintro e w1 ⟨rfl, hb1⟩
    have A1 := A0.kept hb1
    have F1 := F0.kept A0.lt hb1
    have R1 := R0.kept hb1
    have hd := (below2 w _ _).trans (hb1.mono (by simp; omega))
    have yA1 := A1.lt
    have yR1 := R1.1.lt
    have A := A1
    obtain ⟨a0, a1, a2, a3⟩ := A
    have F := F1
    obtain ⟨f0, f1, f2, f3⟩ := F
    clear hb1 A0 F0 R0
    go_wp2_with fail
    refine (Hi.out _).mono ?_
    rintro e w' ⟨rfl, rfl⟩
    go_wp2_with fail
    clear a0 a1 a2 a3 f0 f1 f2 f3
    refine (HV.out _).mono ?_
    rintro e w2 ⟨rfl, hb2⟩
    have A2 := A1.kept hb2
    have F2 := F1.kept A1.lt hb2
    have R2 := R1.kept hb2
    replace hd := below_kept hd (Nat.le_refl _) hb2
    have yA2 := A2.lt
    have yR2 := R2.1.lt
    have A := A2
    obtain ⟨a0, a1, a2, a3⟩ := A
    have F := F2
    obtain ⟨f0, f1, f2, f3⟩ := F
    clear hb2 A1 F1 R1
    have B2 := Lib.hid (bx_sto4 A2 d (-b) (-c) a)
    have G2 := Lib.hid (fz_sto4 (g := w.heap.size) F2 d (-b) (-c) a)
    have S2 : Zb (sto4 w2 w.heap.size d (-b) (-c) a) (w.heap.size + 1) := ⟨bx_sto4_far R2.1 (by omega) d (-b) (-c) a, fz_sto4 (g := w.heap.size) R2.2 d (-b) (-c) a⟩
    have hd2 := Lib.hid (below_put4 (g := w.heap.size) hd (Nat.le_refl _) d (-b) (-c) a)
    clear A2 F2 R2 hd
    obtain ⟨wv, hwv⟩ : ∃ wv, wv = sto4 w2 w.heap.size d (-b) (-c) a := ⟨_, rfl⟩
    unfold sto4 at hwv
    go_upto_region 6 with fail
    rw [← hwv]
    have A2 : Bx wv w.heap.size d (-b) (-c) a := by rw [hwv]; exact B2.out
    have F2 : Fz wv w.heap.size := by rw [hwv]; exact G2.out
    have R2 : Zb wv (w.heap.size + 1) := by rw [hwv]; exact S2
    have hd : Below w.heap.size w wv := by rw [hwv]; exact hd2.out
    clear a0 a1 a2 a3 f0 f1 f2 f3
    clear hwv B2 G2 S2 hd2 yA1 yR1 yA2 yR2
    generalize -b = b2 at *
    generalize -c = c2 at *
    go_wp2_with fail
    clear Hc Hi HV Hv1 H1
    refine (spec_mxOne _).mono ?_
    rintro e w3 ⟨rfl, hb3⟩
    have A := A2.kept hb3
    have R := R2.kept hb3
    replace hd := below_kept hd (Nat.le_refl _) hb3
    clear hb3 A2 F2 R2
    obtain ⟨g, hg⟩ : ∃ g, g = w3.heap.size := ⟨_, rfl⟩
    obtain ⟨wz, hwz⟩ : ∃ wz, wz = w3.alloc (.cells #[.int .i64 1, .int .i64 0, .int .i64 0, .int .i64 1] 25) := ⟨_, rfl⟩
    have Q1 := Lib.hid (show Bx wz g 1 0 0 1 by rw [hwz, hg]; exact Bx.new w3 _ 1 0 0 1)
    have Q2 := Lib.hid (show Fz wz g by rw [hwz, hg]; exact Fz.new w3 _ 1 0 0 1)
    have A3 := Lib.hid (show Bx wz w.heap.size d b2 c2 a by rw [hwz]; exact A.alloc _)
    have R3 := Lib.hid (show Zb wz (w.heap.size + 1) by rw [hwz]; exact R.kept ((Below.refl _ _).alloc (Nat.le_refl _) _))
    have hdz := Lib.hid (show Below w.heap.size w wz by rw [hwz]; exact below_alloc1 hd (Nat.le_refl _) _)
    have yr := R.1.lt
    have hgz : w.heap.size + 1 < g := by omega
    have H0 := Lib.hid M4.one_ok
    have Hok := Lib.hid hok
    clear A R hd hok yr
    go_wp2
    rw [← hwz, ← hg]
    clear hwz hg
    go_loopw [1, 7, 8] (fun i _ _ wr => ∃ j : Nat, j ≤ K ∧ i = .int .i64 j ∧ Bx wr g (M4.pw ⟨d, b2, c2, a⟩ (K - j)).a (M4.pw ⟨d, b2, c2, a⟩ (K - j)).b (M4.pw ⟨d, b2, c2, a⟩ (K - j)).c (M4.pw ⟨d, b2, c2, a⟩ (K - j)).d ∧ Fz wr g ∧ (M4.pw ⟨d, b2, c2, a⟩ (K - j)).ok = true ∧ Bx wr w.heap.size d b2 c2 a ∧ Zb wr (w.heap.size + 1) ∧ Below w.heap.size w wr) (fun i _ _ _ => (intOf i).toNat)
    case atStart => exact ⟨K, Nat.le_refl _, by simp, by rw [Nat.sub_self]; exact Q1.out, Q2.out, by rw [Nat.sub_self]; exact H0.out, A3.out, R3.out, hdz.out⟩
    case round =>
      clear Q1 Q2 A3 R3 hdz H0
      obtain ⟨j, hj, rfl, hq, hfq, hqo, ha, hr, hb⟩ := hrel
      by_cases hlt : 0 < j
      · have hst : M4.pw ⟨d, b2, c2, a⟩ (K - (j - 1)) = (M4.pw ⟨d, b2, c2, a⟩ (K - j)).within ⟨d, b2, c2, a⟩ := by
          have e : K - (j - 1) = (K - j) + 1 := by omega
          rw [e]; rfl
        have hno := M4.pw_no ⟨d, b2, c2, a⟩ (K - j)
        have Hst := Lib.hid hst
        have Hno := Lib.hid hno
        have Hin := Lib.hid (M4.ok_in hqo)
        have j0 : (0 : Int) < (j : Int) := by omega
        have j20 : (j : Int) ≤ 20 := by omega
        have jj : ((j - 1 : Nat) : Int) = (j : Int) - 1 := by omega
        clear hst hno hqo
        generalize M4.pw ⟨d, b2, c2, a⟩ (K - j) = m at *
        obtain ⟨p, q, r, s⟩ := m
        dsimp only at *
        have Ht := Lib.hid (fun w => spec_mxTimes p q r s d b2 c2 a 1000000000 1000000000 w Hin.out (M4.ok_in Hok.out) (by omega))
        have hE2 := Lib.hid (show M4.mul ⟨p, q, r, s⟩ ⟨d, b2, c2, a⟩ = ⟨p * d + q * c2, p * b2 + q * a, r * d + s * c2, r * b2 + s * a⟩ from rfl)
        generalize p * d + q * c2 = t0 at *
        generalize p * b2 + q * a = t1 at *
        generalize r * d + s * c2 = t2 at *
        generalize r * b2 + s * a = t3 at *
        have y0 := ha.lt
        have y1 := hq.lt
        have Ha := Lib.hid ha
        have Hq := Lib.hid hq
        have Hfq := Lib.hid hfq
        have Hb := Lib.hid hb
        have Hr := Lib.hid hr
        obtain ⟨q0, q1, q2, q3⟩ := hq
        obtain ⟨a0, a1, a2, a3⟩ := ha
        clear hfq hb hr
        go_wp2_with fail
        refine (Ht.out _).mono ?_
        rintro e1 w2 ⟨rfl, hb2⟩
        have G1 := Hq.out.kept hb2
        have G2 := Hfq.out.kept y1 hb2
        have G3 := Ha.out.kept hb2
        have G4 := Hr.out.kept hb2
        have G5 := below_kept Hb.out (Nat.le_refl _) hb2
        clear hb2 Ht q0 q1 q2 q3 a0 a1 a2 a3 Hq Hfq Ha Hb Hr y0 y1
        cases hok : mxB t0 t1 t2 t3
        · have hz : M4.pw ⟨d, b2, c2, a⟩ K = M4.zero := Hno.out (by rw [hE2.out]; exact hok) K (by omega)
          go_wp2_with fail
          refine (spec_mxIf_no _ _ _ _ _ hok).mono ?_
          rintro e1 w3 ⟨rfl, hb3⟩
          have G6 := (G4.kept hb3)
          have G7 := below_kept G5 (Nat.le_refl _) hb3
          have yz := G6.1.lt
          obtain ⟨⟨z0, z1, z2, z3⟩, ⟨f0, f1, f2, f3⟩⟩ := G6
          have hE := Lib.hid (fun h => retMx_no (m := M4.pw ⟨d, b2, c2, a⟩ K) (w := w) (w' := _) h (below_alloc1 (below_set4 (g := w.heap.size + 1) (x0 := .int .i64 0) (x1 := .int .i64 0) (x2 := .int .i64 0) (x3 := .int .i64 0) G7 (Nat.le_succ _)) (Nat.le_refl _) (.cells #[.int .i64 0, .int .i64 0, .int .i64 0, .int .i64 0] 25)))
          have hzz : (M4.pw ⟨d, b2, c2, a⟩ K).ok = false := by rw [hz]; exact M4.zero_ok
          have HZ := Lib.hid (hE.out hzz)
          clear G1 G2 G3 G4 G5 G7 hb3 hz hzz hok hE Hst Hno hE2
          go_wp2
          refine bodyPost_ret (v := .tuple #[.agg #[.int .i64 0, .int .i64 0, .int .i64 0, .int .i64 0], .bool false]) ?hr rfl ?hR
          case hr => simp [results, Try.results32, go_sem, z0, z1, z2, z3, yz]
          case hR => exact HZ.out
        · go_wp2_with fail
          refine (spec_mxIf_yes _ _ _ _ _ hok).mono ?_
          rintro e1 w3 ⟨rfl, hb3⟩
          have hpw : M4.pw ⟨d, b2, c2, a⟩ (K - (j - 1)) = ⟨t0, t1, t2, t3⟩ := by rw [Hst.out, M4.within_yes (by rw [hE2.out]; exact hok), hE2.out]
          have y3 := G1.lt
          replace G2 := G2.kept y3 hb3
          replace G1 := G1.kept hb3
          replace G3 := G3.kept hb3
          replace G4 := G4.kept hb3
          replace G5 := below_kept G5 (Nat.le_refl _) hb3
          have hAl : Below w3.heap.size w3 (w3.alloc (.cells #[.int .i64 t0, .int .i64 t1, .int .i64 t2, .int .i64 t3] 25)) := (Below.refl _ _).alloc (Nat.le_refl _) _
          have y4 := G1.lt
          have E2 := G2.kept y4 hAl
          have E1 := G1.kept hAl
          have E3 := G3.kept hAl
          have E4 := G4.kept hAl
          have E5 := below_kept G5 (Nat.le_refl _) hAl
          have N1 := Bx.new w3 25 t0 t1 t2 t3
          obtain ⟨wn, hwn⟩ : ∃ wn, wn = w3.alloc (.cells #[.int .i64 t0, .int .i64 t1, .int .i64 t2, .int .i64 t3] 25) := ⟨_, rfl⟩
          rw [← hwn] at E1 E2 E3 E4 E5 N1
          have J1 := Lib.hid (bx_sto4 E1 t0 t1 t2 t3)
          have J2 := Lib.hid (fz_sto4 (g := g) E2 t0 t1 t2 t3)
          have J3 := Lib.hid (bx_sto4_far E3 (show w.heap.size ≠ g by omega) t0 t1 t2 t3)
          have J4 : Hid (Zb (sto4 wn g t0 t1 t2 t3) (w.heap.size + 1)) := Lib.hid ⟨bx_sto4_far E4.1 (by omega) t0 t1 t2 t3, fz_sto4 (g := g) E4.2 t0 t1 t2 t3⟩
          have J5 := Lib.hid (below_put4 (g := g) E5 (by omega) t0 t1 t2 t3)
          have Hpw := Lib.hid hpw
          have HokT := Lib.hid hok
          have yg := E1.lt
          have yn := N1.lt
          obtain ⟨q0, q1, q2, q3⟩ := E1
          obtain ⟨f0, f1, f2, f3⟩ := E2
          obtain ⟨n0, n1, n2, n3⟩ := N1
          clear hb3 hok hpw G1 G2 G3 G4 G5 hAl E3 E4 E5 Hst Hno hE2 y3 y4
          unfold sto4 at J1 J2 J3 J4 J5
          go_upto_region 12 with fail
          rw [← hwn]
          clear hwn
          go_wp2
          go_roundw
          case rel => exact ⟨j - 1, by omega, by rw [jj], by rw [Hpw.out]; exact J1.out, J2.out, by rw [Hpw.out]; exact HokT.out, J3.out, J4.out, J5.out⟩
          case measure => simp [intOf]; omega
      · obtain rfl : j = 0 := by omega
        rw [Nat.sub_zero] at hq hqo
        have hE := Lib.hid (fun w' p q r s (e : M4.pw ⟨d, b2, c2, a⟩ K = ⟨p, q, r, s⟩) hb => retMx_yes (w := w) (w' := w') e hqo hb)
        generalize M4.pw ⟨d, b2, c2, a⟩ K = RR at *
        obtain ⟨p, q, r, s⟩ := RR
        dsimp only at hq
        have hd2 := Lib.hid (hE.out _ p q r s rfl (below_set4 (g := w.heap.size + 1) (x0 := .int .i64 p) (x1 := .int .i64 q) (x2 := .int .i64 r) (x3 := .int .i64 s) hb (Nat.le_succ _)))
        have yq := hq.lt
        have yr := hr.1.lt
        obtain ⟨q0, q1, q2, q3⟩ := hq
        obtain ⟨⟨z0, z1, z2, z3⟩, ⟨f0, f1, f2, f3⟩⟩ := hr
        clear hfq hqo ha hb hE
        go_wp2
        refine bodyPost_ret (v := .tuple #[.agg #[.int .i64 p, .int .i64 q, .int .i64 r, .int .i64 s], .bool true]) ?hr rfl ?hR
        case hr => simp [results, Try.results32, go_sem, z0, z1, z2, z3]
        case hR => exact hd2.out
  · obtain ⟨K, hK⟩ : ∃ K : Nat, k = (K : Int) := ⟨(k).toNat, by omega⟩
    have hK20 : K ≤ 20 := by omega
    subst hK
    have hF : powF ⟨a, b, c, d⟩ (K : Int) = M4.pw ⟨a, b, c, d⟩ K := by unfold powF; rw [if_neg hn]; simp
    have hok : M4.ok ⟨a, b, c, d⟩ = true := H1.out
    have kn : ¬ (K : Int) < 0 := hn
    rw [hF]
    clear hF hn
    go_enter Try.func32, Try.ntmps32
    go_wp2_with fail
    have A0 := (show Bx ((w.alloc (.cells #[.int .i64 a, .int .i64 b, .int .i64 c, .int .i64 d] 25)).alloc (.cells #[.int .i64 0, .int .i64 0, .int .i64 0, .int .i64 0] 25)) w.heap.size a b c d by simp [Bx, go_sem])
    have F0 := (show Fz ((w.alloc (.cells #[.int .i64 a, .int .i64 b, .int .i64 c, .int .i64 d] 25)).alloc (.cells #[.int .i64 0, .int .i64 0, .int .i64 0, .int .i64 0] 25)) w.heap.size by simp [Fz, go_sem])
    have R0 := (show Zb ((w.alloc (.cells #[.int .i64 a, .int .i64 b, .int .i64 c, .int .i64 d] 25)).alloc (.cells #[.int .i64 0, .int .i64 0, .int .i64 0, .int .i64 0] 25)) (w.heap.size + 1) from (by have := Zb.new (w.alloc (.cells #[.int .i64 a, .int .i64 b, .int .i64 c, .int .i64 d] 25)) 25; simpa using this))
    refine (Hc.out _).mono ?_
    rintro e w1 ⟨rfl, hb1⟩
    have A1 := A0.kept hb1
    have F1 := F0.kept A0.lt hb1
    have R1 := R0.kept hb1
    have hd := (below2 w _ _).trans (hb1.mono (by simp; omega))
    have yA1 := A1.lt
    have yR1 := R1.1.lt
    have A := A1
    obtain ⟨a0, a1, a2, a3⟩ := A
    have F := F1
    obtain ⟨f0, f1, f2, f3⟩ := F
    clear hb1 A0 F0 R0
    go_wp2_with fail
    refine (Hi.out _).mono ?_
    rintro e w' ⟨rfl, rfl⟩
    go_wp2_with fail
    clear a0 a1 a2 a3 f0 f1 f2 f3
    clear yA1 yR1
    clear Hc Hi HV Hv1 H1
    refine (spec_mxOne _).mono ?_
    rintro e w2 ⟨rfl, hb2⟩
    have A := A1.kept hb2
    have R := R1.kept hb2
    replace hd := below_kept hd (Nat.le_refl _) hb2
    clear hb2 A1 F1 R1
    obtain ⟨g, hg⟩ : ∃ g, g = w2.heap.size := ⟨_, rfl⟩
    obtain ⟨wz, hwz⟩ : ∃ wz, wz = w2.alloc (.cells #[.int .i64 1, .int .i64 0, .int .i64 0, .int .i64 1] 25) := ⟨_, rfl⟩
    have Q1 := Lib.hid (show Bx wz g 1 0 0 1 by rw [hwz, hg]; exact Bx.new w2 _ 1 0 0 1)
    have Q2 := Lib.hid (show Fz wz g by rw [hwz, hg]; exact Fz.new w2 _ 1 0 0 1)
    have A3 := Lib.hid (show Bx wz w.heap.size a b c d by rw [hwz]; exact A.alloc _)
    have R3 := Lib.hid (show Zb wz (w.heap.size + 1) by rw [hwz]; exact R.kept ((Below.refl _ _).alloc (Nat.le_refl _) _))
    have hdz := Lib.hid (show Below w.heap.size w wz by rw [hwz]; exact below_alloc1 hd (Nat.le_refl _) _)
    have yr := R.1.lt
    have hgz : w.heap.size + 1 < g := by omega
    have H0 := Lib.hid M4.one_ok
    have Hok := Lib.hid hok
    clear A R hd hok yr
    go_wp2
    rw [← hwz, ← hg]
    clear hwz hg
    go_loopw [1, 7, 8] (fun i _ _ wr => ∃ j : Nat, j ≤ K ∧ i = .int .i64 j ∧ Bx wr g (M4.pw ⟨a, b, c, d⟩ (K - j)).a (M4.pw ⟨a, b, c, d⟩ (K - j)).b (M4.pw ⟨a, b, c, d⟩ (K - j)).c (M4.pw ⟨a, b, c, d⟩ (K - j)).d ∧ Fz wr g ∧ (M4.pw ⟨a, b, c, d⟩ (K - j)).ok = true ∧ Bx wr w.heap.size a b c d ∧ Zb wr (w.heap.size + 1) ∧ Below w.heap.size w wr) (fun i _ _ _ => (intOf i).toNat)
    case atStart => exact ⟨K, Nat.le_refl _, rfl, by rw [Nat.sub_self]; exact Q1.out, Q2.out, by rw [Nat.sub_self]; exact H0.out, A3.out, R3.out, hdz.out⟩
    case round =>
      clear Q1 Q2 A3 R3 hdz H0
      obtain ⟨j, hj, rfl, hq, hfq, hqo, ha, hr, hb⟩ := hrel
      by_cases hlt : 0 < j
      · have hst : M4.pw ⟨a, b, c, d⟩ (K - (j - 1)) = (M4.pw ⟨a, b, c, d⟩ (K - j)).within ⟨a, b, c, d⟩ := by
          have e : K - (j - 1) = (K - j) + 1 := by omega
          rw [e]; rfl
        have hno := M4.pw_no ⟨a, b, c, d⟩ (K - j)
        have Hst := Lib.hid hst
        have Hno := Lib.hid hno
        have Hin := Lib.hid (M4.ok_in hqo)
        have j0 : (0 : Int) < (j : Int) := by omega
        have j20 : (j : Int) ≤ 20 := by omega
        have jj : ((j - 1 : Nat) : Int) = (j : Int) - 1 := by omega
        clear hst hno hqo
        generalize M4.pw ⟨a, b, c, d⟩ (K - j) = m at *
        obtain ⟨p, q, r, s⟩ := m
        dsimp only at *
        have Ht := Lib.hid (fun w => spec_mxTimes p q r s a b c d 1000000000 1000000000 w Hin.out (M4.ok_in Hok.out) (by omega))
        have hE2 := Lib.hid (show M4.mul ⟨p, q, r, s⟩ ⟨a, b, c, d⟩ = ⟨p * a + q * c, p * b + q * d, r * a + s * c, r * b + s * d⟩ from rfl)
        generalize p * a + q * c = t0 at *
        generalize p * b + q * d = t1 at *
        generalize r * a + s * c = t2 at *
        generalize r * b + s * d = t3 at *
        have y0 := ha.lt
        have y1 := hq.lt
        have Ha := Lib.hid ha
        have Hq := Lib.hid hq
        have Hfq := Lib.hid hfq
        have Hb := Lib.hid hb
        have Hr := Lib.hid hr
        obtain ⟨q0, q1, q2, q3⟩ := hq
        obtain ⟨a0, a1, a2, a3⟩ := ha
        clear hfq hb hr
        go_wp2_with fail
        refine (Ht.out _).mono ?_
        rintro e1 w2 ⟨rfl, hb2⟩
        have G1 := Hq.out.kept hb2
        have G2 := Hfq.out.kept y1 hb2
        have G3 := Ha.out.kept hb2
        have G4 := Hr.out.kept hb2
        have G5 := below_kept Hb.out (Nat.le_refl _) hb2
        clear hb2 Ht q0 q1 q2 q3 a0 a1 a2 a3 Hq Hfq Ha Hb Hr y0 y1
        cases hok : mxB t0 t1 t2 t3
        · have hz : M4.pw ⟨a, b, c, d⟩ K = M4.zero := Hno.out (by rw [hE2.out]; exact hok) K (by omega)
          go_wp2_with fail
          refine (spec_mxIf_no _ _ _ _ _ hok).mono ?_
          rintro e1 w3 ⟨rfl, hb3⟩
          have G6 := (G4.kept hb3)
          have G7 := below_kept G5 (Nat.le_refl _) hb3
          have yz := G6.1.lt
          obtain ⟨⟨z0, z1, z2, z3⟩, ⟨f0, f1, f2, f3⟩⟩ := G6
          have hE := Lib.hid (fun h => retMx_no (m := M4.pw ⟨a, b, c, d⟩ K) (w := w) (w' := _) h (below_alloc1 (below_set4 (g := w.heap.size + 1) (x0 := .int .i64 0) (x1 := .int .i64 0) (x2 := .int .i64 0) (x3 := .int .i64 0) G7 (Nat.le_succ _)) (Nat.le_refl _) (.cells #[.int .i64 0, .int .i64 0, .int .i64 0, .int .i64 0] 25)))
          have hzz : (M4.pw ⟨a, b, c, d⟩ K).ok = false := by rw [hz]; exact M4.zero_ok
          have HZ := Lib.hid (hE.out hzz)
          clear G1 G2 G3 G4 G5 G7 hb3 hz hzz hok hE Hst Hno hE2
          go_wp2
          refine bodyPost_ret (v := .tuple #[.agg #[.int .i64 0, .int .i64 0, .int .i64 0, .int .i64 0], .bool false]) ?hr rfl ?hR
          case hr => simp [results, Try.results32, go_sem, z0, z1, z2, z3, yz]
          case hR => exact HZ.out
        · go_wp2_with fail
          refine (spec_mxIf_yes _ _ _ _ _ hok).mono ?_
          rintro e1 w3 ⟨rfl, hb3⟩
          have hpw : M4.pw ⟨a, b, c, d⟩ (K - (j - 1)) = ⟨t0, t1, t2, t3⟩ := by rw [Hst.out, M4.within_yes (by rw [hE2.out]; exact hok), hE2.out]
          have y3 := G1.lt
          replace G2 := G2.kept y3 hb3
          replace G1 := G1.kept hb3
          replace G3 := G3.kept hb3
          replace G4 := G4.kept hb3
          replace G5 := below_kept G5 (Nat.le_refl _) hb3
          have hAl : Below w3.heap.size w3 (w3.alloc (.cells #[.int .i64 t0, .int .i64 t1, .int .i64 t2, .int .i64 t3] 25)) := (Below.refl _ _).alloc (Nat.le_refl _) _
          have y4 := G1.lt
          have E2 := G2.kept y4 hAl
          have E1 := G1.kept hAl
          have E3 := G3.kept hAl
          have E4 := G4.kept hAl
          have E5 := below_kept G5 (Nat.le_refl _) hAl
          have N1 := Bx.new w3 25 t0 t1 t2 t3
          obtain ⟨wn, hwn⟩ : ∃ wn, wn = w3.alloc (.cells #[.int .i64 t0, .int .i64 t1, .int .i64 t2, .int .i64 t3] 25) := ⟨_, rfl⟩
          rw [← hwn] at E1 E2 E3 E4 E5 N1
          have J1 := Lib.hid (bx_sto4 E1 t0 t1 t2 t3)
          have J2 := Lib.hid (fz_sto4 (g := g) E2 t0 t1 t2 t3)
          have J3 := Lib.hid (bx_sto4_far E3 (show w.heap.size ≠ g by omega) t0 t1 t2 t3)
          have J4 : Hid (Zb (sto4 wn g t0 t1 t2 t3) (w.heap.size + 1)) := Lib.hid ⟨bx_sto4_far E4.1 (by omega) t0 t1 t2 t3, fz_sto4 (g := g) E4.2 t0 t1 t2 t3⟩
          have J5 := Lib.hid (below_put4 (g := g) E5 (by omega) t0 t1 t2 t3)
          have Hpw := Lib.hid hpw
          have HokT := Lib.hid hok
          have yg := E1.lt
          have yn := N1.lt
          obtain ⟨q0, q1, q2, q3⟩ := E1
          obtain ⟨f0, f1, f2, f3⟩ := E2
          obtain ⟨n0, n1, n2, n3⟩ := N1
          clear hb3 hok hpw G1 G2 G3 G4 G5 hAl E3 E4 E5 Hst Hno hE2 y3 y4
          unfold sto4 at J1 J2 J3 J4 J5
          go_upto_region 12 with fail
          rw [← hwn]
          clear hwn
          go_wp2
          go_roundw
          case rel => exact ⟨j - 1, by omega, by rw [jj], by rw [Hpw.out]; exact J1.out, J2.out, by rw [Hpw.out]; exact HokT.out, J3.out, J4.out, J5.out⟩
          case measure => simp [intOf]; omega
      · obtain rfl : j = 0 := by omega
        rw [Nat.sub_zero] at hq hqo
        have hE := Lib.hid (fun w' p q r s (e : M4.pw ⟨a, b, c, d⟩ K = ⟨p, q, r, s⟩) hb => retMx_yes (w := w) (w' := w') e hqo hb)
        generalize M4.pw ⟨a, b, c, d⟩ K = RR at *
        obtain ⟨p, q, r, s⟩ := RR
        dsimp only at hq
        have hd2 := Lib.hid (hE.out _ p q r s rfl (below_set4 (g := w.heap.size + 1) (x0 := .int .i64 p) (x1 := .int .i64 q) (x2 := .int .i64 r) (x3 := .int .i64 s) hb (Nat.le_succ _)))
        have yq := hq.lt
        have yr := hr.1.lt
        obtain ⟨q0, q1, q2, q3⟩ := hq
        obtain ⟨⟨z0, z1, z2, z3⟩, ⟨f0, f1, f2, f3⟩⟩ := hr
        clear hfq hqo ha hb hE
        go_wp2
        refine bodyPost_ret (v := .tuple #[.agg #[.int .i64 p, .int .i64 q, .int .i64 r, .int .i64 s], .bool true]) ?hr rfl ?hR
        case hr => simp [results, Try.results32, go_sem, z0, z1, z2, z3]
        case hR => exact hd2.out
set_option maxHeartbeats 3200000 in
theorem impl_PowerMatrix_yes (a b c d k : Int) (w : World) (h1 : mxB a b c d = true) (hk : inB k (-20) 20 = true) : Calls Try.prog 33 #[.agg #[.int .i64 a, .int .i64 b, .int .i64 c, .int .i64 d], .int .i64 k] w (RetMx (powF ⟨a, b, c, d⟩ k) w) := by
  have hc := impl_IsMatrix a b c d
  rw [h1] at hc
  have Hc := Lib.hid hc
  clear hc
  have hk2 : -20 ≤ k ∧ k ≤ 20 := by unfold inB at hk; simp at hk; omega
  obtain ⟨k1, k2⟩ := hk2
  clear hk
  obtain ⟨⟨-, bb, cc, -⟩, -⟩ := mxB_iff.1 h1
  have HV := Lib.hid (fun w => impl_inverse a b c d w bb cc)
  have Hv1 := Lib.hid (M4.inv_ok (m := ⟨a, b, c, d⟩) h1)
  have H1 := Lib.hid h1
  clear bb cc h1
  have kk1 : ¬ k < -20 := by omega
  have kk2 : ¬ 20 < k := by omega
  by_cases hn : k < 0
  · obtain ⟨K, hK⟩ : ∃ K : Nat, -k = (K : Int) := ⟨(-k).toNat, by omega⟩
    have hK20 : K ≤ 20 := by omega
    obtain rfl : k = -(K : Int) := by omega
    have hF : powF ⟨a, b, c, d⟩ (-(K : Int)) = M4.pw ⟨d, -b, -c, a⟩ K := by unfold powF; rw [if_pos hn]; simp [M4.inv]
    have hok : M4.ok ⟨d, -b, -c, a⟩ = true := Hv1.out
    have kn : -(K : Int) < 0 := hn
    rw [hF]
    clear hF hn hK
    go_enter Try.func33, Try.ntmps33
    go_wp2_with fail
    have A0 := (show Bx ((w.alloc (.cells #[.int .i64 a, .int .i64 b, .int .i64 c, .int .i64 d] 25)).alloc (.cells #[.int .i64 0, .int .i64 0, .int .i64 0, .int .i64 0] 25)) w.heap.size a b c d by simp [Bx, go_sem])
    have R0 := (show Zb ((w.alloc (.cells #[.int .i64 a, .int .i64 b, .int .i64 c, .int .i64 d] 25)).alloc (.cells #[.int .i64 0, .int .i64 0, .int .i64 0, .int .i64 0] 25)) (w.heap.size + 1) from (by have := Zb.new (w.alloc (.cells #[.int .i64 a, .int .i64 b, .int .i64 c, .int .i64 d] 25)) 25; simpa using this))
    refine (Hc.out _).mono ?_
    rintro e w1 ⟨rfl, hb1⟩
    have A1 := A0.kept hb1
    have R1 := R0.kept hb1
    have hd := (below2 w _ _).trans (hb1.mono (by simp; omega))
    have yA := A1.lt
    have A := A1
    obtain ⟨a0, a1, a2, a3⟩ := A
    clear hb1 A0 R0 Hc
    go_wp2_with fail
    refine (impl_squareOf a b c d _).mono ?_
    rintro e w2 ⟨rfl, hb2⟩
    have R2 := R1.kept hb2
    replace hd := below_kept hd (Nat.le_refl _) hb2
    clear hb2 A1 R1 a0 a1 a2 a3 yA
    have yR := R2.1.lt
    have hAl : Below w2.heap.size w2 (w2.alloc (.cells #[.int .i64 a, .int .i64 b, .int .i64 c, .int .i64 d] 54)) := (Below.refl _ _).alloc (Nat.le_refl _) _
    have S1 := Bx.new w2 54 a b c d
    have S2 := Fz.new w2 54 a b c d
    have R3 := R2.kept hAl
    replace hd := below_kept hd (Nat.le_refl _) hAl
    obtain ⟨gf, hgf⟩ : ∃ gf, gf = w2.heap.size := ⟨_, rfl⟩
    obtain ⟨wv, hwv⟩ : ∃ wv, wv = w2.alloc (.cells #[.int .i64 a, .int .i64 b, .int .i64 c, .int .i64 d] 54) := ⟨_, rfl⟩
    have yf : w.heap.size + 1 < gf := by omega
    rw [← hwv] at S1 S2 R3 hd
    rw [← hgf] at S1 S2
    have T1 := Lib.hid S1
    have T2 := Lib.hid S2
    have T3 := Lib.hid R3
    have T4 := Lib.hid hd
    clear S1 S2 R2 R3 hd hAl yR
    go_upto_region 4 with fail
    rw [← hwv, ← hgf]
    clear hwv hgf
    obtain ⟨s0, s1, s2, s3⟩ := T1.out
    have yS := T1.out.lt
    obtain ⟨f0, f1, f2, f3⟩ := T2.out
    go_wp2_with fail
    refine (HV.out _).mono ?_
    rintro e w3 ⟨rfl, hb3⟩
    have U1 := T1.out.kept hb3
    have U2 := T2.out.kept T1.out.lt hb3
    have U3 := T3.out.kept hb3
    have U4 := below_kept T4.out (Nat.le_refl _) hb3
    clear hb3 s0 s1 s2 s3 yS f0 f1 f2 f3 T1 T2 T3 T4
    have B2 := Lib.hid (bx_sto4 U1 d (-b) (-c) a)
    have S2 : Hid (Zb (sto4 w3 gf d (-b) (-c) a) (w.heap.size + 1)) := Lib.hid ⟨bx_sto4_far U3.1 (by omega) d (-b) (-c) a, fz_sto4 (g := gf) U3.2 d (-b) (-c) a⟩
    have hd2 := Lib.hid (below_put4 (g := gf) U4 (by omega) d (-b) (-c) a)
    obtain ⟨wq, hwq⟩ : ∃ wq, wq = sto4 w3 gf d (-b) (-c) a := ⟨_, rfl⟩
    rw [← hwq] at B2 S2 hd2
    unfold sto4 at hwq
    have yU := U1.lt
    obtain ⟨u0, u1, u2, u3⟩ := U1
    obtain ⟨f0, f1, f2, f3⟩ := U2
    clear U3 U4
    go_upto_region 6 with fail
    rw [← hwq]
    clear hwq u0 u1 u2 u3 f0 f1 f2 f3 yU
    generalize -b = b2 at *
    generalize -c = c2 at *
    obtain ⟨s0, s1, s2, s3⟩ := B2.out
    have yS := B2.out.lt
    have hAl : Below wq.heap.size wq (wq.alloc (.cells #[.int .i64 d, .int .i64 b2, .int .i64 c2, .int .i64 a] 54)) := (Below.refl _ _).alloc (Nat.le_refl _) _
    have Z2 := S2.out.kept hAl
    have D2 := below_kept hd2.out (Nat.le_refl _) hAl
    have HRp := Lib.hid (slices_RepeatQ wq.heap.size K ⟨d, b2, c2, a⟩ (wq.alloc (.cells #[.int .i64 d, .int .i64 b2, .int .i64 c2, .int .i64 a] 54)) (Bx.new wq _ d b2 c2 a) hK20)
    clear hAl
    go_wp2_with fail
    refine HRp.out.mono ?_
    rintro e w4 ⟨g4, rfl, hs4, hb4⟩
    have Z3 := Z2.kept hb4
    replace D2 := below_kept D2 (Nat.le_refl _) hb4
    clear hb4 HRp Z2 s0 s1 s2 s3 yS
    have hmul := impl_mulAll_W (some ⟨g4, 0, none⟩) K K _ (List.replicate K ⟨d, b2, c2, a⟩) w4 (by simp) hs4 (Nat.le_refl _) (by omega) (fun i hi => by
      rw [prodRep ⟨d, b2, c2, a⟩ K i (by simp at hi; omega)]
      refine ⟨M4.pw_in _ _, ?_⟩
      have e : (List.replicate K (M4.mk d b2 c2 a)).getD i M4.one = ⟨d, b2, c2, a⟩ := by simp at hi; simp [hi]
      rw [e]; exact M4.ok_in hok)
    have hpr : prodF M4.within (List.replicate K ⟨d, b2, c2, a⟩) = M4.pw ⟨d, b2, c2, a⟩ K := by have := prodRep ⟨d, b2, c2, a⟩ K K (Nat.le_refl _); rwa [List.take_of_length_le (by simp)] at this
    rw [hpr] at hmul
    generalize M4.pw ⟨d, b2, c2, a⟩ K = R at *
    obtain ⟨okm, hok2⟩ : ∃ x, R.ok = x := ⟨_, rfl⟩
    obtain ⟨F, hF⟩ : ∃ x, R.fit = x := ⟨_, rfl⟩
    have Hm := Lib.hid (fun w => impl_matrixOf_as R F okm hF hok2 w)
    have HE := Lib.hid (fun w' (hb : Below w.heap.size w w') => retMx_any (m := R) hb)
    rw [hF, hok2] at HE
    have Hmul := Lib.hid hmul
    clear hmul hF hok2 hpr hs4 hok
    go_wp2_with fail
    refine Hmul.out.mono ?_
    rintro e w5 ⟨rfl, hb5⟩
    have Z4 := Z3.kept hb5
    replace D2 := below_kept D2 (Nat.le_refl _) hb5
    clear hb5 Hmul Z3
    go_wp2_with fail
    refine (Hm.out _).mono ?_
    rintro e w6 ⟨rfl, hb6⟩
    have Z5 := Z4.kept hb6
    replace D2 := below_kept D2 (Nat.le_refl _) hb6
    clear hb6 Hm Z4
    have yz := Z5.1.lt
    obtain ⟨⟨z0, z1, z2, z3⟩, ⟨f0, f1, f2, f3⟩⟩ := Z5
    have hE := Lib.hid (below_set4 (g := w.heap.size + 1) (x0 := .int .i64 F.a) (x1 := .int .i64 F.b) (x2 := .int .i64 F.c) (x3 := .int .i64 F.d) D2 (Nat.le_succ _))
    go_wp2
    refine bodyPost_ret (v := .tuple #[.agg #[.int .i64 F.a, .int .i64 F.b, .int .i64 F.c, .int .i64 F.d], .bool okm]) ?hr rfl ?hR
    case hr => simp [results, Try.results33, go_sem, z0, z1, z2, z3]
    case hR => exact HE.out _ hE.out
  · obtain ⟨K, hK⟩ : ∃ K : Nat, k = (K : Int) := ⟨(k).toNat, by omega⟩
    have hK20 : K ≤ 20 := by omega
    subst hK
    have hF : powF ⟨a, b, c, d⟩ (K : Int) = M4.pw ⟨a, b, c, d⟩ K := by unfold powF; rw [if_neg hn]; simp
    have hok : M4.ok ⟨a, b, c, d⟩ = true := H1.out
    have kn : ¬ (K : Int) < 0 := hn
    rw [hF]
    clear hF hn
    go_enter Try.func33, Try.ntmps33
    go_wp2_with fail
    have A0 := (show Bx ((w.alloc (.cells #[.int .i64 a, .int .i64 b, .int .i64 c, .int .i64 d] 25)).alloc (.cells #[.int .i64 0, .int .i64 0, .int .i64 0, .int .i64 0] 25)) w.heap.size a b c d by simp [Bx, go_sem])
    have R0 := (show Zb ((w.alloc (.cells #[.int .i64 a, .int .i64 b, .int .i64 c, .int .i64 d] 25)).alloc (.cells #[.int .i64 0, .int .i64 0, .int .i64 0, .int .i64 0] 25)) (w.heap.size + 1) from (by have := Zb.new (w.alloc (.cells #[.int .i64 a, .int .i64 b, .int .i64 c, .int .i64 d] 25)) 25; simpa using this))
    refine (Hc.out _).mono ?_
    rintro e w1 ⟨rfl, hb1⟩
    have A1 := A0.kept hb1
    have R1 := R0.kept hb1
    have hd := (below2 w _ _).trans (hb1.mono (by simp; omega))
    have yA := A1.lt
    have A := A1
    obtain ⟨a0, a1, a2, a3⟩ := A
    clear hb1 A0 R0 Hc
    go_wp2_with fail
    refine (impl_squareOf a b c d _).mono ?_
    rintro e w2 ⟨rfl, hb2⟩
    have R2 := R1.kept hb2
    replace hd := below_kept hd (Nat.le_refl _) hb2
    clear hb2 A1 R1 a0 a1 a2 a3 yA
    have yR := R2.1.lt
    have hAl : Below w2.heap.size w2 (w2.alloc (.cells #[.int .i64 a, .int .i64 b, .int .i64 c, .int .i64 d] 54)) := (Below.refl _ _).alloc (Nat.le_refl _) _
    have S1 := Bx.new w2 54 a b c d
    have S2 := Fz.new w2 54 a b c d
    have R3 := R2.kept hAl
    replace hd := below_kept hd (Nat.le_refl _) hAl
    obtain ⟨gf, hgf⟩ : ∃ gf, gf = w2.heap.size := ⟨_, rfl⟩
    obtain ⟨wv, hwv⟩ : ∃ wv, wv = w2.alloc (.cells #[.int .i64 a, .int .i64 b, .int .i64 c, .int .i64 d] 54) := ⟨_, rfl⟩
    have yf : w.heap.size + 1 < gf := by omega
    rw [← hwv] at S1 S2 R3 hd
    rw [← hgf] at S1 S2
    have T1 := Lib.hid S1
    have T2 := Lib.hid S2
    have T3 := Lib.hid R3
    have T4 := Lib.hid hd
    clear S1 S2 R2 R3 hd hAl yR
    go_upto_region 4 with fail
    rw [← hwv, ← hgf]
    clear hwv hgf
    obtain ⟨s0, s1, s2, s3⟩ := T1.out
    have yS := T1.out.lt
    have hAl : Below wv.heap.size wv (wv.alloc (.cells #[.int .i64 a, .int .i64 b, .int .i64 c, .int .i64 d] 54)) := (Below.refl _ _).alloc (Nat.le_refl _) _
    have Z2 := T3.out.kept hAl
    have D2 := below_kept T4.out (Nat.le_refl _) hAl
    have HRp := Lib.hid (slices_RepeatQ wv.heap.size K ⟨a, b, c, d⟩ (wv.alloc (.cells #[.int .i64 a, .int .i64 b, .int .i64 c, .int .i64 d] 54)) (Bx.new wv _ a b c d) hK20)
    clear hAl
    go_wp2_with fail
    refine HRp.out.mono ?_
    rintro e w4 ⟨g4, rfl, hs4, hb4⟩
    have Z3 := Z2.kept hb4
    replace D2 := below_kept D2 (Nat.le_refl _) hb4
    clear hb4 HRp Z2 s0 s1 s2 s3 yS
    have hmul := impl_mulAll_W (some ⟨g4, 0, none⟩) K K _ (List.replicate K ⟨a, b, c, d⟩) w4 (by simp) hs4 (Nat.le_refl _) (by omega) (fun i hi => by
      rw [prodRep ⟨a, b, c, d⟩ K i (by simp at hi; omega)]
      refine ⟨M4.pw_in _ _, ?_⟩
      have e : (List.replicate K (M4.mk a b c d)).getD i M4.one = ⟨a, b, c, d⟩ := by simp at hi; simp [hi]
      rw [e]; exact M4.ok_in hok)
    have hpr : prodF M4.within (List.replicate K ⟨a, b, c, d⟩) = M4.pw ⟨a, b, c, d⟩ K := by have := prodRep ⟨a, b, c, d⟩ K K (Nat.le_refl _); rwa [List.take_of_length_le (by simp)] at this
    rw [hpr] at hmul
    generalize M4.pw ⟨a, b, c, d⟩ K = R at *
    obtain ⟨okm, hok2⟩ : ∃ x, R.ok = x := ⟨_, rfl⟩
    obtain ⟨F, hF⟩ : ∃ x, R.fit = x := ⟨_, rfl⟩
    have Hm := Lib.hid (fun w => impl_matrixOf_as R F okm hF hok2 w)
    have HE := Lib.hid (fun w' (hb : Below w.heap.size w w') => retMx_any (m := R) hb)
    rw [hF, hok2] at HE
    have Hmul := Lib.hid hmul
    clear hmul hF hok2 hpr hs4 hok
    go_wp2_with fail
    refine Hmul.out.mono ?_
    rintro e w5 ⟨rfl, hb5⟩
    have Z4 := Z3.kept hb5
    replace D2 := below_kept D2 (Nat.le_refl _) hb5
    clear hb5 Hmul Z3
    go_wp2_with fail
    refine (Hm.out _).mono ?_
    rintro e w6 ⟨rfl, hb6⟩
    have Z5 := Z4.kept hb6
    replace D2 := below_kept D2 (Nat.le_refl _) hb6
    clear hb6 Hm Z4
    have yz := Z5.1.lt
    obtain ⟨⟨z0, z1, z2, z3⟩, ⟨f0, f1, f2, f3⟩⟩ := Z5
    have hE := Lib.hid (below_set4 (g := w.heap.size + 1) (x0 := .int .i64 F.a) (x1 := .int .i64 F.b) (x2 := .int .i64 F.c) (x3 := .int .i64 F.d) D2 (Nat.le_succ _))
    go_wp2
    refine bodyPost_ret (v := .tuple #[.agg #[.int .i64 F.a, .int .i64 F.b, .int .i64 F.c, .int .i64 F.d], .bool okm]) ?hr rfl ?hR
    case hr => simp [results, Try.results33, go_sem, z0, z1, z2, z3]
    case hR => exact HE.out _ hE.out
theorem WPowerMatrix.walk (w : World) (a b c d k : Int) (_ : (Lit.int .i64 k).wf = true) : Calls Try.prog 10 #[.agg #[.int .i64 a, .int .i64 b, .int .i64 c, .int .i64 d], .int .i64 k] w fun e w' => e = .returned (.bool true) ∧ Below w.heap.size w w' := by
  cases h1 : mxB a b c d
  · exact WPowerMatrix.core w a b c d k 0 0 0 0 false (Lib.hid fun w => spec_PowerMatrix_no1 a b c d k w h1) (Lib.hid fun w => impl_PowerMatrix_no1 a b c d k w h1)
  · cases hk : inB k (-20) 20
    · exact WPowerMatrix.core w a b c d k 0 0 0 0 false (Lib.hid fun w => spec_PowerMatrix_no2 a b c d k w h1 hk) (Lib.hid fun w => impl_PowerMatrix_no2 a b c d k w h1 hk)
    · exact WPowerMatrix.core w a b c d k _ _ _ _ _ (Lib.hid fun w => spec_PowerMatrix_yes a b c d k w h1 hk) (Lib.hid fun w => impl_PowerMatrix_yes a b c d k w h1 hk)
end Go.Proofs.Ytfffnkbjhbaceaa
