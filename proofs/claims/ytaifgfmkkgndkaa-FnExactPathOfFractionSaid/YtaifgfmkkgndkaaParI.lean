/- The program's parent of a fraction: along its plus terms. -/
import Derived.Test.YtaifgfmkkgndkaaMedW
import Derived.Test.YtaifgfmkkgndkaaTermS
import Derived.Deep.RegionHeld3
import Derived.Deep.QuietTactic
import Derived.BigQuiet
import Derived.BigRegion
namespace Go.Proofs.Ytaifgfmkkgndkaa
set_option linter.unusedVariables false
open Go.RowKit

/-- the boxes of the program's loop: the fraction, the result, the parent and the fraction now -/
def PI (w wr : World) (a b p1 p2 n1 n2 : Int) : Prop :=
  Bx2 wr w.heap.size a b ∧ Bx2 wr (w.heap.size + 1) 0 0 ∧ Bx2 wr (w.heap.size + 1 + 1) p1 p2 ∧ Bx2 wr (w.heap.size + 1 + 1 + 1) n1 n2 ∧ Below w.heap.size w wr
theorem PI.kept {w w1 w2 : World} {a b p1 p2 n1 n2 : Int} (h : PI w w1 a b p1 p2 n1 n2) (hb : Below w1.heap.size w1 w2) : PI w w2 a b p1 p2 n1 n2 :=
  ⟨h.1.kept hb, h.2.1.kept hb, h.2.2.1.kept hb, h.2.2.2.1.kept hb, below_kept h.2.2.2.2 (Nat.le_refl _) hb⟩
theorem PI.drewN {w w1 : World} {a b p1 p2 n1 n2 : Int} (h : PI w w1 a b p1 p2 n1 n2) (k : Nat) : PI w (w1.drewN k) a b p1 p2 n1 n2 := ⟨h.1, h.2.1, h.2.2.1, h.2.2.2.1, below_drewN h.2.2.2.2 k⟩
theorem PI.drew {w w1 : World} {a b p1 p2 n1 n2 : Int} (h : PI w w1 a b p1 p2 n1 n2) : PI w w1.drew a b p1 p2 n1 n2 := ⟨h.1, h.2.1, h.2.2.1, h.2.2.2.1, h.2.2.2.2.drew⟩
theorem PI.setPN {w w1 : World} {a b p1 p2 n1 n2 : Int} (h : PI w w1 a b p1 p2 n1 n2) (x y u v : Int) :
    PI w ((((w1.setCell ⟨w.heap.size + 1 + 1, 0, none⟩ (.int .i64 x)).setCell ⟨w.heap.size + 1 + 1, 1, none⟩ (.int .i64 y)).setCell ⟨w.heap.size + 1 + 1 + 1, 0, none⟩ (.int .i64 u)).setCell ⟨w.heap.size + 1 + 1 + 1, 1, none⟩ (.int .i64 v)) a b x y u v :=
  ⟨(((h.1.setFar (by omega) _).setFar (by omega) _).setFar (by omega) _).setFar (by omega) _, (((h.2.1.setFar (by omega) _).setFar (by omega) _).setFar (by omega) _).setFar (by omega) _, ((bx2_set h.2.2.1 x y).setFar (by omega) _).setFar (by omega) _,
    bx2_set ((h.2.2.2.1.setFar (by omega) _).setFar (by omega) _) u v, below_setP (below_setP h.2.2.2.2 (by omega)) (by omega)⟩
theorem PI.start (w : World) (t : TypeId) (a b : Int) : PI w ((((w.alloc (.cells #[.int .i64 a, .int .i64 b] t)).alloc (.cells #[.int .i64 0, .int .i64 0] t)).alloc (.cells #[.int .i64 0, .int .i64 1] t)).alloc (.cells #[.int .i64 1, .int .i64 0] t)) a b 0 1 1 0 := by
  refine ⟨?_, ?_, ?_, ?_, ?_⟩
  · simp [Bx2, go_sem]
  · simp [Bx2, go_sem]
  · simp [Bx2, go_sem]
  · simp [Bx2, go_sem]
  · exact (below_three w _ _ _).alloc (by simp; omega) _

set_option maxRecDepth 100000 in
set_option maxHeartbeats 3200000 in
theorem impl_oneParent (a b : Int) (w : World) (h1 : 1 ≤ a) (h2 : 1 ≤ b) (h3 : nbB a b = true) :
    Calls Try.prog 60 #[.agg #[.int .i64 a, .int .i64 b]] w fun e w' => ∃ p1 p2 : Int, e = .returned (.agg #[.int .i64 p1, .int .i64 p2]) ∧ Cf (a, b) (p1, p2) (a, b) 1 0 ∧ Below w.heap.size w w' := by
  obtain ⟨⟨_, ha6⟩, ⟨_, hb6⟩, hco⟩ := nbB_iff.1 h3
  have HCf := Lib.hid (Cf.start (f := (a, b)) h1 h2 hco)
  have HS0 := Lib.hid (PI.start w 25 a b)
  clear hco h3
  go_enter Try.func60, Try.ntmps60
  go_wp2
  go_quiet (fail)
  go_wp2
  go_loopw [5, 6, 7, 8] (fun s5 s6 _ _ wr => ∃ n d p1 p2 n1 n2 : Int, s5 = .int .i64 n ∧ s6 = .int .i64 d ∧ Cf (a, b) (p1, p2) (n1, n2) n d ∧ n ≤ 1000000 ∧ d ≤ 1000000 ∧ PI w wr a b p1 p2 n1 n2) (fun _ s6 _ _ _ => (intOf s6).toNat)
  case atStart => exact ⟨a, b, 0, 1, 1, 0, rfl, rfl, HCf.out, ha6, hb6, HS0.out.drewN _⟩
  case round =>
    clear HS0 HCf
    obtain ⟨n, d, p1, p2, n1, n2, rfl, rfl, hC, hn6, hd6, hP⟩ := hrel
    have c1 := hC.p1
    have c2 := hC.p2
    have c3 := hC.n1
    have c4 := hC.n2
    have c5 := hC.hn
    have c6 := hC.hd
    obtain ⟨l1, l2, l3, l4⟩ := hC.le
    dsimp only at c1 c2 c3 c4 l1 l2 l3 l4
    have HP := Lib.hid hP
    have HC := Lib.hid hC
    clear hC
    obtain ⟨⟨⟨q0, q1⟩, q2, q3⟩, ⟨⟨r0, r1⟩, r2, r3⟩, ⟨⟨s0, s1⟩, s2, s3⟩, ⟨⟨t0, t1⟩, t2, t3⟩, hbl⟩ := hP
    have k1 := HP.out.2.1.lt
    have k2 := HP.out.2.2.1.lt
    have k3 := HP.out.2.2.2.1.lt
    by_cases hd : d = 0
    · subst hd
      obtain ⟨e1, _, _⟩ := HC.out.done
      rw [Prod.mk.injEq] at e1
      obtain ⟨rfl, rfl⟩ := e1
      have hn1 : n = 1 := by
        have := HC.out.gcd
        simp at this
        omega
      subst hn1
      clear hbl
      go_wp2
      exact bodyPost_ret (v := .agg #[.int .i64 p1, .int .i64 p2]) (by simp [results, Try.results60, go_sem, r0, r1]) rfl ⟨p1, p2, rfl, HC.out, below_setP HP.out.2.2.2.2 (by omega)⟩
    · have hd1 : 1 ≤ d := by omega
      have hdn : ((d : Int) != 0) = true := by rw [bne_iff_ne]; exact hd
      have HR := Lib.hid (fun w => impl_roundDown n d w ⟨by omega, by omega⟩ ⟨hd1, by omega⟩)
      have hst := HC.out.step hd1
      obtain ⟨g1, g2, g3, g4, g5, g6, g7⟩ := HC.out.step_le hd1
      dsimp only at g1 g2 g4 g5 hst
      have Hst := Lib.hid hst
      clear hst
      have hdn2 : dnI n d = (n / d, n % d) := rfl
      rw [hdn2] at HR
      dsimp only at HR
      have hk6 : n / d ≤ n := Int.ediv_le_self _ (by omega)
      clear hdn2
      generalize n / d = t at *
      generalize n % d = r at *
      go_wp2_with fail
      refine (HR.out _).mono ?_
      rintro e w1 ⟨rfl, z, rfl⟩
      clear HR
      go_upto_region 5 with fail
      clear q0 q1 q2 q3 r0 r1 r2 r3 s0 s1 s2 s3 t0 t1 t2 t3 k1 k2 k3 hbl hdn
      have K := Lib.hid (HP.out.drewN z)
      clear HP
      obtain ⟨wz, hwz⟩ : ∃ wz, wz = wr.drewN z := ⟨_, rfl⟩
      rw [← hwz] at K ⊢
      clear hwz
      obtain ⟨⟨⟨q0, q1⟩, q2, q3⟩, ⟨⟨r0, r1⟩, r2, r3⟩, ⟨⟨s0, s1⟩, s2, s3⟩, ⟨⟨t0, t1⟩, t2, t3⟩, hbl⟩ := id K.out
      have k1 := K.out.2.1.lt
      have k2 := K.out.2.2.1.lt
      have k3 := K.out.2.2.2.1.lt
      have v1 : IntKind.i64.wrap (t * n1) = t * n1 := IntWalk.i64_in _ (by omega)
      have v2 : IntKind.i64.wrap (t * n2) = t * n2 := IntWalk.i64_in _ (by omega)
      have v3 : IntKind.i64.wrap (t * n1 + p1) = t * n1 + p1 := IntWalk.i64_in _ (by omega)
      have v4 : IntKind.i64.wrap (t * n2 + p2) = t * n2 + p2 := IntWalk.i64_in _ (by omega)
      have K2 := Lib.hid (K.out.setPN n1 n2 (t * n1 + p1) (t * n2 + p2))
      clear hbl K
      go_wp2
      go_big_region
      have K3 := Lib.hid (PI.drew K2.out)
      clear q0 q1 q2 q3 r0 r1 r2 r3 s0 s1 s2 s3 t0 t1 t2 t3 v1 v2 v3 v4 K2
      go_wp2
      go_roundw
      case rel => exact ⟨d, r, n1, n2, t * n1 + p1, t * n2 + p2, rfl, rfl, Hst.out, hd6, by omega, K3.out⟩
      case measure => simp [intOf]; omega

/-- a fraction with parents -/
def inB1 (a b : Int) : Bool := nbB a b && decide (1 ≤ a ∧ 1 ≤ b)
theorem inB1_iff {a b : Int} : inB1 a b = true ↔ nbB a b = true ∧ 1 ≤ a ∧ 1 ≤ b := by unfold inB1; simp
set_option maxHeartbeats 800000 in
theorem spec_nbInner (a b : Int) (w : World) : Calls Try.prog 57 #[.agg #[.int .i64 a, .int .i64 b]] w fun e w' => e = .returned (.bool (inB1 a b)) ∧ Below w.heap.size w w' := by
  have H := Lib.hid (spec_nbGood a b)
  cases h : nbB a b
  · have HE := Lib.hid (show inB1 a b = false by unfold inB1; rw [h]; rfl)
    rw [h] at H
    clear h
    go_enter Try.func57, Try.ntmps57
    go_wp2_with fail
    refine (H.out _).mono ?_
    rintro e w1 ⟨rfl, hb⟩
    have HD := Lib.hid ((below_one w _).trans (hb.mono (by simp)))
    have K := Bx2.kept (Bx2.new w 25 a b) hb
    obtain ⟨⟨q0, q1⟩, q2, q3⟩ := K
    clear hb
    go_wp2
    go_ret
    exact ⟨ret_bool HE.out.symm, HD.out⟩
  · have HE := Lib.hid (show inB1 a b = decide (1 ≤ a ∧ 1 ≤ b) by unfold inB1; rw [h]; rfl)
    rw [h] at H
    clear h
    go_enter Try.func57, Try.ntmps57
    go_wp2_with fail
    refine (H.out _).mono ?_
    rintro e w1 ⟨rfl, hb⟩
    have HD := Lib.hid ((below_one w _).trans (hb.mono (by simp)))
    have K := Bx2.kept (Bx2.new w 25 a b) hb
    obtain ⟨⟨q0, q1⟩, q2, q3⟩ := K
    clear hb
    go_wp2
    all_goals go_ret
    all_goals exact ⟨ret_bool (by rw [HE.out, Bool.eq_iff_iff]; simp; try omega), HD.out⟩
set_option maxHeartbeats 800000 in
theorem impl_hasParents (a b : Int) (w : World) : Calls Try.prog 59 #[.agg #[.int .i64 a, .int .i64 b]] w fun e w' => e = .returned (.bool (inB1 a b)) ∧ Below w.heap.size w w' := by
  have H := Lib.hid (impl_IsFraction a b)
  cases h : nbB a b
  · have HE := Lib.hid (show inB1 a b = false by unfold inB1; rw [h]; rfl)
    rw [h] at H
    clear h
    go_enter Try.func59, Try.ntmps59
    go_wp2_with fail
    refine (H.out _).mono ?_
    rintro e w1 ⟨rfl, hb⟩
    have HD := Lib.hid ((below_one w _).trans (hb.mono (by simp)))
    have K := Bx2.kept (Bx2.new w 25 a b) hb
    obtain ⟨⟨q0, q1⟩, q2, q3⟩ := K
    clear hb
    go_wp2
    go_ret
    exact ⟨ret_bool HE.out.symm, HD.out⟩
  · have HE := Lib.hid (show inB1 a b = decide (1 ≤ a ∧ 1 ≤ b) by unfold inB1; rw [h]; rfl)
    rw [h] at H
    clear h
    go_enter Try.func59, Try.ntmps59
    go_wp2_with fail
    refine (H.out _).mono ?_
    rintro e w1 ⟨rfl, hb⟩
    have HD := Lib.hid ((below_one w _).trans (hb.mono (by simp)))
    have K := Bx2.kept (Bx2.new w 25 a b) hb
    obtain ⟨⟨q0, q1⟩, q2, q3⟩ := K
    clear hb
    go_wp2
    all_goals go_ret
    all_goals exact ⟨ret_bool (by rw [HE.out, Bool.eq_iff_iff]; simp; try omega), HD.out⟩
end Go.Proofs.Ytaifgfmkkgndkaa
