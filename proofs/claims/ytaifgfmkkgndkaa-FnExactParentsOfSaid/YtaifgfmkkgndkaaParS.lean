/- The model's parents of a fraction. -/
import Derived.Test.YtaifgfmkkgndkaaMedW
import Derived.Test.YtaifgfmkkgndkaaNbE
import Derived.Test.YtaifgfmkkgndkaaKept
import Derived.Deep.RegionHeld3
import Derived.IntWalk
import Derived.Deep.LoopGhost
import Derived.Deep.QuietTactic
import Derived.BigQuiet
namespace Go.Proofs.Ytaifgfmkkgndkaa
set_option linter.unusedVariables false
open Go.RowKit

/-- the boxes of the model's loop: the fraction, two results, the less and the greater neighbour -/
def PS (w wr : World) (a b l1 l2 h1 h2 : Int) : Prop :=
  Bx2 wr w.heap.size a b ∧ Bx2 wr (w.heap.size + 1) 0 0 ∧ Bx2 wr (w.heap.size + 1 + 1) 0 0 ∧ Bx2 wr (w.heap.size + 1 + 1 + 1) l1 l2 ∧ Bx2 wr (w.heap.size + 1 + 1 + 1 + 1) h1 h2 ∧ Below w.heap.size w wr
theorem PS.kept {w w1 w2 : World} {a b l1 l2 h1 h2 : Int} (h : PS w w1 a b l1 l2 h1 h2) (hb : Below w1.heap.size w1 w2) : PS w w2 a b l1 l2 h1 h2 :=
  ⟨h.1.kept hb, h.2.1.kept hb, h.2.2.1.kept hb, h.2.2.2.1.kept hb, h.2.2.2.2.1.kept hb, below_kept h.2.2.2.2.2 (Nat.le_refl _) hb⟩
theorem PS.setL {w w1 : World} {a b l1 l2 h1 h2 : Int} (h : PS w w1 a b l1 l2 h1 h2) (x y : Int) : PS w ((w1.setCell ⟨w.heap.size + 1 + 1 + 1, 0, none⟩ (.int .i64 x)).setCell ⟨w.heap.size + 1 + 1 + 1, 1, none⟩ (.int .i64 y)) a b x y h1 h2 :=
  ⟨(h.1.setFar (by omega) _).setFar (by omega) _, (h.2.1.setFar (by omega) _).setFar (by omega) _, (h.2.2.1.setFar (by omega) _).setFar (by omega) _, bx2_set h.2.2.2.1 x y, (h.2.2.2.2.1.setFar (by omega) _).setFar (by omega) _, below_setP h.2.2.2.2.2 (by omega)⟩
theorem PS.setH {w w1 : World} {a b l1 l2 h1 h2 : Int} (h : PS w w1 a b l1 l2 h1 h2) (x y : Int) : PS w ((w1.setCell ⟨w.heap.size + 1 + 1 + 1 + 1, 0, none⟩ (.int .i64 x)).setCell ⟨w.heap.size + 1 + 1 + 1 + 1, 1, none⟩ (.int .i64 y)) a b l1 l2 x y :=
  ⟨(h.1.setFar (by omega) _).setFar (by omega) _, (h.2.1.setFar (by omega) _).setFar (by omega) _, (h.2.2.1.setFar (by omega) _).setFar (by omega) _, (h.2.2.2.1.setFar (by omega) _).setFar (by omega) _, bx2_set h.2.2.2.2.1 x y, below_setP h.2.2.2.2.2 (by omega)⟩
theorem PS.start (w : World) (t : TypeId) (a b : Int) : PS w (((((w.alloc (.cells #[.int .i64 a, .int .i64 b] t)).alloc (.cells #[.int .i64 0, .int .i64 0] t)).alloc (.cells #[.int .i64 0, .int .i64 0] t)).alloc (.cells #[.int .i64 0, .int .i64 1] t)).alloc (.cells #[.int .i64 1, .int .i64 0] t)) a b 0 1 1 0 := by
  refine ⟨?_, ?_, ?_, ?_, ?_, ?_⟩
  · simp [Bx2, go_sem]
  · simp [Bx2, go_sem]
  · simp [Bx2, go_sem]
  · simp [Bx2, go_sem]
  · simp [Bx2, go_sem]
  · exact ((below_three w _ _ _).alloc (by simp; omega) _).alloc (by simp; omega) _

theorem Btw.sm {a b l1 l2 h1 h2 : Int} (h : Btw (a, b) (l1, l2) (h1, h2)) (ha : a ≤ 1000000) (hb : b ≤ 1000000) : (0 ≤ l1 ∧ 0 ≤ l2 ∧ 0 ≤ h1 ∧ 0 ≤ h2) ∧ l1 + h1 ≤ 1000000 ∧ l2 + h2 ≤ 1000000 := by
  have := h.le1
  have := h.le2
  have := h.l1
  have := h.l2
  have := h.r1
  have := h.r2
  dsimp only at *
  omega

set_option maxRecDepth 100000 in
set_option maxHeartbeats 3200000 in
theorem spec_nbParents (a b x y u v : Int) (w : World) (h1 : 1 ≤ a) (h2 : 1 ≤ b) (h3 : nbB a b = true) (hp : Par (a, b) (x, y) (u, v)) :
    Calls Try.prog 58 #[.agg #[.int .i64 a, .int .i64 b]] w fun e w' => e = .returned (.tuple #[.agg #[.int .i64 x, .int .i64 y], .agg #[.int .i64 u, .int .i64 v]]) ∧ Below w.heap.size w w' := by
  obtain ⟨⟨_, ha6⟩, ⟨_, hb6⟩, hco⟩ := nbB_iff.1 h3
  have Hco := Lib.hid hco
  have Hp := Lib.hid hp
  have HS0 := Lib.hid (PS.start w 25 a b)
  clear hco hp h3
  go_enter Try.func58, Try.ntmps58
  go_wp2
  go_loopg [7, 8] (a + b).toNat (fun m _ _ wr => ∃ l1 l2 g1 g2 : Int, Btw (a, b) (l1, l2) (g1, g2) ∧ (crs (l1, l2) (a, b) + crs (a, b) (g1, g2)).toNat = m ∧ PS w wr a b l1 l2 g1 g2)
  case atStart => exact ⟨0, 1, 1, 0, Btw.start h1 h2, by simp [crs], HS0.out⟩
  case round =>
    clear HS0
    obtain ⟨l1, l2, g1, g2, hB, hm, hP⟩ := hrel
    obtain ⟨⟨b1, b2, b3, b4⟩, b5, b6⟩ := hB.sm ha6 hb6
    have HM := Lib.hid (fun w => spec_nbMediant l1 l2 g1 g2 w (by unfold Sm; omega) (by unfold Sm; omega) (by unfold Sm; omega) (by unfold Sm; omega))
    have HC1 := Lib.hid (fun w => spec_nbCross (l1 + g1) (l2 + g2) a b w (by unfold Sm; omega) (by unfold Sm; omega) (by unfold Sm; omega) (by unfold Sm; omega))
    have HC2 := Lib.hid (fun w => spec_nbCross l1 l2 a b w (by unfold Sm; omega) (by unfold Sm; omega) (by unfold Sm; omega) (by unfold Sm; omega))
    have HC3 := Lib.hid (fun w => spec_nbCross a b g1 g2 w (by unfold Sm; omega) (by unfold Sm; omega) (by unfold Sm; omega) (by unfold Sm; omega))
    have hEq := run_fr_eq (l1 + g1) (l2 + g2) a b
    have HPS := Lib.hid hP
    have HB := Lib.hid hB
    have Hm := Lib.hid hm
    clear hm hB
    obtain ⟨⟨⟨p0, p1⟩, p2, p3⟩, ⟨⟨q0, q1⟩, q2, q3⟩, ⟨⟨r0, r1⟩, r2, r3⟩, ⟨⟨s0, s1⟩, s2, s3⟩, ⟨⟨t0, t1⟩, t2, t3⟩, hbl⟩ := hP
    have hsz := HPS.out.2.2.2.2.1.lt
    by_cases hmeet : (l1 + g1, l2 + g2) = (a, b)
    · have hbq : ((l1 + g1 == a) && (l2 + g2 == b)) = true := frEq_iff.2 hmeet
      rw [hbq] at hEq
      obtain ⟨hu1, hu2⟩ := (HB.out.par (by unfold med; exact hmeet)).uniq h1 Hp.out
      rw [Prod.mk.injEq] at hu1 hu2
      obtain ⟨rfl, rfl⟩ := hu1
      obtain ⟨rfl, rfl⟩ := hu2
      clear hbq hmeet HC1 HC2 HC3 Hm HB Hp Hco hbl
      generalize l1 + g1 = m1 at *
      generalize l2 + g2 = m2 at *
      go_wp2_with fail
      clear p0 p1 p2 p3 q0 q1 q2 q3 r0 r1 r2 r3 s0 s1 s2 s3 t0 t1 t2 t3
      refine (HM.out _).mono ?_
      rintro e w1 ⟨rfl, hb1⟩
      have K := HPS.out.kept hb1
      have K2 := Lib.hid (K.kept (below_one w1 (.cells #[.int .i64 m1, .int .i64 m2] 25)))
      obtain ⟨⟨⟨p0, p1⟩, p2, p3⟩, ⟨⟨q0, q1⟩, q2, q3⟩, ⟨⟨r0, r1⟩, r2, r3⟩, ⟨⟨s0, s1⟩, s2, s3⟩, ⟨⟨t0, t1⟩, t2, t3⟩, _⟩ := id K
      have k0 := K.1.lt
      have k1 := K.2.1.lt
      have k2 := K.2.2.1.lt
      have k3 := K.2.2.2.1.lt
      have k4 := K.2.2.2.2.1.lt
      clear hb1 HM HPS K
      go_upto_region 4 with fail
      clear p0 p1 p2 p3 q0 q1 q2 q3 r0 r1 r2 r3 s0 s1 s2 s3 t0 t1 t2 t3
      obtain ⟨w2, hw2⟩ : ∃ w2, w2 = w1.alloc (.cells #[.int .i64 m1, .int .i64 m2] 25) := ⟨_, rfl⟩
      rw [← hw2] at K2 ⊢
      clear hw2
      obtain ⟨⟨⟨p0, p1⟩, p2, p3⟩, ⟨⟨q0, q1⟩, q2, q3⟩, ⟨⟨r0, r1⟩, r2, r3⟩, ⟨⟨s0, s1⟩, s2, s3⟩, ⟨⟨t0, t1⟩, t2, t3⟩, hbl⟩ := id K2.out
      go_wp2
      go_region
      all_goals (go_wp2; exact bodyPost_ret (v := .tuple #[.agg #[.int .i64 l1, .int .i64 l2], .agg #[.int .i64 g1, .int .i64 g2]]) (by simp [results, Try.results58, go_sem, q0, q1, r0, r1]) rfl ⟨rfl, by first | exact (below_setP (below_setP hbl.drew (by omega)) (by omega)) | exact (below_setP (below_setP hbl (by omega)) (by omega)).drew⟩)
    · have hbq : ((l1 + g1 == a) && (l2 + g2 == b)) = false := by rw [Bool.eq_false_iff]; intro e; exact hmeet (frEq_iff.1 e)
      rw [hbq] at hEq
      have hne : crs (l1 + g1, l2 + g2) (a, b) ≠ 0 := fun e => hmeet ((HB.out.meet Hco.out).1 e)
      have hcm : crs (l1 + g1, l2 + g2) (a, b) = crs (l1, l2) (a, b) - crs (a, b) (g1, g2) := crs_med (a, b) (l1, l2) (g1, g2)
      have lo := HB.out.lo
      have hi := HB.out.hi
      have bp := (crs_bd (a := l1) (b := l2) (c := a) (d := b) (by unfold Sm; omega) (by unfold Sm; omega) (by unfold Sm; omega) (by unfold Sm; omega)).2
      have bq := (crs_bd (a := a) (b := b) (c := g1) (d := g2) (by unfold Sm; omega) (by unfold Sm; omega) (by unfold Sm; omega) (by unfold Sm; omega)).2
      have Hup := Lib.hid (fun k => @Btw.up (a, b) (l1, l2) (g1, g2) HB.out k)
      have Hdn := Lib.hid (fun k => @Btw.down (a, b) (l1, l2) (g1, g2) HB.out k)
      have Hlo := Lib.hid (crs_lo (a, b) (l1, l2) (g1, g2))
      have Hhi := Lib.hid (crs_hi (a, b) (l1, l2) (g1, g2))
      dsimp only at Hup Hdn Hlo Hhi
      clear hbq hmeet hbl HB Hco Hp
      generalize crs (l1 + g1, l2 + g2) (a, b) = c at *
      generalize hP1 : crs (l1, l2) (a, b) = p at *
      generalize hQ1 : crs (a, b) (g1, g2) = q at *
      have HP1 := Lib.hid hP1
      have HQ1 := Lib.hid hQ1
      have Hne := Lib.hid hne
      have Hcm := Lib.hid hcm
      clear hP1 hQ1 hne hcm
      generalize l1 + g1 = m1 at *
      generalize l2 + g2 = m2 at *
      go_wp2_with fail
      clear p0 p1 p2 p3 q0 q1 q2 q3 r0 r1 r2 r3 s0 s1 s2 s3 t0 t1 t2 t3 hsz
      refine (HM.out _).mono ?_
      rintro e w1 ⟨rfl, hb1⟩
      have K := HPS.out.kept hb1
      have K2 := Lib.hid (K.kept (below_one w1 (.cells #[.int .i64 m1, .int .i64 m2] 25)))
      have M2 := Lib.hid (Bx2.new w1 25 m1 m2)
      obtain ⟨⟨⟨p0, p1⟩, p2, p3⟩, ⟨⟨q0, q1⟩, q2, q3⟩, ⟨⟨r0, r1⟩, r2, r3⟩, ⟨⟨s0, s1⟩, s2, s3⟩, ⟨⟨t0, t1⟩, t2, t3⟩, _⟩ := id K
      have k0 := K.1.lt
      have k1 := K.2.1.lt
      have k2 := K.2.2.1.lt
      have k3 := K.2.2.2.1.lt
      have k4 := K.2.2.2.2.1.lt
      clear hb1 HM HPS K
      go_wp2_with fail
      clear p0 p1 p2 p3 q0 q1 q2 q3 r0 r1 r2 r3 s0 s1 s2 s3 t0 t1 t2 t3 k0 k1 k2 k3 k4
      refine (HC1.out _).mono ?_
      rintro e w2 ⟨rfl, hb1⟩
      replace K2 := Lib.hid (K2.out.kept hb1)
      clear hb1 HC1 hEq
      obtain ⟨⟨⟨p0, p1⟩, p2, p3⟩, ⟨⟨q0, q1⟩, q2, q3⟩, ⟨⟨r0, r1⟩, r2, r3⟩, ⟨⟨s0, s1⟩, s2, s3⟩, ⟨⟨t0, t1⟩, t2, t3⟩, _⟩ := id K2.out
      have hS0 := Lib.hid (And.intro p0 (And.intro p1 (And.intro s0 (And.intro s1 (And.intro t0 (And.intro t1 (Below.refl w2.heap.size w2)))))))
      by_cases hc : 0 < c
      · have hqp : q < p := by have := Hcm.out; have := Hne.out; omega
        obtain ⟨of1, of2⟩ := often hi hqp
        have hB2 := Hup.out ((p - 1) / q) (by omega) of2
        obtain ⟨⟨d1, d2, d3, d4⟩, d5, d6⟩ := hB2.sm ha6 hb6
        have hmm := Hlo.out ((p - 1) / q)
        have e1 := Int.mul_nonneg (show 0 ≤ (p - 1) / q by omega) b3
        have e2 := Int.mul_nonneg (show 0 ≤ (p - 1) / q by omega) b4
        have HB2 := Lib.hid hB2
        have Hmm := Lib.hid hmm
        have Hof := Lib.hid of2
        have hkb : (p - 1) / q ≤ p - 1 := Int.ediv_le_self _ (by omega)
        have w1' : IntKind.i64.wrap (p - 1) = p - 1 := IntWalk.i64_in _ (by omega)
        have w2' : (p - 1).tdiv q = (p - 1) / q := Int.tdiv_eq_ediv_of_nonneg (by omega)
        have w3' : IntKind.i64.wrap ((p - 1) / q) = (p - 1) / q := IntWalk.i64_in _ (by omega)
        have w4' : ¬ q = 0 := by omega
        have w5' : (q == 0) = false := by simpa using w4'
        clear hB2 hmm of2
        go_upto_region 6 with fail
        go_region_held3 (fun w' => w'.cell? ⟨w.heap.size, 0, none⟩ = some (.int .i64 a) ∧ w'.cell? ⟨w.heap.size, 1, none⟩ = some (.int .i64 b) ∧ w'.cell? ⟨w.heap.size + 1 + 1 + 1, 0, none⟩ = some (.int .i64 l1) ∧ w'.cell? ⟨w.heap.size + 1 + 1 + 1, 1, none⟩ = some (.int .i64 l2) ∧ w'.cell? ⟨w.heap.size + 1 + 1 + 1 + 1, 0, none⟩ = some (.int .i64 g1) ∧ w'.cell? ⟨w.heap.size + 1 + 1 + 1 + 1, 1, none⟩ = some (.int .i64 g2) ∧ Below w2.heap.size w2 w')
          (first
            | with_reducible exact keptB6 (by assumption) hb1 (Nat.le_refl _)
            | with_reducible exact drewB6 hS0.out)
          (first
            | (go_at_call 51; (with_reducible refine (HC2.out _).mono ?_); rintro e w3 ⟨rfl, hb1⟩)
            | (go_at_call 51; (with_reducible refine (HC3.out _).mono ?_); rintro e w3 ⟨rfl, hb1⟩))
        rename_i hS
        have K3 := Lib.hid (K2.out.kept hS.2.2.2.2.2.2)
        clear p0 p1 p2 p3 q0 q1 q2 q3 r0 r1 r2 r3 s0 s1 s2 s3 t0 t1 t2 t3 w1' w2' w3' w4' w5' hS hS0 HC2 HC3 Hup Hdn Hlo Hhi K2
        (try clear hb1)
        generalize (p - 1) / q = k at *
        obtain ⟨⟨⟨p0, p1⟩, p2, p3⟩, ⟨⟨q0, q1⟩, q2, q3⟩, ⟨⟨r0, r1⟩, r2, r3⟩, ⟨⟨s0, s1⟩, s2, s3⟩, ⟨⟨t0, t1⟩, t2, t3⟩, _⟩ := id K3.out
        have hkq : q ≤ k * q := one_mul_le (by omega) of1
        have K4 := Lib.hid (K3.out.setL (l1 + k * g1) (l2 + k * g2))
        have Hkq := Lib.hid hkq
        clear hkq of1 K3
        go_wp2
        go_roundg (p - k * q + q).toNat
        case measure => have := Hkq.out; have := Hm.out; have := Hof.out; omega
        case rel => exact ⟨l1 + k * g1, l2 + k * g2, g1, g2, HB2.out, by rw [Hmm.out, HQ1.out], K4.out⟩
      · have hqp : p < q := by have := Hcm.out; have := Hne.out; omega
        obtain ⟨of1, of2⟩ := often lo hqp
        have hB2 := Hdn.out ((q - 1) / p) (by omega) of2
        obtain ⟨⟨d1, d2, d3, d4⟩, d5, d6⟩ := hB2.sm ha6 hb6
        have hmm := Hhi.out ((q - 1) / p)
        have e1 := Int.mul_nonneg (show 0 ≤ (q - 1) / p by omega) b1
        have e2 := Int.mul_nonneg (show 0 ≤ (q - 1) / p by omega) b2
        have HB2 := Lib.hid hB2
        have Hmm := Lib.hid hmm
        have Hof := Lib.hid of2
        have hkb : (q - 1) / p ≤ q - 1 := Int.ediv_le_self _ (by omega)
        have w1' : IntKind.i64.wrap (q - 1) = q - 1 := IntWalk.i64_in _ (by omega)
        have w2' : (q - 1).tdiv p = (q - 1) / p := Int.tdiv_eq_ediv_of_nonneg (by omega)
        have w3' : IntKind.i64.wrap ((q - 1) / p) = (q - 1) / p := IntWalk.i64_in _ (by omega)
        have w4' : ¬ p = 0 := by omega
        have w5' : (p == 0) = false := by simpa using w4'
        clear hB2 hmm of2
        go_upto_region 8 with fail
        go_region_held3 (fun w' => w'.cell? ⟨w.heap.size, 0, none⟩ = some (.int .i64 a) ∧ w'.cell? ⟨w.heap.size, 1, none⟩ = some (.int .i64 b) ∧ w'.cell? ⟨w.heap.size + 1 + 1 + 1, 0, none⟩ = some (.int .i64 l1) ∧ w'.cell? ⟨w.heap.size + 1 + 1 + 1, 1, none⟩ = some (.int .i64 l2) ∧ w'.cell? ⟨w.heap.size + 1 + 1 + 1 + 1, 0, none⟩ = some (.int .i64 g1) ∧ w'.cell? ⟨w.heap.size + 1 + 1 + 1 + 1, 1, none⟩ = some (.int .i64 g2) ∧ Below w2.heap.size w2 w')
          (first
            | with_reducible exact keptB6 (by assumption) hb1 (Nat.le_refl _)
            | with_reducible exact drewB6 hS0.out)
          (first
            | (go_at_call 51; (with_reducible refine (HC2.out _).mono ?_); rintro e w3 ⟨rfl, hb1⟩)
            | (go_at_call 51; (with_reducible refine (HC3.out _).mono ?_); rintro e w3 ⟨rfl, hb1⟩))
        rename_i hS
        have K3 := Lib.hid (K2.out.kept hS.2.2.2.2.2.2)
        clear p0 p1 p2 p3 q0 q1 q2 q3 r0 r1 r2 r3 s0 s1 s2 s3 t0 t1 t2 t3 w1' w2' w3' w4' w5' hS hS0 HC2 HC3 Hup Hdn Hlo Hhi K2
        (try clear hb1)
        generalize (q - 1) / p = k at *
        obtain ⟨⟨⟨p0, p1⟩, p2, p3⟩, ⟨⟨q0, q1⟩, q2, q3⟩, ⟨⟨r0, r1⟩, r2, r3⟩, ⟨⟨s0, s1⟩, s2, s3⟩, ⟨⟨t0, t1⟩, t2, t3⟩, _⟩ := id K3.out
        have hkq : p ≤ k * p := one_mul_le (by omega) of1
        have K4 := Lib.hid (K3.out.setH (g1 + k * l1) (g2 + k * l2))
        have Hkq := Lib.hid hkq
        clear hkq of1 K3
        go_wp2
        go_roundg (p + (q - k * p)).toNat
        case measure => have := Hkq.out; have := Hm.out; have := Hof.out; omega
        case rel => exact ⟨l1, l2, g1 + k * l1, g2 + k * l2, HB2.out, by rw [Hmm.out, HP1.out], K4.out⟩
end Go.Proofs.Ytaifgfmkkgndkaa
