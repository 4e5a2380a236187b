/- The program's PathOfFraction. -/
import Derived.Test.YtaifgfmkkgndkaaPthS
import Derived.Test.YtaifgfmkkgndkaaPthB
import Derived.Test.YtaifgfmkkgndkaaNbE
namespace Go.Proofs.Ytaifgfmkkgndkaa
set_option linter.unusedVariables false
open Go.RowKit

/-- the boxes of the program's loop -/
def PQ (w wr : World) (g : Nat) (a b l1 l2 h1 h2 : Int) : Prop := Bx2 wr w.heap.size a b ∧ Bx4 wr g l1 l2 h1 h2 ∧ Below w.heap.size w wr
theorem PQ.kept {w w1 w2 : World} {g : Nat} {a b l1 l2 h1 h2 : Int} (h : PQ w w1 g a b l1 l2 h1 h2) (hb : Below w1.heap.size w1 w2) : PQ w w2 g a b l1 l2 h1 h2 :=
  ⟨h.1.kept hb, h.2.1.kept hb, below_kept h.2.2 (Nat.le_refl _) hb⟩
theorem PQ.put {w w1 : World} {g : Nat} {a b l1 l2 h1 h2 : Int} (h : PQ w w1 g a b l1 l2 h1 h2) (hg : w.heap.size < g) (x y z u : Int) : PQ w (put4 w1 g x y z u) g a b x y z u :=
  ⟨bx2_put h.1 (by omega) _ _ _ _, bx4_put h.2.1 _ _ _ _, below_put4 h.2.2 (by omega) _ _ _ _⟩
theorem PQ.grown {w w1 w2 : World} {g : Nat} {a b l1 l2 h1 h2 : Int} {row : Option Nat} (h : PQ w w1 g a b l1 l2 h1 h2) (hg : w1.grownBy w2 row) (hne : ∀ k, row = some k → g < k) (hw : w.heap.size < g) : PQ w w2 g a b l1 l2 h1 h2 :=
  ⟨bx2_grown h.1 hg (fun e => by have := hne _ e.symm; omega), h.2.1.grown hg (fun e => by have := hne _ e.symm; omega), below_grown h.2.2 hg (Nat.le_refl _) (fun k hk => by have := hne k hk; omega)⟩

set_option maxRecDepth 100000 in
set_option maxHeartbeats 6400000 in
theorem impl_PathOfFraction (a b : Int) (w : World) : Calls Try.prog 38 #[.agg #[.int .i64 a, .int .i64 b]] w (TxtE (pathR a b) w) := by
  have H := Lib.hid (impl_hasParents a b)
  cases hin : inB1 a b
  · rw [hin] at H
    have HR := Lib.hid (pathR_no hin)
    clear hin
    generalize pathR a b = R at *
    go_enter Try.func38, Try.ntmps38
    go_wp2_with fail
    refine (H.out _).mono ?_
    rintro e w1 ⟨rfl, hb⟩
    have HE := Lib.hid (txtE_no HR.out ((below_one w _).trans (hb.mono (by simp))))
    clear hb
    go_wp2
    go_ret2
    exact HE.out
  · obtain ⟨g1, g2, g3⟩ := inB1_iff.1 hin
    obtain ⟨⟨_, ha6⟩, ⟨_, hb6⟩, hco⟩ := nbB_iff.1 g1
    rw [hin] at H
    have HR := Lib.hid (pathR_yes hin)
    have Hco := Lib.hid hco
    have HB0 := Lib.hid (Btw.start (f := (a, b)) g2 g3)
    clear hin g1 hco
    generalize pathR a b = R at *
    go_enter Try.func38, Try.ntmps38
    go_wp2_with fail
    refine (H.out _).mono ?_
    rintro e w1 ⟨rfl, hb⟩
    have K := Lib.hid (Bx2.kept (Bx2.new w 25 a b) hb)
    have hd := Lib.hid ((below_one w (.cells #[.int .i64 a, .int .i64 b] 25)).trans (hb.mono (by simp)))
    clear hb H
    go_wp2_with fail
    refine (impl_firstParents _).mono ?_
    rintro e w2 ⟨rfl, hb⟩
    replace K := Lib.hid (K.out.kept hb)
    replace hd := Lib.hid (below_kept hd.out (Nat.le_refl _) hb)
    clear hb
    have HP := Lib.hid (show PQ w (w2.alloc (.cells #[.int .i64 0, .int .i64 1, .int .i64 1, .int .i64 0] 77)) w2.heap.size a b 0 1 1 0 from
      ⟨K.out.alloc _, Bx4.new _ _ _ _ _ _, below_kept hd.out (Nat.le_refl _) (below_one _ _)⟩)
    have hg : w.heap.size < w2.heap.size := K.out.lt
    have HQ := Lib.hid (show (w2.alloc (.cells #[.int .i64 0, .int .i64 1, .int .i64 1, .int .i64 0] 77)).heap.size = w2.heap.size + 1 by simp)
    clear K hd
    go_wp2
    generalize w2.heap.size = g at *
    go_loopw [4, 6] (fun v _ wr => ∃ (l1 l2 h1 h2 : Int) (L : List UInt8) (A : Option Addr) (c : Nat), v = .slice A L.length c ∧ L.length ≤ 100 ∧ Btw (a, b) (l1, l2) (h1, h2) ∧ R = pth (a, b) (101 - L.length) (l1, l2) (h1, h2) L ∧ PQ w wr g a b l1 l2 h1 h2 ∧ wr.ownsRow (g + 1) 5 1 (.slice A L.length c) L.length (ubs L)) (fun v _ _ => 102 - lenS v)
    case atStart => exact ⟨0, 1, 1, 0, [], none, 0, rfl, by simp, HB0.out, HR.out, HP.out, World.ownsRow_nil _ _ _ _⟩
    case round =>
      clear HB0 HR HP HQ
      obtain ⟨l1, l2, h1, h2, L, A, c, rfl, hL, hB, hR, hP, hO⟩ := hrel
      obtain ⟨⟨b1, b2, b3, b4⟩, b5, b6⟩ := hB.sm2 ha6 hb6
      have HM := Lib.hid (fun w => impl_child l1 l2 h1 h2 w (by unfold Sm; omega) (by unfold Sm; omega) (by unfold Sm; omega) (by unfold Sm; omega))
      have hLl := fun w => impl_letterTo_l l1 l2 h1 h2 a b w (by unfold Sm; omega) (by unfold Sm; omega) (by unfold Sm; omega) (by unfold Sm; omega) (by unfold Sm; omega) (by unfold Sm; omega) (by unfold Sm; omega) (by unfold Sm; omega)
      have hLr := fun w => impl_letterTo_r l1 l2 h1 h2 a b w (by unfold Sm; omega) (by unfold Sm; omega) (by unfold Sm; omega) (by unfold Sm; omega) (by unfold Sm; omega) (by unfold Sm; omega) (by unfold Sm; omega) (by unfold Sm; omega)
      have HBl := Lib.hid (fun w => impl_behind_l l1 l2 h1 h2 w (by unfold Sm; omega) (by unfold Sm; omega) (by unfold Sm; omega) (by unfold Sm; omega))
      have HBr := Lib.hid (fun w => impl_behind_r l1 l2 h1 h2 w (by unfold Sm; omega) (by unfold Sm; omega) (by unfold Sm; omega) (by unfold Sm; omega))
      have hEq := run_fr_eq (l1 + h1) (l2 + h2) a b
      have HP := Lib.hid hP
      have HO := Lib.hid hO
      have hR2 : R = pth (a, b) (100 - L.length + 1) (l1, l2) (h1, h2) L := by rw [hR]; congr 1; omega
      have hsw : crs (a, b) (l1 + h1, l2 + h2) = - crs (l1 + h1, l2 + h2) (a, b) := by unfold crs; grind
      have hmeet := hB.meet Hco.out
      have hup := hB.upM
      have hdn := hB.downM
      have hmd : med (l1, l2) (h1, h2) = (l1 + h1, l2 + h2) := rfl
      have hpd := fun (h : med (l1, l2) (h1, h2) = (a, b)) => hR2.trans (pth_done h)
      have hpu := fun (h : med (l1, l2) (h1, h2) ≠ (a, b)) (h' : 0 < crs (med (l1, l2) (h1, h2)) (a, b)) => hR2.trans (pth_up h h')
      have hpl := fun (h : med (l1, l2) (h1, h2) ≠ (a, b)) (h' : ¬ 0 < crs (med (l1, l2) (h1, h2)) (a, b)) => hR2.trans (pth_down h h')
      rw [hmd] at hmeet hup hdn hpd hpu hpl
      rw [hsw] at hLl hLr
      have Hmeet := Lib.hid hmeet
      have Hup := Lib.hid hup
      have Hdn := Lib.hid hdn
      have Hpd := Lib.hid hpd
      have Hpu := Lib.hid hpu
      have Hpl := Lib.hid hpl
      have HLl := Lib.hid hLl
      have HLr := Lib.hid hLr
      clear hmeet hup hdn hmd hpd hpu hpl hLl hLr hsw hR hR2 hB
      generalize crs (l1 + h1, l2 + h2) (a, b) = x at *
      generalize l1 + h1 = m at *
      generalize l2 + h2 = n at *
      obtain ⟨⟨⟨p0, p1⟩, p2, p3⟩, ⟨⟨q0, q1, q2, q3⟩, f0, f1, f2, f3⟩, hbl⟩ := id hP
      have k1 := HP.out.2.1.lt
      have hS0 := Lib.hid (And.intro q0 (And.intro q1 (And.intro q2 (And.intro q3 (And.intro p0 (And.intro p1 (Below.refl wr.heap.size wr)))))))
      by_cases hm : (m, n) = (a, b)
      · have hbq : ((m == a) && (n == b)) = true := frEq_iff.2 hm
        rw [hbq] at hEq
        have hR4 := Hpd.out hm
        have HR4 := Lib.hid hR4
        clear hbq hm hR4 Hpd Hpu Hpl Hup Hdn Hmeet HLl HLr HBl HBr hP hO hbl
        go_upto_region 5 with fail
        go_region_held3 (fun w' => w'.cell? ⟨g, 0, none⟩ = some (.int .i64 l1) ∧ w'.cell? ⟨g, 1, none⟩ = some (.int .i64 l2) ∧ w'.cell? ⟨g, 2, none⟩ = some (.int .i64 h1) ∧ w'.cell? ⟨g, 3, none⟩ = some (.int .i64 h2) ∧ w'.cell? ⟨w.heap.size, 0, none⟩ = some (.int .i64 a) ∧ w'.cell? ⟨w.heap.size, 1, none⟩ = some (.int .i64 b) ∧ Below wr.heap.size wr w')
          (first
            | with_reducible exact keptB6 (by assumption) hb1 (Nat.le_refl _)
            | with_reducible exact drewB6 hS0.out)
          (first
            | (go_at_call 72; refine (HM.out _).mono ?_; rintro e w3 ⟨rfl, hb1⟩))
        rename_i hS
        have HO2 := own_kept HO.out hS.2.2.2.2.2.2
        have HE := Lib.hid (txtE_yes HR4.out (below_kept HP.out.2.2 (Nat.le_refl _) hS.2.2.2.2.2.2))
        have hrt := run_text rfl HO2
        clear hS hb1 HO2 p0 p1 p2 p3 q0 q1 q2 q3 f0 f1 f2 f3 k1
        go_wp2
        go_ret2
        exact HE.out
      · have hbq : ((m == a) && (n == b)) = false := by rw [Bool.eq_false_iff]; intro e; exact hm (frEq_iff.1 e)
        rw [hbq] at hEq
        have Hm := Lib.hid hm
        clear hbq hm Hpd hP hO hbl
        go_upto_region 5 with fail
        go_region_held3 (fun w' => w'.cell? ⟨g, 0, none⟩ = some (.int .i64 l1) ∧ w'.cell? ⟨g, 1, none⟩ = some (.int .i64 l2) ∧ w'.cell? ⟨g, 2, none⟩ = some (.int .i64 h1) ∧ w'.cell? ⟨g, 3, none⟩ = some (.int .i64 h2) ∧ w'.cell? ⟨w.heap.size, 0, none⟩ = some (.int .i64 a) ∧ w'.cell? ⟨w.heap.size, 1, none⟩ = some (.int .i64 b) ∧ Below wr.heap.size wr w')
          (first
            | with_reducible exact keptB6 (by assumption) hb1 (Nat.le_refl _)
            | with_reducible exact drewB6 hS0.out)
          (first
            | (go_at_call 72; refine (HM.out _).mono ?_; rintro e w3 ⟨rfl, hb1⟩))
        rename_i hS
        obtain ⟨w4, hw4⟩ : ∃ w4, w4 = w3 := ⟨_, rfl⟩
        subst hw4
        have HO2 := Lib.hid (own_kept HO.out hS.2.2.2.2.2.2)
        have K := Lib.hid (HP.out.kept hS.2.2.2.2.2.2)
        clear hS hb1 p0 p1 p2 p3 q0 q1 q2 q3 f0 f1 f2 f3 k1 HO HP hS0 HM hEq
        by_cases h100 : L.length = 100
        · have hR4 : R = none := by
            by_cases hx : 0 < x
            · rw [Hpu.out Hm.out hx, h100]; rfl
            · rw [Hpl.out Hm.out (by omega), h100]; rfl
          have HE := Lib.hid (txtE_no hR4 K.out.2.2)
          have h100' : (L.length : Int) = 100 := by omega
          clear hR4 Hpu Hpl Hup Hdn Hmeet HLl HLr HBl HBr h100 hL
          go_wp2
          go_ret2
          exact HE.out
        · have h100' : ((L.length : Int) == 100) = false := by simp; omega
          obtain ⟨⟨⟨p0, p1⟩, p2, p3⟩, ⟨⟨q0, q1, q2, q3⟩, f0, f1, f2, f3⟩, hbl⟩ := id K.out
          have k1 := K.out.2.1.lt
          have hx0 : x ≠ 0 := fun e => Hm.out (Hmeet.out.1 e)
          have Hx0 := Lib.hid hx0
          clear hbl hx0
          by_cases hx : 0 < x
          · have HLt := Lib.hid (fun w => HLr.out w (by have := Hx0.out; omega))
            have hB2 := Lib.hid (Hup.out (by have := Hx0.out; omega))
            have hR3 := Lib.hid (Hpu.out Hm.out (by omega))
            have hLlen : L.length ≤ 1000000 := by omega
            have hL99 : L.length + 1 ≤ 100 := by have : ¬ (L.length : Int) = 100 := by simpa using h100'
                                                 omega
            clear HLl HLr HBl Hpu Hpl Hup Hdn Hmeet Hx0
            go_wp2_with fail
            clear p0 p1 p2 p3 q0 q1 q2 q3 f0 f1 f2 f3 k1 h100'
            refine (HLt.out _).mono ?_
            rintro e w5 ⟨rfl, hb⟩
            replace K := Lib.hid (K.out.kept hb)
            replace HO2 := Lib.hid (own_kept HO2.out hb)
            have Ka := Lib.hid (K.out.kept (below_one w5 (.cells #[.int .u8 114] 5)))
            have own2 := HO2.out.alloc (.cells #[.int .u8 114] 5)
            have Hlo := Lib.hid HO2.out.lt
            have hbase : g + 1 ≤ (w5.alloc (.cells #[.int .u8 114] 5)).heap.size := by have := K.out.2.1.lt; simp; omega
            clear hb HO2 K
            go_wp2_with (at_builtin; refine append1U _ rfl _ _ rfl (g + 1) (.slice A L.length c) L.length L rfl rfl own2 w5.heap.size 114 114 rfl rfl ?c1 hLlen hbase ?_; (case c1 => simp [go_sem]); intro A3 c3 w6 own3 hg3; (have K6 := Lib.hid (Ka.out.grown hg3 (fun k hk => by have := (Hlo.out k hk).1; omega) hg)); obtain ⟨⟨⟨p0, p1⟩, p2, p3⟩, ⟨⟨q0, q1, q2, q3⟩, f0, f1, f2, f3⟩, _⟩ := id K6.out; have k1 := K6.out.2.1.lt; clear hg3 own2)
            clear p0 p1 p2 p3 q0 q1 q2 q3 f0 f1 f2 f3 k1
            refine (HBr.out _).mono ?_
            rintro e w7 ⟨rfl, hb⟩
            have K7 := Lib.hid (K6.out.kept hb)
            have O7 := Lib.hid (own_kept own3 hb)
            have K8 := Lib.hid (K7.out.put hg m n h1 h2)
            have O8 := Lib.hid (own_far O7.out (put4_grown w7 g m n h1 h2) (fun k hk e => by have := (O7.out.lt k hk).1; injection e with e; omega))
            obtain ⟨⟨⟨p0, p1⟩, p2, p3⟩, ⟨⟨q0, q1, q2, q3⟩, f0, f1, f2, f3⟩, _⟩ := id K7.out
            have k1 := K7.out.2.1.lt
            clear hb own3 Ka Hlo hbase K6 K7 O7
            go_wp2
            go_roundw
            case rel => exact ⟨m, n, h1, h2, L ++ [114], A3, c3, by simp, by simp; omega, hB2.out, by rw [hR3.out]; simp only [List.length_append, List.length_cons, List.length_nil]; congr 1; omega, K8.out, by rw [List.length_append]; exact O8.out⟩
            case measure =>
              show 102 - (L.length + 1) < 102 - L.length
              omega
          · have HLt := Lib.hid (fun w => HLl.out w (by have := Hx0.out; omega))
            have hB2 := Lib.hid (Hdn.out (by have := Hx0.out; omega))
            have hR3 := Lib.hid (Hpl.out Hm.out (by omega))
            have hLlen : L.length ≤ 1000000 := by omega
            have hL99 : L.length + 1 ≤ 100 := by have : ¬ (L.length : Int) = 100 := by simpa using h100'
                                                 omega
            clear HLl HLr HBr Hpu Hpl Hup Hdn Hmeet Hx0
            go_wp2_with fail
            clear p0 p1 p2 p3 q0 q1 q2 q3 f0 f1 f2 f3 k1 h100'
            refine (HLt.out _).mono ?_
            rintro e w5 ⟨rfl, hb⟩
            replace K := Lib.hid (K.out.kept hb)
            replace HO2 := Lib.hid (own_kept HO2.out hb)
            have Ka := Lib.hid (K.out.kept (below_one w5 (.cells #[.int .u8 108] 5)))
            have own2 := HO2.out.alloc (.cells #[.int .u8 108] 5)
            have Hlo := Lib.hid HO2.out.lt
            have hbase : g + 1 ≤ (w5.alloc (.cells #[.int .u8 108] 5)).heap.size := by have := K.out.2.1.lt; simp; omega
            clear hb HO2 K
            go_wp2_with (at_builtin; refine append1U _ rfl _ _ rfl (g + 1) (.slice A L.length c) L.length L rfl rfl own2 w5.heap.size 108 108 rfl rfl ?c1 hLlen hbase ?_; (case c1 => simp [go_sem]); intro A3 c3 w6 own3 hg3; (have K6 := Lib.hid (Ka.out.grown hg3 (fun k hk => by have := (Hlo.out k hk).1; omega) hg)); obtain ⟨⟨⟨p0, p1⟩, p2, p3⟩, ⟨⟨q0, q1, q2, q3⟩, f0, f1, f2, f3⟩, _⟩ := id K6.out; have k1 := K6.out.2.1.lt; clear hg3 own2)
            clear p0 p1 p2 p3 q0 q1 q2 q3 f0 f1 f2 f3 k1
            refine (HBl.out _).mono ?_
            rintro e w7 ⟨rfl, hb⟩
            have K7 := Lib.hid (K6.out.kept hb)
            have O7 := Lib.hid (own_kept own3 hb)
            have K8 := Lib.hid (K7.out.put hg l1 l2 m n)
            have O8 := Lib.hid (own_far O7.out (put4_grown w7 g l1 l2 m n) (fun k hk e => by have := (O7.out.lt k hk).1; injection e with e; omega))
            obtain ⟨⟨⟨p0, p1⟩, p2, p3⟩, ⟨⟨q0, q1, q2, q3⟩, f0, f1, f2, f3⟩, _⟩ := id K7.out
            have k1 := K7.out.2.1.lt
            clear hb own3 Ka Hlo hbase K6 K7 O7
            go_wp2
            go_roundw
            case rel => exact ⟨l1, l2, m, n, L ++ [108], A3, c3, by simp, by simp; omega, hB2.out, by rw [hR3.out]; simp only [List.length_append, List.length_cons, List.length_nil]; congr 1; omega, K8.out, by rw [List.length_append]; exact O8.out⟩
            case measure =>
              show 102 - (L.length + 1) < 102 - L.length
              omega
end Go.Proofs.Ytaifgfmkkgndkaa
