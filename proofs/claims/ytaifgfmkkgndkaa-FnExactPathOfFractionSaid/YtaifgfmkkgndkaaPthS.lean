/- The model's PathOfFraction. -/
import Derived.Test.YtaifgfmkkgndkaaPthM
import Derived.Test.YtaifgfmkkgndkaaParI
import Derived.Test.YtaifgfmkkgndkaaTxt
import Derived.Test.YtaifgfmkkgndkaaBx4
namespace Go.Proofs.Ytaifgfmkkgndkaa
set_option linter.unusedVariables false
open Go.RowKit

/-- a text and a bool are told -/
def TxtE (R : Option (List UInt8)) (w : World) (e : Ending) (w' : World) : Prop := e = .returned (.tuple #[.string (bsL (R.getD [])), .bool R.isSome]) ∧ Below w.heap.size w w'
theorem txtE_no {R : Option (List UInt8)} {w w' : World} (h : R = none) (hb : Below w.heap.size w w') : TxtE R w (.returned (.tuple #[.string ⟨#[]⟩, .bool false])) w' := by
  subst h
  exact ⟨rfl, hb⟩
theorem txtE_yes {R : Option (List UInt8)} {L : List UInt8} {w w' : World} (h : R = some L) (hb : Below w.heap.size w w') : TxtE R w (.returned (.tuple #[.string (bsL L), .bool true])) w' := by
  subst h
  exact ⟨rfl, hb⟩
/-- the boxes of the model's loop -/
def PP (w wr : World) (g : Nat) (a b l1 l2 h1 h2 : Int) : Prop := Bx2 wr w.heap.size a b ∧ Bx2 wr g l1 l2 ∧ Bx2 wr (g + 1) h1 h2 ∧ Below w.heap.size w wr
theorem PP.kept {w w1 w2 : World} {g : Nat} {a b l1 l2 h1 h2 : Int} (h : PP w w1 g a b l1 l2 h1 h2) (hb : Below w1.heap.size w1 w2) : PP w w2 g a b l1 l2 h1 h2 :=
  ⟨h.1.kept hb, h.2.1.kept hb, h.2.2.1.kept hb, below_kept h.2.2.2 (Nat.le_refl _) hb⟩
theorem PP.setL {w w1 : World} {g : Nat} {a b l1 l2 h1 h2 : Int} (h : PP w w1 g a b l1 l2 h1 h2) (hg : w.heap.size < g) (x y : Int) : PP w ((w1.setCell ⟨g, 0, none⟩ (.int .i64 x)).setCell ⟨g, 1, none⟩ (.int .i64 y)) g a b x y h1 h2 :=
  ⟨(h.1.setFar (by omega) _).setFar (by omega) _, bx2_set h.2.1 x y, (h.2.2.1.setFar (by omega) _).setFar (by omega) _, below_setP h.2.2.2 (by omega)⟩
theorem PP.setH {w w1 : World} {g : Nat} {a b l1 l2 h1 h2 : Int} (h : PP w w1 g a b l1 l2 h1 h2) (hg : w.heap.size < g) (x y : Int) : PP w ((w1.setCell ⟨g + 1, 0, none⟩ (.int .i64 x)).setCell ⟨g + 1, 1, none⟩ (.int .i64 y)) g a b l1 l2 x y :=
  ⟨(h.1.setFar (by omega) _).setFar (by omega) _, (h.2.1.setFar (by omega) _).setFar (by omega) _, bx2_set h.2.2.1 x y, below_setP h.2.2.2 (by omega)⟩
def pathR (a b : Int) : Option (List UInt8) := if inB1 a b = true then pthR a b else none
theorem pathR_no {a b : Int} (h : inB1 a b = false) : pathR a b = none := if_neg (by rw [h]; simp)
theorem pathR_yes {a b : Int} (h : inB1 a b = true) : pathR a b = pth (a, b) 101 (0, 1) (1, 0) [] := if_pos h
theorem Btw.sm2 {a b l1 l2 h1 h2 : Int} (h : Btw (a, b) (l1, l2) (h1, h2)) (ha : a ≤ 1000000) (hb : b ≤ 1000000) : (0 ≤ l1 ∧ 0 ≤ l2 ∧ 0 ≤ h1 ∧ 0 ≤ h2) ∧ l1 + h1 ≤ 1000000 ∧ l2 + h2 ≤ 1000000 := by
  have := h.le1
  have := h.le2
  have := h.l1
  have := h.l2
  have := h.r1
  have := h.r2
  dsimp only at *
  omega
/-- how long a text is -/
def lenT : Value → Nat
  | .string s => s.size
  | _ => 0

set_option maxRecDepth 100000 in
set_option maxHeartbeats 3200000 in
theorem spec_PathOfFraction (a b : Int) (w : World) : Calls Try.prog 37 #[.agg #[.int .i64 a, .int .i64 b]] w (TxtE (pathR a b) w) := by
  have H := Lib.hid (spec_nbInner a b)
  cases hin : inB1 a b
  · rw [hin] at H
    have HR := Lib.hid (pathR_no hin)
    clear hin
    generalize pathR a b = R at *
    go_enter Try.func37, Try.ntmps37
    go_wp2_with fail
    refine (H.out _).mono ?_
    rintro e w1 ⟨rfl, hb⟩
    have HE := Lib.hid (txtE_no HR.out ((below_one w _).trans (hb.mono (by simp))))
    clear hb
    go_wp2
    go_ret2
    exact HE.out
  · obtain ⟨g1, g2, g3⟩ := inB1_iff.1 hin
    obtain ⟨⟨_, ha6⟩, ⟨_, hb6⟩, hco⟩ := nbB_iff.1 g1
    rw [hin] at H
    have HR := Lib.hid (pathR_yes hin)
    have Hco := Lib.hid hco
    have HB0 := Lib.hid (Btw.start (f := (a, b)) g2 g3)
    clear hin g1 hco
    generalize pathR a b = R at *
    go_enter Try.func37, Try.ntmps37
    go_wp2_with fail
    refine (H.out _).mono ?_
    rintro e w1 ⟨rfl, hb⟩
    have K := Bx2.kept (Bx2.new w 25 a b) hb
    have hd := (below_one w (.cells #[.int .i64 a, .int .i64 b] 25)).trans (hb.mono (by simp))
    have hg : w.heap.size < w1.heap.size := K.lt
    have B5 : Bx2 ((w1.alloc (.cells #[.int .i64 0, .int .i64 1] 25)).alloc (.cells #[.int .i64 1, .int .i64 0] 25)) (w1.heap.size + 1) 1 0 := by
      have h := Bx2.new (w1.alloc (.cells #[.int .i64 0, .int .i64 1] 25)) 25 1 0
      simpa using h
    have HP := Lib.hid (show PP w ((w1.alloc (.cells #[.int .i64 0, .int .i64 1] 25)).alloc (.cells #[.int .i64 1, .int .i64 0] 25)) w1.heap.size a b 0 1 1 0 from
      ⟨K.kept (below_two _ _ _), (Bx2.new _ _ _ _).alloc _, B5, below_kept hd (Nat.le_refl _) (below_two _ _ _)⟩)
    obtain ⟨⟨q0, q1⟩, q2, q3⟩ := K
    clear hb hd B5 H
    go_wp2
    clear q0 q1 q2 q3
    generalize w1.heap.size = g at *
    go_loopw [6] (fun s wr => ∃ (l1 l2 h1 h2 : Int) (L : List UInt8), s = .string (bsL L) ∧ L.length ≤ 101 ∧ Btw (a, b) (l1, l2) (h1, h2) ∧ R = pth (a, b) (101 - L.length) (l1, l2) (h1, h2) L ∧ PP w wr g a b l1 l2 h1 h2) (fun s _ => 102 - lenT s)
    case atStart => exact ⟨0, 1, 1, 0, [], rfl, by simp, HB0.out, HR.out, HP.out⟩
    case round =>
      clear HB0 HR HP
      obtain ⟨l1, l2, h1, h2, L, rfl, hL, hB, hR, hP⟩ := hrel
      have hsz := bsL_size L
      by_cases h101 : L.length = 101
      · rw [h101] at hR
        have HE := Lib.hid (txtE_no hR hP.2.2.2)
        have h101' : ¬ L.length ≤ 100 := by omega
        clear hR hP hB hL h101
        go_wp2
        go_ret2
        exact HE.out
      · have h100 : L.length ≤ 100 := by omega
        obtain ⟨⟨b1, b2, b3, b4⟩, b5, b6⟩ := hB.sm2 ha6 hb6
        have HM := Lib.hid (fun w => spec_nbMediant l1 l2 h1 h2 w (by unfold Sm; omega) (by unfold Sm; omega) (by unfold Sm; omega) (by unfold Sm; omega))
        have HC := Lib.hid (fun w => spec_nbCross (l1 + h1) (l2 + h2) a b w (by unfold Sm; omega) (by unfold Sm; omega) (by unfold Sm; omega) (by unfold Sm; omega))
        have HP := Lib.hid hP
        have HB := Lib.hid hB
        have hR2 : R = pth (a, b) (100 - L.length + 1) (l1, l2) (h1, h2) L := by rw [hR]; congr 1; omega
        have HR := Lib.hid hR2
        have hmeet := HB.out.meet Hco.out
        have Hup := Lib.hid HB.out.upM
        have Hdn := Lib.hid HB.out.downM
        have hmd : med (l1, l2) (h1, h2) = (l1 + h1, l2 + h2) := rfl
        have Hpd := Lib.hid (fun (h : med (l1, l2) (h1, h2) = (a, b)) => HR.out.trans (pth_done h))
        have Hpu := Lib.hid (fun (h : med (l1, l2) (h1, h2) ≠ (a, b)) (h' : 0 < crs (med (l1, l2) (h1, h2)) (a, b)) => HR.out.trans (pth_up h h'))
        have Hpl := Lib.hid (fun (h : med (l1, l2) (h1, h2) ≠ (a, b)) (h' : ¬ 0 < crs (med (l1, l2) (h1, h2)) (a, b)) => HR.out.trans (pth_down h h'))
        rw [hmd] at hmeet Hup Hdn Hpd Hpu Hpl
        have Hmeet := Lib.hid hmeet
        obtain ⟨⟨⟨p0, p1⟩, p2, p3⟩, ⟨⟨q0, q1⟩, q2, q3⟩, ⟨⟨r0, r1⟩, r2, r3⟩, hbl⟩ := id hP
        clear hR hR2 HR hP hB HB hbl hmeet hmd h101 hL
        generalize crs (l1 + h1, l2 + h2) (a, b) = c at *
        generalize l1 + h1 = m at *
        generalize l2 + h2 = n at *
        go_wp2_with fail
        clear p0 p1 p2 p3 q0 q1 q2 q3 r0 r1 r2 r3
        refine (HM.out _).mono ?_
        rintro e w2 ⟨rfl, hb1⟩
        have K := HP.out.kept hb1
        have k0 := K.1.lt
        have k1 := K.2.1.lt
        have k2 := K.2.2.1.lt
        obtain ⟨⟨⟨p0, p1⟩, p2, p3⟩, ⟨⟨q0, q1⟩, q2, q3⟩, ⟨⟨r0, r1⟩, r2, r3⟩, hbl⟩ := id K
        have K2 := Lib.hid (K.kept (below_one w2 (.cells #[.int .i64 m, .int .i64 n] 25)))
        have M2 := Lib.hid (Bx2.new w2 25 m n)
        clear hb1 HM HP K hbl
        go_wp2_with fail
        clear p0 p1 p2 p3 q0 q1 q2 q3 r0 r1 r2 r3 k0 k1 k2
        refine (HC.out _).mono ?_
        rintro e w3 ⟨rfl, hb1⟩
        replace K2 := Lib.hid (K2.out.kept hb1)
        replace M2 := Lib.hid (M2.out.kept hb1)
        clear hb1 HC
        have k0 := K2.out.1.lt
        have k1 := K2.out.2.1.lt
        have k2 := K2.out.2.2.1.lt
        have k3 := M2.out.lt
        obtain ⟨⟨⟨p0, p1⟩, p2, p3⟩, ⟨⟨q0, q1⟩, q2, q3⟩, ⟨⟨r0, r1⟩, r2, r3⟩, hbl⟩ := id K2.out
        obtain ⟨⟨s0, s1⟩, s2, s3⟩ := id M2.out
        by_cases hc : c = 0
        · have HE := Lib.hid (txtE_yes (Hpd.out (Hmeet.out.1 hc)) K2.out.2.2.2)
          clear Hpd Hpu Hpl Hmeet Hup Hdn
          go_wp2
          go_ret2
          exact HE.out
        · have hne : (m, n) ≠ (a, b) := fun e => hc (Hmeet.out.2 e)
          have Hne := Lib.hid hne
          have hc0 : (c == 0) = false := by simpa using hc
          clear hne
          by_cases hc1 : 0 < c
          · have K3 := Lib.hid (K2.out.setL hg m n)
            have hB2 := Lib.hid (Hup.out hc1)
            have hR3 := Lib.hid (Hpu.out Hne.out hc1)
            clear Hpd Hpu Hpl Hmeet Hup Hdn Hne K2 hbl
            go_wp2
            go_roundw
            case rel => exact ⟨m, n, h1, h2, L ++ [114], by rw [bsL_snoc], by simp; omega, hB2.out, by rw [hR3.out]; simp only [List.length_append, List.length_cons, List.length_nil]; congr 1; omega, K3.out⟩
            case measure =>
              show 102 - (bsL L ++ ⟨#[114]⟩).size < 102 - (bsL L).size
              rw [← bsL_snoc, bsL_size, bsL_size]
              simp; omega
          · have K3 := Lib.hid (K2.out.setH hg m n)
            have hB2 := Lib.hid (Hdn.out (by omega))
            have hR3 := Lib.hid (Hpl.out Hne.out (by omega))
            clear Hpd Hpu Hpl Hmeet Hup Hdn Hne K2 hbl
            go_wp2
            go_roundw
            case rel => exact ⟨l1, l2, m, n, L ++ [108], by rw [bsL_snoc], by simp; omega, hB2.out, by rw [hR3.out]; simp only [List.length_append, List.length_cons, List.length_nil]; congr 1; omega, K3.out⟩
            case measure =>
              show 102 - (bsL L ++ ⟨#[108]⟩).size < 102 - (bsL L).size
              rw [← bsL_snoc, bsL_size, bsL_size]
              simp; omega
end Go.Proofs.Ytaifgfmkkgndkaa
