/- The model's FractionOfPath. -/
import Derived.Test.YtaifgfmkkgndkaaPthM
import Derived.Test.YtaifgfmkkgndkaaMedW
namespace Go.Proofs.Ytaifgfmkkgndkaa
set_option linter.unusedVariables false
open Go.RowKit

def fopR (a : ByteArray) : Option (Int × Int) := if a.size ≤ 100 then fop a.data.toList (0, 1) (1, 0) else none
theorem fopR_long {a : ByteArray} (h : 100 < a.size) : fopR a = none := if_neg (by omega)
theorem fopR_fit {a : ByteArray} (h : a.size ≤ 100) : fopR a = fop a.data.toList (0, 1) (1, 0) := if_pos h
/-- a fraction or none is told -/
def FrE (R : Option (Int × Int)) (w : World) (e : Ending) (w' : World) : Prop := e = .returned (.tuple #[.agg #[.int .i64 (R.getD (0, 0)).1, .int .i64 (R.getD (0, 0)).2], .bool R.isSome]) ∧ Below w.heap.size w w'
theorem frE_no {R : Option (Int × Int)} {w w' : World} (h : R = none) (hb : Below w.heap.size w w') : FrE R w (.returned (.tuple #[.agg #[.int .i64 0, .int .i64 0], .bool false])) w' := by
  subst h
  exact ⟨rfl, hb⟩
theorem frE_yes {R : Option (Int × Int)} {p q : Int} {w w' : World} (h : R = some (p, q)) (hb : Below w.heap.size w w') : FrE R w (.returned (.tuple #[.agg #[.int .i64 p, .int .i64 q], .bool true])) w' := by
  subst h
  exact ⟨rfl, hb⟩
theorem drop_at (a : ByteArray) (k : Nat) (h : k < a.size) : a.data.toList.drop k = a[k] :: a.data.toList.drop (k + 1) := by
  rw [List.drop_eq_getElem_cons (by simpa using h)]
  rfl
theorem drop_end (a : ByteArray) : a.data.toList.drop a.size = [] := by
  rw [List.drop_eq_nil_iff]
  exact Nat.le_of_eq Array.length_toList
/-- the boxes of the model's loop -/
def FP (w wr : World) (l1 l2 h1 h2 : Int) : Prop := Bx2 wr w.heap.size 0 0 ∧ Bx2 wr (w.heap.size + 1) l1 l2 ∧ Bx2 wr (w.heap.size + 1 + 1) h1 h2 ∧ Below w.heap.size w wr
theorem FP.kept {w w1 w2 : World} {l1 l2 h1 h2 : Int} (h : FP w w1 l1 l2 h1 h2) (hb : Below w1.heap.size w1 w2) : FP w w2 l1 l2 h1 h2 :=
  ⟨h.1.kept hb, h.2.1.kept hb, h.2.2.1.kept hb, below_kept h.2.2.2 (Nat.le_refl _) hb⟩
theorem FP.setL {w w1 : World} {l1 l2 h1 h2 : Int} (h : FP w w1 l1 l2 h1 h2) (x y : Int) : FP w ((w1.setCell ⟨w.heap.size + 1, 0, none⟩ (.int .i64 x)).setCell ⟨w.heap.size + 1, 1, none⟩ (.int .i64 y)) x y h1 h2 :=
  ⟨(h.1.setFar (by omega) _).setFar (by omega) _, bx2_set h.2.1 x y, (h.2.2.1.setFar (by omega) _).setFar (by omega) _, below_setP h.2.2.2 (by omega)⟩
theorem FP.setH {w w1 : World} {l1 l2 h1 h2 : Int} (h : FP w w1 l1 l2 h1 h2) (x y : Int) : FP w ((w1.setCell ⟨w.heap.size + 1 + 1, 0, none⟩ (.int .i64 x)).setCell ⟨w.heap.size + 1 + 1, 1, none⟩ (.int .i64 y)) l1 l2 x y :=
  ⟨(h.1.setFar (by omega) _).setFar (by omega) _, (h.2.1.setFar (by omega) _).setFar (by omega) _, bx2_set h.2.2.1 x y, below_setP h.2.2.2 (by omega)⟩
theorem FP.start (w : World) (t : TypeId) : FP w (((w.alloc (.cells #[.int .i64 0, .int .i64 0] t)).alloc (.cells #[.int .i64 0, .int .i64 1] t)).alloc (.cells #[.int .i64 1, .int .i64 0] t)) 0 1 1 0 := by
  refine ⟨?_, ?_, ?_, ?_⟩
  · simp [Bx2, go_sem]
  · simp [Bx2, go_sem]
  · simp [Bx2, go_sem]
  · exact below_three w _ _ _
/-- numbers of at least 0 that are not too great -/
def Nb4 (l1 l2 h1 h2 : Int) : Prop := (0 ≤ l1 ∧ l1 ≤ 1000000) ∧ (0 ≤ l2 ∧ l2 ≤ 1000000) ∧ (0 ≤ h1 ∧ h1 ≤ 1000000) ∧ (0 ≤ h2 ∧ h2 ≤ 1000000)
theorem spec_FractionOfPath_long (a : ByteArray) (w : World) (h : 100 < a.size) : Calls Try.prog 39 #[.string a] w (FrE (fopR a) w) := by
  have HR := Lib.hid (fopR_long h)
  have h2 : (100 : Int) < (a.size : Int) := by omega
  generalize fopR a = R at *
  clear h
  go_enter Try.func39, Try.ntmps39
  go_wp2
  exact bodyPost_ret (v := .tuple #[.agg #[.int .i64 0, .int .i64 0], .bool false]) (by simp [results, Try.results39, go_sem]) rfl (frE_no HR.out (by first | exact below_one _ _ | exact below_setP (below_one _ _) (Nat.le_refl _)))

set_option maxRecDepth 100000 in
set_option maxHeartbeats 6400000 in
theorem spec_FractionOfPath_fit (a : ByteArray) (w : World) (h : a.size ≤ 100) : Calls Try.prog 39 #[.string a] w (FrE (fopR a) w) := by
  have HR := Lib.hid (fopR_fit h)
  have h2 : ¬ (100 : Int) < (a.size : Int) := by omega
  generalize fopR a = R at *
  have HS0 := Lib.hid (FP.start w 25)
  go_enter Try.func39, Try.ntmps39
  go_wp2
  go_loopw [6] (fun i wr => ∃ (k : Nat) (l1 l2 h1 h2 : Int), k ≤ a.size ∧ i = .int .i64 k ∧ R = fop (a.data.toList.drop k) (l1, l2) (h1, h2) ∧ Nb4 l1 l2 h1 h2 ∧ FP w wr l1 l2 h1 h2) (fun i _ => a.size - (intOf i).toNat)
  case atStart => exact ⟨0, 0, 1, 1, 0, Nat.zero_le _, rfl, HR.out, by unfold Nb4; omega, HS0.out⟩
  case round =>
    clear HS0 HR
    obtain ⟨k, l1, l2, h1, h2, hk, rfl, hR, hN, hP⟩ := hrel
    obtain ⟨⟨b1, b2⟩, ⟨b3, b4⟩, ⟨b5, b6⟩, b7, b8⟩ := hN
    have HM := Lib.hid (fun w => spec_nbMediant l1 l2 h1 h2 w (by unfold Sm; omega) (by unfold Sm; omega) (by unfold Sm; omega) (by unfold Sm; omega))
    have HG := Lib.hid (fun w => spec_nbGood (l1 + h1) (l2 + h2) w)
    have HP := Lib.hid hP
    have hmd : med (l1, l2) (h1, h2) = (l1 + h1, l2 + h2) := rfl
    obtain ⟨⟨⟨p0, p1⟩, p2, p3⟩, ⟨⟨q0, q1⟩, q2, q3⟩, ⟨⟨r0, r1⟩, r2, r3⟩, hbl⟩ := id hP
    clear hP hbl
    by_cases hlt : k < a.size
    · have hdr := drop_at a k hlt
      rw [hdr] at hR
      have hbad := @fop_bad (a[k] :: a.data.toList.drop (k + 1)) (l1, l2) (h1, h2)
      have hl := @fop_l (a.data.toList.drop (k + 1)) (l1, l2) (h1, h2)
      have hr := @fop_r (a.data.toList.drop (k + 1)) (l1, l2) (h1, h2)
      have hno := @fop_no a[k] (a.data.toList.drop (k + 1)) (l1, l2) (h1, h2)
      rw [hmd] at hbad hl hr
      have Hbad := Lib.hid hbad
      have Hl := Lib.hid hl
      have Hr := Lib.hid hr
      have Hno := Lib.hid hno
      have HR := Lib.hid hR
      clear hbad hl hr hno hR hdr hmd
      obtain ⟨m, hm⟩ : ∃ m, l1 + h1 = m := ⟨_, rfl⟩
      obtain ⟨n, hn⟩ : ∃ n, l2 + h2 = n := ⟨_, rfl⟩
      rw [hm, hn] at HM HG Hbad Hl Hr
      clear hm hn
      go_wp2_with fail
      clear p0 p1 p2 p3 q0 q1 q2 q3 r0 r1 r2 r3
      refine (HM.out _).mono ?_
      rintro e w2 ⟨rfl, hb1⟩
      have K := HP.out.kept hb1
      have k0 := K.1.lt
      have k1 := K.2.1.lt
      have k2 := K.2.2.1.lt
      have K2 := Lib.hid (K.kept (below_one w2 (.cells #[.int .i64 m, .int .i64 n] 25)))
      have M2 := Lib.hid (Bx2.new w2 25 m n)
      clear hb1 HM HP K
      go_wp2_with fail
      clear k0 k1 k2
      refine (HG.out _).mono ?_
      rintro e w3 ⟨rfl, hb1⟩
      replace K2 := Lib.hid (K2.out.kept hb1)
      replace M2 := Lib.hid (M2.out.kept hb1)
      clear hb1 HG
      have k0 := K2.out.1.lt
      have k1 := K2.out.2.1.lt
      have k2 := K2.out.2.2.1.lt
      have k3 := M2.out.lt
      obtain ⟨⟨⟨p0, p1⟩, p2, p3⟩, ⟨⟨q0, q1⟩, q2, q3⟩, ⟨⟨r0, r1⟩, r2, r3⟩, hbl⟩ := id K2.out
      obtain ⟨⟨s0, s1⟩, s2, s3⟩ := id M2.out
      have i0 : (0 : Int) ≤ (k : Int) := by omega
      have i1 : (k : Int) < (a.size : Int) := by omega
      cases hg : nbB m n
      · have HE := Lib.hid (fun w' (hb : Below w.heap.size w w') => frE_no (HR.out.trans (Hbad.out hg)) hb)
        have Hbl := Lib.hid hbl
        clear Hbad Hl Hr Hno hbl hg
        go_wp2
        exact bodyPost_ret (v := .tuple #[.agg #[.int .i64 0, .int .i64 0], .bool false]) (by simp [results, Try.results39, go_sem, p0, p1]) rfl (HE.out _ (below_setP Hbl.out (Nat.le_refl _)))
      · obtain ⟨⟨m1, m2⟩, ⟨n1, n2⟩, _⟩ := nbB_iff.1 hg
        have Hl2 := Lib.hid (Hl.out hg)
        have Hr2 := Lib.hid (Hr.out hg)
        have Hbl := Lib.hid hbl
        clear Hbad Hl Hr hbl hg
        by_cases hx : a[k] = 108
        · have hR2 := HR.out
          rw [hx, Hl2.out] at hR2
          have HR2 := Lib.hid hR2
          have hx1 : ((a[k].toNat : Int) != 108) = false := by rw [hx]; rfl
          have hx2 : ((a[k].toNat : Int) == 108) = true := by rw [hx]; rfl
          have hx3 : ((a[k].toNat : Int) != 114) = true := by rw [hx]; rfl
          have K3 := Lib.hid (K2.out.setH m n)
          clear hR2 HR Hl2 Hr2 Hno hx K2 M2
          go_wp2
          go_roundw
          case rel => exact ⟨k + 1, l1, l2, m, n, by omega, by go_num, HR2.out, by unfold Nb4; omega, K3.out⟩
          case measure => simp [intOf]; omega
        · by_cases hx' : a[k] = 114
          · have hR2 := HR.out
            rw [hx', Hr2.out] at hR2
            have HR2 := Lib.hid hR2
            have hx1 : ((a[k].toNat : Int) != 108) = true := by rw [hx']; rfl
            have hx2 : ((a[k].toNat : Int) == 108) = false := by rw [hx']; rfl
            have hx3 : ((a[k].toNat : Int) != 114) = false := by rw [hx']; rfl
            have K3 := Lib.hid (K2.out.setL m n)
            clear hR2 HR Hl2 Hr2 Hno hx hx' K2 M2
            go_wp2
            go_roundw
            case rel => exact ⟨k + 1, m, n, h1, h2, by omega, by go_num, HR2.out, by unfold Nb4; omega, K3.out⟩
            case measure => simp [intOf]; omega
          · have HE := Lib.hid (fun w' (hb : Below w.heap.size w w') => frE_no (HR.out.trans (Hno.out hx hx')) hb)
            have g1 : ¬ (a[k].toNat : Int) = 108 := fun e => hx (UInt8.toNat_inj.1 (by simpa using (show a[k].toNat = 108 by omega)))
            have g2 : ¬ (a[k].toNat : Int) = 114 := fun e => hx' (UInt8.toNat_inj.1 (by simpa using (show a[k].toNat = 114 by omega)))
            have hx1 : ((a[k].toNat : Int) != 108) = true := by simpa using g1
            have hx3 : ((a[k].toNat : Int) != 114) = true := by simpa using g2
            clear HR Hl2 Hr2 Hno hx hx' K2 M2 g1 g2
            go_wp2
            exact bodyPost_ret (v := .tuple #[.agg #[.int .i64 0, .int .i64 0], .bool false]) (by simp [results, Try.results39, go_sem, p0, p1]) rfl (HE.out _ (below_setP Hbl.out (Nat.le_refl _)))
    · obtain rfl : k = a.size := by omega
      rw [drop_end] at hR
      have hbad := @fop_bad [] (l1, l2) (h1, h2)
      have hnil := @fop_nil (l1, l2) (h1, h2)
      rw [hmd] at hbad hnil
      have Hbad := Lib.hid (fun h => hR.trans (hbad h))
      have Hnil := Lib.hid (fun h => hR.trans (hnil h))
      clear hbad hnil hR hmd
      generalize l1 + h1 = m at *
      generalize l2 + h2 = n at *
      go_wp2_with fail
      clear p0 p1 p2 p3 q0 q1 q2 q3 r0 r1 r2 r3
      refine (HM.out _).mono ?_
      rintro e w2 ⟨rfl, hb1⟩
      have K := HP.out.kept hb1
      have k0 := K.1.lt
      have k1 := K.2.1.lt
      have k2 := K.2.2.1.lt
      have K2 := Lib.hid (K.kept (below_one w2 (.cells #[.int .i64 m, .int .i64 n] 25)))
      have M2 := Lib.hid (Bx2.new w2 25 m n)
      clear hb1 HM HP K
      go_wp2_with fail
      clear k0 k1 k2
      refine (HG.out _).mono ?_
      rintro e w3 ⟨rfl, hb1⟩
      replace K2 := Lib.hid (K2.out.kept hb1)
      replace M2 := Lib.hid (M2.out.kept hb1)
      clear hb1 HG
      have k0 := K2.out.1.lt
      have k3 := M2.out.lt
      obtain ⟨⟨⟨p0, p1⟩, p2, p3⟩, ⟨⟨q0, q1⟩, q2, q3⟩, ⟨⟨r0, r1⟩, r2, r3⟩, hbl⟩ := id K2.out
      obtain ⟨⟨s0, s1⟩, s2, s3⟩ := id M2.out
      cases hg : nbB m n
      · have HE := Lib.hid (frE_no (Hbad.out hg) (below_setP (v0 := .int .i64 0) (v1 := .int .i64 0) hbl (Nat.le_refl _)))
        clear Hbad Hnil hbl hg
        go_wp2
        exact bodyPost_ret (v := .tuple #[.agg #[.int .i64 0, .int .i64 0], .bool false]) (by simp [results, Try.results39, go_sem, p0, p1]) rfl HE.out
      · have HE := Lib.hid (frE_yes (Hnil.out hg) (below_setP (v0 := .int .i64 m) (v1 := .int .i64 n) hbl (Nat.le_refl _)))
        clear Hbad Hnil hbl hg
        go_wp2
        exact bodyPost_ret (v := .tuple #[.agg #[.int .i64 m, .int .i64 n], .bool true]) (by simp [results, Try.results39, go_sem, p0, p1]) rfl HE.out
end Go.Proofs.Ytaifgfmkkgndkaa
