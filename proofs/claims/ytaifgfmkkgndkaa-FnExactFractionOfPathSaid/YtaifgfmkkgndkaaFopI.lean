/- The program's FractionOfPath, and the law's walk. -/
import Derived.Test.YtaifgfmkkgndkaaFopS
import Derived.Test.YtaifgfmkkgndkaaPthB
import Derived.Test.YtaifgfmkkgndkaaFractionOfPathC
namespace Go.Proofs.Ytaifgfmkkgndkaa
set_option linter.unusedVariables false
open Go.RowKit

/-- the boxes of the program's loop -/
def FQ (w wr : World) (g : Nat) (l1 l2 h1 h2 : Int) : Prop := Bx2 wr w.heap.size 0 0 ∧ Bx4 wr g l1 l2 h1 h2 ∧ Below w.heap.size w wr
theorem FQ.kept {w w1 w2 : World} {g : Nat} {l1 l2 h1 h2 : Int} (h : FQ w w1 g l1 l2 h1 h2) (hb : Below w1.heap.size w1 w2) : FQ w w2 g l1 l2 h1 h2 :=
  ⟨h.1.kept hb, h.2.1.kept hb, below_kept h.2.2 (Nat.le_refl _) hb⟩
theorem FQ.put {w w1 : World} {g : Nat} {l1 l2 h1 h2 : Int} (h : FQ w w1 g l1 l2 h1 h2) (hg : w.heap.size < g) (x y z u : Int) : FQ w (put4 w1 g x y z u) g x y z u :=
  ⟨bx2_put h.1 (by omega) _ _ _ _, bx4_put h.2.1 _ _ _ _, below_put4 h.2.2 (by omega) _ _ _ _⟩
theorem impl_FractionOfPath_long (a : ByteArray) (w : World) (h : 100 < a.size) : Calls Try.prog 40 #[.string a] w (FrE (fopR a) w) := by
  have HR := Lib.hid (fopR_long h)
  have h2 : (100 : Int) < (a.size : Int) := by omega
  generalize fopR a = R at *
  clear h
  go_enter Try.func40, Try.ntmps40
  go_wp2
  exact bodyPost_ret (v := .tuple #[.agg #[.int .i64 0, .int .i64 0], .bool false]) (by simp [results, Try.results40, go_sem]) rfl (frE_no HR.out (by first | exact below_one _ _ | exact below_setP (below_one _ _) (Nat.le_refl _)))
theorem fourKeep {wr w1 : World} {g : Nat} {a b c d : Int} (A : Bx4 wr g a b c d) (hb : Below wr.heap.size wr w1) :
    w1.cell? ⟨g, 0, none⟩ = some (.int .i64 a) ∧ w1.cell? ⟨g, 1, none⟩ = some (.int .i64 b) ∧ w1.cell? ⟨g, 2, none⟩ = some (.int .i64 c) ∧ w1.cell? ⟨g, 3, none⟩ = some (.int .i64 d) ∧ Below wr.heap.size wr w1 :=
  ⟨(A.kept hb).1.1, (A.kept hb).1.2.1, (A.kept hb).1.2.2.1, (A.kept hb).1.2.2.2, hb⟩
theorem fourBelow {wr w1 : World} {p0 p1 p2 p3 : Addr} {v0 v1 v2 v3 : Value} (h : w1.cell? p0 = some v0 ∧ w1.cell? p1 = some v1 ∧ w1.cell? p2 = some v2 ∧ w1.cell? p3 = some v3 ∧ Below wr.heap.size wr w1) : Below wr.heap.size wr w1 := h.2.2.2.2
theorem below_put4' {B g : Nat} {w0 w : World} {v0 v1 v2 v3 : Value} (h : Below B w0 w) (hg : B ≤ g) : Below B w0 ((((w.setCell ⟨g, 0, none⟩ v0).setCell ⟨g, 1, none⟩ v1).setCell ⟨g, 2, none⟩ v2).setCell ⟨g, 3, none⟩ v3) :=
  (((h.setCell (p := ⟨g, 0, none⟩) hg _).setCell (p := ⟨g, 1, none⟩) hg _).setCell (p := ⟨g, 2, none⟩) hg _).setCell (p := ⟨g, 3, none⟩) hg _
theorem below_allocQ {B : Nat} {w0 w : World} (h : Below B w0 w) (hB : B ≤ w0.heap.size) (o : Obj) : Below B w0 (w.alloc o) := h.alloc (Nat.le_trans hB h.size) o
theorem Bx4.newd (w : World) (t : TypeId) (a b c d : Int) : Bx4 (w.alloc (.cells #[.int .i64 a, .int .i64 b, .int .i64 c, .int .i64 d] t)).drew w.heap.size a b c d := Bx4.new w t a b c d

set_option maxRecDepth 100000 in
set_option maxHeartbeats 6400000 in
theorem impl_FractionOfPath_fit (a : ByteArray) (w : World) (h : a.size ≤ 100) : Calls Try.prog 40 #[.string a] w (FrE (fopR a) w) := by
  have HR := Lib.hid (fopR_fit h)
  have h2 : ¬ (100 : Int) < (a.size : Int) := by omega
  generalize fopR a = R at *
  go_enter Try.func40, Try.ntmps40
  go_wp2_with fail
  refine (impl_firstParents _).mono ?_
  rintro e w1 ⟨rfl, hb⟩
  have K := (Bx2.new w 25 0 0).kept hb
  have hd := (below_one w (.cells #[.int .i64 0, .int .i64 0] 25)).trans (hb.mono (by simp))
  have HP := Lib.hid (show FQ w (w1.alloc (.cells #[.int .i64 0, .int .i64 1, .int .i64 1, .int .i64 0] 77)) w1.heap.size 0 1 1 0 from
    ⟨K.alloc _, Bx4.new _ _ _ _ _ _, below_kept hd (Nat.le_refl _) (below_one _ _)⟩)
  have hg : w.heap.size < w1.heap.size := K.lt
  clear hb K hd
  go_wp2
  generalize w1.heap.size = g at *
  go_loopw [5, 6, 7, 15] (fun _ _ _ i wr => ∃ (k : Nat) (l1 l2 h1 h2 : Int), k ≤ a.size ∧ i = .int .i64 k ∧ R = fop (a.data.toList.drop k) (l1, l2) (h1, h2) ∧ Nb4 l1 l2 h1 h2 ∧ nbB (l1 + h1) (l2 + h2) = true ∧ FQ w wr g l1 l2 h1 h2) (fun _ _ _ i _ => a.size - (intOf i).toNat)
  case atStart => exact ⟨0, 0, 1, 1, 0, Nat.zero_le _, rfl, HR.out, by unfold Nb4; omega, by decide +kernel, HP.out⟩
  case round =>
    clear HP HR
    obtain ⟨k, l1, l2, h1, h2, hk, rfl, hR, hN, hG, hP⟩ := hrel
    obtain ⟨⟨b1, b2⟩, ⟨b3, b4⟩, ⟨b5, b6⟩, b7, b8⟩ := hN
    have HP := Lib.hid hP
    have hmd : med (l1, l2) (h1, h2) = (l1 + h1, l2 + h2) := rfl
    obtain ⟨⟨⟨p0, p1⟩, p2, p3⟩, ⟨⟨q0, q1, q2, q3⟩, f0, f1, f2, f3⟩, hbl⟩ := id hP
    have k1 := HP.out.2.1.lt
    clear hP hbl
    by_cases hlt : k < a.size
    · have hdr := drop_at a k hlt
      rw [hdr] at hR
      -- what stands behind the letter
      obtain ⟨x1, x2, x3, x4, ok, hbh, hok⟩ : ∃ (x1 x2 x3 x4 : Int) (ok : Bool), (∀ w : World, Calls Try.prog 74 #[.agg #[.int .i64 l1, .int .i64 l2, .int .i64 h1, .int .i64 h2], .int .u8 (a[k].toNat : Int)] w fun e w' => e = .returned (.tuple #[.agg #[.int .i64 x1, .int .i64 x2, .int .i64 x3, .int .i64 x4], .bool ok]) ∧ Below w.heap.size w w') ∧
          ((ok = false ∧ R = none) ∨ (ok = true ∧ Nb4 x1 x2 x3 x4 ∧ R = fop (a.data.toList.drop (k + 1)) (x1, x2) (x3, x4))) := by
        obtain ⟨⟨m1, m2⟩, ⟨n1, n2⟩, _⟩ := nbB_iff.1 hG
        by_cases hx : a[k] = 108
        · refine ⟨l1, l2, l1 + h1, l2 + h2, true, fun w => ?_, .inr ⟨rfl, by unfold Nb4; omega, ?_⟩⟩
          · rw [hx]
            exact impl_behind_l l1 l2 h1 h2 w (by unfold Sm; omega) (by unfold Sm; omega) (by unfold Sm; omega) (by unfold Sm; omega)
          · rw [hR, hx, fop_l (by rw [hmd]; exact hG), hmd]
        · by_cases hx' : a[k] = 114
          · refine ⟨l1 + h1, l2 + h2, h1, h2, true, fun w => ?_, .inr ⟨rfl, by unfold Nb4; omega, ?_⟩⟩
            · rw [hx']
              exact impl_behind_r l1 l2 h1 h2 w (by unfold Sm; omega) (by unfold Sm; omega) (by unfold Sm; omega) (by unfold Sm; omega)
            · rw [hR, hx', fop_r (by rw [hmd]; exact hG), hmd]
          · have g1 : ¬ (a[k].toNat : Int) = 108 := fun e => hx (UInt8.toNat_inj.1 (by simpa using (show a[k].toNat = 108 by omega)))
            have g2 : ¬ (a[k].toNat : Int) = 114 := fun e => hx' (UInt8.toNat_inj.1 (by simpa using (show a[k].toNat = 114 by omega)))
            exact ⟨0, 0, 0, 0, false, fun w => impl_behind_no l1 l2 h1 h2 _ w g1 g2, .inl ⟨rfl, hR.trans (fop_no hx hx')⟩⟩
      have HBh := Lib.hid hbh
      have Hok := Lib.hid hok
      have i0 : (0 : Int) ≤ (k : Int) := by omega
      have i1 : (k : Int) < (a.size : Int) := by omega
      have hS0 := Lib.hid (fourKeep HP.out.2.1 (Below.refl _ _))
      have hA := Lib.hid HP.out.2.1
      clear hbh hok hR hdr hG hmd b1 b2 b3 b4 b5 b6 b7 b8
      go_upto_region 7 with fail
      go_cut [6, 7] (fun s6 s7 wx => ∃ gr, wr.heap.size ≤ gr ∧ s6 = .pointer (some ⟨gr, 0, none⟩) ∧ s7 = .bool ok ∧ Bx4 wx gr x1 x2 x3 x4 ∧ Below wr.heap.size wr wx)
      case first =>
        go_region_held3 (fun w' => w'.cell? ⟨g, 0, none⟩ = some (.int .i64 l1) ∧ w'.cell? ⟨g, 1, none⟩ = some (.int .i64 l2) ∧ w'.cell? ⟨g, 2, none⟩ = some (.int .i64 h1) ∧ w'.cell? ⟨g, 3, none⟩ = some (.int .i64 h2) ∧ Below wr.heap.size wr w')
          (first
            | with_reducible exact drewB4 hS0.out
            | with_reducible exact hS0.out
            | with_reducible exact fourKeep hA.out D1
            | with_reducible exact fourKeep hA.out (below_allocQ D1 (Nat.le_refl _) _)
            | with_reducible exact fourKeep hA.out (below_allocQ (Below.refl _ _) (Nat.le_refl _) _).drew
            | with_reducible exact fourKeep hA.out (below_allocQ (fourBelow hS0.out) (Nat.le_refl _) _)
            | with_reducible exact fourKeep hA.out (below_put4' D1 (Nat.le_refl _))
            | with_reducible exact fourKeep hA.out (below_put4' D1 (by assumption)))
          (first
            | (go_at_call 74; refine (HBh.out _).mono ?_; rintro e w3 ⟨rfl, hb1⟩; (have D1 := below_kept (fourBelow (by assumption)) (Nat.le_refl _) hb1); (have Z1 : wr.heap.size ≤ w3.heap.size := D1.size); (first | (have X1 := (Bx4.newd _ 77 0 0 0 0).kept hb1; have X2 := X1; obtain ⟨⟨y0, y1, y2, y3⟩, z0, z1, z2, z3⟩ := X2) | (have X1 := (Bx4.new _ 77 0 0 0 0).kept hb1; have X2 := X1; obtain ⟨⟨y0, y1, y2, y3⟩, z0, z1, z2, z3⟩ := X2) | (have X1 := Bx4.kept (by assumption) hb1; have X2 := X1; obtain ⟨⟨y0, y1, y2, y3⟩, z0, z1, z2, z3⟩ := X2) | skip)))
        all_goals go_wp2_with fail
        all_goals go_meet
        all_goals refine ⟨_, ?_, rfl, rfl, ?_, ?_⟩
        all_goals first
          | with_reducible exact D1.size
          | with_reducible exact Nat.le_refl _
          | with_reducible assumption
          | with_reducible exact Bx4.new _ _ x1 x2 x3 x4
          | exact bx4_put X1 x1 x2 x3 x4
          | with_reducible exact below_allocQ D1 (Nat.le_refl _) _
          | with_reducible exact below_put4' D1 (Nat.le_refl _)
          | with_reducible exact below_put4' D1 (by assumption)
      case rest =>
        obtain ⟨gr, hgr, rfl, rfl, X, hd⟩ := hcut
        obtain ⟨wb, hwb⟩ : ∃ wb, wb = wc := ⟨_, rfl⟩
        subst hwb
        have K := Lib.hid (HP.out.kept hd)
        have HX := Lib.hid X
        clear p0 p1 p2 p3 q0 q1 q2 q3 f0 f1 f2 f3 k1 hA hS0 HP HBh hd X hgr i0 i1
        obtain ⟨⟨⟨p0, p1⟩, p2, p3⟩, ⟨⟨q0, q1, q2, q3⟩, f0, f1, f2, f3⟩, hbl⟩ := id K.out
        obtain ⟨⟨y0, y1, y2, y3⟩, z0, z1, z2, z3⟩ := id HX.out
        have k0 := K.out.1.lt
        have k1 := K.out.2.1.lt
        have k2 := HX.out.lt
        rcases Hok.out with ⟨rfl, hRn⟩ | ⟨rfl, hN2, hR2⟩
        · have HE := Lib.hid (frE_no hRn (below_setP (v0 := .int .i64 0) (v1 := .int .i64 0) hbl (Nat.le_refl _)))
          clear Hok hbl hRn K HX
          go_wp2
          exact bodyPost_ret (v := .tuple #[.agg #[.int .i64 0, .int .i64 0], .bool false]) (by simp [results, Try.results40, go_sem, p0, p1]) rfl HE.out
        · obtain ⟨⟨c1, c2⟩, ⟨c3, c4⟩, ⟨c5, c6⟩, c7, c8⟩ := id hN2
          have HC := Lib.hid (fun w => impl_child x1 x2 x3 x4 w (by unfold Sm; omega) (by unfold Sm; omega) (by unfold Sm; omega) (by unfold Sm; omega))
          have HG := Lib.hid (fun w => impl_IsFraction (x1 + x3) (x2 + x4) w)
          have hbad := @fop_bad (a.data.toList.drop (k + 1)) (x1, x2) (x3, x4)
          have hmd2 : med (x1, x2) (x3, x4) = (x1 + x3, x2 + x4) := rfl
          rw [hmd2] at hbad
          have Hbad := Lib.hid (fun h => hR2.trans (hbad h))
          have HN2 := Lib.hid hN2
          have HR2 := Lib.hid hR2
          obtain ⟨m, hm⟩ : ∃ m, x1 + x3 = m := ⟨_, rfl⟩
          obtain ⟨n, hn⟩ : ∃ n, x2 + x4 = n := ⟨_, rfl⟩
          have HG0 : Hid (nbB m n = true → nbB (x1 + x3) (x2 + x4) = true) := Lib.hid (by rw [hm, hn]; exact id)
          rw [hm, hn] at HC HG Hbad
          clear hbad hmd2 hN2 hR2 Hok hbl hm hn c1 c2 c3 c4 c5 c6 c7 c8
          go_wp2_with fail
          clear p0 p1 p2 p3 q0 q1 q2 q3 f0 f1 f2 f3 y0 y1 y2 y3 z0 z1 z2 z3 k0 k1 k2
          refine (HC.out _).mono ?_
          rintro e w5 ⟨rfl, hb⟩
          replace K := Lib.hid (K.out.kept hb)
          replace HX := Lib.hid (HX.out.kept hb)
          clear hb HC
          go_wp2_with fail
          refine (HG.out _).mono ?_
          rintro e w6 ⟨rfl, hb⟩
          replace K := Lib.hid (K.out.kept hb)
          replace HX := Lib.hid (HX.out.kept hb)
          clear hb HG
          obtain ⟨⟨⟨p0, p1⟩, p2, p3⟩, ⟨⟨q0, q1, q2, q3⟩, f0, f1, f2, f3⟩, hbl⟩ := id K.out
          obtain ⟨⟨y0, y1, y2, y3⟩, z0, z1, z2, z3⟩ := id HX.out
          have k0 := K.out.1.lt
          have k1 := K.out.2.1.lt
          have k2 := HX.out.lt
          cases hgd : nbB m n
          · have HE := Lib.hid (frE_no (Hbad.out hgd) (below_setP (v0 := .int .i64 0) (v1 := .int .i64 0) hbl (Nat.le_refl _)))
            clear Hbad hbl hgd K HX HG0
            go_wp2
            exact bodyPost_ret (v := .tuple #[.agg #[.int .i64 0, .int .i64 0], .bool false]) (by simp [results, Try.results40, go_sem, p0, p1]) rfl HE.out
          · have K8 := Lib.hid (K.out.put hg x1 x2 x3 x4)
            have HG1 := Lib.hid (HG0.out hgd)
            clear Hbad hbl hgd K HX HG0
            go_wp2
            go_roundw
            case rel => exact ⟨k + 1, x1, x2, x3, x4, by omega, by go_num, HR2.out, HN2.out, HG1.out, K8.out⟩
            case measure => simp [intOf]; omega
    · obtain rfl : k = a.size := by omega
      rw [drop_end] at hR
      have hE := hR.trans (fop_nil (by rw [hmd]; exact hG))
      rw [hmd] at hE
      have HC := Lib.hid (fun w => impl_child l1 l2 h1 h2 w (by unfold Sm; omega) (by unfold Sm; omega) (by unfold Sm; omega) (by unfold Sm; omega))
      have HE := Lib.hid hE
      clear hR hG hE hmd b1 b2 b3 b4 b5 b6 b7 b8
      generalize l1 + h1 = m at *
      generalize l2 + h2 = n at *
      go_wp2_with fail
      clear p0 p1 p2 p3 q0 q1 q2 q3 f0 f1 f2 f3 k1
      refine (HC.out _).mono ?_
      rintro e w5 ⟨rfl, hb⟩
      have K := Lib.hid (HP.out.kept hb)
      clear hb HC HP
      obtain ⟨⟨⟨p0, p1⟩, p2, p3⟩, ⟨⟨q0, q1, q2, q3⟩, f0, f1, f2, f3⟩, hbl⟩ := id K.out
      have k0 := K.out.1.lt
      have HE2 := Lib.hid (frE_yes HE.out (below_setP (v0 := .int .i64 m) (v1 := .int .i64 n) hbl (Nat.le_refl _)))
      clear HE hbl K
      go_wp2
      exact bodyPost_ret (v := .tuple #[.agg #[.int .i64 m, .int .i64 n], .bool true]) (by simp [results, Try.results40, go_sem, p0, p1]) rfl HE2.out
theorem WFractionOfPath.walk (w : World) (a : ByteArray) {p : Prop} (_ : p) : Calls Try.prog 12 #[.string a] w fun e w' => e = .returned (.bool true) ∧ Below w.heap.size w w' := by
  by_cases h : a.size ≤ 100
  · exact WFractionOfPath.core w a _ _ _ (Lib.hid fun w => spec_FractionOfPath_fit a w h) (Lib.hid fun w => impl_FractionOfPath_fit a w h)
  · exact WFractionOfPath.core w a _ _ _ (Lib.hid fun w => spec_FractionOfPath_long a w (by omega)) (Lib.hid fun w => impl_FractionOfPath_long a w (by omega))
end Go.Proofs.Ytaifgfmkkgndkaa
