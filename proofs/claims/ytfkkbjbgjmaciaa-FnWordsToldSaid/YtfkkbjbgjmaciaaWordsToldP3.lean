/- Part 3 of 8 of the proof of the law WordsTold, no condition: one text out of several, since a claim holds 60 files at most. -/
import Derived.Test.YtfkkbjbgjmaciaaWordsToldP2
import Derived.Deep.DeepCutAuto
import Derived.ChangeKeysEq
import Derived.Deep.QuietTactic
import Derived.BigQuiet
import Derived.Laws.IdiomStrings
import Derived.Deep.RegionHeld3
import Derived.ProofKit
import Derived.OpenShut
import Derived.Lib.SmallJoins
import Derived.Deep.Slices
import Derived.Deep.Fields
import Derived.ChangeSame
import Derived.Laws.Rows
import Derived.OneCell
import Derived.IntWalk
/- MatrixOfWord: both contracts, and the law's walk. -/
namespace Go.Proofs.Ytfkkbjbgjmaciaa
set_option linter.unusedVariables false
open Go.RowKit

theorem spec_MatrixOfWord_long (a : ByteArray) (w : World) (h : 40 < a.size) : Calls Try.prog 56 #[.string a] w (WEnd (wl a) w) := by
  have hE := Lib.hid (wEnd_no (l := wl a) (okW_long (by rw [wl_length]; exact h)) ((Below.refl w.heap.size w).alloc (Nat.le_refl _) (.cells #[.int .i64 0, .int .i64 0, .int .i64 0, .int .i64 0] 53)))
  have h2 : (40 : Int) < (a.size : Int) := by omega
  generalize wl a = l at *
  clear h
  go_enter Try.func56, Try.ntmps56
  go_wp2
  refine bodyPost_ret (v := .tuple #[.agg #[.int .i64 0, .int .i64 0, .int .i64 0, .int .i64 0], .bool false]) (by simp [results, Try.results56, go_sem]) rfl ?_
  exact hE.out
theorem impl_MatrixOfWord_long (a : ByteArray) (w : World) (h : 40 < a.size) : Calls Try.prog 55 #[.string a] w (WEnd (wl a) w) := by
  have hE := Lib.hid (wEnd_no (l := wl a) (okW_long (by rw [wl_length]; exact h)) ((Below.refl w.heap.size w).alloc (Nat.le_refl _) (.cells #[.int .i64 0, .int .i64 0, .int .i64 0, .int .i64 0] 53)))
  have h2 : (40 : Int) < (a.size : Int) := by omega
  generalize wl a = l at *
  clear h
  go_enter Try.func55, Try.ntmps55
  go_wp2
  refine bodyPost_ret (v := .tuple #[.agg #[.int .i64 0, .int .i64 0, .int .i64 0, .int .i64 0], .bool false]) (by simp [results, Try.results55, go_sem]) rfl ?_
  exact hE.out
set_option maxRecDepth 100000 in
set_option maxHeartbeats 3200000 in
theorem spec_MatrixOfWord_fit (a : ByteArray) (w : World) (h : a.size ≤ 40) : Calls Try.prog 56 #[.string a] w (WEnd (wl a) w) := by
  have hw := Lib.hid (wl_length a)
  have hx := Lib.hid (wl_get a)
  have h40 : (a.size : Int) ≤ 40 := by omega
  generalize wl a = l at *
  have HBD := Lib.hid (word_bd l (by have := hw.out; omega))
  have Hw := hw.out
  go_enter Try.func56, Try.ntmps56
  go_wp2_with fail
  refine (spec_mxOne _).mono ?_
  rintro e w1 ⟨rfl, hb1⟩
  have R := (Zb.new w 53).kept hb1
  have hd := ((Below.refl w.heap.size w).alloc (Nat.le_refl _) _).trans (hb1.mono (by simp))
  have yR := R.1.lt
  obtain ⟨g, hg⟩ : ∃ g, g = w1.heap.size := ⟨_, rfl⟩
  obtain ⟨wz, hwz⟩ : ∃ wz, wz = w1.alloc (.cells #[.int .i64 1, .int .i64 0, .int .i64 0, .int .i64 1] 53) := ⟨_, rfl⟩
  have Q1 := Lib.hid (show Bx wz g 1 0 0 1 by rw [hwz, hg]; exact Bx.new w1 _ 1 0 0 1)
  have Q2 := Lib.hid (show Fz wz g by rw [hwz, hg]; exact Fz.new w1 _ 1 0 0 1)
  have R3 := Lib.hid (show Zb wz w.heap.size by rw [hwz]; exact R.kept ((Below.refl _ _).alloc (Nat.le_refl _) _))
  have hdz := Lib.hid (show Below w.heap.size w wz by rw [hwz]; exact below_alloc1 hd (Nat.le_refl _) _)
  have hgz : w.heap.size < g := by omega
  clear R hd hb1 yR
  go_wp2
  rw [← hwz, ← hg]
  clear hwz hg
  go_loopw [5, 6, 7] (fun i _ _ wr => ∃ k : Nat, k ≤ a.size ∧ i = .int .i64 k ∧ (∀ j, j < k → okLet (l.getD j 0) = true) ∧ Bx wr g (prodF M4.mul ((l.map letM).take k)).a (prodF M4.mul ((l.map letM).take k)).b (prodF M4.mul ((l.map letM).take k)).c (prodF M4.mul ((l.map letM).take k)).d ∧ Fz wr g ∧ Zb wr w.heap.size ∧ Below w.heap.size w wr) (fun i _ _ _ => a.size - (intOf i).toNat)
  case atStart => exact ⟨0, Nat.zero_le _, rfl, fun j hj => absurd hj (Nat.not_lt_zero _), Q1.out, Q2.out, R3.out, hdz.out⟩
  case round =>
    clear Q1 Q2 R3 hdz
    obtain ⟨k, hk, rfl, hall, hq, hfq, hr, hb⟩ := hrel
    by_cases hlt : k < a.size
    · have hgt := hx.out k hlt
      have k0 : (0 : Int) ≤ (k : Int) := by omega
      have k1 : (k : Int) < (a.size : Int) := by omega
      have y0 := hr.1.lt
      have y1 := hq.lt
      cases hok : okLet (l.getD k 0)
      · have hbad := okW_bad (show k < l.length by omega) hok
        obtain ⟨n1, n2⟩ := okLet_no hok
        rw [hgt] at n1 n2
        have HE := Lib.hid (fun w' (hb : Below w.heap.size w w') => wEnd_no hbad hb)
        have HR := Lib.hid hr
        have HB := Lib.hid hb
        clear hx hbad hall hok hgt hq hfq hr hb
        go_wp2_with fail
        refine (spec_mxLetter_no (((a[k]'hlt).toNat : Nat) : Int) _ n1 n2).mono ?_
        rintro e w2 ⟨rfl, hb2⟩
        have R2 := HR.out.kept hb2
        have D2 := below_kept HB.out (Nat.le_refl _) hb2
        have yz := R2.1.lt
        obtain ⟨⟨z0, z1, z2, z3⟩, ⟨f0, f1, f2, f3⟩⟩ := R2
        have hE := Lib.hid (HE.out _ (below_alloc1 (below_set4 (g := w.heap.size) (x0 := .int .i64 0) (x1 := .int .i64 0) (x2 := .int .i64 0) (x3 := .int .i64 0) D2 (Nat.le_refl _)) (Nat.le_refl _) (.cells #[.int .i64 0, .int .i64 0, .int .i64 0, .int .i64 0] 53)))
        clear hb2 D2 HE HR HB
        go_wp2
        refine bodyPost_ret (v := .tuple #[.agg #[.int .i64 0, .int .i64 0, .int .i64 0, .int .i64 0], .bool false]) ?hr rfl ?hR
        case hr => simp [results, Try.results56, go_sem, z0, z1, z2, z3, yz]
        case hR => exact hE.out
      · have hst := prodF_take M4.mul (l.map letM) k (by rw [List.length_map]; omega)
        have hgl : (l.map letM).getD k M4.one = letM (l.getD k 0) := by simp [show k < l.length by omega]
        obtain ⟨P, Q, hP, hQ, hPQ⟩ := HBD.out k (by rw [List.length_map]; omega)
        rw [hgl] at hst hQ
        have hall2 : ∀ j, j < k + 1 → okLet (l.getD j 0) = true := fun j hj => by
          by_cases e : j = k
          · rw [e]; exact hok
          · exact hall j (by omega)
        have Hall := Lib.hid hall2
        have hxx := okLet_yes hok
        rw [hgt] at hst hQ hxx
        clear hall hall2 hok hgl hx hgt
        generalize prodF M4.mul ((l.map letM).take k) = m at *
        obtain ⟨p, q, r, s⟩ := m
        dsimp only at *
        have Ha := Lib.hid hq
        have Hfq := Lib.hid hfq
        have HR := Lib.hid hr
        have HB := Lib.hid hb
        clear hfq hr hb hq
        rcases hxx with hxx | hxx
        · have hlm : letM (((a[k]'hlt).toNat : Nat) : Int) = ⟨1, 0, 1, 1⟩ := by rw [hxx]; rfl
          rw [hlm] at hst hQ
          clear hlm
          have Ht := Lib.hid (fun w => spec_mxTimes p q r s 1 0 1 1 P Q w hP hQ hPQ)
          have hst2 : prodF M4.mul ((l.map letM).take (k + 1)) = ⟨p * 1 + q * 1, p * 0 + q * 1, r * 1 + s * 1, r * 0 + s * 1⟩ := hst
          obtain ⟨t0, ht0⟩ : ∃ t : Int, t = p * 1 + q * 1 := ⟨_, rfl⟩
          obtain ⟨t1, ht1⟩ : ∃ t : Int, t = p * 0 + q * 1 := ⟨_, rfl⟩
          obtain ⟨t2, ht2⟩ : ∃ t : Int, t = r * 1 + s * 1 := ⟨_, rfl⟩
          obtain ⟨t3, ht3⟩ : ∃ t : Int, t = r * 0 + s * 1 := ⟨_, rfl⟩
          rw [← ht0, ← ht1, ← ht2, ← ht3] at Ht hst2
          have Hst := Lib.hid hst2
          clear ht0 ht1 ht2 ht3 hst hst2 hP hQ hPQ
          go_wp2_with fail
          refine (spec_mxLetter_l _).mono ?_
          rintro e w2 ⟨rfl, hb2⟩
          have hAl : Below w2.heap.size w2 (w2.alloc (.cells #[.int .i64 1, .int .i64 0, .int .i64 1, .int .i64 1] 53)) := (Below.refl _ _).alloc (Nat.le_refl _) _
          have N1 := Bx.new w2 53 1 0 1 1
          have A2 := (Ha.out.kept hb2).kept hAl
          have F2 := (Hfq.out.kept Ha.out.lt hb2).kept (Ha.out.kept hb2).lt hAl
          have R2 := (HR.out.kept hb2).kept hAl
          have D2 := below_kept (below_kept HB.out (Nat.le_refl _) hb2) (Nat.le_refl _) hAl
          obtain ⟨wn, hwn⟩ : ∃ wn, wn = (w2.alloc (.cells #[.int .i64 1, .int .i64 0, .int .i64 1, .int .i64 1] 53)) := ⟨_, rfl⟩
          obtain ⟨gn, hgn⟩ : ∃ gn, gn = w2.heap.size := ⟨_, rfl⟩
          rw [← hwn] at N1 A2 F2 R2 D2
          rw [← hgn] at N1
          clear hb2 hAl Ha Hfq HR HB
          have yA := A2.lt
          have yN := N1.lt
          have A3 := Lib.hid A2
          have F3 := Lib.hid F2
          have R3 := Lib.hid R2
          have D3 := Lib.hid D2
          obtain ⟨a0, a1, a2, a3⟩ := A2
          obtain ⟨n0, n1, n2, n3⟩ := N1
          clear F2 R2 D2
          go_upto_region 8 with fail
          rw [← hwn, ← hgn]
          clear hwn hgn
          go_wp2_with fail
          refine (Ht.out _).mono ?_
          rintro e w3 ⟨rfl, hb3⟩
          have A4 := A3.out.kept hb3
          have F4 := F3.out.kept A3.out.lt hb3
          have R4 := R3.out.kept hb3
          have D4 := below_kept D3.out (Nat.le_refl _) hb3
          have J1 := Lib.hid (bx_sto4 A4 t0 t1 t2 t3)
          have J2 := Lib.hid (fz_sto4 (g := g) F4 t0 t1 t2 t3)
          have J4 : Hid (Zb (sto4 w3 g t0 t1 t2 t3) w.heap.size) := Lib.hid ⟨bx_sto4_far R4.1 (by omega) t0 t1 t2 t3, fz_sto4 (g := g) R4.2 t0 t1 t2 t3⟩
          have J5 := Lib.hid (below_put4 (g := g) D4 (by omega) t0 t1 t2 t3)
          have y4 := A4.lt
          clear a0 a1 a2 a3 n0 n1 n2 n3
          obtain ⟨a0, a1, a2, a3⟩ := A4
          obtain ⟨f0, f1, f2, f3⟩ := F4
          clear hb3 R4 D4 A3 F3 R3 D3 Ht yA yN
          unfold sto4 at J1 J2 J4 J5
          go_wp2
          go_roundw
          case rel => exact ⟨k + 1, by omega, by go_num, Hall.out, by rw [Hst.out]; exact J1.out, J2.out, J4.out, J5.out⟩
          case measure => simp [intOf]; omega
        · have hlm : letM (((a[k]'hlt).toNat : Nat) : Int) = ⟨1, 1, 0, 1⟩ := by rw [hxx]; rfl
          rw [hlm] at hst hQ
          clear hlm
          have Ht := Lib.hid (fun w => spec_mxTimes p q r s 1 1 0 1 P Q w hP hQ hPQ)
          have hst2 : prodF M4.mul ((l.map letM).take (k + 1)) = ⟨p * 1 + q * 0, p * 1 + q * 1, r * 1 + s * 0, r * 1 + s * 1⟩ := hst
          obtain ⟨t0, ht0⟩ : ∃ t : Int, t = p * 1 + q * 0 := ⟨_, rfl⟩
          obtain ⟨t1, ht1⟩ : ∃ t : Int, t = p * 1 + q * 1 := ⟨_, rfl⟩
          obtain ⟨t2, ht2⟩ : ∃ t : Int, t = r * 1 + s * 0 := ⟨_, rfl⟩
          obtain ⟨t3, ht3⟩ : ∃ t : Int, t = r * 1 + s * 1 := ⟨_, rfl⟩
          rw [← ht0, ← ht1, ← ht2, ← ht3] at Ht hst2
          have Hst := Lib.hid hst2
          clear ht0 ht1 ht2 ht3 hst hst2 hP hQ hPQ
          go_wp2_with fail
          refine (spec_mxLetter_r _).mono ?_
          rintro e w2 ⟨rfl, hb2⟩
          have hAl : Below w2.heap.size w2 (w2.alloc (.cells #[.int .i64 1, .int .i64 1, .int .i64 0, .int .i64 1] 53)) := (Below.refl _ _).alloc (Nat.le_refl _) _
          have N1 := Bx.new w2 53 1 1 0 1
          have A2 := (Ha.out.kept hb2).kept hAl
          have F2 := (Hfq.out.kept Ha.out.lt hb2).kept (Ha.out.kept hb2).lt hAl
          have R2 := (HR.out.kept hb2).kept hAl
          have D2 := below_kept (below_kept HB.out (Nat.le_refl _) hb2) (Nat.le_refl _) hAl
          obtain ⟨wn, hwn⟩ : ∃ wn, wn = (w2.alloc (.cells #[.int .i64 1, .int .i64 1, .int .i64 0, .int .i64 1] 53)) := ⟨_, rfl⟩
          obtain ⟨gn, hgn⟩ : ∃ gn, gn = w2.heap.size := ⟨_, rfl⟩
          rw [← hwn] at N1 A2 F2 R2 D2
          rw [← hgn] at N1
          clear hb2 hAl Ha Hfq HR HB
          have yA := A2.lt
          have yN := N1.lt
          have A3 := Lib.hid A2
          have F3 := Lib.hid F2
          have R3 := Lib.hid R2
          have D3 := Lib.hid D2
          obtain ⟨a0, a1, a2, a3⟩ := A2
          obtain ⟨n0, n1, n2, n3⟩ := N1
          clear F2 R2 D2
          go_upto_region 8 with fail
          rw [← hwn, ← hgn]
          clear hwn hgn
          go_wp2_with fail
          refine (Ht.out _).mono ?_
          rintro e w3 ⟨rfl, hb3⟩
          have A4 := A3.out.kept hb3
          have F4 := F3.out.kept A3.out.lt hb3
          have R4 := R3.out.kept hb3
          have D4 := below_kept D3.out (Nat.le_refl _) hb3
          have J1 := Lib.hid (bx_sto4 A4 t0 t1 t2 t3)
          have J2 := Lib.hid (fz_sto4 (g := g) F4 t0 t1 t2 t3)
          have J4 : Hid (Zb (sto4 w3 g t0 t1 t2 t3) w.heap.size) := Lib.hid ⟨bx_sto4_far R4.1 (by omega) t0 t1 t2 t3, fz_sto4 (g := g) R4.2 t0 t1 t2 t3⟩
          have J5 := Lib.hid (below_put4 (g := g) D4 (by omega) t0 t1 t2 t3)
          have y4 := A4.lt
          clear a0 a1 a2 a3 n0 n1 n2 n3
          obtain ⟨a0, a1, a2, a3⟩ := A4
          obtain ⟨f0, f1, f2, f3⟩ := F4
          clear hb3 R4 D4 A3 F3 R3 D3 Ht yA yN
          unfold sto4 at J1 J2 J4 J5
          go_wp2
          go_roundw
          case rel => exact ⟨k + 1, by omega, by go_num, Hall.out, by rw [Hst.out]; exact J1.out, J2.out, J4.out, J5.out⟩
          case measure => simp [intOf]; omega
    · obtain rfl : k = a.size := by omega
      have hokw : okW l = true := okW_iff.2 ⟨by omega, fun j hj => hall j (by omega)⟩
      have htk : (l.map letM).take a.size = l.map letM := List.take_of_length_le (by rw [List.length_map]; omega)
      rw [htk] at hq
      have hW : prodF M4.mul (l.map letM) = wordM l := rfl
      rw [hW] at hq
      obtain ⟨ok, hk2⟩ : ∃ x, (wordM l).ok = x := ⟨_, rfl⟩
      obtain ⟨F, hF⟩ : ∃ x, (wordM l).fit = x := ⟨_, rfl⟩
      have Hm := Lib.hid (fun w => spec_mxIf_as (wordM l) F ok hF hk2 w)
      have HE := Lib.hid (fun w' hb => wEnd_yes (w := w) (w' := w') hokw hF hk2 hb)
      clear hokw htk hW hF hk2 hall hx HBD
      generalize wordM l = m at *
      have HR := Lib.hid hr
      have HB := Lib.hid hb
      have yq := hq.lt
      obtain ⟨q0, q1, q2, q3⟩ := hq
      clear hfq hr hb
      go_wp2_with fail
      refine (Hm.out _).mono ?_
      rintro e w2 ⟨rfl, hb2⟩
      have R2 := HR.out.kept hb2
      have D2 := below_kept HB.out (Nat.le_refl _) hb2
      obtain ⟨⟨z0, z1, z2, z3⟩, ⟨f0, f1, f2, f3⟩⟩ := R2
      have hE := Lib.hid (HE.out _ (below_set4 (g := w.heap.size) (x0 := .int .i64 F.a) (x1 := .int .i64 F.b) (x2 := .int .i64 F.c) (x3 := .int .i64 F.d) D2 (Nat.le_refl _)))
      clear hb2 D2 HE HR HB Hm q0 q1 q2 q3 yq
      go_wp2
      refine bodyPost_ret (v := .tuple #[.agg #[.int .i64 F.a, .int .i64 F.b, .int .i64 F.c, .int .i64 F.d], .bool ok]) ?hr rfl ?hR
      case hr => simp [results, Try.results56, go_sem, z0, z1, z2, z3]
      case hR => exact hE.out
theorem below_set4w {B g a : Nat} {w0 w : World} (h : Below B w0 w) (hg : B ≤ g) (x0 x1 x2 x3 : Value) : Below B w0 ((((w.setCell ⟨g, a, none⟩ x0).setCell ⟨g, a + 1, none⟩ x1).setCell ⟨g, a + 2, none⟩ x2).setCell ⟨g, a + 3, none⟩ x3) :=
  (((h.setCell (p := ⟨g, a, none⟩) hg _).setCell (p := ⟨g, a + 1, none⟩) hg _).setCell (p := ⟨g, a + 2, none⟩) hg _).setCell (p := ⟨g, a + 3, none⟩) hg _
theorem zb_set4w {g a z : Nat} {w : World} (h : Zb w z) (hne : z ≠ g) (x0 x1 x2 x3 : Value) : Zb ((((w.setCell ⟨g, a, none⟩ x0).setCell ⟨g, a + 1, none⟩ x1).setCell ⟨g, a + 2, none⟩ x2).setCell ⟨g, a + 3, none⟩ x3) z := by
  obtain ⟨⟨z0, z1, z2, z3⟩, ⟨f0, f1, f2, f3⟩⟩ := h
  unfold Zb Bx Fz
  simp [go_sem, z0, z1, z2, z3, f0, f1, f2, f3, hne]
set_option maxRecDepth 100000 in
set_option maxHeartbeats 3200000 in
theorem impl_MatrixOfWord_fit (a : ByteArray) (w : World) (h : a.size ≤ 40) : Calls Try.prog 55 #[.string a] w (WEnd (wl a) w) := by
  have hw := Lib.hid (wl_length a)
  have hx := Lib.hid (wl_get a)
  have h40 : (a.size : Int) ≤ 40 := by omega
  generalize wl a = l at *
  have HBD := Lib.hid (word_bd l (by have := hw.out; omega))
  have Hw := hw.out
  obtain ⟨i0, hi, hz0, hz1, hz2⟩ := info_parts infoQ
  have hbytes : i0.bytes * a.size ≤ 281474976710656 := by rw [hz2]; omega
  have hmax : a.size ≤ maxLen := by unfold maxLen; omega
  go_enter Try.func55, Try.ntmps55
  go_wp2_with (at_make; refine wpList_make_full _ rfl _ _ _ rfl (w.heap.size + 1) 111 i0 (.agg #[.int .i64 0, .int .i64 0, .int .i64 0, .int .i64 0]) 4 Try.underlying109 hi hz0 hz1 _ _ _ _ a.size rfl rfl rfl rfl hbytes hmax (by simp) ?_; intro w3 hown3 hgrow3)
  have hb3 : Below w.heap.size w w3 := ((Below.refl w.heap.size w).alloc (Nat.le_refl _) _).grown hgrow3 (by simp) (fun _ e => by cases e)
  have hz : Zb w3 w.heap.size := (Zb.new w 53).kept ((Below.refl _ _).grown hgrow3 (Nat.le_refl _) (fun _ e => by cases e))
  have hq : Qw w3 (w.heap.size + 1) (w.heap.size + 1) a.size (List.replicate a.size M4.zero) := by
    have e := Qw.made hown3
    simpa using e
  have e0 := wF_zero l
  rw [Hw] at e0
  rw [← e0] at hq
  obtain ⟨g, hg⟩ : ∃ g, g = w.heap.size + 1 := ⟨_, rfl⟩
  rw [← hg] at hq ⊢
  have Hb3 := Lib.hid hb3
  have Hz := Lib.hid hz
  have Hq := Lib.hid hq
  clear hown3 hgrow3 hb3 hz hq hbytes hmax hz0 hz1 hz2 hi e0
  have yg : w.heap.size < g := by omega
  clear hg
  go_loopw [5, 6, 7, 17] (fun _ _ _ i wr => ∃ k : Nat, k ≤ a.size ∧ i = .int .i64 k ∧ (∀ j, j < k → okLet (l.getD j 0) = true) ∧ Qw wr g g a.size (wF l k) ∧ Zb wr w.heap.size ∧ Below w.heap.size w wr) (fun _ _ _ i _ => a.size - (intOf i).toNat)
  case atStart => exact ⟨0, Nat.zero_le _, rfl, fun j hj => absurd hj (Nat.not_lt_zero _), Hq.out, Hz.out, Hb3.out⟩
  case round =>
    clear Hq Hz Hb3
    obtain ⟨k, hk, rfl, hall, hq, hz, hb⟩ := hrel
    by_cases hlt : k < a.size
    · have hgt := hx.out k hlt
      have k0 : (0 : Int) ≤ (k : Int) := by omega
      have k1 : (k : Int) < (a.size : Int) := by omega
      have y0 := hz.1.lt
      have y1 := hq.lt.2
      cases hok : okLet (l.getD k 0)
      · have hbad := okW_bad (show k < l.length by omega) hok
        obtain ⟨n1, n2⟩ := okLet_no hok
        rw [hgt] at n1 n2
        have HE := Lib.hid (fun w' (hb : Below w.heap.size w w') => wEnd_no hbad hb)
        have HR := Lib.hid hz
        have HB := Lib.hid hb
        clear hx hbad hall hok hgt hq hz hb
        go_wp2_with fail
        refine (impl_letter_no (((a[k]'hlt).toNat : Nat) : Int) _ n1 n2).mono ?_
        rintro e w2 ⟨rfl, hb2⟩
        have R2 := HR.out.kept hb2
        have D2 := below_kept HB.out (Nat.le_refl _) hb2
        have yz := R2.1.lt
        obtain ⟨⟨z0, z1, z2, z3⟩, ⟨f0, f1, f2, f3⟩⟩ := R2
        have hE := Lib.hid (HE.out _ (below_alloc1 (below_set4 (g := w.heap.size) (x0 := .int .i64 0) (x1 := .int .i64 0) (x2 := .int .i64 0) (x3 := .int .i64 0) D2 (Nat.le_refl _)) (Nat.le_refl _) (.cells #[.int .i64 0, .int .i64 0, .int .i64 0, .int .i64 0] 111)))
        clear hb2 D2 HE HR HB
        go_wp2
        refine bodyPost_ret (v := .tuple #[.agg #[.int .i64 0, .int .i64 0, .int .i64 0, .int .i64 0], .bool false]) ?hr rfl ?hR
        case hr => simp [results, Try.results55, go_sem, z0, z1, z2, z3, yz]
        case hR => exact hE.out
      · have hst := wF_set l k (by omega)
        have hall2 : ∀ j, j < k + 1 → okLet (l.getD j 0) = true := fun j hj => by
          by_cases e : j = k
          · rw [e]; exact hok
          · exact hall j (by omega)
        have Hall := Lib.hid hall2
        have hxx := okLet_yes hok
        rw [hgt] at hst hxx
        have HR := Lib.hid hz
        have HB := Lib.hid hb
        have HQ := Lib.hid hq
        clear hall hall2 hok hx hgt hz hb hq
        rcases hxx with hxx | hxx
        · have hlm : letM (((a[k]'hlt).toNat : Nat) : Int) = ⟨1, 0, 1, 1⟩ := by rw [hxx]; rfl
          rw [hlm] at hst
          clear hlm
          have Hst := Lib.hid hst
          clear hst
          go_wp2_with fail
          refine (impl_letter_l _).mono ?_
          rintro e w2 ⟨rfl, hb2⟩
          have hAl : Below w2.heap.size w2 (w2.alloc (.cells #[.int .i64 1, .int .i64 0, .int .i64 1, .int .i64 1] 111)) := (Below.refl _ _).alloc (Nat.le_refl _) _
          have N1 := Bx.new w2 111 1 0 1 1
          have Q2 := (HQ.out.kept hb2).kept hAl
          have R2 := (HR.out.kept hb2).kept hAl
          have D2 := below_kept (below_kept HB.out (Nat.le_refl _) hb2) (Nat.le_refl _) hAl
          obtain ⟨wn, hwn⟩ : ∃ wn, wn = (w2.alloc (.cells #[.int .i64 1, .int .i64 0, .int .i64 1, .int .i64 1] 111)) := ⟨_, rfl⟩
          obtain ⟨gn, hgn⟩ : ∃ gn, gn = w2.heap.size := ⟨_, rfl⟩
          rw [← hwn] at N1 Q2 R2 D2
          rw [← hgn] at N1
          clear hb2 hAl HQ HR HB
          have yN := N1.lt
          have yQ := Q2.lt.2
          obtain ⟨c0, c1, c2, c3⟩ := Q2.cell k hlt
          have f0 := Q2.frozen (k * 4)
          have f1 := Q2.frozen (k * 4 + 1)
          have f2 := Q2.frozen (k * 4 + 2)
          have f3 := Q2.frozen (k * 4 + 3)
          have Q3 := Q2.stored k hlt 1 0 1 1
          rw [Hst.out] at Q3
          have HQ3 := Lib.hid Q3
          have HD3 := Lib.hid (below_set4w D2 (g := g) (a := k * 4) (Nat.le_of_lt yg) (.int .i64 1) (.int .i64 0) (.int .i64 1) (.int .i64 1))
          have HR3 := Lib.hid (zb_set4w R2 (g := g) (a := k * 4) (Nat.ne_of_lt yg) (.int .i64 1) (.int .i64 0) (.int .i64 1) (.int .i64 1))
          generalize (wF l k).getD k M4.one = z at *
          obtain ⟨n0, n1, n2, n3⟩ := N1
          clear Q2 Q3 R2 D2 Hst
          go_upto_region 8 with fail
          rw [← hwn, ← hgn]
          clear hwn hgn
          go_wp2
          go_roundw
          case rel => exact ⟨k + 1, by omega, by go_num, Hall.out, HQ3.out, HR3.out, HD3.out⟩
          case measure => simp [intOf]; omega
        · have hlm : letM (((a[k]'hlt).toNat : Nat) : Int) = ⟨1, 1, 0, 1⟩ := by rw [hxx]; rfl
          rw [hlm] at hst
          clear hlm
          have Hst := Lib.hid hst
          clear hst
          go_wp2_with fail
          refine (impl_letter_r _).mono ?_
          rintro e w2 ⟨rfl, hb2⟩
          have hAl : Below w2.heap.size w2 (w2.alloc (.cells #[.int .i64 1, .int .i64 1, .int .i64 0, .int .i64 1] 111)) := (Below.refl _ _).alloc (Nat.le_refl _) _
          have N1 := Bx.new w2 111 1 1 0 1
          have Q2 := (HQ.out.kept hb2).kept hAl
          have R2 := (HR.out.kept hb2).kept hAl
          have D2 := below_kept (below_kept HB.out (Nat.le_refl _) hb2) (Nat.le_refl _) hAl
          obtain ⟨wn, hwn⟩ : ∃ wn, wn = (w2.alloc (.cells #[.int .i64 1, .int .i64 1, .int .i64 0, .int .i64 1] 111)) := ⟨_, rfl⟩
          obtain ⟨gn, hgn⟩ : ∃ gn, gn = w2.heap.size := ⟨_, rfl⟩
          rw [← hwn] at N1 Q2 R2 D2
          rw [← hgn] at N1
          clear hb2 hAl HQ HR HB
          have yN := N1.lt
          have yQ := Q2.lt.2
          obtain ⟨c0, c1, c2, c3⟩ := Q2.cell k hlt
          have f0 := Q2.frozen (k * 4)
          have f1 := Q2.frozen (k * 4 + 1)
          have f2 := Q2.frozen (k * 4 + 2)
          have f3 := Q2.frozen (k * 4 + 3)
          have Q3 := Q2.stored k hlt 1 1 0 1
          rw [Hst.out] at Q3
          have HQ3 := Lib.hid Q3
          have HD3 := Lib.hid (below_set4w D2 (g := g) (a := k * 4) (Nat.le_of_lt yg) (.int .i64 1) (.int .i64 1) (.int .i64 0) (.int .i64 1))
          have HR3 := Lib.hid (zb_set4w R2 (g := g) (a := k * 4) (Nat.ne_of_lt yg) (.int .i64 1) (.int .i64 1) (.int .i64 0) (.int .i64 1))
          generalize (wF l k).getD k M4.one = z at *
          obtain ⟨n0, n1, n2, n3⟩ := N1
          clear Q2 Q3 R2 D2 Hst
          go_upto_region 8 with fail
          rw [← hwn, ← hgn]
          clear hwn hgn
          go_wp2
          go_roundw
          case rel => exact ⟨k + 1, by omega, by go_num, Hall.out, HQ3.out, HR3.out, HD3.out⟩
          case measure => simp [intOf]; omega
    · obtain rfl : k = a.size := by omega
      have hokw : okW l = true := okW_iff.2 ⟨by omega, fun j hj => hall j (by omega)⟩
      have ea : wF l a.size = l.map letM := by rw [← Hw]; exact wF_all l
      rw [ea] at hq
      have hs := hq.slq
      have hlen : (l.map letM).length = a.size := by rw [List.length_map]; exact Hw
      have hmul := impl_mulAll_T _ a.size a.size _ (l.map letM) wr hlen hs (Nat.le_refl _) (by omega) HBD.out
      have hW : prodF M4.mul (l.map letM) = wordM l := rfl
      rw [hW] at hmul
      obtain ⟨ok, hk2⟩ : ∃ x, (wordM l).ok = x := ⟨_, rfl⟩
      obtain ⟨F, hF⟩ : ∃ x, (wordM l).fit = x := ⟨_, rfl⟩
      have Hm := Lib.hid (fun w => impl_matrixOf_as (wordM l) F ok hF hk2 w)
      have HE := Lib.hid (fun w' hb => wEnd_yes (w := w) (w' := w') hokw hF hk2 hb)
      have Hmul := Lib.hid hmul
      clear hokw hW hF hk2 hall hx HBD hmul hs hlen ea
      generalize wordM l = m at *
      have HR := Lib.hid hz
      have HB := Lib.hid hb
      have yq := hq.lt.2
      clear hz hb hq
      go_wp2_with fail
      refine Hmul.out.mono ?_
      rintro e w2 ⟨rfl, hb2⟩
      have R2 := HR.out.kept hb2
      have D2 := below_kept HB.out (Nat.le_refl _) hb2
      clear hb2 Hmul HR HB
      go_wp2_with fail
      refine (Hm.out _).mono ?_
      rintro e w4 ⟨rfl, hb4⟩
      have R4 := R2.kept hb4
      have D4 := below_kept D2 (Nat.le_refl _) hb4
      have yz := R4.1.lt
      obtain ⟨⟨z0, z1, z2, z3⟩, ⟨f0, f1, f2, f3⟩⟩ := R4
      have hE := Lib.hid (HE.out _ (below_set4 (g := w.heap.size) (x0 := .int .i64 F.a) (x1 := .int .i64 F.b) (x2 := .int .i64 F.c) (x3 := .int .i64 F.d) D4 (Nat.le_refl _)))
      clear hb4 D2 D4 R2 HE Hm
      go_wp2
      refine bodyPost_ret (v := .tuple #[.agg #[.int .i64 F.a, .int .i64 F.b, .int .i64 F.c, .int .i64 F.d], .bool ok]) ?hr rfl ?hR
      case hr => simp [results, Try.results55, go_sem, z0, z1, z2, z3]
      case hR => exact hE.out
end Go.Proofs.Ytfkkbjbgjmaciaa

/- Squares and matrices compared: the four numbers, one after the other. -/
namespace Go.Proofs.Ytfkkbjbgjmaciaa
set_option linter.unusedVariables false
open Go.RowKit

theorem eqB_bool (a b c d e f g h : Int) : M4.eqB ⟨a, b, c, d⟩ ⟨e, f, g, h⟩ = ((a == e) && ((b == f) && ((c == g) && (d == h)))) := by
  unfold M4.eqB
  rw [Bool.eq_iff_iff]
  simp
theorem plain_int4 : Try.prog.plainKey 3 = true := by kernel_rfl
theorem cells_int4 : Try.prog.cellsOf 3 = 1 := by kernel_rfl
set_option maxRecDepth 100000 in
theorem run_items4 (xs ys : List Int) (w : World) : ∀ is : List Nat, (∀ i ∈ is, i < xs.length ∧ i < ys.length) →
    (Op.eqItems 9999 3 1 (ics xs).toArray (ics ys).toArray is).run Try.prog w = .ok (is.all fun i => xs.getD i 0 == ys.getD i 0) w := by
  have e : ∀ (a b : Int) (w : World), (Op.equalIn 9999 3 (.int .i64 a) (.int .i64 b)).run Try.prog w = .ok (a == b) w := fun a b w => run_equalIn_int w 9998 3 .i64 .i64 a b Try.underlying3
  intro is
  induction is with
  | nil => intro _; rfl
  | cons i is ih =>
    intro h
    obtain ⟨h1, h2⟩ := h i List.mem_cons_self
    have hx : (ics xs).toArray[i]? = some (.int .i64 (xs.getD i 0)) := by
      have := ics_get xs i h1
      simpa using this
    have hy : (ics ys).toArray[i]? = some (.int .i64 (ys.getD i 0)) := by
      have := ics_get ys i h2
      simpa using this
    simp only [Op.eqItems, Sem.run_bind, Nat.mul_one, run_part_plain w plain_int4 hx, run_part_plain w plain_int4 hy, e, Result.andThen_ok, List.all_cons]
    generalize (xs.getD i 0 == ys.getD i 0) = bx
    cases bx
    · simp only [Bool.not_false, if_true, Sem.run_pure, Bool.false_and]
    · simp only [Bool.not_true, Bool.false_eq_true, if_false, Bool.true_and, Sem.run_bind]
      exact ih fun k hk => h k (List.mem_cons_of_mem _ hk)
set_option maxRecDepth 100000 in
theorem run_sq_eq (a b c d e f g h : Int) (w : World) :
    (Op.equalIn 10000 111 (.agg #[.int .i64 a, .int .i64 b, .int .i64 c, .int .i64 d]) (.agg #[.int .i64 e, .int .i64 f, .int .i64 g, .int .i64 h])).run Try.prog w = .ok (M4.eqB ⟨a, b, c, d⟩ ⟨e, f, g, h⟩) w := by
  obtain ⟨i0, hi, hz0, hz1, hz2⟩ := info_parts infoI
  have hr := run_items4 [a, b, c, d] [e, f, g, h] w (List.range 4) (fun i hi => by have := List.mem_range.1 hi; simp; omega)
  rw [run_equalIn_array (d := 9999) w _ _ Try.underlying111 hi, cells_int4]
  refine hr.trans ?_
  rw [eqB_bool, show List.range 4 = [0, 1, 2, 3] from rfl]
  simp
set_option maxRecDepth 100000 in
theorem run_mx_eq (a b c d e f g h : Int) (w : World) :
    (Op.equalIn 10000 53 (.agg #[.int .i64 a, .int .i64 b, .int .i64 c, .int .i64 d]) (.agg #[.int .i64 e, .int .i64 f, .int .i64 g, .int .i64 h])).run Try.prog w = .ok (M4.eqB ⟨a, b, c, d⟩ ⟨e, f, g, h⟩) w := by
  rw [run_equalIn_struct (d := 9999) w _ _ _ (by kernel_rfl) (by kernel_rfl)]
  rw [eqB_bool]
  have he : ∀ (a b : Int) (w : World), (Op.equalIn 9999 3 (.int .i64 a) (.int .i64 b)).run Try.prog w = .ok (a == b) w := fun a b w => run_equalIn_int w 9998 3 .i64 .i64 a b Try.underlying3
  have hf : (Try.prog.fieldsOf 53).toList.map (fun f => (decide (f.name ≠ "_"), f.type, f.offset)) = [(true, 3, 0), (true, 3, 1), (true, 3, 2), (true, 3, 3)] := by kernel_rfl
  generalize (Try.prog.fieldsOf 53).toList = fs at hf
  obtain ⟨f0, fs, rfl⟩ : ∃ x y, fs = x :: y := by cases fs with | nil => simp at hf | cons x y => exact ⟨x, y, rfl⟩
  obtain ⟨f1, fs, rfl⟩ : ∃ x y, fs = x :: y := by cases fs with | nil => simp at hf | cons x y => exact ⟨x, y, rfl⟩
  obtain ⟨f2, fs, rfl⟩ : ∃ x y, fs = x :: y := by cases fs with | nil => simp at hf | cons x y => exact ⟨x, y, rfl⟩
  obtain ⟨f3, fs, rfl⟩ : ∃ x y, fs = x :: y := by cases fs with | nil => simp at hf | cons x y => exact ⟨x, y, rfl⟩
  simp only [List.map_cons, List.cons.injEq, Prod.mk.injEq, decide_eq_true_eq, List.map_eq_nil_iff] at hf
  obtain ⟨⟨n0, t0, o0⟩, ⟨n1, t1, o1⟩, ⟨n2, t2, o2⟩, ⟨n3, t3, o3⟩, rfl⟩ := hf
  have p : ∀ (i : Nat) (v : Value) (xs : Array Value) (w : World), xs[i]? = some v → (part 3 xs i).run Try.prog w = .ok v w := fun i v xs w hx => run_part_plain w plain_int4 hx
  simp only [Op.eqFields, Sem.run_bind, if_pos n0, if_pos n1, if_pos n2, if_pos n3, t0, t1, t2, t3, o0, o1, o2, o3]
  rw [p 0 (.int .i64 a) _ _ rfl]
  simp only [Result.andThen_ok]
  rw [p 0 (.int .i64 e) _ _ rfl]
  simp only [Result.andThen_ok, he]
  generalize (a == e) = b0
  cases b0
  · simp
  simp only [Bool.not_true, Bool.false_eq_true, if_false, Bool.true_and, Sem.run_bind]
  rw [p 1 (.int .i64 b) _ _ rfl]
  simp only [Result.andThen_ok]
  rw [p 1 (.int .i64 f) _ _ rfl]
  simp only [Result.andThen_ok, he]
  generalize (b == f) = b1
  cases b1
  · simp
  simp only [Bool.not_true, Bool.false_eq_true, if_false, Bool.true_and, Sem.run_bind]
  rw [p 2 (.int .i64 c) _ _ rfl]
  simp only [Result.andThen_ok]
  rw [p 2 (.int .i64 g) _ _ rfl]
  simp only [Result.andThen_ok, he]
  generalize (c == g) = b2
  cases b2
  · simp
  simp only [Bool.not_true, Bool.false_eq_true, if_false, Bool.true_and, Sem.run_bind]
  rw [p 3 (.int .i64 d) _ _ rfl]
  simp only [Result.andThen_ok]
  rw [p 3 (.int .i64 h) _ _ rfl]
  simp only [Result.andThen_ok, he]
  generalize (d == h) = b3
  cases b3 <;> simp
end Go.Proofs.Ytfkkbjbgjmaciaa

/- The model's WordOfMatrix. -/
namespace Go.Proofs.Ytfkkbjbgjmaciaa
set_option linter.unusedVariables false
open Go.RowKit

def FzW (w : World) (g : Nat) : Prop := w.frozen? ⟨g, 0, none⟩ = false ∧ w.frozen? ⟨g, 1, none⟩ = false ∧ w.frozen? ⟨g, 2, none⟩ = false ∧ w.frozen? ⟨g, 3, none⟩ = false
theorem FzW.new (w : World) (t : TypeId) (a b c d : Int) : FzW (w.alloc (.cells #[.int .i64 a, .int .i64 b, .int .i64 c, .int .i64 d] t)) w.heap.size := by
  unfold FzW
  simp [go_sem]
theorem FzW.kept {w w' : World} {g : Nat} (h : FzW w g) (hg : g < w.heap.size) (hb : Below w.heap.size w w') : FzW w' g :=
  ⟨(hb.frozen (p := ⟨g, 0, none⟩) hg).trans h.1, (hb.frozen (p := ⟨g, 1, none⟩) hg).trans h.2.1, (hb.frozen (p := ⟨g, 2, none⟩) hg).trans h.2.2.1, (hb.frozen (p := ⟨g, 3, none⟩) hg).trans h.2.2.2⟩
theorem below_set2 {B g : Nat} {w0 w : World} (i j : Nat) (x0 x1 : Value) (h : Below B w0 w) (hg : B ≤ g) : Below B w0 ((w.setCell ⟨g, i, none⟩ x0).setCell ⟨g, j, none⟩ x1) :=
  (h.setCell (p := ⟨g, i, none⟩) hg _).setCell (p := ⟨g, j, none⟩) hg _
def WomE (R : List UInt8 × Bool) (w : World) (e : Ending) (w' : World) : Prop := e = .returned (.tuple #[.string (bsL R.1), .bool R.2]) ∧ Below w.heap.size w w'
theorem womE_no {R : List UInt8 × Bool} {w w' : World} (h : R = ([], false)) (hb : Below w.heap.size w w') : WomE R w (.returned (.tuple #[.string ⟨#[]⟩, .bool false])) w' := by
  subst h
  exact ⟨rfl, hb⟩

theorem spec_WordOfMatrix_no (a b c d : Int) (w : World) (h : womB a b c d = false) : Calls Try.prog 60 #[.agg #[.int .i64 a, .int .i64 b, .int .i64 c, .int .i64 d]] w (WomE (womR a b c d) w) := by
  have hR := womR_no h
  have hc := spec_mxGood a b c d
  have HR := Lib.hid hR
  clear hR
  go_enter Try.func60, Try.ntmps60
  go_wp2_with fail
  refine (hc _).mono ?_
  rintro e w1 ⟨rfl, hb1⟩
  have A := (Bx.new w 53 a b c d).kept hb1
  have hd := ((Below.refl w.heap.size w).alloc (Nat.le_refl _) _).trans (hb1.mono (by simp))
  have HE := Lib.hid (womE_no HR.out hd)
  clear hb1 hd hc
  obtain ⟨a0, a1, a2, a3⟩ := A
  unfold womB at h
  cases hm : mxB a b c d
  · clear h
    go_wp2
    go_ret2
    exact HE.out
  · rw [hm, Bool.true_and] at h
    have h' : ¬(0 ≤ a ∧ 0 ≤ b ∧ 0 ≤ c ∧ 0 ≤ d) := by simpa using h
    clear h
    by_cases ha : a < 0
    · clear h'
      go_wp2
      go_ret2
      exact HE.out
    · by_cases hbb : b < 0
      · clear h'
        go_wp2
        go_ret2
        exact HE.out
      · by_cases hcc : c < 0
        · clear h'
          go_wp2
          go_ret2
          exact HE.out
        · have hdd : d < 0 := by omega
          clear h'
          go_wp2
          go_ret2
          exact HE.out

set_option maxRecDepth 100000 in
set_option maxHeartbeats 3200000 in
theorem spec_WordOfMatrix_yes (a b c d : Int) (w : World) (h : womB a b c d = true) : Calls Try.prog 60 #[.agg #[.int .i64 a, .int .i64 b, .int .i64 c, .int .i64 d]] w (WomE (womR a b c d) w) := by
  have hR := womR_yes h
  unfold womB at h
  rw [Bool.and_eq_true, decide_eq_true_eq] at h
  obtain ⟨hm, h0, h1, h2, h3⟩ := h
  have hn := nn_of hm ⟨h0, h1, h2, h3⟩
  have hc := spec_mxGood a b c d
  rw [hm] at hc
  obtain ⟨R, hRR⟩ : ∃ R, womR a b c d = R := ⟨_, rfl⟩
  rw [hRR] at hR ⊢
  have HR := Lib.hid hR
  have Hn := Lib.hid hn
  have i0 : ¬a < 0 := by omega
  have i1 : ¬b < 0 := by omega
  have i2 : ¬c < 0 := by omega
  have i3 : ¬d < 0 := by omega
  have Hc := Lib.hid hc
  clear hR hn hm h0 h1 h2 h3 hRR hc
  go_enter Try.func60, Try.ntmps60
  go_wp2_with fail
  refine (Hc.out _).mono ?_
  rintro e w1 ⟨rfl, hb1⟩
  have A := (Bx.new w 53 a b c d).kept hb1
  have F := (FzW.new w 53 a b c d).kept (by simp) hb1
  have hd := ((Below.refl w.heap.size w).alloc (Nat.le_refl _) (.cells #[.int .i64 a, .int .i64 b, .int .i64 c, .int .i64 d] 53)).trans (hb1.mono (by simp))
  have HA := Lib.hid A
  have HF := Lib.hid F
  have Hd := Lib.hid hd
  clear hb1 hd F Hc
  obtain ⟨a0, a1, a2, a3⟩ := A
  go_wp2
  clear a0 a1 a2 a3
  go_loopw [4] (fun s wr => ∃ (m : M4) (L : List UInt8), s = .string (bsL L) ∧ L.length ≤ 40 ∧ Nn m ∧ Bx wr w.heap.size m.a m.b m.c m.d ∧ FzW wr w.heap.size ∧ Below w.heap.size w wr ∧ wds (40 - L.length) m L = R) (fun s _ => 40 - (match s with | .string x => x.size | _ => 0))
  case atStart => exact ⟨⟨a, b, c, d⟩, [], rfl, by simp, Hn.out, HA.out, HF.out, Hd.out, HR.out.symm⟩
  case round =>
    clear HA HF Hd HR Hn i0 i1 i2 i3
    obtain ⟨m, L, rfl, hL, hn, hbx, hfz, hb, hR⟩ := hrel
    have Hb := Lib.hid hb
    have Hn := Lib.hid hn
    have HR := Lib.hid hR
    have Hbx := Lib.hid hbx
    have Hfz := Lib.hid hfz
    have hrun := run_mx_eq m.a m.b m.c m.d 1 0 0 1
    have he : M4.eqB ⟨m.a, m.b, m.c, m.d⟩ ⟨1, 0, 0, 1⟩ = m.eqB M4.one := rfl
    rw [he] at hrun
    clear hb hn hR he hfz
    obtain ⟨q0, q1, q2, q3⟩ := hbx
    have hy := Hbx.out.lt
    have hkeep : ∀ w', Below wr.heap.size wr w' → w'.cell? ⟨w.heap.size, 0, none⟩ = some (.int .i64 m.a) ∧ w'.cell? ⟨w.heap.size, 1, none⟩ = some (.int .i64 m.b) ∧ w'.cell? ⟨w.heap.size, 2, none⟩ = some (.int .i64 m.c) ∧ w'.cell? ⟨w.heap.size, 3, none⟩ = some (.int .i64 m.d) ∧ Below wr.heap.size wr w' := fun w' hw => ⟨cell_kept hw q0, cell_kept hw q1, cell_kept hw q2, cell_kept hw q3, hw⟩
    have Hkeep := Lib.hid hkeep
    have hone : ∀ w', (w'.cell? ⟨w.heap.size, 0, none⟩ = some (.int .i64 m.a) ∧ w'.cell? ⟨w.heap.size, 1, none⟩ = some (.int .i64 m.b) ∧ w'.cell? ⟨w.heap.size, 2, none⟩ = some (.int .i64 m.c) ∧ w'.cell? ⟨w.heap.size, 3, none⟩ = some (.int .i64 m.d) ∧ Below wr.heap.size wr w') → Calls Try.prog 132 #[] w' fun e w'' => e = .returned (.agg #[.int .i64 1, .int .i64 0, .int .i64 0, .int .i64 1]) ∧ (w''.cell? ⟨w.heap.size, 0, none⟩ = some (.int .i64 m.a) ∧ w''.cell? ⟨w.heap.size, 1, none⟩ = some (.int .i64 m.b) ∧ w''.cell? ⟨w.heap.size, 2, none⟩ = some (.int .i64 m.c) ∧ w''.cell? ⟨w.heap.size, 3, none⟩ = some (.int .i64 m.d) ∧ Below wr.heap.size wr w'') := fun w' hw => by
      refine (spec_mxOne w').mono ?_
      rintro e w'' ⟨he, hb⟩
      exact ⟨he, hkeep _ (below_kept hw.2.2.2.2 (Nat.le_refl _) hb)⟩
    have Hone := Lib.hid hone
    clear hkeep hone
    go_wp2_with fail
    clear q0 q1 q2 q3
    go_region_held3 (fun w' => w'.cell? ⟨w.heap.size, 0, none⟩ = some (.int .i64 m.a) ∧ w'.cell? ⟨w.heap.size, 1, none⟩ = some (.int .i64 m.b) ∧ w'.cell? ⟨w.heap.size, 2, none⟩ = some (.int .i64 m.c) ∧ w'.cell? ⟨w.heap.size, 3, none⟩ = some (.int .i64 m.d) ∧ Below wr.heap.size wr w')
      (first | assumption | exact Hkeep.out _ (Below.refl _ _).drew)
      (first | (go_at_call 132; refine (Hone.out _ (by first | assumption | exact Hkeep.out _ (Below.refl _ _).drew)).mono ?_; rintro e w2 ⟨rfl, hS2⟩))
    rename_i hS
    obtain ⟨q0, q1, q2, q3, hb2⟩ := hS
    have HB2 := Lib.hid (below_kept Hb.out (Nat.le_refl _) hb2)
    obtain ⟨f0, f1, f2, f3⟩ := Hfz.out.kept hy hb2
    clear Hkeep Hone hb2 Hbx Hfz
    have hsz := bsL_size L
    cases h1 : m.eqB M4.one
    · rw [h1] at hrun
      by_cases h40 : L.length = 40
      · have hR := HR.out
        rw [h40, wds_out h1] at hR
        have HE := Lib.hid (womE_no hR.symm HB2.out)
        have h40' : (L.length : Int) = 40 := by omega
        clear hR h1
        go_wp2
        go_ret2
        exact HE.out
      · have h40' : ¬(L.length : Int) = 40 := by omega
        have hR := HR.out
        rw [show 40 - L.length = (40 - (L.length + 1)) + 1 by omega, wds_next h1] at hR
        have HR1 := Lib.hid hR
        have Hn1 := Lib.hid (nn_rest Hn.out h1)
        obtain ⟨a0, b0, c0, d0, a9, b9, c9, d9, _⟩ := Hn.out
        clear hR HR
        cases hl : m.lowB
        · have hh := nn_high Hn.out hl h1
          have hnl : ¬(m.a ≤ m.c ∧ m.b ≤ m.d) := fun e => by
            have := M4.lowB_iff.2 e
            rw [hl] at this
            cases this
          have er : m.rest = ⟨m.a - m.c, m.b - m.d, m.c, m.d⟩ := by unfold M4.rest; rw [hl]; rfl
          have el : m.letter = 114 := by unfold M4.letter; rw [hl]; rfl
          rw [er] at HR1 Hn1
          rw [el] at HR1
          clear er el hl h1 Hn
          obtain ⟨hh1, hh2⟩ := hh
          by_cases hac : m.a ≤ m.c
          · have hbd : ¬m.b ≤ m.d := fun e => hnl ⟨hac, e⟩
            clear hnl
            go_wp2
            go_roundw
            case rel => exact ⟨_, L ++ [114], by rw [bsL_snoc], by simp; omega, Hn1.out, by refine ⟨?_, ?_, ?_, ?_⟩ <;> simp [go_sem, q0, q1, q2, q3], by refine ⟨?_, ?_, ?_, ?_⟩ <;> simp [go_sem, f0, f1, f2, f3], below_set2 _ _ _ _ HB2.out (Nat.le_refl _), by simpa using HR1.out⟩
            case measure =>
              show 40 - (bsL L ++ ⟨#[114]⟩).size < 40 - (bsL L).size
              rw [← bsL_snoc, bsL_size, bsL_size]
              simp; omega
          · clear hnl
            go_wp2
            go_roundw
            case rel => exact ⟨_, L ++ [114], by rw [bsL_snoc], by simp; omega, Hn1.out, by refine ⟨?_, ?_, ?_, ?_⟩ <;> simp [go_sem, q0, q1, q2, q3], by refine ⟨?_, ?_, ?_, ?_⟩ <;> simp [go_sem, f0, f1, f2, f3], below_set2 _ _ _ _ HB2.out (Nat.le_refl _), by simpa using HR1.out⟩
            case measure =>
              show 40 - (bsL L ++ ⟨#[114]⟩).size < 40 - (bsL L).size
              rw [← bsL_snoc, bsL_size, bsL_size]
              simp; omega
        · obtain ⟨hac, hbd⟩ := M4.lowB_iff.1 hl
          have er : m.rest = ⟨m.a, m.b, m.c - m.a, m.d - m.b⟩ := by unfold M4.rest; rw [hl]; rfl
          have el : m.letter = 108 := by unfold M4.letter; rw [hl]; rfl
          rw [er] at HR1 Hn1
          rw [el] at HR1
          clear er el hl h1 Hn
          go_wp2
          go_roundw
          case rel => exact ⟨_, L ++ [108], by rw [bsL_snoc], by simp; omega, Hn1.out, by refine ⟨?_, ?_, ?_, ?_⟩ <;> simp [go_sem, q0, q1, q2, q3], by refine ⟨?_, ?_, ?_, ?_⟩ <;> simp [go_sem, f0, f1, f2, f3], below_set2 _ _ _ _ HB2.out (Nat.le_refl _), by simpa using HR1.out⟩
          case measure =>
            show 40 - (bsL L ++ ⟨#[108]⟩).size < 40 - (bsL L).size
            rw [← bsL_snoc, bsL_size, bsL_size]
            simp; omega
    · have hR := HR.out
      rw [wds_done h1] at hR
      have HE : Hid (WomE R w (.returned (.tuple #[.string (bsL L), .bool true])) w2) := Lib.hid (by rw [← hR]; exact ⟨rfl, HB2.out⟩)
      rw [h1] at hrun
      clear hR h1
      go_wp2
      go_ret2
      exact HE.out
end Go.Proofs.Ytfkkbjbgjmaciaa

/- The program's WordOfMatrix. -/
namespace Go.Proofs.Ytfkkbjbgjmaciaa
set_option linter.unusedVariables false
open Go.RowKit

theorem impl_firstLetter_r (a b c d : Int) (w : World) (h1 : c ≤ a) (h2 : d ≤ b) : Calls Try.prog 139 #[.agg #[.int .i64 a, .int .i64 b, .int .i64 c, .int .i64 d]] w fun e w' => e = .returned (.int .u8 114) ∧ Below w.heap.size w w' := by
  go_enter Try.func139, Try.ntmps139
  go_wp2
  go_ret
  exact ⟨rfl, (Below.refl _ _).alloc (Nat.le_refl _) _⟩
theorem impl_firstLetter_l (a b c d : Int) (w : World) (h : ¬(c ≤ a ∧ d ≤ b)) : Calls Try.prog 139 #[.agg #[.int .i64 a, .int .i64 b, .int .i64 c, .int .i64 d]] w fun e w' => e = .returned (.int .u8 108) ∧ Below w.heap.size w w' := by
  by_cases h1 : c ≤ a
  · have h2 : ¬d ≤ b := fun e => h ⟨h1, e⟩
    clear h
    go_enter Try.func139, Try.ntmps139
    go_wp2
    go_ret
    exact ⟨rfl, (Below.refl _ _).alloc (Nat.le_refl _) _⟩
  · clear h
    go_enter Try.func139, Try.ntmps139
    go_wp2
    go_ret
    exact ⟨rfl, (Below.refl _ _).alloc (Nat.le_refl _) _⟩
theorem impl_let_l (w : World) : Calls Try.prog 128 #[.int .u8 108] w fun e w' => e = .returned (.tuple #[.agg #[.int .i64 1, .int .i64 0, .int .i64 1, .int .i64 1], .bool true]) ∧ Below w.heap.size w w' := by
  have hd2 := Lib.hid (fun o => (Below.refl w.heap.size w).alloc (Nat.le_refl _) o)
  go_enter Try.func128, Try.ntmps128
  go_wp2
  refine bodyPost_ret (v := .tuple #[.agg #[.int .i64 1, .int .i64 0, .int .i64 1, .int .i64 1], .bool true]) (by simp [results, Try.results128, go_sem]) rfl ⟨rfl, ?_⟩
  exact hd2.out _
theorem impl_let_r (w : World) : Calls Try.prog 128 #[.int .u8 114] w fun e w' => e = .returned (.tuple #[.agg #[.int .i64 1, .int .i64 1, .int .i64 0, .int .i64 1], .bool true]) ∧ Below w.heap.size w w' := by
  have hd2 := Lib.hid (fun o => (Below.refl w.heap.size w).alloc (Nat.le_refl _) o)
  go_enter Try.func128, Try.ntmps128
  go_wp2
  refine bodyPost_ret (v := .tuple #[.agg #[.int .i64 1, .int .i64 1, .int .i64 0, .int .i64 1], .bool true]) (by simp [results, Try.results128, go_sem]) rfl ⟨rfl, ?_⟩
  exact hd2.out _

/-- the least of four is below 0 where one of them is -/
theorem run_min4 (a b c d : Int) : ∃ z : Int, (z < 0 ↔ (a < 0 ∨ b < 0 ∨ c < 0 ∨ d < 0)) ∧ ∀ w : World, (Builtin.min_ #[3, 3, 3, 3] 3 #[.int .i64 a, .int .i64 b, .int .i64 c, .int .i64 d]).run Try.prog w = .ok (.int .i64 z) w := by
  have h2 : ∀ (x y : Int), ∃ z : Int, (z = x ∧ ¬y < x ∨ z = y ∧ y < x) ∧ ∀ w : World, (Builtin.min2 (.int .i64 x) (.int .i64 y)).run Try.prog w = .ok (.int .i64 z) w := by
    intro x y
    refine ⟨if y < x then y else x, by split <;> omega, fun w => ?_⟩
    have := run_min_int2 (P := Try.prog) (w := w) #[3, 3] 3 .i64 .i64 x y
    simpa [Builtin.min_, Sem.run_bind] using this
  obtain ⟨z1, e1, h1⟩ := h2 a b
  obtain ⟨z2, e2, h3⟩ := h2 z1 c
  obtain ⟨z3, e3, h4⟩ := h2 z2 d
  refine ⟨z3, by omega, fun w => ?_⟩
  simp [Builtin.min_, List.foldlM, Sem.run_bind, h1, h3, h4, Result.andThen]

theorem impl_WordOfMatrix_no (a b c d : Int) (w : World) (h : womB a b c d = false) : Calls Try.prog 57 #[.agg #[.int .i64 a, .int .i64 b, .int .i64 c, .int .i64 d]] w (WomE (womR a b c d) w) := by
  have hR := womR_no h
  have hc := impl_IsMatrix a b c d
  have HR := Lib.hid hR
  clear hR
  go_enter Try.func57, Try.ntmps57
  go_wp2_with fail
  refine (hc _).mono ?_
  rintro e w1 ⟨rfl, hb1⟩
  have A := (Bx.new w 53 a b c d).kept hb1
  have hd := ((Below.refl w.heap.size w).alloc (Nat.le_refl _) _).trans (hb1.mono (by simp))
  have HE := Lib.hid (womE_no HR.out hd)
  clear hb1 hd hc
  obtain ⟨a0, a1, a2, a3⟩ := A
  unfold womB at h
  cases hm : mxB a b c d
  · clear h
    go_wp2
    go_ret2
    exact HE.out
  · rw [hm, Bool.true_and] at h
    have h' : ¬(0 ≤ a ∧ 0 ≤ b ∧ 0 ≤ c ∧ 0 ≤ d) := by simpa using h
    clear h
    obtain ⟨z, hz, hmin⟩ := run_min4 a b c d
    have hz0 : z < 0 := by omega
    clear hz h'
    go_wp2
    go_ret2
    exact HE.out
theorem grown_setW (w : World) (b i : Nat) (v : Value) : w.grownBy (w.setCell ⟨b, i, none⟩ v) (some b) :=
  ⟨rfl, rfl, rfl, by simp [World.setCell], fun k _ hk => Below.heap_setCell _ _ _ _ (fun e => hk (by simp [e]))⟩
theorem bx_grown {w w' : World} {g : Nat} {a b c d : Int} {row : Option Nat} (h : Bx w g a b c d) (hg : w.grownBy w' row) (hne : some g ≠ row) : Bx w' g a b c d :=
  ⟨(hg.cell_far ⟨g, 0, none⟩ h.lt hne).trans h.1, (hg.cell_far ⟨g, 1, none⟩ h.lt hne).trans h.2.1, (hg.cell_far ⟨g, 2, none⟩ h.lt hne).trans h.2.2.1, (hg.cell_far ⟨g, 3, none⟩ h.lt hne).trans h.2.2.2⟩
theorem fz_grown {w w' : World} {g : Nat} {row : Option Nat} (h : FzW w g) (hlt : g < w.heap.size) (hg : w.grownBy w' row) (hne : some g ≠ row) : FzW w' g :=
  ⟨(hg.frozen_far ⟨g, 0, none⟩ hlt hne).trans h.1, (hg.frozen_far ⟨g, 1, none⟩ hlt hne).trans h.2.1, (hg.frozen_far ⟨g, 2, none⟩ hlt hne).trans h.2.2.1, (hg.frozen_far ⟨g, 3, none⟩ hlt hne).trans h.2.2.2⟩
def putW (w : World) (g : Nat) (a b c d : Int) : World := (((w.setCell ⟨g, 0, none⟩ (.int .i64 a)).setCell ⟨g, 1, none⟩ (.int .i64 b)).setCell ⟨g, 2, none⟩ (.int .i64 c)).setCell ⟨g, 3, none⟩ (.int .i64 d)
theorem put_bx {w : World} {g : Nat} {a b c d : Int} (h : Bx w g a b c d) (e f i j : Int) : Bx (putW w g e f i j) g e f i j := by
  have hg := h.lt
  obtain ⟨h0, h1, h2, h3⟩ := h
  unfold putW Bx
  simp [go_sem, h0, h1, h2, h3]
theorem put_fz {w : World} {g : Nat} (h : FzW w g) (e f i j : Int) : FzW (putW w g e f i j) g := by
  obtain ⟨h0, h1, h2, h3⟩ := h
  unfold putW FzW
  simp [go_sem, h0, h1, h2, h3]
theorem put_grown (w : World) (g : Nat) (e f i j : Int) : w.grownBy (putW w g e f i j) (some g) :=
  (((grown_setW w g 0 _).trans (grown_setW _ g 1 _)).trans (grown_setW _ g 2 _)).trans (grown_setW _ g 3 _)

/-- the letter's inverse and the rest -/
theorem rest_r (a b c d : Int) (w : World) (h : M4.In ⟨a, b, c, d⟩ 1000000000) : Calls Try.prog 131 #[.agg #[.int .i64 1, .int .i64 (-1), .int .i64 (-0), .int .i64 1], .agg #[.int .i64 a, .int .i64 b, .int .i64 c, .int .i64 d]] w fun r w' =>
      r = .returned (.agg #[.int .i64 (a - c), .int .i64 (b - d), .int .i64 c, .int .i64 d]) ∧ Below w.heap.size w w' := by
  have := impl_times 1 (-1) (-0) 1 a b c d 1 1000000000 w (by unfold M4.In; dsimp only; omega) h (by omega)
  rw [show 1 * a + -1 * c = a - c by omega, show 1 * b + -1 * d = b - d by omega, show -0 * a + 1 * c = c by omega, show -0 * b + 1 * d = d by omega] at this
  exact this
theorem rest_l (a b c d : Int) (w : World) (h : M4.In ⟨a, b, c, d⟩ 1000000000) : Calls Try.prog 131 #[.agg #[.int .i64 1, .int .i64 (-0), .int .i64 (-1), .int .i64 1], .agg #[.int .i64 a, .int .i64 b, .int .i64 c, .int .i64 d]] w fun r w' =>
      r = .returned (.agg #[.int .i64 a, .int .i64 b, .int .i64 (c - a), .int .i64 (d - b)]) ∧ Below w.heap.size w w' := by
  have := impl_times 1 (-0) (-1) 1 a b c d 1 1000000000 w (by unfold M4.In; dsimp only; omega) h (by omega)
  rw [show 1 * a + -0 * c = a by omega, show 1 * b + -0 * d = b by omega, show -1 * a + 1 * c = c - a by omega, show -1 * b + 1 * d = d - b by omega] at this
  exact this
/-- what the letter does, in one: the letter, its square, its inverse, the rest -/
theorem letter_all {m : M4} (h : Nn m) (h1 : m.eqB M4.one = false) : ∃ (u : Int) (x0 x1 x2 x3 : Int) (y0 y1 y2 y3 : Int), u = (m.letter.toNat : Int) ∧
    (∀ w, Calls Try.prog 139 #[.agg #[.int .i64 m.a, .int .i64 m.b, .int .i64 m.c, .int .i64 m.d]] w fun e w' => e = .returned (.int .u8 u) ∧ Below w.heap.size w w') ∧
    (∀ w, Calls Try.prog 128 #[.int .u8 u] w fun e w' => e = .returned (.tuple #[.agg #[.int .i64 x0, .int .i64 x1, .int .i64 x2, .int .i64 x3], .bool true]) ∧ Below w.heap.size w w') ∧
    (∀ w, Calls Try.prog 140 #[.agg #[.int .i64 x0, .int .i64 x1, .int .i64 x2, .int .i64 x3]] w fun e w' => e = .returned (.agg #[.int .i64 y0, .int .i64 y1, .int .i64 y2, .int .i64 y3]) ∧ Below w.heap.size w w') ∧
    (∀ w, Calls Try.prog 131 #[.agg #[.int .i64 y0, .int .i64 y1, .int .i64 y2, .int .i64 y3], .agg #[.int .i64 m.a, .int .i64 m.b, .int .i64 m.c, .int .i64 m.d]] w fun e w' => e = .returned (.agg #[.int .i64 m.rest.a, .int .i64 m.rest.b, .int .i64 m.rest.c, .int .i64 m.rest.d]) ∧ Below w.heap.size w w') := by
  have hin : M4.In ⟨m.a, m.b, m.c, m.d⟩ 1000000000 := by
    obtain ⟨a0, b0, c0, d0, a9, b9, c9, d9, _⟩ := h
    unfold M4.In
    dsimp only
    omega
  cases hl : m.lowB
  · obtain ⟨h2, h3⟩ := nn_high h hl h1
    have er : m.rest = ⟨m.a - m.c, m.b - m.d, m.c, m.d⟩ := by unfold M4.rest; rw [hl]; rfl
    have el : m.letter = 114 := by unfold M4.letter; rw [hl]; rfl
    rw [er, el]
    exact ⟨114, 1, 1, 0, 1, 1, -1, -0, 1, rfl, fun w => impl_firstLetter_r _ _ _ _ w h2 h3, impl_let_r, fun w => impl_inverse 1 1 0 1 w (by omega) (by omega), fun w => rest_r _ _ _ _ w hin⟩
  · have hn := nn_low h hl
    have er : m.rest = ⟨m.a, m.b, m.c - m.a, m.d - m.b⟩ := by unfold M4.rest; rw [hl]; rfl
    have el : m.letter = 108 := by unfold M4.letter; rw [hl]; rfl
    rw [er, el]
    exact ⟨108, 1, 0, 1, 1, 1, -0, -1, 1, rfl, fun w => impl_firstLetter_l _ _ _ _ w hn, impl_let_l, fun w => impl_inverse 1 0 1 1 w (by omega) (by omega), fun w => rest_l _ _ _ _ w hin⟩

set_option maxRecDepth 100000 in
set_option maxHeartbeats 3200000 in
theorem impl_WordOfMatrix_yes (a b c d : Int) (w : World) (h : womB a b c d = true) : Calls Try.prog 57 #[.agg #[.int .i64 a, .int .i64 b, .int .i64 c, .int .i64 d]] w (WomE (womR a b c d) w) := by
  have hR := womR_yes h
  unfold womB at h
  rw [Bool.and_eq_true, decide_eq_true_eq] at h
  obtain ⟨hm, h0, h1, h2, h3⟩ := h
  have hn := nn_of hm ⟨h0, h1, h2, h3⟩
  have hc := impl_IsMatrix a b c d
  rw [hm] at hc
  obtain ⟨R, hRR⟩ : ∃ R, womR a b c d = R := ⟨_, rfl⟩
  rw [hRR] at hR ⊢
  have HR := Lib.hid hR
  have Hn := Lib.hid hn
  obtain ⟨z, hz, hmin⟩ := run_min4 a b c d
  have hz0 : ¬z < 0 := by omega
  have Hc := Lib.hid hc
  clear hR hn hm h0 h1 h2 h3 hRR hc hz
  go_enter Try.func57, Try.ntmps57
  go_wp2_with fail
  refine (Hc.out _).mono ?_
  rintro e w1 ⟨rfl, hb1⟩
  have A := (Bx.new w 53 a b c d).kept hb1
  have hd := ((Below.refl w.heap.size w).alloc (Nat.le_refl _) (.cells #[.int .i64 a, .int .i64 b, .int .i64 c, .int .i64 d] 53)).trans (hb1.mono (by simp))
  have Hd := Lib.hid hd
  clear hb1 hd Hc
  obtain ⟨a0, a1, a2, a3⟩ := A
  go_wp2_with fail
  refine (impl_squareOf a b c d _).mono ?_
  rintro e w2 ⟨rfl, hb2⟩
  have hd2 := below_kept Hd.out (Nat.le_refl _) hb2
  have hw2 := hd2.size
  obtain ⟨g, hg⟩ : ∃ g, g = w2.heap.size := ⟨_, rfl⟩
  obtain ⟨wz, hwz⟩ : ∃ wz, wz = w2.alloc (.cells #[.int .i64 a, .int .i64 b, .int .i64 c, .int .i64 d] 111) := ⟨_, rfl⟩
  have Q1 := Lib.hid (show Bx wz g a b c d by rw [hwz, hg]; exact Bx.new w2 _ a b c d)
  have Q2 := Lib.hid (show FzW wz g by rw [hwz, hg]; exact FzW.new w2 _ a b c d)
  have hdz := Lib.hid (show Below w.heap.size w wz by rw [hwz]; exact hd2.alloc hw2 _)
  have hgz : wz.heap.size = g + 1 := by rw [hwz, hg]; simp
  have hwg : w.heap.size ≤ g := by omega
  clear hb2 hd2 hw2 Hd hz0 hmin a0 a1 a2 a3
  go_wp2
  rw [← hwz, ← hg]
  clear hwz hg
  go_loopw [5] (fun v wr => ∃ (m : M4) (L : List UInt8) (A' : Option Addr) (c' n : Nat), L.length = n ∧ v = .slice A' n c' ∧ n ≤ 40 ∧ Nn m ∧ Bx wr g m.a m.b m.c m.d ∧ FzW wr g ∧ wr.ownsRow (g + 1) 5 1 (.slice A' n c') n (ubs L) ∧ Below w.heap.size w wr ∧ wds (40 - n) m L = R) (fun v _ => 40 - (match v with | .slice _ n _ => n | _ => 0))
  case atStart => exact ⟨⟨a, b, c, d⟩, [], none, 0, 0, rfl, rfl, by omega, Hn.out, Q1.out, Q2.out, World.ownsRow_nil _ _ _ _, hdz.out, HR.out.symm⟩
  case round =>
    clear Q1 Q2 hdz HR Hn hgz
    obtain ⟨m, L, A', c', n, hL, rfl, hn40, hn, hbx, hfz, ho, hb, hR⟩ := hrel
    have HL := Lib.hid hL
    have Hb := Lib.hid hb
    have Hn := Lib.hid hn
    have HR := Lib.hid hR
    have Hbx := Lib.hid hbx
    have Hfz := Lib.hid hfz
    have Ho := Lib.hid ho
    have hrun := run_sq_eq m.a m.b m.c m.d 1 0 0 1
    have he : M4.eqB ⟨m.a, m.b, m.c, m.d⟩ ⟨1, 0, 0, 1⟩ = m.eqB M4.one := rfl
    rw [he] at hrun
    clear hb hn hR he hfz hL ho
    obtain ⟨q0, q1, q2, q3⟩ := hbx
    have hy := Hbx.out.lt
    have hkeep : ∀ w', Below wr.heap.size wr w' → w'.cell? ⟨g, 0, none⟩ = some (.int .i64 m.a) ∧ w'.cell? ⟨g, 1, none⟩ = some (.int .i64 m.b) ∧ w'.cell? ⟨g, 2, none⟩ = some (.int .i64 m.c) ∧ w'.cell? ⟨g, 3, none⟩ = some (.int .i64 m.d) ∧ Below wr.heap.size wr w' := fun w' hw => ⟨cell_kept hw q0, cell_kept hw q1, cell_kept hw q2, cell_kept hw q3, hw⟩
    have Hkeep := Lib.hid hkeep
    have hone : ∀ w', (w'.cell? ⟨g, 0, none⟩ = some (.int .i64 m.a) ∧ w'.cell? ⟨g, 1, none⟩ = some (.int .i64 m.b) ∧ w'.cell? ⟨g, 2, none⟩ = some (.int .i64 m.c) ∧ w'.cell? ⟨g, 3, none⟩ = some (.int .i64 m.d) ∧ Below wr.heap.size wr w') → Calls Try.prog 138 #[] w' fun e w'' => e = .returned (.agg #[.int .i64 1, .int .i64 0, .int .i64 0, .int .i64 1]) ∧ (w''.cell? ⟨g, 0, none⟩ = some (.int .i64 m.a) ∧ w''.cell? ⟨g, 1, none⟩ = some (.int .i64 m.b) ∧ w''.cell? ⟨g, 2, none⟩ = some (.int .i64 m.c) ∧ w''.cell? ⟨g, 3, none⟩ = some (.int .i64 m.d) ∧ Below wr.heap.size wr w'') := fun w' hw => by
      refine (impl_unitSquare w').mono ?_
      rintro e w'' ⟨he, hb⟩
      exact ⟨he, hkeep _ (below_kept hw.2.2.2.2 (Nat.le_refl _) hb)⟩
    have Hone := Lib.hid hone
    clear hkeep hone
    go_wp2_with fail
    clear q0 q1 q2 q3
    go_region_held3 (fun w' => w'.cell? ⟨g, 0, none⟩ = some (.int .i64 m.a) ∧ w'.cell? ⟨g, 1, none⟩ = some (.int .i64 m.b) ∧ w'.cell? ⟨g, 2, none⟩ = some (.int .i64 m.c) ∧ w'.cell? ⟨g, 3, none⟩ = some (.int .i64 m.d) ∧ Below wr.heap.size wr w')
      (first | assumption | exact Hkeep.out _ (Below.refl _ _).drew)
      (first | (go_at_call 138; refine (Hone.out _ (by first | assumption | exact Hkeep.out _ (Below.refl _ _).drew)).mono ?_; rintro e w2 ⟨rfl, hS2⟩))
    rename_i hS
    obtain ⟨q0, q1, q2, q3, hb2⟩ := hS
    have HB2 := Lib.hid (below_kept Hb.out (Nat.le_refl _) hb2)
    have F2 := Lib.hid (Hfz.out.kept hy hb2)
    have B2 := Lib.hid (show Bx w2 g m.a m.b m.c m.d from ⟨q0, q1, q2, q3⟩)
    have O2 := Lib.hid (own_kept Ho.out hb2)
    have hy2 := B2.out.lt
    clear Hkeep Hone hb2 Hbx Hfz Ho Hb hy
    cases h1 : m.eqB M4.one
    · rw [h1] at hrun
      by_cases h40 : n = 40
      · have hR := HR.out
        rw [h40, wds_out h1] at hR
        have HE := Lib.hid (womE_no hR.symm HB2.out)
        have h40' : (n : Int) = 40 := by omega
        clear hR h1
        go_wp2
        go_ret2
        exact HE.out
      · have h40' : ¬(n : Int) = 40 := by omega
        have hR := HR.out
        rw [show 40 - n = (40 - (n + 1)) + 1 by omega, wds_next h1] at hR
        have HR1 := Lib.hid hR
        have Hn1 := Lib.hid (nn_rest Hn.out h1)
        obtain ⟨u, x0, x1, x2, x3, y0, y1, y2, y3, hu, K1, K2, K3, K4⟩ := letter_all Hn.out h1
        have Hu := Lib.hid hu
        have Hk1 := Lib.hid K1
        have Hk2 := Lib.hid K2
        have Hk3 := Lib.hid K3
        have Hk4 := Lib.hid K4
        clear hR HR K1 K2 K3 K4 hu h1 Hn
        go_wp2_with fail
        refine (Hk1.out _).mono ?_
        rintro e w3 ⟨rfl, hb3⟩
        clear Hk1
        go_wp2_with fail
        refine (Hk2.out _).mono ?_
        rintro e w4 ⟨rfl, hb4⟩
        have B3 := B2.out.kept hb3
        have B4 := Lib.hid (B3.kept hb4)
        have F4 := Lib.hid ((F2.out.kept hy2 hb3).kept B3.lt hb4)
        have O4 := Lib.hid (own_kept (own_kept O2.out hb3) hb4)
        have D4 := Lib.hid (below_kept (below_kept HB2.out (Nat.le_refl _) hb3) (Nat.le_refl _) hb4)
        have hy4 := B4.out.lt
        have hw4 := D4.out.size
        clear hb3 hb4 B3 B2 F2 O2 HB2 Hk2 hy2
        obtain ⟨g7, hg7⟩ : ∃ g7, g7 = w4.heap.size := ⟨_, rfl⟩
        obtain ⟨wS, hwS⟩ : ∃ wS, wS = w4.alloc (.cells #[.int .i64 x0, .int .i64 x1, .int .i64 x2, .int .i64 x3] 111) := ⟨_, rfl⟩
        have hsS : wS.heap.size = g7 + 1 := by rw [hwS, hg7]; simp
        obtain ⟨wU, hwU⟩ : ∃ wU, wU = wS.alloc (.cells #[.int .u8 u] 5) := ⟨_, rfl⟩
        have S7 := Lib.hid (show Bx wU g7 x0 x1 x2 x3 by rw [hwU, hwS, hg7]; exact (Bx.new w4 _ x0 x1 x2 x3).alloc _)
        have BU := Lib.hid (show Bx wU g m.a m.b m.c m.d by rw [hwU, hwS]; exact (B4.out.alloc _).alloc _)
        have hbS : Below w4.heap.size w4 wU := by rw [hwU, hwS]; exact below2 _ _ _
        have FU := Lib.hid (F4.out.kept hy4 hbS)
        have OU := Lib.hid (own_kept O4.out hbS)
        have DU := Lib.hid (below_kept D4.out (Nat.le_refl _) hbS)
        have cU : wU.cell? ⟨g7 + 1, 0, none⟩ = some (.int .u8 u) := by rw [hwU, ← hsS]; simp [go_sem]
        have hzU : wU.heap.size = g7 + 2 := by rw [hwU]; simp [hsS]
        have hlO := O4.out.lt
        have HlO : Hid (∀ k, (Value.slice A' n c').ownBlock = some k → g + 1 ≤ k ∧ k < g7) := Lib.hid (fun k hk => by have := hlO k hk; omega)
        have n6 : n ≤ 1000000 := by omega
        have hgU : g + 1 ≤ wU.heap.size := by omega
        have Hcu := Lib.hid cU
        have HD0 := Lib.hid hwg
        have hn39 : n < 40 := by omega
        clear hbS cU hlO hsS hzU hrun h40 h40' hn40 hw4
        subst hwU
        subst hwS
        subst hg7
        go_upto_region 11 with (at_builtin; refine append1U _ rfl _ _ rfl (g + 1) (.slice A' n c') n L HL.out rfl OU.out (w4.heap.size + 1) m.letter u Hu.out rfl Hcu.out n6 hgU ?_; intro A5 c5 w5 own5 hg5)
        have B5 := bx_grown BU.out hg5 (fun e => by have := HlO.out g e.symm; omega)
        have F5 := fz_grown FU.out BU.out.lt hg5 (fun e => by have := HlO.out g e.symm; omega)
        have S5 := bx_grown S7.out hg5 (fun e => by have := HlO.out _ e.symm; omega)
        have D5 := below_grown DU.out hg5 (Nat.le_refl _) (fun k hk => by have := (HlO.out k hk).1; have := HD0.out; omega)
        have O5 := own5
        have H5 := Lib.hid (And.intro B5 (And.intro F5 (And.intro D5 O5)))
        clear own5 hg5 BU FU S7 DU OU D5 O5 Hcu HlO n6 hgU B4 F4 O4 D4
        obtain ⟨q0, q1, q2, q3⟩ := B5
        obtain ⟨f0, f1, f2, f3⟩ := F5
        obtain ⟨s0, s1, s2, s3⟩ := S5
        go_region_with (first
          | (go_at_call 140; refine (Hk3.out _).mono ?_; rintro e6 w6 ⟨rfl, hb6⟩; (have Q6 := Lib.hid (Bx.kept (w := w5.drew) H5.out.1 hb6)); (have F6 := Lib.hid (FzW.kept (w := w5.drew) H5.out.2.1 H5.out.1.lt hb6)); obtain ⟨q60, q61, q62, q63⟩ := Q6.out)
          | (go_at_call 131; refine (Hk4.out _).mono ?_; rintro e8 w8 ⟨rfl, hb8⟩; (have Q8 := Lib.hid (Q6.out.kept hb8)); (have F8 := Lib.hid (F6.out.kept Q6.out.lt hb8)); obtain ⟨q80, q81, q82, q83⟩ := Q8.out; obtain ⟨f80, f81, f82, f83⟩ := F8.out))
        all_goals (
          have K1 := put_bx Q8.out m.rest.a m.rest.b m.rest.c m.rest.d
          have K2 := put_fz F8.out m.rest.a m.rest.b m.rest.c m.rest.d
          have KO := own_kept (own_kept (w := w5.drew) H5.out.2.2.2.drew hb6) hb8
          have K3 := own_far KO (put_grown w8 g m.rest.a m.rest.b m.rest.c m.rest.d) (fun k hk e => by have := (KO.lt k hk).1; injection e with e; omega)
          have K4 := below_grown (below_kept (below_kept (w := w5.drew) H5.out.2.2.1.drew (Nat.le_refl _) hb6) (Nat.le_refl _) hb8) (put_grown w8 g m.rest.a m.rest.b m.rest.c m.rest.d) (Nat.le_refl _) (fun k hk => by have := HD0.out; injection hk with hk; omega)
          have K := Lib.hid (And.intro K1 (And.intro K2 (And.intro K3 K4)))
          clear K1 K2 K3 K4 KO hb6 hb8
          have hL1 : (L ++ [m.letter]).length = n + 1 := by simp [HL.out]
          go_wp2
          go_roundw
          case rel => exact ⟨m.rest, L ++ [m.letter], A5, c5, n + 1, hL1, rfl, by omega, Hn1.out, K.out.1, K.out.2.1, K.out.2.2.1, K.out.2.2.2, HR1.out⟩
          case measure => simp; omega)
    · rw [h1] at hrun
      have hR := HR.out
      rw [wds_done h1] at hR
      have HE : Hid (WomE R w (.returned (.tuple #[.string (bsL L), .bool true])) w2) := Lib.hid (by rw [← hR]; exact ⟨rfl, HB2.out⟩)
      have hconv := run_text HL.out O2.out
      clear hR h1
      go_wp2
      go_ret2
      exact HE.out
end Go.Proofs.Ytfkkbjbgjmaciaa

/- TimesMatrix: the model's and the program's contracts, and the law's walk. -/
namespace Go.Proofs.Ytfkkbjbgjmaciaa
set_option linter.unusedVariables false
open Go.RowKit

theorem impl_TimesMatrix_no1 (a b c d e f g h : Int) (w : World) (h1 : mxB a b c d = false) : Calls Try.prog 58 #[.agg #[.int .i64 a, .int .i64 b, .int .i64 c, .int .i64 d], .agg #[.int .i64 e, .int .i64 f, .int .i64 g, .int .i64 h]] w fun r w' => r = .returned (.tuple #[.agg #[.int .i64 0, .int .i64 0, .int .i64 0, .int .i64 0], .bool false]) ∧ Below w.heap.size w w' := by
  have hc := impl_IsMatrix a b c d
  rw [h1] at hc
  have Hc := Lib.hid hc
  clear hc h1
  go_enter Try.func58, Try.ntmps58
  go_wp2_with fail
  refine (Hc.out _).mono ?_
  rintro e w1 ⟨rfl, hb1⟩
  obtain ⟨hc1, hf1, hz1⟩ := bcell hb1
  have hy1_2 : w.heap.size + 2 < w1.heap.size := by simp at hz1; omega
  have hy1_1 : w.heap.size + 1 < w1.heap.size := by omega
  have hy1_0 : w.heap.size < w1.heap.size := by omega
  have hd := (below3 w _ _ _).trans (hb1.mono (by simp; omega))
  clear hb1
  clear Hc
  go_wp2
  exact bodyPost_ret (v := .tuple #[.agg #[.int .i64 0, .int .i64 0, .int .i64 0, .int .i64 0], .bool false]) (by simp [results, Try.results58, go_sem, hc1, hf1, hy1_0, hy1_1, hy1_2]) rfl ⟨rfl, below_set4 hd (by omega)⟩
theorem impl_TimesMatrix_no2 (a b c d e f g h : Int) (w : World) (h1 : mxB a b c d = true) (h2 : mxB e f g h = false) : Calls Try.prog 58 #[.agg #[.int .i64 a, .int .i64 b, .int .i64 c, .int .i64 d], .agg #[.int .i64 e, .int .i64 f, .int .i64 g, .int .i64 h]] w fun r w' => r = .returned (.tuple #[.agg #[.int .i64 0, .int .i64 0, .int .i64 0, .int .i64 0], .bool false]) ∧ Below w.heap.size w w' := by
  have hc := impl_IsMatrix a b c d
  rw [h1] at hc
  have Hc := Lib.hid hc
  clear hc h1
  have hc := impl_IsMatrix e f g h
  rw [h2] at hc
  have Hk := Lib.hid hc
  clear hc h2
  go_enter Try.func58, Try.ntmps58
  go_wp2_with fail
  refine (Hc.out _).mono ?_
  rintro e w1 ⟨rfl, hb1⟩
  obtain ⟨hc1, hf1, hz1⟩ := bcell hb1
  have hy1_2 : w.heap.size + 2 < w1.heap.size := by simp at hz1; omega
  have hy1_1 : w.heap.size + 1 < w1.heap.size := by omega
  have hy1_0 : w.heap.size < w1.heap.size := by omega
  have hd := (below3 w _ _ _).trans (hb1.mono (by simp; omega))
  clear hb1
  go_wp2_with fail
  refine (Hk.out _).mono ?_
  rintro e w2 ⟨rfl, hb2⟩
  obtain ⟨hc2, hf2, hz2⟩ := bcell hb2
  have hy2_2 : w.heap.size + 2 < w2.heap.size := by omega
  have hy2_1 : w.heap.size + 1 < w2.heap.size := by omega
  have hy2_0 : w.heap.size < w2.heap.size := by omega
  replace hd := below_kept hd (Nat.le_refl _) hb2
  clear hb2
  clear Hc Hk
  go_wp2
  exact bodyPost_ret (v := .tuple #[.agg #[.int .i64 0, .int .i64 0, .int .i64 0, .int .i64 0], .bool false]) (by simp [results, Try.results58, go_sem, hc1, hf1, hy1_0, hy1_1, hy1_2, hc2, hf2, hy2_0, hy2_1, hy2_2]) rfl ⟨rfl, below_set4 hd (by omega)⟩
theorem twoIn {w wa w' : World} {ga gb : Nat} {a b c d e f g h : Int} (hA : Bx wa ga a b c d) (hB : Bx wa gb e f g h) (hd : Below w.heap.size w wa) (hw : w.heap.size ≤ wa.heap.size) (hb : Below wa.heap.size wa w') :
    w'.cell? ⟨ga, 0, none⟩ = some (.int .i64 a) ∧ w'.cell? ⟨ga, 1, none⟩ = some (.int .i64 b) ∧ w'.cell? ⟨ga, 2, none⟩ = some (.int .i64 c) ∧ w'.cell? ⟨ga, 3, none⟩ = some (.int .i64 d) ∧
      w'.cell? ⟨gb, 0, none⟩ = some (.int .i64 e) ∧ w'.cell? ⟨gb, 1, none⟩ = some (.int .i64 f) ∧ w'.cell? ⟨gb, 2, none⟩ = some (.int .i64 g) ∧ w'.cell? ⟨gb, 3, none⟩ = some (.int .i64 h) ∧ Below w.heap.size w w' := by
  obtain ⟨a0, a1, a2, a3⟩ := hA.kept hb
  obtain ⟨b0, b1, b2, b3⟩ := hB.kept hb
  exact ⟨a0, a1, a2, a3, b0, b1, b2, b3, hd.trans (hb.mono hw)⟩
theorem twoSet {w wa w' : World} {ga gb gr : Nat} {a b c d e f g h x0 x1 x2 x3 : Int} (hA : Bx wa ga a b c d) (hB : Bx wa gb e f g h) (hd : Below w.heap.size w wa) (hw : w.heap.size ≤ wa.heap.size) (hb : Below wa.heap.size wa w')
    (ha : ga ≠ gr) (hb2 : gb ≠ gr) (hr : w.heap.size ≤ gr) :
    ((((w'.setCell ⟨gr, 0, none⟩ (.int .i64 x0)).setCell ⟨gr, 1, none⟩ (.int .i64 x1)).setCell ⟨gr, 2, none⟩ (.int .i64 x2)).setCell ⟨gr, 3, none⟩ (.int .i64 x3)).cell? ⟨ga, 0, none⟩ = some (.int .i64 a) ∧
    ((((w'.setCell ⟨gr, 0, none⟩ (.int .i64 x0)).setCell ⟨gr, 1, none⟩ (.int .i64 x1)).setCell ⟨gr, 2, none⟩ (.int .i64 x2)).setCell ⟨gr, 3, none⟩ (.int .i64 x3)).cell? ⟨ga, 1, none⟩ = some (.int .i64 b) ∧
    ((((w'.setCell ⟨gr, 0, none⟩ (.int .i64 x0)).setCell ⟨gr, 1, none⟩ (.int .i64 x1)).setCell ⟨gr, 2, none⟩ (.int .i64 x2)).setCell ⟨gr, 3, none⟩ (.int .i64 x3)).cell? ⟨ga, 2, none⟩ = some (.int .i64 c) ∧
    ((((w'.setCell ⟨gr, 0, none⟩ (.int .i64 x0)).setCell ⟨gr, 1, none⟩ (.int .i64 x1)).setCell ⟨gr, 2, none⟩ (.int .i64 x2)).setCell ⟨gr, 3, none⟩ (.int .i64 x3)).cell? ⟨ga, 3, none⟩ = some (.int .i64 d) ∧
    ((((w'.setCell ⟨gr, 0, none⟩ (.int .i64 x0)).setCell ⟨gr, 1, none⟩ (.int .i64 x1)).setCell ⟨gr, 2, none⟩ (.int .i64 x2)).setCell ⟨gr, 3, none⟩ (.int .i64 x3)).cell? ⟨gb, 0, none⟩ = some (.int .i64 e) ∧
    ((((w'.setCell ⟨gr, 0, none⟩ (.int .i64 x0)).setCell ⟨gr, 1, none⟩ (.int .i64 x1)).setCell ⟨gr, 2, none⟩ (.int .i64 x2)).setCell ⟨gr, 3, none⟩ (.int .i64 x3)).cell? ⟨gb, 1, none⟩ = some (.int .i64 f) ∧
    ((((w'.setCell ⟨gr, 0, none⟩ (.int .i64 x0)).setCell ⟨gr, 1, none⟩ (.int .i64 x1)).setCell ⟨gr, 2, none⟩ (.int .i64 x2)).setCell ⟨gr, 3, none⟩ (.int .i64 x3)).cell? ⟨gb, 2, none⟩ = some (.int .i64 g) ∧
    ((((w'.setCell ⟨gr, 0, none⟩ (.int .i64 x0)).setCell ⟨gr, 1, none⟩ (.int .i64 x1)).setCell ⟨gr, 2, none⟩ (.int .i64 x2)).setCell ⟨gr, 3, none⟩ (.int .i64 x3)).cell? ⟨gb, 3, none⟩ = some (.int .i64 h) ∧
    Below w.heap.size w ((((w'.setCell ⟨gr, 0, none⟩ (.int .i64 x0)).setCell ⟨gr, 1, none⟩ (.int .i64 x1)).setCell ⟨gr, 2, none⟩ (.int .i64 x2)).setCell ⟨gr, 3, none⟩ (.int .i64 x3)) := by
  obtain ⟨a0, a1, a2, a3⟩ := bx_sto4_far (hA.kept hb) ha x0 x1 x2 x3
  obtain ⟨b0, b1, b2, b3⟩ := bx_sto4_far (hB.kept hb) hb2 x0 x1 x2 x3
  exact ⟨a0, a1, a2, a3, b0, b1, b2, b3, below_set4 (hd.trans (hb.mono hw)) hr⟩
/-- squares in a slice that has just been made -/
theorem slq_two (w : World) (t : TypeId) (a b c d e f g h : Int) : SlQ (w.alloc (.cells #[.int .i64 a, .int .i64 b, .int .i64 c, .int .i64 d, .int .i64 e, .int .i64 f, .int .i64 g, .int .i64 h] t)) (w.heap.size + 1) (some ⟨w.heap.size, 0, none⟩) [⟨a, b, c, d⟩, ⟨e, f, g, h⟩] := fun _ => ⟨_, _, rfl, by omega, fun j hj => by
  have h2 : j = 0 ∨ j = 1 := by simp at hj; omega
  rcases h2 with rfl | rfl <;> simp [go_sem]⟩
theorem impl_mulTwo (a b c d e f g h : Int) (w : World) (t : TypeId) (h1 : mxB a b c d = true) (h2 : mxB e f g h = true) :
    Calls Try.prog 130 #[.func (.func 131) #[] #[], .slice (some ⟨w.heap.size, 0, none⟩) 2 2] (w.alloc (.cells #[.int .i64 a, .int .i64 b, .int .i64 c, .int .i64 d, .int .i64 e, .int .i64 f, .int .i64 g, .int .i64 h] t))
      (RetQ (M4.mul ⟨a, b, c, d⟩ ⟨e, f, g, h⟩) (w.alloc (.cells #[.int .i64 a, .int .i64 b, .int .i64 c, .int .i64 d, .int .i64 e, .int .i64 f, .int .i64 g, .int .i64 h] t))) := by
  have hr := impl_mulAll_T (some ⟨w.heap.size, 0, none⟩) 2 2 (w.heap.size + 1) [⟨a, b, c, d⟩, ⟨e, f, g, h⟩] _ rfl (slq_two w t a b c d e f g h) (by simp) (by omega) (fun k hk => by
    have hk2 : k = 0 ∨ k = 1 := by simp at hk; omega
    rcases hk2 with rfl | rfl
    · exact ⟨1, 1000000000, M4.one_in, M4.ok_in (m := ⟨a, b, c, d⟩) h1, by omega⟩
    · refine ⟨1000000000, 1000000000, ?_, M4.ok_in (m := ⟨e, f, g, h⟩) h2, by omega⟩
      have e : prodF M4.mul (List.take 1 [⟨a, b, c, d⟩, ⟨e, f, g, h⟩]) = ⟨a, b, c, d⟩ := M4.one_mul _
      rw [e]
      exact M4.ok_in (m := ⟨a, b, c, d⟩) h1)
  have e : prodF M4.mul [⟨a, b, c, d⟩, ⟨e, f, g, h⟩] = M4.mul ⟨a, b, c, d⟩ ⟨e, f, g, h⟩ := by
    show (M4.one.mul _).mul _ = _
    rw [M4.one_mul]
  rw [e] at hr
  exact hr
set_option maxHeartbeats 1600000 in
theorem impl_TimesMatrix_yes (a b c d e f g h : Int) (w : World) (h1 : mxB a b c d = true) (h2 : mxB e f g h = true) : Calls Try.prog 58 #[.agg #[.int .i64 a, .int .i64 b, .int .i64 c, .int .i64 d], .agg #[.int .i64 e, .int .i64 f, .int .i64 g, .int .i64 h]] w (RetMx (M4.mul ⟨a, b, c, d⟩ ⟨e, f, g, h⟩) w) := by
  have hc := impl_IsMatrix a b c d
  rw [h1] at hc
  have Hc := Lib.hid hc
  have hk := impl_IsMatrix e f g h
  rw [h2] at hk
  have Hk := Lib.hid hk
  have Ht := Lib.hid (fun w t => impl_mulTwo a b c d e f g h w t h1 h2)
  clear hc hk h1 h2
  generalize M4.mul ⟨a, b, c, d⟩ ⟨e, f, g, h⟩ = R at *
  obtain ⟨okm, hok⟩ : ∃ x, R.ok = x := ⟨_, rfl⟩
  obtain ⟨F, hF⟩ : ∃ x, R.fit = x := ⟨_, rfl⟩
  have Hm := Lib.hid (fun w => impl_matrixOf_as R F okm hF hok w)
  have HE := Lib.hid (fun w' (hb : Below w.heap.size w w') => retMx_any (m := R) hb)
  rw [hF, hok] at HE
  clear hF hok
  go_enter Try.func58, Try.ntmps58
  go_wp2_with fail
  have A := (show Bx (((w.alloc (.cells #[.int .i64 a, .int .i64 b, .int .i64 c, .int .i64 d] 53)).alloc (.cells #[.int .i64 e, .int .i64 f, .int .i64 g, .int .i64 h] 53)).alloc (.cells #[.int .i64 0, .int .i64 0, .int .i64 0, .int .i64 0] 53)) w.heap.size a b c d by simp [Bx, go_sem])
  have B := (show Bx (((w.alloc (.cells #[.int .i64 a, .int .i64 b, .int .i64 c, .int .i64 d] 53)).alloc (.cells #[.int .i64 e, .int .i64 f, .int .i64 g, .int .i64 h] 53)).alloc (.cells #[.int .i64 0, .int .i64 0, .int .i64 0, .int .i64 0] 53)) (w.heap.size + 1) e f g h by simp [Bx, go_sem])
  have R0 := (show Zb (((w.alloc (.cells #[.int .i64 a, .int .i64 b, .int .i64 c, .int .i64 d] 53)).alloc (.cells #[.int .i64 e, .int .i64 f, .int .i64 g, .int .i64 h] 53)).alloc (.cells #[.int .i64 0, .int .i64 0, .int .i64 0, .int .i64 0] 53)) (w.heap.size + 2) from (by have := Zb.new ((w.alloc (.cells #[.int .i64 a, .int .i64 b, .int .i64 c, .int .i64 d] 53)).alloc (.cells #[.int .i64 e, .int .i64 f, .int .i64 g, .int .i64 h] 53)) 53; simpa using this))
  refine (Hc.out _).mono ?_
  rintro e w1 ⟨rfl, hb1⟩
  obtain ⟨hc1, hf1, hz1⟩ := bcell hb1
  have hy1_2 : w.heap.size + 2 < w1.heap.size := by simp at hz1; omega
  have hy1_1 : w.heap.size + 1 < w1.heap.size := by omega
  have hy1_0 : w.heap.size < w1.heap.size := by omega
  have hd := (below3 w _ _ _).trans (hb1.mono (by simp; omega))
  replace A := A.kept hb1
  replace B := B.kept hb1
  replace R0 := R0.kept hb1
  clear hb1
  go_wp2_with fail
  refine (Hk.out _).mono ?_
  rintro e w2 ⟨rfl, hb2⟩
  obtain ⟨hc2, hf2, hz2⟩ := bcell hb2
  have hy2_2 : w.heap.size + 2 < w2.heap.size := by omega
  have hy2_1 : w.heap.size + 1 < w2.heap.size := by omega
  have hy2_0 : w.heap.size < w2.heap.size := by omega
  replace hd := below_kept hd (Nat.le_refl _) hb2
  replace A := Lib.hid (A.kept hb2)
  replace B := Lib.hid (B.kept hb2)
  replace R0 := Lib.hid (R0.kept hb2)
  clear hb2 Hc Hk
  obtain ⟨ga, hga⟩ : ∃ ga, ga = w.heap.size := ⟨_, rfl⟩
  obtain ⟨gb, hgb⟩ : ∃ gb, gb = w.heap.size + 1 := ⟨_, rfl⟩
  obtain ⟨gr, hgr⟩ : ∃ gr, gr = w.heap.size + 1 + 1 := ⟨_, rfl⟩
  have hR0 : Hid (Zb w2.drew gr) := Lib.hid (by rw [hgr]; exact R0.out)
  have hS0 := Lib.hid (twoIn (wa := w2) (w' := w2.drew) (ga := ga) (gb := gb) (by rw [hga]; exact A.out) (by rw [hgb]; exact B.out) hd (by omega) (Below.refl _ _).drew)
  have hA : Hid (Bx w2 ga a b c d) := Lib.hid (by rw [hga]; exact A.out)
  have hB : Hid (Bx w2 gb e f g h) := Lib.hid (by rw [hgb]; exact B.out)
  have hD := Lib.hid hd
  have yr : w.heap.size ≤ gr := by omega
  have ar : ga ≠ gr := by omega
  have br : gb ≠ gr := by omega
  have yw : w.heap.size ≤ w2.heap.size := by omega
  go_upto_region 3 with fail
  rw [← hgr, ← hgb, ← hga]
  clear hgr hgb hga A B R0 hd hc1 hf1 hz1 hc2 hf2 hz2 hy1_0 hy1_1 hy1_2 hy2_0 hy2_1 hy2_2
  go_region_held3 (fun w' => w'.cell? ⟨ga, 0, none⟩ = some (.int .i64 a) ∧ w'.cell? ⟨ga, 1, none⟩ = some (.int .i64 b) ∧ w'.cell? ⟨ga, 2, none⟩ = some (.int .i64 c) ∧ w'.cell? ⟨ga, 3, none⟩ = some (.int .i64 d) ∧
      w'.cell? ⟨gb, 0, none⟩ = some (.int .i64 e) ∧ w'.cell? ⟨gb, 1, none⟩ = some (.int .i64 f) ∧ w'.cell? ⟨gb, 2, none⟩ = some (.int .i64 g) ∧ w'.cell? ⟨gb, 3, none⟩ = some (.int .i64 h) ∧ Below w.heap.size w w')
    (first
      | with_reducible exact hS0.out
      | with_reducible exact twoIn hA.out hB.out hD.out yw D1
      | with_reducible exact twoIn hA.out hB.out hD.out yw (below_alloc1 D1 (Nat.le_refl _) _)
      | with_reducible exact twoSet hA.out hB.out hD.out yw D1 ar br yr)
    (first
      | (go_at_call 137; refine (impl_squareOf _ _ _ _ _).mono ?_; rintro e1 w1 ⟨rfl, hb1⟩; (first | (have D1 := below_kept (Below.refl w2.heap.size w2).drew (Nat.le_refl _) hb1) | (have D1 := below_kept (B := w2.heap.size) (w0 := w2) (by assumption) (Nat.le_refl _) hb1) | (have D1 := below_kept (below_alloc1 (B := w2.heap.size) (w0 := w2) (by assumption) (Nat.le_refl _) _) (Nat.le_refl _) hb1)); (first | (have X1 := hR0.out.kept hb1; have X2 := X1; obtain ⟨⟨x0, x1, x2, x3⟩, ⟨f0, f1, f2, f3⟩⟩ := X2) | (have X1 := Zb.kept (g := gr) (by assumption) hb1; have X2 := X1; obtain ⟨⟨x0, x1, x2, x3⟩, ⟨f0, f1, f2, f3⟩⟩ := X2) | (have X1 := Zb.kept (Zb.kept (g := gr) (by assumption) ((Below.refl _ _).alloc (Nat.le_refl _) _)) hb1; have X2 := X1; obtain ⟨⟨x0, x1, x2, x3⟩, ⟨f0, f1, f2, f3⟩⟩ := X2)))
      | (go_at_call 130; refine (Ht.out _ _).mono ?_; rintro e1 w1 ⟨rfl, hb1⟩; (first | (have D1 := below_kept (Below.refl w2.heap.size w2).drew (Nat.le_refl _) hb1) | (have D1 := below_kept (B := w2.heap.size) (w0 := w2) (by assumption) (Nat.le_refl _) hb1) | (have D1 := below_kept (below_alloc1 (B := w2.heap.size) (w0 := w2) (by assumption) (Nat.le_refl _) _) (Nat.le_refl _) hb1)); (first | (have X1 := hR0.out.kept hb1; have X2 := X1; obtain ⟨⟨x0, x1, x2, x3⟩, ⟨f0, f1, f2, f3⟩⟩ := X2) | (have X1 := Zb.kept (g := gr) (by assumption) hb1; have X2 := X1; obtain ⟨⟨x0, x1, x2, x3⟩, ⟨f0, f1, f2, f3⟩⟩ := X2) | (have X1 := Zb.kept (Zb.kept (g := gr) (by assumption) ((Below.refl _ _).alloc (Nat.le_refl _) _)) hb1; have X2 := X1; obtain ⟨⟨x0, x1, x2, x3⟩, ⟨f0, f1, f2, f3⟩⟩ := X2)))
      | (go_at_call 129; refine (Hm.out _).mono ?_; rintro e1 w1 ⟨rfl, hb1⟩; (first | (have D1 := below_kept (Below.refl w2.heap.size w2).drew (Nat.le_refl _) hb1) | (have D1 := below_kept (B := w2.heap.size) (w0 := w2) (by assumption) (Nat.le_refl _) hb1) | (have D1 := below_kept (below_alloc1 (B := w2.heap.size) (w0 := w2) (by assumption) (Nat.le_refl _) _) (Nat.le_refl _) hb1)); (first | (have X1 := hR0.out.kept hb1; have X2 := X1; obtain ⟨⟨x0, x1, x2, x3⟩, ⟨f0, f1, f2, f3⟩⟩ := X2) | (have X1 := Zb.kept (g := gr) (by assumption) hb1; have X2 := X1; obtain ⟨⟨x0, x1, x2, x3⟩, ⟨f0, f1, f2, f3⟩⟩ := X2) | (have X1 := Zb.kept (Zb.kept (g := gr) (by assumption) ((Below.refl _ _).alloc (Nat.le_refl _) _)) hb1; have X2 := X1; obtain ⟨⟨x0, x1, x2, x3⟩, ⟨f0, f1, f2, f3⟩⟩ := X2))))
  have hE := Lib.hid (below_set4 (x0 := .int .i64 F.a) (x1 := .int .i64 F.b) (x2 := .int .i64 F.c) (x3 := .int .i64 F.d) (below_kept hD.out (Nat.le_refl _) D1) yr)
  go_wp2
  refine bodyPost_ret (v := .tuple #[.agg #[.int .i64 F.a, .int .i64 F.b, .int .i64 F.c, .int .i64 F.d], .bool okm]) ?hr rfl ?hR
  case hr => simp [results, Try.results58, go_sem, x0, x1, x2, x3]
  case hR => exact HE.out _ hE.out
end Go.Proofs.Ytfkkbjbgjmaciaa

/- For the law of words: its calls, told by letters. -/
namespace Go.Proofs.Ytfkkbjbgjmaciaa
set_option linter.unusedVariables false
open Go.RowKit

theorem impl_MatrixOfWord (a : ByteArray) (w : World) : Calls Try.prog 55 #[.string a] w (WEnd (wl a) w) := by
  by_cases h : a.size ≤ 40
  · exact impl_MatrixOfWord_fit a w h
  · exact impl_MatrixOfWord_long a w (by omega)
theorem impl_wml (t : ByteArray) (a b c d : Int) (ok : Bool) (w : World) (hF : wR (wl t) = ⟨a, b, c, d⟩) (hk : wOk (wl t) = ok) :
    Calls Try.prog 55 #[.string t] w fun e w' => e = .returned (.tuple #[.agg #[.int .i64 a, .int .i64 b, .int .i64 c, .int .i64 d], .bool ok]) ∧ Below w.heap.size w w' := by
  have h := impl_MatrixOfWord t w
  unfold WEnd at h
  rw [hF, hk] at h
  exact h
theorem spec_wml (t : ByteArray) (a b c d : Int) (ok : Bool) (w : World) (hF : wR (wl t) = ⟨a, b, c, d⟩) (hk : wOk (wl t) = ok) :
    Calls Try.prog 56 #[.string t] w fun e w' => e = .returned (.tuple #[.agg #[.int .i64 a, .int .i64 b, .int .i64 c, .int .i64 d], .bool ok]) ∧ Below w.heap.size w w' := by
  have h : Calls Try.prog 56 #[.string t] w (WEnd (wl t) w) := by
    by_cases h : t.size ≤ 40
    · exact spec_MatrixOfWord_fit t w h
    · exact spec_MatrixOfWord_long t w (by omega)
  unfold WEnd at h
  rw [hF, hk] at h
  exact h
theorem impl_woml (a b c d : Int) (R : List UInt8) (t : ByteArray) (ok : Bool) (w : World) (hR : womR a b c d = (R, ok)) (ht : bsL R = t) :
    Calls Try.prog 57 #[.agg #[.int .i64 a, .int .i64 b, .int .i64 c, .int .i64 d]] w fun e w' => e = .returned (.tuple #[.string t, .bool ok]) ∧ Below w.heap.size w w' := by
  have h : Calls Try.prog 57 #[.agg #[.int .i64 a, .int .i64 b, .int .i64 c, .int .i64 d]] w (WomE (womR a b c d) w) := by
    cases h : womB a b c d
    · exact impl_WordOfMatrix_no a b c d w h
    · exact impl_WordOfMatrix_yes a b c d w h
  unfold WomE at h
  rw [hR] at h
  subst ht
  exact h
theorem spec_woml (a b c d : Int) (R : List UInt8) (t : ByteArray) (ok : Bool) (w : World) (hR : womR a b c d = (R, ok)) (ht : bsL R = t) :
    Calls Try.prog 60 #[.agg #[.int .i64 a, .int .i64 b, .int .i64 c, .int .i64 d]] w fun e w' => e = .returned (.tuple #[.string t, .bool ok]) ∧ Below w.heap.size w w' := by
  have h : Calls Try.prog 60 #[.agg #[.int .i64 a, .int .i64 b, .int .i64 c, .int .i64 d]] w (WomE (womR a b c d) w) := by
    cases h : womB a b c d
    · exact spec_WordOfMatrix_no a b c d w h
    · exact spec_WordOfMatrix_yes a b c d w h
  unfold WomE at h
  rw [hR] at h
  subst ht
  exact h
theorem impl_tml (a b c d e f g h p q r s : Int) (w : World) (h1 : (M4.mk a b c d).ok = true) (h2 : (M4.mk e f g h).ok = true) (hm : M4.mul ⟨a, b, c, d⟩ ⟨e, f, g, h⟩ = ⟨p, q, r, s⟩) (hk : (M4.mk p q r s).ok = true) :
    Calls Try.prog 58 #[.agg #[.int .i64 a, .int .i64 b, .int .i64 c, .int .i64 d], .agg #[.int .i64 e, .int .i64 f, .int .i64 g, .int .i64 h]] w fun x w' => x = .returned (.tuple #[.agg #[.int .i64 p, .int .i64 q, .int .i64 r, .int .i64 s], .bool true]) ∧ Below w.heap.size w w' := by
  have h := impl_TimesMatrix_yes a b c d e f g h w h1 h2
  unfold RetMx at h
  rw [hm, M4.fit_yes hk, hk] at h
  exact h
theorem impl_mvl (a b c d p q X Y : Int) (ok : Bool) (w : World) (hR : mvAll a b c d p q = (X, Y, ok)) :
    Calls Try.prog 62 #[.agg #[.int .i64 a, .int .i64 b, .int .i64 c, .int .i64 d], .agg #[.int .i64 p, .int .i64 q]] w fun e w' => e = .returned (.tuple #[.int .i64 X, .int .i64 Y, .bool ok]) ∧ Below w.heap.size w w' := by
  have h := impl_MoveFraction a b c d p q w
  rw [hR] at h
  exact h
theorem spec_mvl (a b c d p q X Y : Int) (ok : Bool) (w : World) (hR : mvAll a b c d p q = (X, Y, ok)) :
    Calls Try.prog 63 #[.agg #[.int .i64 a, .int .i64 b, .int .i64 c, .int .i64 d], .agg #[.int .i64 p, .int .i64 q]] w fun e w' => e = .returned (.tuple #[.int .i64 X, .int .i64 Y, .bool ok]) ∧ Below w.heap.size w w' := by
  have h := spec_MoveFraction a b c d p q w
  rw [hR] at h
  exact h
theorem impl_isf (a b : Int) (w : World) (h : nbB a b = true) : Calls Try.prog 65 #[.agg #[.int .i64 a, .int .i64 b]] w fun e w' => e = .returned (.bool true) ∧ Below w.heap.size w w' := by
  have := impl_IsFraction a b w
  rw [h] at this
  exact this
theorem wl_split (t : ByteArray) (k : Nat) : wl (t.extract 0 k) ++ wl (t.extract k t.size) = wl t := by
  unfold wl
  rw [← List.map_append]
  congr 1
  have e : t.size = t.data.toList.length := by rw [Array.length_toList]; rfl
  simp only [ByteArray.data_extract, Array.toList_extract, List.extract_eq_take_drop, List.drop_zero, Nat.sub_zero]
  rw [e, List.take_of_length_le (l := List.drop k t.data.toList) (by simp)]
  exact List.take_append_drop _ _
/-- the two halves of a word -/
theorem word_halves {t : ByteArray} {a b c d : Int} (h : wOk (wl t) = true) (hF : wR (wl t) = ⟨a, b, c, d⟩) (k : Nat) :
    ∃ e f g i p q r s : Int, (wR (wl (t.extract 0 k)) = ⟨e, f, g, i⟩ ∧ wOk (wl (t.extract 0 k)) = true ∧ (M4.mk e f g i).ok = true) ∧ (wR (wl (t.extract k t.size)) = ⟨p, q, r, s⟩ ∧ wOk (wl (t.extract k t.size)) = true ∧ (M4.mk p q r s).ok = true) ∧
      M4.mul ⟨e, f, g, i⟩ ⟨p, q, r, s⟩ = ⟨a, b, c, d⟩ ∧ (M4.mk a b c d).ok = true := by
  have hs := wl_split t k
  have h' := h
  rw [← hs] at h'
  obtain ⟨h1, h2, h3⟩ := word_parts h'
  rw [hs, hF] at h3
  obtain ⟨⟨e, f, g, i⟩, hA⟩ : ∃ A, wR (wl (t.extract 0 k)) = A := ⟨_, rfl⟩
  obtain ⟨⟨p, q, r, s⟩, hB⟩ : ∃ B, wR (wl (t.extract k t.size)) = B := ⟨_, rfl⟩
  have oA : (M4.mk e f g i).ok = true := by rw [← hA, wR_of h1]; exact (wOk_iff.1 h1).2
  have oB : (M4.mk p q r s).ok = true := by rw [← hB, wR_of h2]; exact (wOk_iff.1 h2).2
  have oF : (M4.mk a b c d).ok = true := by rw [← hF, wR_of h]; exact (wOk_iff.1 h).2
  rw [hA, hB] at h3
  exact ⟨e, f, g, i, p, q, r, s, ⟨hA, h1, oA⟩, ⟨hB, h2, oB⟩, h3, oF⟩
end Go.Proofs.Ytfkkbjbgjmaciaa

/- Arguments of a law opened to what a walk wants: pairs by value, slices of numbers, slices of pairs. -/
namespace Go.Proofs.Ytfkkbjbgjmaciaa
set_option linter.unusedVariables false
open Go.ChangeShapes Go.WideShapes Go.ChangeAt Go.RowKit Go.Joins Go.Deep

theorem own : ownKnob Try.prog.godebug = none := by kernel_rfl
theorem laidOut : laidOutB Try.prog = true := by kernel_rfl

namespace Opens
section
variable {H : Type} {enc : TypeId × Value → H} {P : Program} {w : World} {base : Nat} {spare : Nat → Bool} {held : Bool}

theorem pair_ {r : Reach} {b0 : Nat} {t i : TypeId} {f0 f1 : Field} {v : Value} {d : DataW H} {p : List MemPlace} (hs : P.underlying t = some (.struct #[f0, f1])) (hone : oneCellFields P #[f0, f1] = true) (hC : P.cellsOf t = 2)
    (hi : P.underlying i = some (.int .i64)) (hv : Value.okWide P w r b0 t v) (h : DataW.Trod enc P w base spare held t v d p) (e0 : f0.type = i := by rfl) (e1 : f1.type = i := by rfl) :
    ∃ a b : Int, v = .agg #[.int .i64 a, .int .i64 b] := by
  obtain ⟨c0, c1, y0, y1, m, rfl, -, -, hy0, hy1⟩ := open_agg2 hs hone hC hv h
  rw [e0] at hy0
  rw [e1] at hy1
  obtain ⟨a, g0, -, wa⟩ := DataW.trod_int hi hy0
  obtain ⟨b, g1, -, wb⟩ := DataW.trod_int hi hy1
  simp at g0 g1
  subst g0 g1
  exact ⟨a, b, rfl⟩

theorem four_ {r : Reach} {b0 : Nat} {t i : TypeId} {f0 f1 f2 f3 : Field} {v : Value} {d : DataW H} {p : List MemPlace} (hs : P.underlying t = some (.struct #[f0, f1, f2, f3])) (hone : oneCellFields P #[f0, f1, f2, f3] = true) (hC : P.cellsOf t = 4)
    (hi : P.underlying i = some (.int .i64)) (hv : Value.okWide P w r b0 t v) (h : DataW.Trod enc P w base spare held t v d p) (e0 : f0.type = i := by rfl) (e1 : f1.type = i := by rfl) (e2 : f2.type = i := by rfl) (e3 : f3.type = i := by rfl) :
    ∃ a b c e : Int, v = .agg #[.int .i64 a, .int .i64 b, .int .i64 c, .int .i64 e] := by
  obtain ⟨c0, c1, c2, c3, y0, y1, y2, y3, m, rfl, -, -, hy0, hy1, hy2, hy3⟩ := open_agg4 hs hone hC hv h
  rw [e0] at hy0
  rw [e1] at hy1
  rw [e2] at hy2
  rw [e3] at hy3
  obtain ⟨a, g0, -, wa⟩ := DataW.trod_int hi hy0
  obtain ⟨b, g1, -, wb⟩ := DataW.trod_int hi hy1
  obtain ⟨c, g2, -, wc⟩ := DataW.trod_int hi hy2
  obtain ⟨e, g3, -, we⟩ := DataW.trod_int hi hy3
  simp at g0 g1 g2 g3
  subst g0 g1 g2 g3
  exact ⟨a, b, c, e, rfl⟩

theorem ints_ {r : Reach} {b0 : Nat} {t e : TypeId} {v : Value} {d : DataW H} {p : List MemPlace} (hs : P.underlying t = some (.slice e)) (he : P.underlying e = some (.int .i64)) (hC : P.cellsOf e = 1)
    (hv : Value.okWide P w r b0 t v) (h : DataW.Trod enc P w base spare held t v d p) :
    ∃ (A : Option Addr) (c : Nat) (z : List Int), v = .slice A z.length c ∧ SlI w w.heap.size A z ∧ z.length ≤ c ∧ c ≤ maxLen ∧ ∀ x ∈ z, (Lit.int .i64 x).wf = true := by
  obtain ⟨A, n, c, rfl⟩ := okWide_slice hs hv
  obtain ⟨fuel, hf⟩ := h
  rcases open_ints hs he hC hf with ⟨hcs, _⟩ | ⟨a, len, cap, zs, hcs, _, hl, hm, hz, _, hcell, hwz⟩
  · simp [Value.cells] at hcs
    obtain ⟨rfl, rfl, rfl⟩ := hcs
    exact ⟨none, 0, [], rfl, SlI.nil_, Nat.le_refl _, by simp [maxLen], by simp⟩
  · simp [Value.cells] at hcs
    obtain ⟨rfl, rfl, rfl⟩ := hcs
    have hle : n ≤ zs.length := by rw [hz]; split <;> omega
    have hlen : (zs.take n).length = n := by simp; omega
    refine ⟨some a, c, zs.take n, by rw [hlen], fun h0 => ?_, by omega, hm, fun x hx => hwz x (List.mem_of_mem_take hx)⟩
    have hc0 := hcell 0 (by omega)
    obtain ⟨b, off, spot⟩ := a
    have hsp : spot = none := by simpa [Addr.add] using World.cell?_spot hc0
    subst hsp
    refine ⟨b, off, rfl, ?_, fun j hj => ?_⟩
    · have := World.block_lt_of_cell? w _ hc0
      simpa [Addr.add] using this
    · have hj2 : j < n := by omega
      have := hcell j (by omega)
      rw [Addr.add_lit] at this
      rw [this]
      simp [hj2]

theorem list2 {α : Type} {l : List α} (h : l.length = 2) : ∃ a b, l = [a, b] := by
  match l, h with
  | [a, b], _ => exact ⟨a, b, rfl⟩

theorem tell {w : World} {a : Addr} : ∀ n : Nat, (∀ j, j < n → ∃ x y : Int, w.cell? (a.add (j * 2)) = some (.int .i64 x) ∧ w.cell? (a.add (j * 2 + 1)) = some (.int .i64 y) ∧ (Lit.int .i64 x).wf = true ∧ (Lit.int .i64 y).wf = true) →
    ∃ z : List (Int × Int), z.length = n ∧ ∀ j, j < n → w.cell? (a.add (j * 2)) = some (.int .i64 (z.getD j (0, 0)).1) ∧ w.cell? (a.add (j * 2 + 1)) = some (.int .i64 (z.getD j (0, 0)).2) ∧ (Lit.int .i64 (z.getD j (0, 0)).1).wf = true ∧ (Lit.int .i64 (z.getD j (0, 0)).2).wf = true := by
  intro n each
  induction n with
  | zero => exact ⟨[], rfl, fun j hj => by omega⟩
  | succ n ih =>
    obtain ⟨z, hzl, hz⟩ := ih (fun j hj => each j (by omega))
    obtain ⟨x, y, hx, hy, wx, wy⟩ := each n (by omega)
    refine ⟨z ++ [(x, y)], by simp [hzl], fun j hj => ?_⟩
    by_cases hjn : j < n
    · have e : (z ++ [(x, y)]).getD j (0, 0) = z.getD j (0, 0) := by simp [List.getElem?_append_left (show j < z.length by omega)]
      rw [e]
      exact hz j hjn
    · obtain rfl : j = n := by omega
      have e : (z ++ [(x, y)]).getD j (0, 0) = (x, y) := by subst hzl; simp
      rw [e]
      exact ⟨hx, hy, wx, wy⟩

theorem pairs_ {r : Reach} {b0 : Nat} {t e i : TypeId} {f0 f1 : Field} {v : Value} {d : DataW H} {p : List MemPlace} (hs : P.underlying t = some (.slice e)) (he : P.underlying e = some (.struct #[f0, f1])) (hone : oneCellFields P #[f0, f1] = true) (hC : P.cellsOf e = 2)
    (hi : P.underlying i = some (.int .i64)) (hv : Value.okWide P w r b0 t v) (h : DataW.Trod enc P w base spare held t v d p) (e0 : f0.type = i := by rfl) (e1 : f1.type = i := by rfl) :
    ∃ (A : Option Addr) (c : Nat) (z : List (Int × Int)), v = .slice A z.length c ∧ SlD w w.heap.size A z ∧ z.length ≤ c ∧ c ≤ maxLen ∧ ∀ x ∈ z, (Lit.int .i64 x.1).wf = true ∧ (Lit.int .i64 x.2).wf = true := by
  obtain ⟨A, n, c, rfl⟩ := okWide_slice hs hv
  obtain ⟨fuel, hf⟩ := h
  rcases open_slice hs hf with ⟨hcs, _⟩ | ⟨a, len, cap, m, k, D, Pl, hcs, _, hl, hm, hmm, _, hcell⟩
  · simp [Value.cells] at hcs
    obtain ⟨rfl, rfl, rfl⟩ := hcs
    exact ⟨none, 0, [], rfl, SlD.nil_, Nat.le_refl _, by simp [maxLen], by simp⟩
  · simp [Value.cells] at hcs
    obtain ⟨rfl, rfl, rfl⟩ := hcs
    have hle : n ≤ m := by rw [hmm]; split <;> omega
    have each : ∀ j, j < n → ∃ x y : Int, w.cell? (a.add (j * 2)) = some (.int .i64 x) ∧ w.cell? (a.add (j * 2 + 1)) = some (.int .i64 y) ∧ (Lit.int .i64 x).wf = true ∧ (Lit.int .i64 y).wf = true := by
      intro j hj
      obtain ⟨cs', hc, ht⟩ := hcell j (by omega)
      rw [hC] at hc
      obtain ⟨_, hcl, hat⟩ := World.cells?_some hc
      obtain ⟨y0, y1, k', hx, hlen, h0, h1⟩ := trod_struct2 he ht
      obtain ⟨o0, k0⟩ := hone_of hone 0 f0 rfl
      obtain ⟨o1, k1⟩ := hone_of hone 1 f1 rfl
      obtain ⟨c0, c1, rfl⟩ := list2 hcl
      rw [e0] at k0 h0
      rw [e1] at k1 h1
      simp [o0, k0] at h0
      simp [o1, k1] at h1
      obtain ⟨x, g0, -, wx⟩ := DataW.trod_int hi h0
      obtain ⟨y, g1, -, wy⟩ := DataW.trod_int hi h1
      simp at g0 g1
      subst g0 g1
      have q0 := hat 0 (by omega)
      have q1 := hat 1 (by omega)
      rw [Go.Deep.add_add] at q0 q1
      exact ⟨x, y, by simpa using q0, by simpa using q1, wx, wy⟩
    obtain ⟨z, hzl, hz⟩ := tell n each
    subst hzl
    refine ⟨some a, c, z, rfl, fun h0 => ?_, by omega, hm, fun x hx => ?_⟩
    · have hc0 := (hz 0 h0).1
      obtain ⟨b, off, spot⟩ := a
      have hsp : spot = none := by simpa [Addr.add] using World.cell?_spot hc0
      subst hsp
      refine ⟨b, off, rfl, ?_, fun j hj => ?_⟩
      · have := World.block_lt_of_cell? w _ hc0
        simpa [Addr.add] using this
      · obtain ⟨q0, q1, _⟩ := hz j hj
        rw [Addr.add_lit] at q0 q1
        exact ⟨q0, q1⟩
    · obtain ⟨j, hj, rfl⟩ := List.getElem_of_mem hx
      obtain ⟨_, _, q2, q3⟩ := hz j hj
      have e : z.getD j (0, 0) = z[j] := by simp [hj]
      rw [e] at q2 q3
      exact ⟨q2, q3⟩
end
end Opens
end Go.Proofs.Ytfkkbjbgjmaciaa

/- Laws of puzzles (a struct of one list of numbers): the argument opened; the laws' own helpers: copied, compared, marked, held, sized; how results of that kind are told. -/
namespace Go.Proofs.Ytfkkbjbgjmaciaa
set_option linter.unusedVariables false
open Go.RowKit

open Go.ChangeShapes Go.WideShapes Go.ChangeAt Go.Joins Go.Deep in
theorem Opens.agints_ {H : Type} {enc : TypeId × Value → H} {P : Program} {w : World} {base : Nat} {spare : Nat → Bool} {held : Bool} {r : Reach} {b0 : Nat} {t s e : TypeId} {f0 : Field} {v : Value} {d : DataW H} {p : List MemPlace} (ht : P.underlying t = some (.struct #[f0])) (hone : oneCellFields P #[f0] = true) (hC : P.cellsOf t = 1)
    (hs : P.underlying s = some (.slice e)) (he : P.underlying e = some (.int .i64)) (hCe : P.cellsOf e = 1)
    (hv : Value.okWide P w r b0 t v) (h : DataW.Trod enc P w base spare held t v d p) (e0 : f0.type = s := by rfl) :
    ∃ (A : Option Addr) (c : Nat) (z : List Int), v = .agg #[.slice A z.length c] ∧ SlI w w.heap.size A z ∧ z.length ≤ c ∧ c ≤ maxLen ∧ ∀ x ∈ z, (Lit.int .i64 x).wf = true := by
  obtain ⟨cs, rfl, hsz⟩ := okWide_struct ht hv
  have hcs1 : ∃ v0, cs = #[v0] := by
    have h1 : cs.size = 1 := hsz.trans hC
    match cs, h1 with
    | ⟨[v0]⟩, _ => exact ⟨v0, rfl⟩
  obtain ⟨v0, rfl⟩ := hcs1
  obtain ⟨fuel, hf0⟩ := h
  obtain ⟨y0, n0, _, _, h0⟩ := trod_struct1 ht hf0
  obtain ⟨o0, k0⟩ := hone_of hone 0 f0 rfl
  have hf : DataW.trod enc P w base spare held n0 f0.type [v0] = some y0 := by simpa [Value.cells, o0, k0] using h0
  rw [e0] at hf
  rcases open_ints hs he hCe hf with ⟨hcs, _⟩ | ⟨a, n, c, zs, hcs, _, hl, hm, hz, _, hcell, hwz⟩
  · simp at hcs
    subst hcs
    exact ⟨none, 0, [], rfl, SlI.nil_, Nat.le_refl _, by simp [maxLen], by simp⟩
  · simp at hcs
    subst hcs
    have hle : n ≤ zs.length := by rw [hz]; split <;> omega
    have hlen : (zs.take n).length = n := by simp; omega
    refine ⟨some a, c, zs.take n, by rw [hlen], fun h0 => ?_, by omega, hm, fun x hx => hwz x (List.mem_of_mem_take hx)⟩
    have hc0 := hcell 0 (by omega)
    obtain ⟨b, off, spot⟩ := a
    have hsp : spot = none := by simpa [Addr.add] using World.cell?_spot hc0
    subst hsp
    refine ⟨b, off, rfl, ?_, fun j hj => ?_⟩
    · have := World.block_lt_of_cell? w _ hc0
      simpa [Addr.add] using this
    · have hj2 : j < n := by omega
      have := hcell j (by omega)
      rw [Addr.add_lit] at this
      rw [this]
      simp [hj2]

/-- results of that kind -/
def RetP (w : World) (L : List Int) (ok : Bool) (e : Ending) (w' : World) : Prop :=
  ∃ A c, e = .returned (.tuple #[.agg #[.slice A L.length c], .bool ok]) ∧ w'.ownsRow w.heap.size 3 1 (.slice A L.length c) L.length (ics L) ∧ Below w.heap.size w w'
def GivP (w : World) (L : List Int) (e : Ending) (w' : World) : Prop :=
  ∃ A c, e = .returned (.agg #[.slice A L.length c]) ∧ w'.ownsRow w.heap.size 3 1 (.slice A L.length c) L.length (ics L) ∧ Below w.heap.size w w'

theorem below_box {B : Nat} {w0 w : World} (h : Below B w0 w) (hB : B ≤ w0.heap.size) (o : Obj) : Below B w0 (w.alloc o) := h.alloc (Nat.le_trans hB h.size) _
/-- a box: a block of one cell -/
def Bo (w : World) (b : Nat) (v : Value) (t : TypeId) : Prop := w.heap[b]? = some (.cells #[v] t)
section
variable {w w' : World} {b : Nat} {v : Value} {t : TypeId}
theorem Bo.new (w : World) (v : Value) (t : TypeId) : Bo (w.alloc (.cells #[v] t)) w.heap.size v t := by
  exact heap_alloc_new w _
theorem Bo.lt (h : Bo w b v t) : b < w.heap.size := (Array.getElem?_eq_some_iff.1 h).1
theorem Bo.cell (h : Bo w b v t) : w.cell? ⟨b, 0, none⟩ = some v := by
  have h' : w.heap[b]? = some (.cells #[v] t) := h
  simp [World.cell?, h']
theorem Bo.frozen (h : Bo w b v t) : w.frozen? ⟨b, 0, none⟩ = false := by
  have h' : w.heap[b]? = some (.cells #[v] t) := h
  simp [World.frozen?, h']
theorem Bo.kept (h : Bo w b v t) (hb : Below w.heap.size w w') : Bo w' b v t := (hb.block b h.lt).trans h
theorem Bo.set (h : Bo w b v t) (u : Value) : Bo (w.setCell ⟨b, 0, none⟩ u) b u t := one_setCell h
theorem Bo.setFar {a : Addr} (h : Bo w b v t) (ha : b ≠ a.block) (u : Value) : Bo (w.setCell a u) b v t := (Below.heap_setCell _ _ _ _ ha).trans h
theorem Bo.alloc (h : Bo w b v t) (o : Obj) : Bo (w.alloc o) b v t := h.kept ((Below.refl _ _).alloc (Nat.le_refl _) _)
theorem Bo.far {row : Option Nat} (h : Bo w b v t) (hg : w.grownBy w' row) (hne : some b ≠ row) : Bo w' b v t := (hg.block b h.lt hne).trans h
theorem bo_ne {base e size n : Nat} {u : Value} {xs : List Value} (h : Bo w b v t) (r : w.ownsRow base e size u n xs) (hte : e ≠ t) : some b ≠ u.ownBlock := by
  intro he
  rcases r.2 with ⟨rfl, _⟩ | ⟨g, cap, cur, rfl, _, hh, _⟩
  · simp [Value.ownBlock] at he
  · simp [Value.ownBlock] at he
    subst he
    have h' : w.heap[b]? = some (.cells #[v] t) := h
    rw [h'] at hh
    injection hh with hh
    injection hh with _ ht
    exact hte ht.symm
end






end Go.Proofs.Ytfkkbjbgjmaciaa

/- The cursor that the draws read: its next byte. -/
namespace Go.Proofs.Ytfkkbjbgjmaciaa
set_option linter.unusedVariables false
open Go.RowKit

/-- a slice of bytes, below block B -/
def CodeB (w : World) (B : Nat) (A : Option Addr) (n : Nat) : Prop :=
  0 < n → ∃ b off, A = some ⟨b, off, none⟩ ∧ b < B ∧ ∀ j, j < n → ∃ x : Int, (0 ≤ x ∧ x ≤ 255) ∧ w.cell? ⟨b, off + j, none⟩ = some (.int .u8 x)
theorem CodeB.keep {w w' : World} {B : Nat} {A : Option Addr} {n : Nat} (h : CodeB w B A n) (hk : ∀ b o, b < B → w'.cell? ⟨b, o, none⟩ = w.cell? ⟨b, o, none⟩) : CodeB w' B A n := fun h0 => by
  obtain ⟨b, off, e, hb, hc⟩ := h h0
  refine ⟨b, off, e, hb, fun j hj => ?_⟩
  obtain ⟨x, hx, hc⟩ := hc j hj
  exact ⟨x, hx, (hk _ _ hb).trans hc⟩
/-- a cursor: block g; it has taken at most N bytes -/
def Cur (w : World) (g N : Nat) : Prop :=
  ∃ (A : Option Addr) (n c a : Nat) (s : Int), n ≤ 1048576 ∧ a ≤ N ∧ (0 ≤ s ∧ s ≤ 18446744073709551615) ∧ w.heap[g]? = some (.cells #[.slice A n c, .int .i64 a, .int .u64 s] 98) ∧ CodeB w g A n
theorem Cur.more {w : World} {g N N' : Nat} (h : Cur w g N) (hN : N ≤ N') : Cur w g N' := by
  obtain ⟨A, n, c, a, s, h1, h2, h3, h4, h5⟩ := h
  exact ⟨A, n, c, a, s, h1, by omega, h3, h4, h5⟩
theorem Cur.lt {w : World} {g N : Nat} (h : Cur w g N) : g < w.heap.size := by
  obtain ⟨A, n, c, a, s, h1, h2, h3, h4, h5⟩ := h
  exact (Array.getElem?_eq_some_iff.1 h4).1
theorem Cur.kept {w w' : World} {g N : Nat} (h : Cur w g N) (hb : Below w.heap.size w w') : Cur w' g N := by
  have hl := h.lt
  obtain ⟨A, n, c, a, s, h1, h2, h3, h4, h5⟩ := h
  exact ⟨A, n, c, a, s, h1, h2, h3, (hb.block g hl).trans h4, h5.keep fun b o hb' => hb.cell (p := ⟨b, o, none⟩) (Nat.lt_trans hb' hl)⟩
theorem Cur.far {w w' : World} {g N : Nat} {row : Option Nat} (h : Cur w g N) (hg : w.grownBy w' row) (hr : ∀ k, row = some k → g < k) : Cur w' g N := by
  have hl := h.lt
  have hne : ∀ b, b ≤ g → some b ≠ row := fun b hb e => by have := hr b e.symm; omega
  obtain ⟨A, n, c, a, s, h1, h2, h3, h4, h5⟩ := h
  refine ⟨A, n, c, a, s, h1, h2, h3, (hg.block g hl (hne g (Nat.le_refl _))).trans h4, h5.keep fun b o hb' => ?_⟩
  exact World.cell?_of_block (w := w) (hg.block b (Nat.lt_trans hb' hl) (hne b (Nat.le_of_lt hb')))
theorem grownC_drewN {w w' : World} {row : Option Nat} (h : w.grownBy w' row) (k : Nat) : w.grownBy (w'.drewN k) row := ⟨h.os, h.tape, h.output, h.size, h.block⟩

theorem grownC_set (w : World) (g j : Nat) (v : Value) : w.grownBy (w.setCell ⟨g, j, none⟩ v) (some g) :=
  ⟨rfl, rfl, rfl, by simp, fun k _ hk => heap_setCell_other w ⟨g, j, none⟩ k v (fun e => hk (by simp [e]))⟩
theorem cur_step {w : World} {g : Nat} {v : Value} {a s : Int} {t : TypeId} (h : w.heap[g]? = some (.cells #[v, .int .i64 a, .int .u64 s] t)) (k : Nat) (a' s' : Int) :
    ∃ w4, w4 = ((w.drewN k).setCell ⟨g, 1, none⟩ (.int .i64 a')).setCell ⟨g, 2, none⟩ (.int .u64 s') ∧ w4.heap[g]? = some (.cells #[v, .int .i64 a', .int .u64 s'] t) ∧ w.grownBy w4 (some g) := by
  refine ⟨_, rfl, ?_, ?_⟩
  · have h1 := heap_setCell_same (w.drewN k) g 1 _ _ (.int .i64 a') (show (w.drewN k).heap[g]? = _ from h)
    have h2 := heap_setCell_same _ g 2 _ _ (.int .u64 s') h1
    simpa using h2
  · exact World.grownBy.trans (grownC_drewN (World.grownBy.refl w _) k) ((grownC_set _ g 1 _).trans (grownC_set _ g 2 _))
theorem wrap_u64 (x : Int) : 0 ≤ IntKind.u64.wrap x ∧ IntKind.u64.wrap x ≤ 18446744073709551615 := by
  unfold IntKind.wrap
  simp [IntKind.bits, IntKind.signed]
  omega

theorem and_255 (x : Int) : 0 ≤ bits .and .u64 x 255 ∧ bits .and .u64 x 255 ≤ 255 := by
  have h : (BitVec.ofInt 64 x &&& BitVec.ofInt 64 255).toNat ≤ 255 := by
    rw [BitVec.toNat_and]
    exact Nat.le_trans Nat.and_le_right (by decide)
  have e : bits .and .u64 x 255 = IntKind.u64.wrap ((BitVec.ofInt 64 x &&& BitVec.ofInt 64 255).toNat : Int) := rfl
  rw [e]
  generalize (BitVec.ofInt 64 x &&& BitVec.ofInt 64 255).toNat = y at *
  unfold IntKind.wrap
  simp [IntKind.bits, IntKind.signed]
  omega

set_option maxRecDepth 100000 in
set_option maxHeartbeats 6400000 in
theorem spec_next (g N : Nat) (w : World) (h : Cur w g N) (hN : N ≤ 1000000000000) :
    Calls Try.prog 173 #[.pointer (some ⟨g, 0, none⟩)] w fun e w' => ∃ r : Int, e = .returned (.int .i64 r) ∧ (0 ≤ r ∧ r ≤ 255) ∧ Cur w' g (N + 1) ∧ w.grownBy w' (some g) := by
  obtain ⟨A, n, c, a, s, h1, h2, ⟨s0, s1⟩, h4, h5⟩ := h
  have c0 : w.cell? ⟨g, 0, none⟩ = some (.slice A n c) := by simp [World.cell?, h4]
  have c1 : w.cell? ⟨g, 1, none⟩ = some (.int .i64 a) := by simp [World.cell?, h4]
  have c2 : w.cell? ⟨g, 2, none⟩ = some (.int .u64 s) := by simp [World.cell?, h4]
  have f1 : w.frozen? ⟨g, 1, none⟩ = false := by simp [World.frozen?, h4]
  have f2 : w.frozen? ⟨g, 2, none⟩ = false := by simp [World.frozen?, h4]
  have a0 : (a : Int) ≤ 1000000000000 := by omega
  have n0 : (n : Int) ≤ 1048576 := by omega
  have hgl : g < w.heap.size := (Array.getElem?_eq_some_iff.1 h4).1
  have HE : Hid (∀ (k : Nat) (s' : Int), 0 ≤ s' ∧ s' ≤ 18446744073709551615 → ∃ w4, w4 = ((w.drewN k).setCell ⟨g, 1, none⟩ (.int .i64 ((a : Int) + 1))).setCell ⟨g, 2, none⟩ (.int .u64 s') ∧ Cur w4 g (N + 1) ∧ w.grownBy w4 (some g) ∧ w4.cell? ⟨g, 0, none⟩ = some (.slice A n c) ∧ w4.cell? ⟨g, 1, none⟩ = some (.int .i64 ((a : Int) + 1)) ∧ w4.cell? ⟨g, 2, none⟩ = some (.int .u64 s')) := Lib.hid fun k s' hs' => by
    obtain ⟨w4, e4, k4, g4⟩ := cur_step h4 k ((a : Int) + 1) s'
    refine ⟨w4, e4, ⟨A, n, c, a + 1, s', h1, by omega, hs', k4, h5.keep fun b o hb => ?_⟩, g4, by simp [World.cell?, k4], by simp [World.cell?, k4], by simp [World.cell?, k4]⟩
    exact World.cell?_of_block (w := w) (g4.block b (Nat.lt_trans hb hgl) (fun e => by injection e with e; omega))
  by_cases hlt : a < n
  · obtain ⟨b, off, rfl, hb, hc⟩ := h5 (by omega)
    obtain ⟨x, ⟨x0, x1⟩, cx⟩ := hc a hlt
    have i1 : (a : Int) < (n : Int) := by omega
    have i2 : (a : Int) + 1 ≤ (n : Int) := by omega
    clear h4 h5 hc hgl
    go_enter Try.func173, Try.ntmps173
    go_wp2
    go_quiet (fail)
    rename Nat => k1
    go_wp2
    go_quiet (fail)
    rename Nat => k2
    go_wp2
    have hsw := wrap_u64 (IntKind.u64.wrap (IntKind.u64.wrap (s * 6364136223846793005) + x) + 1442695040888963407)
    generalize IntKind.u64.wrap (IntKind.u64.wrap (IntKind.u64.wrap (s * 6364136223846793005) + x) + 1442695040888963407) = s' at *
    obtain ⟨w4, e4, hcur, hg4, d0, d1, d2⟩ := HE.out (k1 + k2) s' hsw
    rw [← e4]
    have HF := Lib.hid (And.intro hcur hg4)
    clear HE c0 c1 c2 f1 f2 cx e4 hcur hg4
    go_quiet (fail)
    rename Nat => k3
    go_wp2
    go_ret
    exact ⟨x, rfl, ⟨x0, x1⟩, HF.out.1, grownC_drewN HF.out.2 k3⟩
  · have i1 : ¬ (a : Int) < (n : Int) := by omega
    have i2 : ¬ (a : Int) + 1 ≤ (n : Int) := by omega
    clear h4 h5 hgl
    go_enter Try.func173, Try.ntmps173
    go_wp2
    go_quiet (fail)
    rename Nat => k1
    go_wp2
    have hsw := wrap_u64 (IntKind.u64.wrap (IntKind.u64.wrap (s * 6364136223846793005)) + 1442695040888963407)
    generalize IntKind.u64.wrap (IntKind.u64.wrap (IntKind.u64.wrap (s * 6364136223846793005)) + 1442695040888963407) = s' at *
    obtain ⟨w4, e4, hcur, hg4, d0, d1, d2⟩ := HE.out k1 s' hsw
    rw [← e4]
    have HF := Lib.hid (And.intro hcur hg4)
    clear HE c0 c1 c2 f1 f2 e4 hcur hg4
    go_quiet (fail)
    rename Nat => k3
    go_wp2
    have hr := and_255 (s' / 1099511627776)
    have hw : wrap64 (bits BinOp.and IntKind.u64 (s' / 1099511627776) 255) = bits BinOp.and IntKind.u64 (s' / 1099511627776) 255 := by unfold wrap64; omega
    go_ret
    exact ⟨wrap64 (bits BinOp.and IntKind.u64 (s' / 1099511627776) 255), rfl, by rw [hw]; exact hr, HF.out.1, grownC_drewN HF.out.2 k3⟩
end Go.Proofs.Ytfkkbjbgjmaciaa
