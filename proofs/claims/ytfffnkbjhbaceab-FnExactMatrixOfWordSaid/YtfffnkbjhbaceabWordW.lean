/- MatrixOfWord: both contracts, and the law's walk. -/
import Derived.Test.YtfffnkbjhbaceabWordM
import Derived.Test.YtfffnkbjhbaceabMatrixOfWordC
import Derived.Deep.DeepCutAuto
namespace Go.Proofs.Ytfffnkbjhbaceab
set_option linter.unusedVariables false
open Go.RowKit

theorem spec_MatrixOfWord_long (a : ByteArray) (w : World) (h : 40 < a.size) : Calls Try.prog 10 #[.string a] w (WEnd (wl a) w) := by
  have hE := Lib.hid (wEnd_no (l := wl a) (okW_long (by rw [wl_length]; exact h)) ((Below.refl w.heap.size w).alloc (Nat.le_refl _) (.cells #[.int .i64 0, .int .i64 0, .int .i64 0, .int .i64 0] 23)))
  have h2 : (40 : Int) < (a.size : Int) := by omega
  generalize wl a = l at *
  clear h
  go_enter Try.func10, Try.ntmps10
  go_wp2
  refine bodyPost_ret (v := .tuple #[.agg #[.int .i64 0, .int .i64 0, .int .i64 0, .int .i64 0], .bool false]) (by simp [results, Try.results10, go_sem]) rfl ?_
  exact hE.out
theorem impl_MatrixOfWord_long (a : ByteArray) (w : World) (h : 40 < a.size) : Calls Try.prog 11 #[.string a] w (WEnd (wl a) w) := by
  have hE := Lib.hid (wEnd_no (l := wl a) (okW_long (by rw [wl_length]; exact h)) ((Below.refl w.heap.size w).alloc (Nat.le_refl _) (.cells #[.int .i64 0, .int .i64 0, .int .i64 0, .int .i64 0] 23)))
  have h2 : (40 : Int) < (a.size : Int) := by omega
  generalize wl a = l at *
  clear h
  go_enter Try.func11, Try.ntmps11
  go_wp2
  refine bodyPost_ret (v := .tuple #[.agg #[.int .i64 0, .int .i64 0, .int .i64 0, .int .i64 0], .bool false]) (by simp [results, Try.results11, go_sem]) rfl ?_
  exact hE.out
set_option maxRecDepth 100000 in
set_option maxHeartbeats 3200000 in
theorem spec_MatrixOfWord_fit (a : ByteArray) (w : World) (h : a.size ≤ 40) : Calls Try.prog 10 #[.string a] w (WEnd (wl a) w) := by
  have hw := Lib.hid (wl_length a)
  have hx := Lib.hid (wl_get a)
  have h40 : (a.size : Int) ≤ 40 := by omega
  generalize wl a = l at *
  have HBD := Lib.hid (word_bd l (by have := hw.out; omega))
  have Hw := hw.out
  go_enter Try.func10, Try.ntmps10
  go_wp2_with fail
  refine (spec_mxOne _).mono ?_
  rintro e w1 ⟨rfl, hb1⟩
  have R := (Zb.new w 23).kept hb1
  have hd := ((Below.refl w.heap.size w).alloc (Nat.le_refl _) _).trans (hb1.mono (by simp))
  have yR := R.1.lt
  obtain ⟨g, hg⟩ : ∃ g, g = w1.heap.size := ⟨_, rfl⟩
  obtain ⟨wz, hwz⟩ : ∃ wz, wz = w1.alloc (.cells #[.int .i64 1, .int .i64 0, .int .i64 0, .int .i64 1] 23) := ⟨_, rfl⟩
  have Q1 := Lib.hid (show Bx wz g 1 0 0 1 by rw [hwz, hg]; exact Bx.new w1 _ 1 0 0 1)
  have Q2 := Lib.hid (show Fz wz g by rw [hwz, hg]; exact Fz.new w1 _ 1 0 0 1)
  have R3 := Lib.hid (show Zb wz w.heap.size by rw [hwz]; exact R.kept ((Below.refl _ _).alloc (Nat.le_refl _) _))
  have hdz := Lib.hid (show Below w.heap.size w wz by rw [hwz]; exact below_alloc1 hd (Nat.le_refl _) _)
  have hgz : w.heap.size < g := by omega
  clear R hd hb1 yR
  go_wp2
  rw [← hwz, ← hg]
  clear hwz hg
  go_loopw [5, 6, 7] (fun i _ _ wr => ∃ k : Nat, k ≤ a.size ∧ i = .int .i64 k ∧ (∀ j, j < k → okLet (l.getD j 0) = true) ∧ Bx wr g (prodF M4.mul ((l.map letM).take k)).a (prodF M4.mul ((l.map letM).take k)).b (prodF M4.mul ((l.map letM).take k)).c (prodF M4.mul ((l.map letM).take k)).d ∧ Fz wr g ∧ Zb wr w.heap.size ∧ Below w.heap.size w wr) (fun i _ _ _ => a.size - (intOf i).toNat)
  case atStart => exact ⟨0, Nat.zero_le _, rfl, fun j hj => absurd hj (Nat.not_lt_zero _), Q1.out, Q2.out, R3.out, hdz.out⟩
  case round =>
    clear Q1 Q2 R3 hdz
    obtain ⟨k, hk, rfl, hall, hq, hfq, hr, hb⟩ := hrel
    by_cases hlt : k < a.size
    · have hgt := hx.out k hlt
      have k0 : (0 : Int) ≤ (k : Int) := by omega
      have k1 : (k : Int) < (a.size : Int) := by omega
      have y0 := hr.1.lt
      have y1 := hq.lt
      cases hok : okLet (l.getD k 0)
      · have hbad := okW_bad (show k < l.length by omega) hok
        obtain ⟨n1, n2⟩ := okLet_no hok
        rw [hgt] at n1 n2
        have HE := Lib.hid (fun w' (hb : Below w.heap.size w w') => wEnd_no hbad hb)
        have HR := Lib.hid hr
        have HB := Lib.hid hb
        clear hx hbad hall hok hgt hq hfq hr hb
        go_wp2_with fail
        refine (spec_mxLetter_no (((a[k]'hlt).toNat : Nat) : Int) _ n1 n2).mono ?_
        rintro e w2 ⟨rfl, hb2⟩
        have R2 := HR.out.kept hb2
        have D2 := below_kept HB.out (Nat.le_refl _) hb2
        have yz := R2.1.lt
        obtain ⟨⟨z0, z1, z2, z3⟩, ⟨f0, f1, f2, f3⟩⟩ := R2
        have hE := Lib.hid (HE.out _ (below_alloc1 (below_set4 (g := w.heap.size) (x0 := .int .i64 0) (x1 := .int .i64 0) (x2 := .int .i64 0) (x3 := .int .i64 0) D2 (Nat.le_refl _)) (Nat.le_refl _) (.cells #[.int .i64 0, .int .i64 0, .int .i64 0, .int .i64 0] 23)))
        clear hb2 D2 HE HR HB
        go_wp2
        refine bodyPost_ret (v := .tuple #[.agg #[.int .i64 0, .int .i64 0, .int .i64 0, .int .i64 0], .bool false]) ?hr rfl ?hR
        case hr => simp [results, Try.results10, go_sem, z0, z1, z2, z3, yz]
        case hR => exact hE.out
      · have hst := prodF_take M4.mul (l.map letM) k (by rw [List.length_map]; omega)
        have hgl : (l.map letM).getD k M4.one = letM (l.getD k 0) := by simp [show k < l.length by omega]
        obtain ⟨P, Q, hP, hQ, hPQ⟩ := HBD.out k (by rw [List.length_map]; omega)
        rw [hgl] at hst hQ
        have hall2 : ∀ j, j < k + 1 → okLet (l.getD j 0) = true := fun j hj => by
          by_cases e : j = k
          · rw [e]; exact hok
          · exact hall j (by omega)
        have Hall := Lib.hid hall2
        have hxx := okLet_yes hok
        rw [hgt] at hst hQ hxx
        clear hall hall2 hok hgl hx hgt
        generalize prodF M4.mul ((l.map letM).take k) = m at *
        obtain ⟨p, q, r, s⟩ := m
        dsimp only at *
        have Ha := Lib.hid hq
        have Hfq := Lib.hid hfq
        have HR := Lib.hid hr
        have HB := Lib.hid hb
        clear hfq hr hb hq
        rcases hxx with hxx | hxx
        · have hlm : letM (((a[k]'hlt).toNat : Nat) : Int) = ⟨1, 0, 1, 1⟩ := by rw [hxx]; rfl
          rw [hlm] at hst hQ
          clear hlm
          have Ht := Lib.hid (fun w => spec_mxTimes p q r s 1 0 1 1 P Q w hP hQ hPQ)
          have hst2 : prodF M4.mul ((l.map letM).take (k + 1)) = ⟨p * 1 + q * 1, p * 0 + q * 1, r * 1 + s * 1, r * 0 + s * 1⟩ := hst
          obtain ⟨t0, ht0⟩ : ∃ t : Int, t = p * 1 + q * 1 := ⟨_, rfl⟩
          obtain ⟨t1, ht1⟩ : ∃ t : Int, t = p * 0 + q * 1 := ⟨_, rfl⟩
          obtain ⟨t2, ht2⟩ : ∃ t : Int, t = r * 1 + s * 1 := ⟨_, rfl⟩
          obtain ⟨t3, ht3⟩ : ∃ t : Int, t = r * 0 + s * 1 := ⟨_, rfl⟩
          rw [← ht0, ← ht1, ← ht2, ← ht3] at Ht hst2
          have Hst := Lib.hid hst2
          clear ht0 ht1 ht2 ht3 hst hst2 hP hQ hPQ
          go_wp2_with fail
          refine (spec_mxLetter_l _).mono ?_
          rintro e w2 ⟨rfl, hb2⟩
          have hAl : Below w2.heap.size w2 (w2.alloc (.cells #[.int .i64 1, .int .i64 0, .int .i64 1, .int .i64 1] 23)) := (Below.refl _ _).alloc (Nat.le_refl _) _
          have N1 := Bx.new w2 23 1 0 1 1
          have A2 := (Ha.out.kept hb2).kept hAl
          have F2 := (Hfq.out.kept Ha.out.lt hb2).kept (Ha.out.kept hb2).lt hAl
          have R2 := (HR.out.kept hb2).kept hAl
          have D2 := below_kept (below_kept HB.out (Nat.le_refl _) hb2) (Nat.le_refl _) hAl
          obtain ⟨wn, hwn⟩ : ∃ wn, wn = (w2.alloc (.cells #[.int .i64 1, .int .i64 0, .int .i64 1, .int .i64 1] 23)) := ⟨_, rfl⟩
          obtain ⟨gn, hgn⟩ : ∃ gn, gn = w2.heap.size := ⟨_, rfl⟩
          rw [← hwn] at N1 A2 F2 R2 D2
          rw [← hgn] at N1
          clear hb2 hAl Ha Hfq HR HB
          have yA := A2.lt
          have yN := N1.lt
          have A3 := Lib.hid A2
          have F3 := Lib.hid F2
          have R3 := Lib.hid R2
          have D3 := Lib.hid D2
          obtain ⟨a0, a1, a2, a3⟩ := A2
          obtain ⟨n0, n1, n2, n3⟩ := N1
          clear F2 R2 D2
          go_upto_region 8 with fail
          rw [← hwn, ← hgn]
          clear hwn hgn
          go_wp2_with fail
          refine (Ht.out _).mono ?_
          rintro e w3 ⟨rfl, hb3⟩
          have A4 := A3.out.kept hb3
          have F4 := F3.out.kept A3.out.lt hb3
          have R4 := R3.out.kept hb3
          have D4 := below_kept D3.out (Nat.le_refl _) hb3
          have J1 := Lib.hid (bx_sto4 A4 t0 t1 t2 t3)
          have J2 := Lib.hid (fz_sto4 (g := g) F4 t0 t1 t2 t3)
          have J4 : Hid (Zb (sto4 w3 g t0 t1 t2 t3) w.heap.size) := Lib.hid ⟨bx_sto4_far R4.1 (by omega) t0 t1 t2 t3, fz_sto4 (g := g) R4.2 t0 t1 t2 t3⟩
          have J5 := Lib.hid (below_put4 (g := g) D4 (by omega) t0 t1 t2 t3)
          have y4 := A4.lt
          clear a0 a1 a2 a3 n0 n1 n2 n3
          obtain ⟨a0, a1, a2, a3⟩ := A4
          obtain ⟨f0, f1, f2, f3⟩ := F4
          clear hb3 R4 D4 A3 F3 R3 D3 Ht yA yN
          unfold sto4 at J1 J2 J4 J5
          go_wp2
          go_roundw
          case rel => exact ⟨k + 1, by omega, by go_num, Hall.out, by rw [Hst.out]; exact J1.out, J2.out, J4.out, J5.out⟩
          case measure => simp [intOf]; omega
        · have hlm : letM (((a[k]'hlt).toNat : Nat) : Int) = ⟨1, 1, 0, 1⟩ := by rw [hxx]; rfl
          rw [hlm] at hst hQ
          clear hlm
          have Ht := Lib.hid (fun w => spec_mxTimes p q r s 1 1 0 1 P Q w hP hQ hPQ)
          have hst2 : prodF M4.mul ((l.map letM).take (k + 1)) = ⟨p * 1 + q * 0, p * 1 + q * 1, r * 1 + s * 0, r * 1 + s * 1⟩ := hst
          obtain ⟨t0, ht0⟩ : ∃ t : Int, t = p * 1 + q * 0 := ⟨_, rfl⟩
          obtain ⟨t1, ht1⟩ : ∃ t : Int, t = p * 1 + q * 1 := ⟨_, rfl⟩
          obtain ⟨t2, ht2⟩ : ∃ t : Int, t = r * 1 + s * 0 := ⟨_, rfl⟩
          obtain ⟨t3, ht3⟩ : ∃ t : Int, t = r * 1 + s * 1 := ⟨_, rfl⟩
          rw [← ht0, ← ht1, ← ht2, ← ht3] at Ht hst2
          have Hst := Lib.hid hst2
          clear ht0 ht1 ht2 ht3 hst hst2 hP hQ hPQ
          go_wp2_with fail
          refine (spec_mxLetter_r _).mono ?_
          rintro e w2 ⟨rfl, hb2⟩
          have hAl : Below w2.heap.size w2 (w2.alloc (.cells #[.int .i64 1, .int .i64 1, .int .i64 0, .int .i64 1] 23)) := (Below.refl _ _).alloc (Nat.le_refl _) _
          have N1 := Bx.new w2 23 1 1 0 1
          have A2 := (Ha.out.kept hb2).kept hAl
          have F2 := (Hfq.out.kept Ha.out.lt hb2).kept (Ha.out.kept hb2).lt hAl
          have R2 := (HR.out.kept hb2).kept hAl
          have D2 := below_kept (below_kept HB.out (Nat.le_refl _) hb2) (Nat.le_refl _) hAl
          obtain ⟨wn, hwn⟩ : ∃ wn, wn = (w2.alloc (.cells #[.int .i64 1, .int .i64 1, .int .i64 0, .int .i64 1] 23)) := ⟨_, rfl⟩
          obtain ⟨gn, hgn⟩ : ∃ gn, gn = w2.heap.size := ⟨_, rfl⟩
          rw [← hwn] at N1 A2 F2 R2 D2
          rw [← hgn] at N1
          clear hb2 hAl Ha Hfq HR HB
          have yA := A2.lt
          have yN := N1.lt
          have A3 := Lib.hid A2
          have F3 := Lib.hid F2
          have R3 := Lib.hid R2
          have D3 := Lib.hid D2
          obtain ⟨a0, a1, a2, a3⟩ := A2
          obtain ⟨n0, n1, n2, n3⟩ := N1
          clear F2 R2 D2
          go_upto_region 8 with fail
          rw [← hwn, ← hgn]
          clear hwn hgn
          go_wp2_with fail
          refine (Ht.out _).mono ?_
          rintro e w3 ⟨rfl, hb3⟩
          have A4 := A3.out.kept hb3
          have F4 := F3.out.kept A3.out.lt hb3
          have R4 := R3.out.kept hb3
          have D4 := below_kept D3.out (Nat.le_refl _) hb3
          have J1 := Lib.hid (bx_sto4 A4 t0 t1 t2 t3)
          have J2 := Lib.hid (fz_sto4 (g := g) F4 t0 t1 t2 t3)
          have J4 : Hid (Zb (sto4 w3 g t0 t1 t2 t3) w.heap.size) := Lib.hid ⟨bx_sto4_far R4.1 (by omega) t0 t1 t2 t3, fz_sto4 (g := g) R4.2 t0 t1 t2 t3⟩
          have J5 := Lib.hid (below_put4 (g := g) D4 (by omega) t0 t1 t2 t3)
          have y4 := A4.lt
          clear a0 a1 a2 a3 n0 n1 n2 n3
          obtain ⟨a0, a1, a2, a3⟩ := A4
          obtain ⟨f0, f1, f2, f3⟩ := F4
          clear hb3 R4 D4 A3 F3 R3 D3 Ht yA yN
          unfold sto4 at J1 J2 J4 J5
          go_wp2
          go_roundw
          case rel => exact ⟨k + 1, by omega, by go_num, Hall.out, by rw [Hst.out]; exact J1.out, J2.out, J4.out, J5.out⟩
          case measure => simp [intOf]; omega
    · obtain rfl : k = a.size := by omega
      have hokw : okW l = true := okW_iff.2 ⟨by omega, fun j hj => hall j (by omega)⟩
      have htk : (l.map letM).take a.size = l.map letM := List.take_of_length_le (by rw [List.length_map]; omega)
      rw [htk] at hq
      have hW : prodF M4.mul (l.map letM) = wordM l := rfl
      rw [hW] at hq
      obtain ⟨ok, hk2⟩ : ∃ x, (wordM l).ok = x := ⟨_, rfl⟩
      obtain ⟨F, hF⟩ : ∃ x, (wordM l).fit = x := ⟨_, rfl⟩
      have Hm := Lib.hid (fun w => spec_mxIf_as (wordM l) F ok hF hk2 w)
      have HE := Lib.hid (fun w' hb => wEnd_yes (w := w) (w' := w') hokw hF hk2 hb)
      clear hokw htk hW hF hk2 hall hx HBD
      generalize wordM l = m at *
      have HR := Lib.hid hr
      have HB := Lib.hid hb
      have yq := hq.lt
      obtain ⟨q0, q1, q2, q3⟩ := hq
      clear hfq hr hb
      go_wp2_with fail
      refine (Hm.out _).mono ?_
      rintro e w2 ⟨rfl, hb2⟩
      have R2 := HR.out.kept hb2
      have D2 := below_kept HB.out (Nat.le_refl _) hb2
      obtain ⟨⟨z0, z1, z2, z3⟩, ⟨f0, f1, f2, f3⟩⟩ := R2
      have hE := Lib.hid (HE.out _ (below_set4 (g := w.heap.size) (x0 := .int .i64 F.a) (x1 := .int .i64 F.b) (x2 := .int .i64 F.c) (x3 := .int .i64 F.d) D2 (Nat.le_refl _)))
      clear hb2 D2 HE HR HB Hm q0 q1 q2 q3 yq
      go_wp2
      refine bodyPost_ret (v := .tuple #[.agg #[.int .i64 F.a, .int .i64 F.b, .int .i64 F.c, .int .i64 F.d], .bool ok]) ?hr rfl ?hR
      case hr => simp [results, Try.results10, go_sem, z0, z1, z2, z3]
      case hR => exact hE.out
theorem below_set4x {B g a : Nat} {w0 w : World} (h : Below B w0 w) (hg : B ≤ g) (x0 x1 x2 x3 : Value) : Below B w0 ((((w.setCell ⟨g, a, none⟩ x0).setCell ⟨g, a + 1, none⟩ x1).setCell ⟨g, a + 2, none⟩ x2).setCell ⟨g, a + 3, none⟩ x3) :=
  (((h.setCell (p := ⟨g, a, none⟩) hg _).setCell (p := ⟨g, a + 1, none⟩) hg _).setCell (p := ⟨g, a + 2, none⟩) hg _).setCell (p := ⟨g, a + 3, none⟩) hg _
theorem zb_set4x {g a z : Nat} {w : World} (h : Zb w z) (hne : z ≠ g) (x0 x1 x2 x3 : Value) : Zb ((((w.setCell ⟨g, a, none⟩ x0).setCell ⟨g, a + 1, none⟩ x1).setCell ⟨g, a + 2, none⟩ x2).setCell ⟨g, a + 3, none⟩ x3) z := by
  obtain ⟨⟨z0, z1, z2, z3⟩, ⟨f0, f1, f2, f3⟩⟩ := h
  unfold Zb Bx Fz
  simp [go_sem, z0, z1, z2, z3, f0, f1, f2, f3, hne]
set_option maxRecDepth 100000 in
set_option maxHeartbeats 3200000 in
theorem impl_MatrixOfWord_fit (a : ByteArray) (w : World) (h : a.size ≤ 40) : Calls Try.prog 11 #[.string a] w (WEnd (wl a) w) := by
  have hw := Lib.hid (wl_length a)
  have hx := Lib.hid (wl_get a)
  have h40 : (a.size : Int) ≤ 40 := by omega
  generalize wl a = l at *
  have HBD := Lib.hid (word_bd l (by have := hw.out; omega))
  have Hw := hw.out
  obtain ⟨i0, hi, hz0, hz1, hz2⟩ := info_parts infoQ
  have hbytes : i0.bytes * a.size ≤ 281474976710656 := by rw [hz2]; omega
  have hmax : a.size ≤ maxLen := by unfold maxLen; omega
  go_enter Try.func11, Try.ntmps11
  go_wp2_with (at_make; refine wpList_make_full _ rfl _ _ _ rfl (w.heap.size + 1) 61 i0 (.agg #[.int .i64 0, .int .i64 0, .int .i64 0, .int .i64 0]) 4 Try.underlying59 hi hz0 hz1 _ _ _ _ a.size rfl rfl rfl rfl hbytes hmax (by simp) ?_; intro w3 hown3 hgrow3)
  have hb3 : Below w.heap.size w w3 := ((Below.refl w.heap.size w).alloc (Nat.le_refl _) _).grown hgrow3 (by simp) (fun _ e => by cases e)
  have hz : Zb w3 w.heap.size := (Zb.new w 23).kept ((Below.refl _ _).grown hgrow3 (Nat.le_refl _) (fun _ e => by cases e))
  have hq : Qw w3 (w.heap.size + 1) (w.heap.size + 1) a.size (List.replicate a.size M4.zero) := by
    have e := Qw.made hown3
    simpa using e
  have e0 := wF_zero l
  rw [Hw] at e0
  rw [← e0] at hq
  obtain ⟨g, hg⟩ : ∃ g, g = w.heap.size + 1 := ⟨_, rfl⟩
  rw [← hg] at hq ⊢
  have Hb3 := Lib.hid hb3
  have Hz := Lib.hid hz
  have Hq := Lib.hid hq
  clear hown3 hgrow3 hb3 hz hq hbytes hmax hz0 hz1 hz2 hi e0
  have yg : w.heap.size < g := by omega
  clear hg
  go_loopw [5, 6, 7, 17] (fun _ _ _ i wr => ∃ k : Nat, k ≤ a.size ∧ i = .int .i64 k ∧ (∀ j, j < k → okLet (l.getD j 0) = true) ∧ Qw wr g g a.size (wF l k) ∧ Zb wr w.heap.size ∧ Below w.heap.size w wr) (fun _ _ _ i _ => a.size - (intOf i).toNat)
  case atStart => exact ⟨0, Nat.zero_le _, rfl, fun j hj => absurd hj (Nat.not_lt_zero _), Hq.out, Hz.out, Hb3.out⟩
  case round =>
    clear Hq Hz Hb3
    obtain ⟨k, hk, rfl, hall, hq, hz, hb⟩ := hrel
    by_cases hlt : k < a.size
    · have hgt := hx.out k hlt
      have k0 : (0 : Int) ≤ (k : Int) := by omega
      have k1 : (k : Int) < (a.size : Int) := by omega
      have y0 := hz.1.lt
      have y1 := hq.lt.2
      cases hok : okLet (l.getD k 0)
      · have hbad := okW_bad (show k < l.length by omega) hok
        obtain ⟨n1, n2⟩ := okLet_no hok
        rw [hgt] at n1 n2
        have HE := Lib.hid (fun w' (hb : Below w.heap.size w w') => wEnd_no hbad hb)
        have HR := Lib.hid hz
        have HB := Lib.hid hb
        clear hx hbad hall hok hgt hq hz hb
        go_wp2_with fail
        refine (impl_letter_no (((a[k]'hlt).toNat : Nat) : Int) _ n1 n2).mono ?_
        rintro e w2 ⟨rfl, hb2⟩
        have R2 := HR.out.kept hb2
        have D2 := below_kept HB.out (Nat.le_refl _) hb2
        have yz := R2.1.lt
        obtain ⟨⟨z0, z1, z2, z3⟩, ⟨f0, f1, f2, f3⟩⟩ := R2
        have hE := Lib.hid (HE.out _ (below_alloc1 (below_set4 (g := w.heap.size) (x0 := .int .i64 0) (x1 := .int .i64 0) (x2 := .int .i64 0) (x3 := .int .i64 0) D2 (Nat.le_refl _)) (Nat.le_refl _) (.cells #[.int .i64 0, .int .i64 0, .int .i64 0, .int .i64 0] 61)))
        clear hb2 D2 HE HR HB
        go_wp2
        refine bodyPost_ret (v := .tuple #[.agg #[.int .i64 0, .int .i64 0, .int .i64 0, .int .i64 0], .bool false]) ?hr rfl ?hR
        case hr => simp [results, Try.results11, go_sem, z0, z1, z2, z3, yz]
        case hR => exact hE.out
      · have hst := wF_set l k (by omega)
        have hall2 : ∀ j, j < k + 1 → okLet (l.getD j 0) = true := fun j hj => by
          by_cases e : j = k
          · rw [e]; exact hok
          · exact hall j (by omega)
        have Hall := Lib.hid hall2
        have hxx := okLet_yes hok
        rw [hgt] at hst hxx
        have HR := Lib.hid hz
        have HB := Lib.hid hb
        have HQ := Lib.hid hq
        clear hall hall2 hok hx hgt hz hb hq
        rcases hxx with hxx | hxx
        · have hlm : letM (((a[k]'hlt).toNat : Nat) : Int) = ⟨1, 0, 1, 1⟩ := by rw [hxx]; rfl
          rw [hlm] at hst
          clear hlm
          have Hst := Lib.hid hst
          clear hst
          go_wp2_with fail
          refine (impl_letter_l _).mono ?_
          rintro e w2 ⟨rfl, hb2⟩
          have hAl : Below w2.heap.size w2 (w2.alloc (.cells #[.int .i64 1, .int .i64 0, .int .i64 1, .int .i64 1] 61)) := (Below.refl _ _).alloc (Nat.le_refl _) _
          have N1 := Bx.new w2 61 1 0 1 1
          have Q2 := (HQ.out.kept hb2).kept hAl
          have R2 := (HR.out.kept hb2).kept hAl
          have D2 := below_kept (below_kept HB.out (Nat.le_refl _) hb2) (Nat.le_refl _) hAl
          obtain ⟨wn, hwn⟩ : ∃ wn, wn = (w2.alloc (.cells #[.int .i64 1, .int .i64 0, .int .i64 1, .int .i64 1] 61)) := ⟨_, rfl⟩
          obtain ⟨gn, hgn⟩ : ∃ gn, gn = w2.heap.size := ⟨_, rfl⟩
          rw [← hwn] at N1 Q2 R2 D2
          rw [← hgn] at N1
          clear hb2 hAl HQ HR HB
          have yN := N1.lt
          have yQ := Q2.lt.2
          obtain ⟨c0, c1, c2, c3⟩ := Q2.cell k hlt
          have f0 := Q2.frozen (k * 4)
          have f1 := Q2.frozen (k * 4 + 1)
          have f2 := Q2.frozen (k * 4 + 2)
          have f3 := Q2.frozen (k * 4 + 3)
          have Q3 := Q2.stored k hlt 1 0 1 1
          rw [Hst.out] at Q3
          have HQ3 := Lib.hid Q3
          have HD3 := Lib.hid (below_set4x D2 (g := g) (a := k * 4) (Nat.le_of_lt yg) (.int .i64 1) (.int .i64 0) (.int .i64 1) (.int .i64 1))
          have HR3 := Lib.hid (zb_set4x R2 (g := g) (a := k * 4) (Nat.ne_of_lt yg) (.int .i64 1) (.int .i64 0) (.int .i64 1) (.int .i64 1))
          generalize (wF l k).getD k M4.one = z at *
          obtain ⟨n0, n1, n2, n3⟩ := N1
          clear Q2 Q3 R2 D2 Hst
          go_upto_region 8 with fail
          rw [← hwn, ← hgn]
          clear hwn hgn
          go_wp2
          go_roundw
          case rel => exact ⟨k + 1, by omega, by go_num, Hall.out, HQ3.out, HR3.out, HD3.out⟩
          case measure => simp [intOf]; omega
        · have hlm : letM (((a[k]'hlt).toNat : Nat) : Int) = ⟨1, 1, 0, 1⟩ := by rw [hxx]; rfl
          rw [hlm] at hst
          clear hlm
          have Hst := Lib.hid hst
          clear hst
          go_wp2_with fail
          refine (impl_letter_r _).mono ?_
          rintro e w2 ⟨rfl, hb2⟩
          have hAl : Below w2.heap.size w2 (w2.alloc (.cells #[.int .i64 1, .int .i64 1, .int .i64 0, .int .i64 1] 61)) := (Below.refl _ _).alloc (Nat.le_refl _) _
          have N1 := Bx.new w2 61 1 1 0 1
          have Q2 := (HQ.out.kept hb2).kept hAl
          have R2 := (HR.out.kept hb2).kept hAl
          have D2 := below_kept (below_kept HB.out (Nat.le_refl _) hb2) (Nat.le_refl _) hAl
          obtain ⟨wn, hwn⟩ : ∃ wn, wn = (w2.alloc (.cells #[.int .i64 1, .int .i64 1, .int .i64 0, .int .i64 1] 61)) := ⟨_, rfl⟩
          obtain ⟨gn, hgn⟩ : ∃ gn, gn = w2.heap.size := ⟨_, rfl⟩
          rw [← hwn] at N1 Q2 R2 D2
          rw [← hgn] at N1
          clear hb2 hAl HQ HR HB
          have yN := N1.lt
          have yQ := Q2.lt.2
          obtain ⟨c0, c1, c2, c3⟩ := Q2.cell k hlt
          have f0 := Q2.frozen (k * 4)
          have f1 := Q2.frozen (k * 4 + 1)
          have f2 := Q2.frozen (k * 4 + 2)
          have f3 := Q2.frozen (k * 4 + 3)
          have Q3 := Q2.stored k hlt 1 1 0 1
          rw [Hst.out] at Q3
          have HQ3 := Lib.hid Q3
          have HD3 := Lib.hid (below_set4x D2 (g := g) (a := k * 4) (Nat.le_of_lt yg) (.int .i64 1) (.int .i64 1) (.int .i64 0) (.int .i64 1))
          have HR3 := Lib.hid (zb_set4x R2 (g := g) (a := k * 4) (Nat.ne_of_lt yg) (.int .i64 1) (.int .i64 1) (.int .i64 0) (.int .i64 1))
          generalize (wF l k).getD k M4.one = z at *
          obtain ⟨n0, n1, n2, n3⟩ := N1
          clear Q2 Q3 R2 D2 Hst
          go_upto_region 8 with fail
          rw [← hwn, ← hgn]
          clear hwn hgn
          go_wp2
          go_roundw
          case rel => exact ⟨k + 1, by omega, by go_num, Hall.out, HQ3.out, HR3.out, HD3.out⟩
          case measure => simp [intOf]; omega
    · obtain rfl : k = a.size := by omega
      have hokw : okW l = true := okW_iff.2 ⟨by omega, fun j hj => hall j (by omega)⟩
      have ea : wF l a.size = l.map letM := by rw [← Hw]; exact wF_all l
      rw [ea] at hq
      have hs := hq.slq
      have hlen : (l.map letM).length = a.size := by rw [List.length_map]; exact Hw
      have hmul := impl_mulAll_T _ a.size a.size _ (l.map letM) wr hlen hs (Nat.le_refl _) (by omega) HBD.out
      have hW : prodF M4.mul (l.map letM) = wordM l := rfl
      rw [hW] at hmul
      obtain ⟨ok, hk2⟩ : ∃ x, (wordM l).ok = x := ⟨_, rfl⟩
      obtain ⟨F, hF⟩ : ∃ x, (wordM l).fit = x := ⟨_, rfl⟩
      have Hm := Lib.hid (fun w => impl_matrixOf_as (wordM l) F ok hF hk2 w)
      have HE := Lib.hid (fun w' hb => wEnd_yes (w := w) (w' := w') hokw hF hk2 hb)
      have Hmul := Lib.hid hmul
      clear hokw hW hF hk2 hall hx HBD hmul hs hlen ea
      generalize wordM l = m at *
      have HR := Lib.hid hz
      have HB := Lib.hid hb
      have yq := hq.lt.2
      clear hz hb hq
      go_wp2_with fail
      refine Hmul.out.mono ?_
      rintro e w2 ⟨rfl, hb2⟩
      have R2 := HR.out.kept hb2
      have D2 := below_kept HB.out (Nat.le_refl _) hb2
      clear hb2 Hmul HR HB
      go_wp2_with fail
      refine (Hm.out _).mono ?_
      rintro e w4 ⟨rfl, hb4⟩
      have R4 := R2.kept hb4
      have D4 := below_kept D2 (Nat.le_refl _) hb4
      have yz := R4.1.lt
      obtain ⟨⟨z0, z1, z2, z3⟩, ⟨f0, f1, f2, f3⟩⟩ := R4
      have hE := Lib.hid (HE.out _ (below_set4 (g := w.heap.size) (x0 := .int .i64 F.a) (x1 := .int .i64 F.b) (x2 := .int .i64 F.c) (x3 := .int .i64 F.d) D4 (Nat.le_refl _)))
      clear hb4 D2 D4 R2 HE Hm
      go_wp2
      refine bodyPost_ret (v := .tuple #[.agg #[.int .i64 F.a, .int .i64 F.b, .int .i64 F.c, .int .i64 F.d], .bool ok]) ?hr rfl ?hR
      case hr => simp [results, Try.results11, go_sem, z0, z1, z2, z3]
      case hR => exact hE.out
theorem WMatrixOfWord.walk (w : World) (a : ByteArray) {p : Prop} (_ : p) : Calls Try.prog 3 #[.string a] w fun e w' => e = .returned (.bool true) ∧ Below w.heap.size w w' := by
  by_cases h : a.size ≤ 40
  · exact WMatrixOfWord.core w a _ _ _ _ _ (Lib.hid fun w => spec_MatrixOfWord_fit a w h) (Lib.hid fun w => impl_MatrixOfWord_fit a w h)
  · exact WMatrixOfWord.core w a _ _ _ _ _ (Lib.hid fun w => spec_MatrixOfWord_long a w (by omega)) (Lib.hid fun w => impl_MatrixOfWord_long a w (by omega))
end Go.Proofs.Ytfffnkbjhbaceab
