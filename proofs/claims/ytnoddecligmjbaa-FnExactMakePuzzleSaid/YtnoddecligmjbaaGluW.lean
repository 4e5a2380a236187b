/- GlueEar: the program's contract, and the law's walk. -/
import Derived.Test.YtnoddecligmjbaaGluS
import Derived.Test.YtnoddecligmjbaaInsL
import Derived.Test.YtnoddecligmjbaaClone
namespace Go.Proofs.Ytnoddecligmjbaa
set_option linter.unusedVariables false
open Go.RowKit

theorem insAt_low (L : List Int) (k a : Nat) (x y : Int) (ha : a < k) (hk : k ≤ L.length) : (insAt L k x).set a y = insAt (L.set a y) k x := by
  unfold insAt
  have hl : (L.take k).length = k := by rw [List.length_take]; omega
  rw [List.set_append_left _ _ (by rw [List.length_append, hl]; omega), List.set_append_left _ _ (by rw [hl]; omega), List.take_set, List.drop_set_of_lt ha]
theorem insAt_high (L : List Int) (k a : Nat) (x y : Int) (ha : k ≤ a) (hk : k ≤ L.length) : (insAt L k x).set (a + 1) y = insAt (L.set a y) k x := by
  unfold insAt
  have hl : (L.take k ++ [x]).length = k + 1 := by rw [List.length_append, List.length_take]; simp; omega
  rw [List.set_append_right _ _ (by rw [hl]; omega), hl, List.take_set_of_le ha, List.drop_set, if_neg (by omega)]
  congr 2
  omega
theorem insAt_getlow (L : List Int) (k a : Nat) (x : Int) (ha : a < k) (hk : k ≤ L.length) : (insAt L k x).getD a 0 = L.getD a 0 := by
  unfold insAt
  have hl : (L.take k).length = k := by rw [List.length_take]; omega
  simp only [List.getD_eq_getElem?_getD]
  rw [List.getElem?_append_left (by rw [List.length_append, hl]; omega), List.getElem?_append_left (by rw [hl]; exact ha), List.getElem?_take_of_lt ha]
theorem insAt_gethigh (L : List Int) (k a : Nat) (x : Int) (ha : k ≤ a) (hk : k ≤ L.length) : (insAt L k x).getD (a + 1) 0 = L.getD a 0 := by
  unfold insAt
  have hl : (L.take k ++ [x]).length = k + 1 := by rw [List.length_append, List.length_take]; simp; omega
  simp only [List.getD_eq_getElem?_getD]
  rw [List.getElem?_append_right (by rw [hl]; omega), hl, List.getElem?_drop]
  congr 2
  omega
theorem gInc_low (L : List Int) (k a : Nat) (x : Int) (ha : a < k) (hk : k ≤ L.length) : gInc (insAt L k x) a = insAt (gInc L a) k x := by
  unfold gInc
  rw [insAt_getlow L k a x ha hk, insAt_low L k a x _ ha hk]
theorem gInc_high (L : List Int) (k a : Nat) (x : Int) (ha : k ≤ a) (hk : k ≤ L.length) : gInc (insAt L k x) (a + 1) = insAt (gInc L a) k x := by
  unfold gInc
  rw [insAt_gethigh L k a x ha hk, insAt_high L k a x _ ha hk]
theorem glue_ins (q : List Int) (t : Nat) (h : t < q.length) : insAt (gInc (gInc q t) ((t + 1) % q.length)) (t + 1) 1 = glueL q t := by
  unfold glueL
  have e0 : gluP q (t + 1) = insAt q (t + 1) 1 := rfl
  rw [e0, gInc_low q (t + 1) t 1 (by omega) (by omega)]
  by_cases h1 : t + 1 < q.length
  · have e1 : (t + 1) % q.length = t + 1 := Nat.mod_eq_of_lt h1
    have e2 : (t + 2) % (q.length + 1) = (t + 1) + 1 := Nat.mod_eq_of_lt (by omega)
    rw [e1, e2, gInc_high (gInc q t) (t + 1) (t + 1) 1 (Nat.le_refl _) (by rw [gInc_length]; omega)]
  · have e1 : (t + 1) % q.length = 0 := by rw [show t + 1 = q.length by omega]; exact Nat.mod_self _
    have e2 : (t + 2) % (q.length + 1) = 0 := by rw [show t + 2 = q.length + 1 by omega]; exact Nat.mod_self _
    rw [e1, e2, gInc_low (gInc q t) (t + 1) 0 1 (by omega) (by rw [gInc_length]; omega)]

theorem glue_cells2 {w4 : World} {base c4 n : Nat} {A4 : Option Addr} {L : List Int} (own4 : w4.ownsRow base 3 1 (.slice A4 n c4) n (ics L)) (hL : L.length = n) (t b : Nat) (ht : t < n) (hb : b < n) :
    ∃ gl, A4 = some ⟨gl, 0, none⟩ ∧ (w4.cell? ⟨gl, t, none⟩ = some (.int .i64 (L.getD t 0)) ∧ w4.frozen? ⟨gl, t, none⟩ = false) ∧
      ((w4.setCell ⟨gl, t, none⟩ (.int .i64 (L.getD t 0 + 1))).cell? ⟨gl, b, none⟩ = some (.int .i64 ((gInc L t).getD b 0)) ∧ (w4.setCell ⟨gl, t, none⟩ (.int .i64 (L.getD t 0 + 1))).frozen? ⟨gl, b, none⟩ = false) ∧
      ((w4.setCell ⟨gl, t, none⟩ (.int .i64 (L.getD t 0 + 1))).setCell ⟨gl, b, none⟩ (.int .i64 ((gInc L t).getD b 0 + 1))).ownsRow base 3 1 (.slice A4 n c4) n (ics (gInc (gInc L t) b)) ∧
      w4.grownBy ((w4.setCell ⟨gl, t, none⟩ (.int .i64 (L.getD t 0 + 1))).setCell ⟨gl, b, none⟩ (.int .i64 ((gInc L t).getD b 0 + 1))) (some gl) ∧ base ≤ gl := by
  obtain ⟨m, rfl⟩ : ∃ m, n = m + 1 := ⟨n - 1, by omega⟩
  exact glue_cells own4 hL t b ht hb
/-- the slice of the one number, and the row beside it -/
theorem ins_alloc (base g n c i : Nat) (L : List Int) (x : Int) (w : World) (ho : w.ownsRow base 3 1 (.slice (some ⟨g, 0, none⟩) n c) n (ics L)) (hL : L.length = n) (hi : i ≤ n) (hn : n ≤ 1000) (hbw : base ≤ w.heap.size) (h0 : 0 < n) (v : Nat) (hv : v = w.heap.size) :
    Calls Try.prog 158 #[.slice (some ⟨g, 0, none⟩) n c, .int .i64 i, .slice (some ⟨v, 0, none⟩) 1 1] (w.alloc (.cells #[.int .i64 x] 3)) (InsE base n (insAt L i x) (w.alloc (.cells #[.int .i64 x] 3))) := by
  subst hv
  have hg := (ho.lt g rfl).2
  refine impl_Insert1 base g n c i w.heap.size L x _ (ho.alloc _) hL hi hn (by simp; omega) ?_ (by omega) ?_ ?_ ?_
  · simp [go_sem]
  · unfold World.shape?
    rw [heap_alloc_new]
    rfl
  · simp [go_sem]
  · simp [go_sem]

set_option maxRecDepth 100000 in
set_option maxHeartbeats 3200000 in
theorem impl_GlueEar (A : Option Addr) (c B : Nat) (q : List Int) (i : Int) (w : World) (h : SlI w B A q) (hB : B ≤ w.heap.size) (hl : q.length ≤ 1048576) (hlc : q.length ≤ c) :
    Calls Try.prog 113 #[.slice A q.length c, .int .i64 i] w (RetI w (glueR q i) (okG q i)) := by
  have hcq := impl_IsQuiddity A c B q w h hB hl hlc
  have HQ := Lib.hid hcq
  clear hcq
  have HNo := Lib.hid (fun (hno : okG q i = false) w' (hb : Below w.heap.size w w') => retG_no hno hb)
  cases hq : isQ q
  · have hE := Lib.hid (HNo.out (by unfold okG; rw [hq]; rfl))
    rw [hq] at HQ
    clear HNo
    go_enter Try.func113, Try.ntmps113
    go_wp2_with fail
    refine HQ.out.mono ?_
    rintro e w1 ⟨rfl, hb1⟩
    have hE2 := Lib.hid (hE.out _ hb1)
    clear HQ hE h hb1
    go_wp2
    go_ret2
    exact hE2.out
  · rw [hq] at HQ
    obtain ⟨hn3, hn12⟩ := isQ_len hq
    have hok : okG q i = decide (q.length ≠ 12 ∧ 1 ≤ i ∧ i ≤ (q.length : Int)) := by
      rw [Bool.eq_iff_iff, okG_iff, decide_eq_true_eq]
      constructor
      · rintro ⟨_, h2⟩; exact h2
      · intro h2; exact ⟨hq, h2⟩
    have hget := fun j (hj : j < q.length) => isQ_get hq j hj
    obtain ⟨n, hn⟩ : ∃ n, n = q.length := ⟨_, rfl⟩
    have Hn := Lib.hid hn
    have H := Lib.hid h
    by_cases h12 : q.length = 12
    · have hE := Lib.hid (HNo.out (by rw [hok]; simp [h12]))
      have hne : ((q.length : Int) == 12) = true := by rw [h12]; rfl
      clear HNo hok hget hn h h12
      go_enter Try.func113, Try.ntmps113
      go_wp2_with fail
      refine HQ.out.mono ?_
      rintro e w1 ⟨rfl, hb1⟩
      have hE2 := Lib.hid (hE.out _ hb1)
      clear HQ hE hb1
      go_wp2
      go_ret2
      exact hE2.out
    · have hne : ((q.length : Int) == 12) = false := by rw [beq_eq_false_iff_ne]; omega
      by_cases h1 : i < 1
      · have hE := Lib.hid (HNo.out (by rw [hok, decide_eq_false]; omega))
        clear HNo hok hget hn h h12
        go_enter Try.func113, Try.ntmps113
        go_wp2_with fail
        refine HQ.out.mono ?_
        rintro e w1 ⟨rfl, hb1⟩
        have hE2 := Lib.hid (hE.out _ hb1)
        clear HQ hE hb1
        go_wp2
        go_ret2
        exact hE2.out
      · by_cases h2 : (q.length : Int) < i
        · have hE := Lib.hid (HNo.out (by rw [hok, decide_eq_false]; omega))
          clear HNo hok hget hn h h12
          go_enter Try.func113, Try.ntmps113
          go_wp2_with fail
          refine HQ.out.mono ?_
          rintro e w1 ⟨rfl, hb1⟩
          have hE2 := Lib.hid (hE.out _ hb1)
          clear HQ hE hb1
          go_wp2
          go_ret2
          exact hE2.out
        · have hyes : okG q i = true := by rw [hok, decide_eq_true_eq]; omega
          obtain ⟨t, ht⟩ : ∃ t : Nat, i = (t : Int) + 1 := ⟨(i - 1).toNat, by omega⟩
          subst ht
          have htn : t < q.length := by omega
          have hR : glueR q ((t : Int) + 1) = glueL q t := by
            unfold glueR
            rw [if_pos hyes]
            congr 1
            omega
          obtain ⟨b, hb⟩ : ∃ b, b = (t + 1) % q.length := ⟨_, rfl⟩
          have hbn : b < q.length := by rw [hb]; exact Nat.mod_lt _ (by omega)
          have hbi : (((t : Int) + 1).tmod (q.length : Int)) = (b : Int) := by rw [hb]; rfl
          have hG := glue_ins q t htn
          rw [← hb] at hG
          have hbd : ∀ j, j < q.length → 1 ≤ q.getD j 0 ∧ q.getD j 0 ≤ 12 := fun j hj => by have := hget j hj; omega
          have hGl := glueL_length q t (by omega)
          rw [hR, hyes]
          have HG := Lib.hid hG
          have HGl := Lib.hid hGl
          have Hbd := Lib.hid hbd
          have Hq := Lib.hid (show q.length = q.length from rfl)
          clear HNo hok hget hn h h12 hR hyes hG hGl hbd hb Hn
          generalize glueL q t = GL at *
          have t0 : (0 : Int) ≤ (t : Int) := by omega
          have t1 : (t : Int) < (q.length : Int) := by omega
          have b0 : (0 : Int) ≤ (b : Int) := by omega
          have b1 : (b : Int) < (q.length : Int) := by omega
          have n12 : (q.length : Int) ≤ 12 := by omega
          go_enter Try.func113, Try.ntmps113
          go_wp2_with fail
          refine HQ.out.mono ?_
          rintro e w1 ⟨rfl, hb1⟩
          have hs1 := H.out.below (hb1.mono hB)
          have hcl := slices_Clone A c B q w1 hs1 (Nat.le_trans hB hb1.size) (by omega) (by omega)
          have Hcl := Lib.hid hcl
          have Hb1 := Lib.hid hb1
          clear HQ hb1 hs1 hcl
          go_wp2_with fail
          refine Hcl.out.mono ?_
          rintro e w2 ⟨A2, c2, rfl, ho2, hb2⟩
          have hd2 := below_kept Hb1.out (Nat.le_refl _) hb2
          have hz1 := Hb1.out.size
          clear Hb1 Hcl hb2
          obtain ⟨gl, rfl, ⟨ca, fa⟩, ⟨cb, fb⟩, o6, g6, hgl⟩ := glue_cells2 (ho2.mono hz1) rfl t b htn hbn
          have hb6 := below_grown hd2 g6 (Nat.le_refl _) (fun k hk => by injection hk with hk; omega)
          obtain ⟨x1, x2⟩ := Hbd.out t htn
          obtain ⟨y1, y2⟩ := gInc_bd Hbd.out t b hbn
          have hins := ins_alloc w.heap.size gl q.length c2 (t + 1) (gInc (gInc q t) b) 1 _ o6 (by rw [gInc_length, gInc_length]) (by omega) (by omega) hb6.size (by omega) w2.heap.size (by simp)
          rw [HG.out, show ((t + 1 : Nat) : Int) = (t : Int) + 1 by omega] at hins
          have hbI := hb6.alloc hb6.size (.cells #[.int .i64 1] 3)
          have Hins := Lib.hid hins
          have HbI := Lib.hid hbI
          have yg : gl < w2.heap.size := World.block_lt_of_cell? w2 _ ca
          clear hins hbI o6 g6 hb6 hd2 ho2 HG
          generalize (gInc q t).getD b 0 = y at *
          generalize q.getD t 0 = x at *
          go_wp2_with fail
          with_reducible refine Hins.out.mono ?_
          rintro e w9 ⟨A9, c9, rfl, o9, b9⟩
          have hE : RetI w GL true (.returned (.tuple #[.slice A9 (q.length + 1) c9, .bool true])) w9 := by
            rw [← HGl.out] at o9 ⊢
            exact ⟨A9, c9, rfl, o9, HbI.out.trans b9⟩
          have HE := Lib.hid hE
          clear hE o9 b9 Hins HbI
          go_wp2
          go_ret2
          exact HE.out
end Go.Proofs.Ytnoddecligmjbaa
