/- CountSymmetric: both sides, and the law's walk. -/
import Derived.Test.YtbpaaoeefcebeabClC
import Derived.Test.YtbpaaoeefcebeabCnp
import Derived.Test.YtbpaaoeefcebeabTriangulationOfRankW
import Derived.Test.YtbpaaoeefcebeabSame
import Derived.Test.YtbpaaoeefcebeabCountSymmetricC
namespace Go.Proofs.Ytbpaaoeefcebeab
set_option linter.unusedVariables false
open Go.RowKit

def csyB (n k : Int) : Bool := inB n 3 8 && inB k 1 (n - 1)
/-- how many a turn leaves as they are -/
def csyR (n k : Int) : Int := if csyB n k = true then (((atR n).filter (fun l => decide (trn n.toNat l k.toNat = l))).length : Int) else 0
theorem csyR_no {n k : Int} (h : csyB n k = false) : csyR n k = 0 := by simp [csyR, h]
theorem csyR_yes {n k : Nat} (h : csyB n k = true) : csyR n k = (cntP (fun l => decide (trn n l k = l)) (altL n) (altL n).length : Nat) := by
  unfold csyR
  rw [if_pos h]
  have h1 : inB n 3 8 = true := by unfold csyB at h; rw [Bool.and_eq_true] at h; exact h.1
  rw [atR_yes h1, cntP_all]
  rfl

set_option maxRecDepth 100000 in
set_option maxHeartbeats 3200000 in
theorem spec_CountSymmetric (n k : Int) (w : World) : Calls Try.prog 37 #[.int .i64 n, .int .i64 k] w (CntE w (csyR n k) (csyB n k)) := by
  go_enter Try.func37, Try.ntmps37
  go_wp2_with fail
  refine (spec_caFew _ _).mono ?_
  rintro e w2 ⟨rfl, rfl⟩
  cases hf : inB n 3 8
  · have hres : CntE w (csyR n k) (csyB n k) (.returned (.tuple #[.int .i64 0, .bool false])) w := by
      have hb : csyB n k = false := by unfold csyB; rw [hf]; rfl
      rw [csyR_no hb, hb]
      exact ⟨rfl, Below.refl _ _⟩
    have Hres := Lib.hid hres
    clear hres
    go_wp2
    go_ret2
    exact Hres.out
  · have hn := inB_iff.1 hf
    obtain ⟨m, rfl⟩ := Int.eq_ofNat_of_zero_le (show 0 ≤ n by omega)
    have hn8 : (m : Int) ≤ 8 := by omega
    have hn3 : (3 : Int) ≤ (m : Int) := by omega
    have Hf0 := Lib.hid hf
    clear hf
    go_wp2_with fail
    refine (spec_l1In _ _ _ _).mono ?_
    rintro e w2 ⟨rfl, rfl⟩
    cases hi : inB k 1 ((m : Int) - 1)
    · have hres : CntE w (csyR m k) (csyB m k) (.returned (.tuple #[.int .i64 0, .bool false])) w := by
        have hb : csyB m k = false := by unfold csyB; rw [hi]; simp
        rw [csyR_no hb, hb]
        exact ⟨rfl, Below.refl _ _⟩
      have Hres := Lib.hid hres
      clear hres
      go_wp2
      go_ret2
      exact Hres.out
    have hkk := inB_iff.1 hi
    obtain ⟨k, rfl⟩ := Int.eq_ofNat_of_zero_le (show 0 ≤ k by omega)
    have kk0 : (0 : Int) ≤ (k : Int) := by omega
    have kk1 : (k : Int) < (m : Int) := by omega
    have Hfin := Lib.hid (show ∀ w', Below w.heap.size w w' → CntE w (csyR m k) (csyB m k) (.returned (.tuple #[.int .i64 (cntP (fun l => decide (trn m l k = l)) (altL m) (altL m).length : Nat), .bool true])) w' from fun w' hb => by
      have hb2 : csyB m k = true := by unfold csyB; rw [Hf0.out, hi]; rfl
      rw [csyR_yes hb2, hb2]
      exact ⟨rfl, hb⟩)
    have hf := Hf0.out
    clear hi hkk
    have hm3 : 3 ≤ m := by omega
    have hm8 : m ≤ 8 := by omega
    have Ha := Lib.hid (spec_poAll m w hm3 hm8)
    have hbd : (altL m).length ≤ 132 := alt_bd ⟨m, by omega⟩
    have htr : ∀ j, j < (altL m).length → (rowD (altL m) j).length + 3 = m ∧ triB m (rowD (altL m) j) = true := fun j hj => alt_row ⟨m, by omega⟩ hm3 (rowD (altL m) j) (by unfold rowD; simp [hj])
    generalize altL m = T at *
    have Htr := Lib.hid htr
    clear htr hf hn
    go_wp2_with fail
    refine Ha.out.mono ?_
    rintro e w2 ⟨A2, c2, rs, rfl, o2, b2⟩
    obtain ⟨tl, htl⟩ : ∃ tl, T.length = tl := ⟨_, rfl⟩
    have Htl := Lib.hid htl
    rw [htl] at hbd ⊢
    have HO := Lib.hid o2
    have HB := Lib.hid b2
    rw [htl] at Hfin
    clear htl o2 b2 Ha
    go_wp2
    go_loopw [6, 8, 22] (fun x _ i wr => ∃ (t : Nat), t ≤ tl ∧ i = .int .i64 t ∧ x = .int .i64 (cntP (fun l => decide (trn m l k = l)) T t : Nat) ∧ Below w2.heap.size w2 wr) (fun _ _ i _ => tl - (intOf i).toNat)
    case atStart => exact ⟨0, Nat.zero_le _, rfl, rfl, Below.refl _ _⟩
    case round =>
      obtain ⟨t, ht, rfl, rfl, hb⟩ := hrel
      have hsz := hb.size
      by_cases hlt : t < tl
      · have htl2 : t < T.length := by rw [Htl.out]; exact hlt
        obtain ⟨g, rfl, hg1, hg2, hcell⟩ := HO.out.outer (by omega)
        have ho := own_kept (HO.out.2.2.1 t htl2) hb
        obtain ⟨Aj, cj, hv⟩ := own_form ho
        have hc : wr.cell? ⟨g, t, none⟩ = some (.slice Aj (rowD T t).length cj) := by
          rw [hb.cell (p := ⟨g, t, none⟩) hg2, hcell t htl2, hv]
        rw [hv] at ho
        have hs0 := SlD.of_own ho
        have htq := Htr.out t htl2
        have i0 : (0 : Int) ≤ (t : Int) := by omega
        have i1 : (t : Int) < (tl : Int) := by omega
        have hcl := cntP_le (fun l => decide (trn m l k = l)) T t
        have cb : ((cntP (fun l => decide (trn m l k = l)) T t : Nat) : Int) ≤ 132 := by omega
        have hstep := fun b => cntP_step (P := (fun l => decide (trn m l k = l))) (b := b) htl2
        have Hstep := Lib.hid hstep
        obtain ⟨q, hq⟩ : ∃ q, (rowD T t).length = q := ⟨_, rfl⟩
        have Hq := Lib.hid hq
        have q9 : q ≤ 9 := by have := htq.1; omega
        have hcall := spec_poTurn (m : Int) m (k : Int) Aj cj wr.heap.size (rowD T t) wr rfl (by omega) kk0 kk1 htq.2 hs0 (Nat.le_refl _)
        rw [hq, show sortD (mvL (turnF (m : Int) (k : Int)) (rowD T t)) = trn m (rowD T t) k from rfl] at hcall
        have Hcall := Lib.hid hcall
        clear hcall
        rw [hq] at hc
        have HX := Lib.hid (show (trn m (rowD T t) k).length = q by rw [trn_length, hq])
        have Hs0 := Lib.hid hs0
        have Hb := Lib.hid hb
        clear hq ho hv hs0 hb hcell htq hstep hcl
        go_wp2_with fail
        refine Hcall.out.mono ?_
        rintro e w3 ⟨A3, c3, rfl, o3, b3⟩
        rw [HX.out] at o3 ⊢
        have S3 := Lib.hid (SlD.of_own o3)
        have S0 := Lib.hid (Hs0.out.below b3)
        have z3 := b3.size
        have B3 := Lib.hid (below_kept Hb.out (Nat.le_refl _) b3)
        clear o3 b3 Hcall Hs0
        go_wp2_with fail
        refine (spec_poSame A3 Aj q q c3 cj w3.heap.size wr.heap.size (trn m (rowD T t) k) (rowD T t) w3 S3.out S0.out HX.out Hq.out rfl (Nat.le_refl _) z3 (by omega)).mono ?_
        rintro e w4 ⟨rfl, b4⟩
        have B4 := Lib.hid (below_kept B3.out (Nat.le_refl _) b4)
        clear b4
        cases hx : decide (trn m (rowD T t) k = rowD T t)
        · have HE := Lib.hid (Hstep.out false hx)
          clear hx
          go_wp2
          go_roundw
          case rel => exact ⟨t + 1, by omega, by go_num, by rw [HE.out]; rfl, B4.out⟩
          case measure => simp [intOf]; omega
        · have HE := Lib.hid (Hstep.out true hx)
          clear hx
          go_wp2
          go_roundw
          case rel => exact ⟨t + 1, by omega, by go_num, by rw [HE.out]; go_num, B4.out⟩
          case measure => simp [intOf]; omega
      · obtain rfl : t = tl := by omega
        have HX := Lib.hid (Hfin.out wr (below_kept HB.out (Nat.le_refl _) hb))
        clear hb
        generalize ((cntP (fun l => decide (trn m l k = l)) T t : Nat) : Int) = x at *
        go_wp2
        go_ret2
        exact HX.out

set_option maxHeartbeats 1600000 in
theorem impl_CountSymmetric (n k : Int) (w : World) : Calls Try.prog 38 #[.int .i64 n, .int .i64 k] w (CntE w (csyR n k) (csyB n k)) := by
  have hmf : ∀ (fn : Fn) (first cap : Array Value) (w : World), (Instr.makeFunc fn first cap).run Try.prog w = .ok (.func fn first cap) w := fun _ _ _ _ => rfl
  obtain ⟨W0, hW0⟩ : ∃ W0, W0 = w.alloc (.cells #[.int .i64 n] 3) := ⟨_, rfl⟩
  obtain ⟨W1, hW1⟩ : ∃ W1, W1 = W0.alloc (.cells #[.int .i64 k] 3) := ⟨_, rfl⟩
  have hb0 : Below w.heap.size w W0 := by rw [hW0]; exact (Below.refl _ _).alloc (Nat.le_refl _) _
  have hz0 : W0.heap.size = w.heap.size + 1 := by rw [hW0]; simp
  have hb1 : Below w.heap.size w W1 := by rw [hW1]; exact hb0.alloc hb0.size _
  have hz1 : W1.heap.size = w.heap.size + 1 + 1 := by rw [hW1, ← hz0]; simp
  have hc0 : W0.cell? ⟨w.heap.size, 0, none⟩ = some (.int .i64 n) := by rw [hW0]; exact World.cell?_alloc_new w _ _ 0
  have hc1 : W1.cell? ⟨w.heap.size, 0, none⟩ = some (.int .i64 n) := by rw [hW1]; exact (World.cell?_alloc_lt _ _ _ (by show w.heap.size < W0.heap.size; omega)).trans hc0
  have hc2 : W1.cell? ⟨w.heap.size + 1, 0, none⟩ = some (.int .i64 k) := by rw [hW1, ← hz0]; exact World.cell?_alloc_new W0 _ _ 0
  have hno : ∀ h : csyB n k = false, CntE w (csyR n k) (csyB n k) (.returned (.tuple #[.int .i64 0, .bool false])) W1 := fun h => by
    rw [csyR_no h, h]
    exact ⟨rfl, hb1⟩
  have HW1 := Lib.hid (show W1 = (w.alloc (.cells #[.int .i64 n] 3)).alloc (.cells #[.int .i64 k] 3) by rw [hW1, hW0])
  by_cases hk1 : k < 1
  · have hb : csyB n k = false := by
      unfold csyB
      have : inB k 1 (n - 1) = false := by
        cases h : inB k 1 (n - 1)
        · rfl
        · have := inB_iff.1 h; omega
      rw [this]; simp
    have Hres := Lib.hid (hno hb)
    clear hno hb hc0 hc1 hc2 hb0 hb1 hz0 hz1 hW0 hW1
    go_enter Try.func38, Try.ntmps38
    go_wp2
    rw [← HW1.out]
    go_ret2
    exact Hres.out
  by_cases hk2 : n ≤ k
  · have hb : csyB n k = false := by
      unfold csyB
      have : inB k 1 (n - 1) = false := by
        cases h : inB k 1 (n - 1)
        · rfl
        · have := inB_iff.1 h; omega
      rw [this]; simp
    have Hres := Lib.hid (hno hb)
    clear hno hb hc0 hc1 hc2 hb0 hb1 hz0 hz1 hW0 hW1
    go_enter Try.func38, Try.ntmps38
    go_wp2
    rw [← HW1.out]
    go_ret2
    exact Hres.out
  obtain ⟨q, rfl⟩ := Int.eq_ofNat_of_zero_le (show 0 ≤ k by omega)
  have hkk : inB (q : Int) 1 (n - 1) = true := inB_iff.2 (by omega)
  have hthat := impl_that n 77 #[.pointer (some ⟨w.heap.size, 0, none⟩), .pointer (some ⟨w.heap.size + 1, 0, none⟩)] (fun l => decide (trn n.toNat l q = l)) W1
    (tells_CountSymmetric1 n w.heap.size W1.heap.size (w.heap.size + 1) q _ ((World.cell?_alloc_lt _ _ _ (by show w.heap.size < W1.heap.size; omega)).trans hc1) ((World.cell?_alloc_lt _ _ _ (by show w.heap.size + 1 < W1.heap.size; omega)).trans hc2) (by omega) (by omega) (by omega) (World.cell?_alloc_new W1 _ _ 0))
  have hfin : ∀ w2, Below w.heap.size w w2 → CntE w (csyR n q) (csyB n q) (.returned (.tuple #[.int .i64 (((atR n).filter (fun l => decide (trn n.toNat l q = l))).length : Nat), .bool (inB n 3 8)])) w2 := fun w2 hb => by
    unfold CntE csyR csyB
    rw [hkk]
    cases hi : inB n 3 8
    · rw [atR_no hi]
      exact ⟨rfl, hb⟩
    · exact ⟨rfl, hb⟩
  have Hfin := Lib.hid hfin
  have Hthat := Lib.hid hthat
  have Hb1 := Lib.hid hb1
  have k1 : (1 : Int) ≤ (q : Int) := by omega
  have k2 : (q : Int) < n := by omega
  clear hthat hfin hno hkk hc0 hc1 hc2 hb0 hb1 hz0 hz1 hW0 hW1
  go_enter Try.func38, Try.ntmps38
  go_wp2_with fail
  rw [← HW1.out]
  refine Hthat.out.mono ?_
  rintro e w2 ⟨A2, c2, rs, rfl, o2, b2⟩
  have Hres := Lib.hid (Hfin.out w2 (below_kept Hb1.out (Nat.le_refl _) b2))
  obtain ⟨x, hx⟩ : ∃ x, ((atR n).filter (fun l => decide (trn n.toNat l q = l))).length = x := ⟨_, rfl⟩
  rw [hx] at Hres ⊢
  clear o2 b2 hx Hthat Hfin
  go_wp2
  go_ret2
  exact Hres.out

theorem WCountSymmetric.walk (w : World) (n : Int) (wn : (Lit.int .i64 n).wf = true) (k : Int) (wk : (Lit.int .i64 k).wf = true) :
    Calls Try.prog 10 #[.int .i64 n, .int .i64 k] w fun e w' => e = .returned (.bool true) ∧ Below w.heap.size w w' :=
  WCountSymmetric.core w n k (csyR n k) (csyB n k) (Lib.hid fun w => spec_CountSymmetric n k w) (Lib.hid fun w => impl_CountSymmetric n k w)
end Go.Proofs.Ytbpaaoeefcebeab
