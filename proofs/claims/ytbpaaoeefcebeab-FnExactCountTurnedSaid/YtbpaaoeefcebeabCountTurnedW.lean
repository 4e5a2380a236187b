/- CountTurned: both sides, and the law's walk. -/
import Derived.Test.YtbpaaoeefcebeabClA
import Derived.Test.YtbpaaoeefcebeabCnp
import Derived.Test.YtbpaaoeefcebeabTriangulationOfRankW
import Derived.Test.YtbpaaoeefcebeabLstS
import Derived.Test.YtbpaaoeefcebeabCountTurnedC
namespace Go.Proofs.Ytbpaaoeefcebeab
set_option linter.unusedVariables false
open Go.RowKit

/-- how many are the first ones of their turned ones -/
def ctuR (n : Int) : Int := (((atR n).filter (fun l => decide (leastL n.toNat l = l))).length : Int)
theorem ctuR_no {n : Int} (h : inB n 3 8 = false) : ctuR n = 0 := by unfold ctuR; rw [atR_no h]; rfl
theorem ctuR_yes {n : Nat} (h : inB n 3 8 = true) : ctuR n = (cntP (fun l => decide (leastL n l = l)) (altL n) (altL n).length : Nat) := by unfold ctuR; rw [atR_yes h, cntP_all]; rfl

set_option maxRecDepth 100000 in
set_option maxHeartbeats 3200000 in
theorem spec_CountTurned (n : Int) (w : World) : Calls Try.prog 28 #[.int .i64 n] w (CntE w (ctuR n) (inB n 3 8)) := by
  go_enter Try.func28, Try.ntmps28
  go_wp2_with fail
  refine (spec_caFew _ _).mono ?_
  rintro e w2 ⟨rfl, rfl⟩
  cases hf : inB n 3 8
  · have hres : CntE w (ctuR n) (inB n 3 8) (.returned (.tuple #[.int .i64 0, .bool false])) w := by
      rw [ctuR_no hf, hf]
      exact ⟨rfl, Below.refl _ _⟩
    have Hres := Lib.hid hres
    clear hres
    go_wp2
    go_ret2
    exact Hres.out
  · have hn := inB_iff.1 hf
    obtain ⟨m, rfl⟩ := Int.eq_ofNat_of_zero_le (show 0 ≤ n by omega)
    have Hfin := Lib.hid (show ∀ w', Below w.heap.size w w' → CntE w (ctuR m) (inB m 3 8) (.returned (.tuple #[.int .i64 (cntP (fun l => decide (leastL m l = l)) (altL m) (altL m).length : Nat), .bool true])) w' from fun w' hb => by
      rw [ctuR_yes hf, hf]
      exact ⟨rfl, hb⟩)
    have hm3 : 3 ≤ m := by omega
    have hm8 : m ≤ 8 := by omega
    have Ha := Lib.hid (spec_poAll m w hm3 hm8)
    have hbd : (altL m).length ≤ 132 := alt_bd ⟨m, by omega⟩
    have htr : ∀ j, j < (altL m).length → (rowD (altL m) j).length + 3 = m ∧ triB m (rowD (altL m) j) = true := fun j hj => alt_row ⟨m, by omega⟩ hm3 (rowD (altL m) j) (by unfold rowD; simp [hj])
    generalize altL m = T at *
    have Htr := Lib.hid htr
    clear htr hf hn
    go_wp2_with fail
    refine Ha.out.mono ?_
    rintro e w2 ⟨A2, c2, rs, rfl, o2, b2⟩
    obtain ⟨tl, htl⟩ : ∃ tl, T.length = tl := ⟨_, rfl⟩
    have Htl := Lib.hid htl
    rw [htl] at hbd ⊢
    have HO := Lib.hid o2
    have HB := Lib.hid b2
    rw [htl] at Hfin
    clear htl o2 b2 Ha
    go_wp2
    go_loopw [4, 6, 13] (fun x _ i wr => ∃ (t : Nat), t ≤ tl ∧ i = .int .i64 t ∧ x = .int .i64 (cntP (fun l => decide (leastL m l = l)) T t : Nat) ∧ Below w2.heap.size w2 wr) (fun _ _ i _ => tl - (intOf i).toNat)
    case atStart => exact ⟨0, Nat.zero_le _, rfl, rfl, Below.refl _ _⟩
    case round =>
      obtain ⟨t, ht, rfl, rfl, hb⟩ := hrel
      have hsz := hb.size
      by_cases hlt : t < tl
      · have htl2 : t < T.length := by rw [Htl.out]; exact hlt
        obtain ⟨g, rfl, hg1, hg2, hcell⟩ := HO.out.outer (by omega)
        have ho := own_kept (HO.out.2.2.1 t htl2) hb
        obtain ⟨Aj, cj, hv⟩ := own_form ho
        have hc : wr.cell? ⟨g, t, none⟩ = some (.slice Aj (rowD T t).length cj) := by
          rw [hb.cell (p := ⟨g, t, none⟩) hg2, hcell t htl2, hv]
        rw [hv] at ho
        have hs0 := SlD.of_own ho
        have htq := Htr.out t htl2
        have i0 : (0 : Int) ≤ (t : Int) := by omega
        have i1 : (t : Int) < (tl : Int) := by omega
        have hcl := cntP_le (fun l => decide (leastL m l = l)) T t
        have cb : ((cntP (fun l => decide (leastL m l = l)) T t : Nat) : Int) ≤ 132 := by omega
        have hstep := fun b => cntP_step (P := (fun l => decide (leastL m l = l))) (b := b) htl2
        have Hstep := Lib.hid hstep
        obtain ⟨q, hq⟩ : ∃ q, (rowD T t).length = q := ⟨_, rfl⟩
        have Hq := Lib.hid hq
        have q9 : q ≤ 9 := by have := htq.1; omega
        have Hcall := Lib.hid (spec_caLeast m q Aj cj wr.heap.size (rowD T t) wr hq htq.2 hs0 (Nat.le_refl _))
        rw [hq] at hc
        have HX := Lib.hid (show (leastL m (rowD T t)).length = q by rw [leastL_length, hq])
        have Hs0 := Lib.hid hs0
        have Hb := Lib.hid hb
        clear hq ho hv hs0 hb hcell htq hstep hcl
        go_wp2_with fail
        refine Hcall.out.mono ?_
        rintro e w3 ⟨A3, c3, rfl, o3, b3⟩
        rw [HX.out] at o3 ⊢
        have S3 := Lib.hid (SlD.of_own o3)
        have S0 := Lib.hid (Hs0.out.below b3)
        have z3 := b3.size
        have B3 := Lib.hid (below_kept Hb.out (Nat.le_refl _) b3)
        clear o3 b3 Hcall Hs0
        go_wp2_with fail
        refine (spec_poSame A3 Aj q q c3 cj w3.heap.size wr.heap.size (leastL m (rowD T t)) (rowD T t) w3 S3.out S0.out HX.out Hq.out rfl (Nat.le_refl _) z3 (by omega)).mono ?_
        rintro e w4 ⟨rfl, b4⟩
        have B4 := Lib.hid (below_kept B3.out (Nat.le_refl _) b4)
        clear b4
        cases hx : decide (leastL m (rowD T t) = rowD T t)
        · have HE := Lib.hid (Hstep.out false hx)
          clear hx
          go_wp2
          go_roundw
          case rel => exact ⟨t + 1, by omega, by go_num, by rw [HE.out]; rfl, B4.out⟩
          case measure => simp [intOf]; omega
        · have HE := Lib.hid (Hstep.out true hx)
          clear hx
          go_wp2
          go_roundw
          case rel => exact ⟨t + 1, by omega, by go_num, by rw [HE.out]; go_num, B4.out⟩
          case measure => simp [intOf]; omega
      · obtain rfl : t = tl := by omega
        have HX := Lib.hid (Hfin.out wr (below_kept HB.out (Nat.le_refl _) hb))
        clear hb
        generalize ((cntP (fun l => decide (leastL m l = l)) T t : Nat) : Int) = x at *
        go_wp2
        go_ret2
        exact HX.out

theorem impl_CountTurned (n : Int) (w : World) : Calls Try.prog 29 #[.int .i64 n] w (CntE w (ctuR n) (inB n 3 8)) := by
  have hmf : ∀ (fn : Fn) (first cap : Array Value) (w : World), (Instr.makeFunc fn first cap).run Try.prog w = .ok (.func fn first cap) w := fun _ _ _ _ => rfl
  obtain ⟨W1, hW1⟩ : ∃ W1, W1 = w.alloc (.cells #[.int .i64 n] 3) := ⟨_, rfl⟩
  have hb1 : Below w.heap.size w W1 := by rw [hW1]; exact (Below.refl _ _).alloc (Nat.le_refl _) _
  have hz1 : W1.heap.size = w.heap.size + 1 := by rw [hW1]; simp
  have hc1 : W1.cell? ⟨w.heap.size, 0, none⟩ = some (.int .i64 n) := by rw [hW1]; exact World.cell?_alloc_new w _ _ 0
  have hthat := impl_that n 72 #[.pointer (some ⟨w.heap.size, 0, none⟩)] (fun l => decide (leastL n.toNat l = l)) W1
    (tells_CountTurned1 n w.heap.size W1.heap.size _ ((World.cell?_alloc_lt _ _ _ (by show w.heap.size < W1.heap.size; omega)).trans hc1) (by omega) (World.cell?_alloc_new W1 _ _ 0))
  have Hthat := Lib.hid hthat
  have HW1 := Lib.hid hW1
  have Hb1 := Lib.hid hb1
  clear hthat hW1 hb1 hz1 hc1
  go_enter Try.func29, Try.ntmps29
  go_wp2_with fail
  rw [← HW1.out]
  refine Hthat.out.mono ?_
  rintro e w2 ⟨A2, c2, rs, rfl, o2, b2⟩
  have hres : CntE w (ctuR n) (inB n 3 8) (.returned (.tuple #[.int .i64 (((atR n).filter (fun l => decide (leastL n.toNat l = l))).length : Nat), .bool (inB n 3 8)])) w2 := ⟨rfl, below_kept Hb1.out (Nat.le_refl _) b2⟩
  have Hres := Lib.hid hres
  obtain ⟨x, hx⟩ : ∃ x, ((atR n).filter (fun l => decide (leastL n.toNat l = l))).length = x := ⟨_, rfl⟩
  rw [hx] at Hres ⊢
  clear hres o2 b2 hx Hthat
  go_wp2
  go_ret2
  exact Hres.out

theorem WCountTurned.walk (w : World) (n : Int) (wn : (Lit.int .i64 n).wf = true) :
    Calls Try.prog 7 #[.int .i64 n] w fun e w' => e = .returned (.bool true) ∧ Below w.heap.size w w' :=
  WCountTurned.core w n (ctuR n) (inB n 3 8) (Lib.hid fun w => spec_CountTurned n w) (Lib.hid fun w => impl_CountTurned n w)
end Go.Proofs.Ytbpaaoeefcebeab
