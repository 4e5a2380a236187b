/- IsEqualCut: the model's and the program's contract, and the law's walk. -/
import Derived.Test.YtlnnnjnboknoeaaSizesOfCutW
import Derived.Test.YtlnnnjnboknoeaaIsEqualCutC
namespace Go.Proofs.Ytlnnnjnboknoeaa
set_option linter.unusedVariables false
open Go.RowKit

def ieK (n : Int) (l : List (Int × Int)) (s : Int) : Bool := cutB n l && decide (3 ≤ s)
def ieR (n : Int) (l : List (Int × Int)) (s : Int) : Bool := ieK n l s && eqS (pcL n.toNat l) s
def IeE (n : Int) (l : List (Int × Int)) (s : Int) (w : World) (e : Ending) (w' : World) : Prop := e = .returned (.tuple #[.bool (ieR n l s), .bool (ieK n l s)]) ∧ Below w.heap.size w w'
theorem ieE_no {n : Int} {l : List (Int × Int)} {s : Int} {w w' : World} (h : ieK n l s = false) (hb : Below w.heap.size w w') : IeE n l s w (.returned (.tuple #[.bool false, .bool false])) w' := by
  unfold IeE ieR
  rw [h]
  exact ⟨rfl, hb⟩
theorem ieE_yes {n : Nat} {l : List (Int × Int)} {s : Int} {w w' : World} {b : Bool} (h : ieK (n : Int) l s = true) (h2 : eqS (pcL n l) s = b) (hb : Below w.heap.size w w') : IeE (n : Int) l s w (.returned (.tuple #[.bool b, .bool true])) w' := by
  unfold IeE ieR
  rw [h, Int.toNat_natCast, h2]
  exact ⟨rfl, hb⟩

set_option maxRecDepth 100000 in
set_option maxHeartbeats 1600000 in
theorem spec_cuEqual (m : Nat) (A : Option Addr) (c B q : Nat) (l : List (Int × Int)) (s : Int) (w : World) (hq : l.length = q) (h : SlD w B A l) (hB : B ≤ w.heap.size) (hc : cutB (m : Int) l = true) :
    Calls Try.prog 65 #[.int .i64 m, .slice A q c, .int .i64 s] w fun e w' => e = .returned (.bool (eqS (pcL m l) s)) ∧ Below w.heap.size w w' := by
  obtain ⟨h3, h12, h9⟩ := cutB_len hc
  have HP := Lib.hid (spec_cuPieces m A c B q l w (by omega) (by omega) hq (by omega) (cut_nc hc).2.2.2.2.1 h hB)
  have hf := pcL_facts hc
  obtain ⟨K, hK⟩ : ∃ K, (pcL m l).length = K := ⟨_, rfl⟩
  have hK10 : K ≤ 10 := by rw [← hK, hf.1]; omega
  have HK := Lib.hid hK
  unfold GivSS at HP
  rw [hK] at HP
  generalize pcL m l = T at *
  clear h hc hf hK
  go_enter Try.func65, Try.ntmps65
  go_wp2_with fail
  refine HP.out.mono ?_
  rintro e w1 ⟨A1, c1, rfl, hs1, hb1⟩
  have S1 := Lib.hid hs1.to
  have B1 := Lib.hid hb1
  clear hs1 hb1
  go_wp2
  go_loop [8, 13] (fun _ iv => ∃ k : Nat, k ≤ K ∧ iv = .int .i64 k ∧ ∀ j, j < k → ((rowOf T j).length : Int) = s) (fun _ iv => K - (intOf iv).toNat)
  case atStart => exact ⟨0, Nat.zero_le _, rfl, fun j hj => by omega⟩
  case round =>
    obtain ⟨k, hk, rfl, hno⟩ := hrel
    have Hno := Lib.hid hno
    clear hno
    by_cases hlt : k < K
    · obtain ⟨g, off, rfl, hgB, hcg⟩ := S1.out (by rw [HK.out]; omega)
      obtain ⟨Aj, cj, y0, _⟩ := hcg k (by rw [HK.out]; exact hlt)
      have k1 : (k : Int) < (K : Int) := by omega
      have hne := fun hh => eqS_no (T := T) (s := s) (j := k) (by rw [HK.out]; exact hlt) hh
      have Hne := Lib.hid hne
      obtain ⟨q, hq⟩ : ∃ q, (rowOf T k).length = q := ⟨_, rfl⟩
      have Hq := Lib.hid hq
      rw [hq] at y0
      clear hcg hne hq
      by_cases e : (q : Int) = s
      · have e1 : ((q : Int) != s) = false := by simpa using e
        go_wp2
        go_round
        case rel => exact ⟨k + 1, by omega, by go_num, fun j hj => by
          by_cases e2 : j = k
          · rw [e2, Hq.out]; exact e
          · exact Hno.out j (by omega)⟩
        case measure => simp [intOf]; omega
      · have e1 : ((q : Int) != s) = true := by simpa using e
        go_wp2
        go_ret
        exact ⟨ret_bool (Hne.out (by rw [Hq.out]; exact e)).symm, B1.out⟩
    · obtain rfl : k = K := by omega
      have he := eqS_yes (T := T) (s := s) (by rw [HK.out]; exact Hno.out)
      have He := Lib.hid he
      clear he
      go_wp2
      go_ret
      exact ⟨ret_bool He.out.symm, B1.out⟩

set_option maxHeartbeats 1600000 in
theorem spec_IsEqualCut (n : Int) (A : Option Addr) (c B : Nat) (l : List (Int × Int)) (s : Int) (w : World) (h : SlD w B A l) (hB : B ≤ w.heap.size) (hl : l.length ≤ 1048576) (hlc : l.length ≤ c) :
    Calls Try.prog 35 #[.int .i64 n, .slice A l.length c, .int .i64 s] w (IeE n l s w) := by
  have HG := Lib.hid (spec_cuGood n A c B l w h hB hl hlc)
  cases hc : cutB n l
  · rw [hc] at HG
    have hk : ieK n l s = false := by unfold ieK; rw [hc]; rfl
    have HE := Lib.hid fun w' (hb : Below w.heap.size w w') => ieE_no hk hb
    clear h hc hk
    go_enter Try.func35, Try.ntmps35
    go_wp2_with fail
    refine HG.out.mono ?_
    rintro e w1 ⟨rfl, hb1⟩
    have HF := Lib.hid (HE.out _ hb1)
    go_wp2
    go_ret2
    exact HF.out
  · rw [hc] at HG
    by_cases hs : s < 3
    · have hk : ieK n l s = false := by unfold ieK; rw [hc, decide_eq_false (by omega)]; rfl
      have HE := Lib.hid fun w' (hb : Below w.heap.size w w') => ieE_no hk hb
      clear h hc hk
      go_enter Try.func35, Try.ntmps35
      go_wp2_with fail
      refine HG.out.mono ?_
      rintro e w1 ⟨rfl, hb1⟩
      have HF := Lib.hid (HE.out _ hb1)
      go_wp2
      go_ret2
      exact HF.out
    · obtain ⟨h3, h12, h9⟩ := cutB_len hc
      obtain ⟨m, rfl⟩ := Int.eq_ofNat_of_zero_le (show 0 ≤ n by omega)
      have hk : ieK (m : Int) l s = true := by unfold ieK; rw [hc, decide_eq_true (by omega)]; rfl
      have HE := Lib.hid fun w' (hb : Below w.heap.size w w') => ieE_yes hk rfl hb
      have HQ := Lib.hid fun w1 (hb : Below w.heap.size w w1) => spec_cuEqual m A c B l.length l s w1 rfl (h.below (hb.mono hB)) (Nat.le_trans hB hb.size) hc
      clear h hc hk
      go_enter Try.func35, Try.ntmps35
      go_wp2_with fail
      refine HG.out.mono ?_
      rintro e w1 ⟨rfl, hb1⟩
      go_wp2_with fail
      refine (HQ.out _ hb1).mono ?_
      rintro e w2 ⟨rfl, hb2⟩
      have HF := Lib.hid (HE.out _ (below_kept hb1 (Nat.le_refl _) hb2))
      clear hb1 hb2
      go_wp2
      go_ret2
      exact HF.out

theorem impl_isSize (s : Int) (b : Bool) (w : World) (h : decide (3 ≤ s) = b) : Calls Try.prog 66 #[.int .i64 s] w fun e w' => e = .returned (.bool b) ∧ w = w' := by
  subst h
  by_cases hs : 3 ≤ s
  · have e : decide (3 ≤ s) = true := decide_eq_true hs
    rw [e]
    clear e
    go_enter Try.func66, Try.ntmps66
    go_wp2
    go_ret
    exact ⟨by simp [hs], rfl⟩
  · have e : decide (3 ≤ s) = false := decide_eq_false hs
    rw [e]
    clear e
    go_enter Try.func66, Try.ntmps66
    go_wp2
    go_ret
    exact ⟨by simp [hs], rfl⟩

set_option maxHeartbeats 1600000 in
theorem impl_IsEqualCut (n : Int) (A : Option Addr) (c B : Nat) (l : List (Int × Int)) (s : Int) (w : World) (h : SlD w B A l) (hB : B ≤ w.heap.size) (hl : l.length ≤ 1048576) (hlc : l.length ≤ c) :
    Calls Try.prog 36 #[.int .i64 n, .slice A l.length c, .int .i64 s] w (IeE n l s w) := by
  have HP := Lib.hid (impl_SizesOfCut n A c B l w h hB hl hlc)
  unfold RetI at HP
  cases hc : cutB n l
  · rw [hc, szR_no hc] at HP
    have hk : ieK n l s = false := by unfold ieK; rw [hc]; rfl
    have HE := Lib.hid fun w' (hb : Below w.heap.size w w') => ieE_no hk hb
    clear h hc hk
    go_enter Try.func36, Try.ntmps36
    go_wp2_with fail
    refine HP.out.mono ?_
    rintro e w1 ⟨A1, c1, rfl, _, hb1⟩
    have HF := Lib.hid (HE.out _ hb1)
    go_wp2
    go_ret2
    exact HF.out
  · rw [hc] at HP
    by_cases hs : 3 ≤ s
    · obtain ⟨h3, h12, h9⟩ := cutB_len hc
      obtain ⟨m, rfl⟩ := Int.eq_ofNat_of_zero_le (show 0 ≤ n by omega)
      have hk : ieK (m : Int) l s = true := by unfold ieK; rw [hc, decide_eq_true hs]; rfl
      have hf := pcL_facts hc
      have hln := szU_length (sz_h3 hc)
      have hen := eqS_ends (sz_h3 hc) (by rw [hf.1]; omega) s
      rw [szR_yes hc] at HP
      have hK : (szU (pcL m l) (m - 2)).length = l.length + 1 := by rw [hln, hf.1]
      rw [hf.1, show l.length + 1 - 1 = l.length by omega] at hen
      have HE := Lib.hid fun w' (hb : Below w.heap.size w w') => ieE_yes hk hen.symm hb
      have hl10 : l.length ≤ 9 := by omega
      generalize szU (pcL m l) (m - 2) = S at *
      obtain ⟨K, hKK⟩ : ∃ K, l.length = K := ⟨_, rfl⟩
      simp only [hK, hKK] at HP HE hl10
      have HKS := Lib.hid hK
      have HKK := Lib.hid hKK
      clear h hc hk hf hln hen hK hKK
      go_enter Try.func36, Try.ntmps36
      go_wp2_with fail
      rw [HKK.out]
      refine HP.out.mono ?_
      rintro e w1 ⟨A1, c1, rfl, o1, hb1⟩
      obtain ⟨g, cap, hv, _, _⟩ := o1.form (by omega)
      cases hv
      have y0 : w1.cell? ⟨g, 0, none⟩ = some (.int .i64 (S.getD 0 0)) := by rw [o1.cellAt 0 (by omega), ics_get _ _ (by rw [HKS.out]; omega)]
      have y1 : w1.cell? ⟨g, K, none⟩ = some (.int .i64 (S.getD K 0)) := by rw [o1.cellAt K (by omega), ics_get _ _ (by rw [HKS.out, HKK.out]; omega)]
      have HB := Lib.hid hb1
      have t1 : (0 : Int) ≤ (K : Int) := by omega
      clear o1 hb1 HP
      have HFb := Lib.hid (HE.out _ HB.out)
      clear HE
      generalize S.getD 0 0 = x0 at *
      generalize S.getD K 0 = x1 at *
      have t2 : (K : Int) < (K : Int) + 1 := by omega
      go_wp2_with fail
      refine (impl_isSize s true _ (decide_eq_true (by omega))).mono ?_
      rintro e w2 ⟨rfl, rfl⟩
      by_cases a0 : x0 = s
      · have b0 : (x0 == s) = true := by simpa using a0
        by_cases a1 : x1 = s
        · have b1 : (x1 == s) = true := by simpa using a1
          rw [decide_eq_true a0, decide_eq_true a1] at HFb
          clear a0 a1
          go_wp2
          go_ret2
          exact HFb.out
        · have b1 : (x1 == s) = false := by simpa using a1
          rw [decide_eq_true a0, decide_eq_false a1] at HFb
          clear a0 a1
          go_wp2
          go_ret2
          exact HFb.out
      · have b0 : (x0 == s) = false := by simpa using a0
        rw [decide_eq_false a0, Bool.false_and] at HFb
        clear a0
        go_wp2
        go_ret2
        exact HFb.out
    · have hk : ieK n l s = false := by unfold ieK; rw [hc, decide_eq_false hs]; rfl
      have HE := Lib.hid fun w' (hb : Below w.heap.size w w') => ieE_no hk hb
      clear h hc hk
      go_enter Try.func36, Try.ntmps36
      go_wp2_with fail
      refine HP.out.mono ?_
      rintro e w1 ⟨A1, c1, rfl, _, hb1⟩
      have HF := Lib.hid (HE.out _ hb1)
      clear HP HE
      go_wp2_with fail
      refine (impl_isSize s false _ (decide_eq_false (by omega))).mono ?_
      rintro e w2 ⟨rfl, rfl⟩
      go_wp2
      go_ret2
      exact HF.out

theorem WIsEqualCut.walk (w : World) (n : Int) (wn : (Lit.int .i64 n).wf = true) (A : Option Addr) (c : Nat) (l : List (Int × Int)) (h : SlD w w.heap.size A l)
    (hj : l.length ≤ c ∧ c ≤ maxLen ∧ ∀ x ∈ l, (Lit.int .i64 x.1).wf = true ∧ (Lit.int .i64 x.2).wf = true) (s : Int) (ws : (Lit.int .i64 s).wf = true) :
    Calls Try.prog 8 #[.int .i64 n, .slice A l.length c, .int .i64 s] w fun e w' => e = .returned (.bool true) ∧ Below w.heap.size w w' :=
  WIsEqualCut.core w n A c l s h hj.1 hj.2.1 (ieR n l s) (ieK n l s)
    (Lib.hid fun A c w h hl hlc => spec_IsEqualCut n A c _ l s w h (Nat.le_refl _) hl hlc)
    (Lib.hid fun A c w h hl hlc => impl_IsEqualCut n A c _ l s w h (Nat.le_refl _) hl hlc)
end Go.Proofs.Ytlnnnjnboknoeaa
