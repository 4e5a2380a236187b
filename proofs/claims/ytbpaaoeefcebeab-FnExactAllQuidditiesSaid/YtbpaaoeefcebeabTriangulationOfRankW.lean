/- TriangulationOfRank: both sides, and the law's walk. -/
import Derived.Test.YtbpaaoeefcebeabAllTriangulationsW
import Derived.Test.YtbpaaoeefcebeabCntT
import Derived.Test.YtbpaaoeefcebeabTriangulationOfRankC
namespace Go.Proofs.Ytbpaaoeefcebeab
set_option linter.unusedVariables false
open Go.RowKit

theorem spec_caFew (n : Int) (w : World) : Calls Try.prog 55 #[.int .i64 n] w fun e w' => e = .returned (.bool (inB n 3 8)) ∧ w = w' := by
  go_enter Try.func55, Try.ntmps55
  go_wp2_with fail
  refine (spec_l1In _ _ _ _).mono ?_
  rintro e w2 ⟨rfl, rfl⟩
  go_wp2
  go_ret
  exact ⟨rfl, rfl⟩

/-- the triangulation of a rank -/
def rkB (n k : Int) : Bool := inB n 3 8 && inB k 0 ((atR n).length - 1)
def rkR (n k : Int) : List (Int × Int) := if rkB n k = true then rowD (atR n) k.toNat else []
theorem rkR_no {n k : Int} (h : rkB n k = false) : rkR n k = [] := by simp [rkR, h]
theorem rkR_yes {n : Int} {k : Nat} (h : rkB n k = true) : rkR n k = rowD (atR n) k := by simp [rkR, h]
theorem rkR_length (n k : Int) : (rkR n k).length ≤ 1000000000 := by
  cases h : rkB n k
  · rw [rkR_no h]; simp
  · unfold rkB at h
    rw [Bool.and_eq_true] at h
    have := inB_iff.1 h.2
    obtain ⟨j, rfl⟩ := Int.eq_ofNat_of_zero_le this.1
    have h2 : rkB n j = true := by unfold rkB; rw [h.1, h.2]; rfl
    rw [rkR_yes h2]
    have := atR_row n j (by omega)
    omega
theorem rk_few {n k : Int} (h : inB n 3 8 = false) : rkB n k = false := by unfold rkB; rw [h]; rfl
theorem rk_is {n k : Int} {b : Bool} (h : inB n 3 8 = true) (hb : inB k 0 ((atR n).length - 1) = b) : rkB n k = b := by unfold rkB; rw [h, hb]; cases b <;> rfl

theorem spec_TriangulationOfRank (n k : Int) (w : World) : Calls Try.prog 20 #[.int .i64 n, .int .i64 k] w (RetD w (rkR n k) (rkB n k)) := by
  have hno : ∀ (w' : World) (_ : rkB n k = false), Below w.heap.size w w' → RetD w (rkR n k) (rkB n k) (.returned (.tuple #[.slice none 0 0, .bool false])) w' := fun w' h hb => by
    rw [rkR_no h, h]
    exact retD_nil hb
  have Hno := Lib.hid hno
  clear hno
  go_enter Try.func20, Try.ntmps20
  go_wp2_with fail
  refine (spec_caFew _ _).mono ?_
  rintro e w2 ⟨rfl, rfl⟩
  cases hf : inB n 3 8
  · have Hres := Lib.hid (Hno.out w (rk_few hf) (Below.refl _ _))
    clear hf Hno
    go_wp2
    go_ret2
    exact Hres.out
  · have hn := inB_iff.1 hf
    obtain ⟨m, rfl⟩ := Int.eq_ofNat_of_zero_le (show 0 ≤ n by omega)
    have hm3 : 3 ≤ m := by omega
    have hm8 : m ≤ 8 := by omega
    have hat := atR_yes hf
    have hlen : (altL m).length = cntT m := alt_len ⟨m, by omega⟩ hm3
    have hle : ((atR m).length : Int) = (cntT m : Int) := by rw [hat, hlen]
    have hc1 := cntT_bd (n := m) (by omega)
    obtain ⟨t, ht⟩ : ∃ t, cntT m = t := ⟨_, rfl⟩
    have Hc := Lib.hid (spec_caCount m w (by omega) (by omega))
    have Ha := Lib.hid (spec_poAll m w hm3 hm8)
    have Hat := Lib.hid hat
    have Hf := Lib.hid hf
    rw [ht] at Hc hlen hle hc1
    have Hlen := Lib.hid hlen
    have Hle := Lib.hid hle
    have t0 : (0 : Int) ≤ (t : Int) := by omega
    clear hat hlen hle hf hn ht
    go_wp2_with fail
    refine Hc.out.mono ?_
    rintro e w2 ⟨rfl, rfl⟩
    go_wp2_with fail
    refine (spec_l1In _ _ _ _).mono ?_
    rintro e w2 ⟨rfl, rfl⟩
    cases hi : inB k 0 ((t : Int) - 1)
    · have hb : rkB m k = false := rk_is Hf.out (by rw [Hle.out]; exact hi)
      have Hres := Lib.hid (Hno.out w hb (Below.refl _ _))
      clear hb Hno hi
      go_wp2
      go_ret2
      exact Hres.out
    · have hb : rkB m k = true := rk_is Hf.out (by rw [Hle.out]; exact hi)
      have hk := inB_iff.1 hi
      obtain ⟨j, rfl⟩ := Int.eq_ofNat_of_zero_le hk.1
      have Hb := Lib.hid hb
      have hjt : j < t := by omega
      have j0 : (0 : Int) ≤ (j : Int) := by omega
      have j1 : (j : Int) < (t : Int) := by omega
      clear hb hi hk Hno
      go_wp2_with fail
      refine Ha.out.mono ?_
      rintro e w2 ⟨A2, c2, rs, rfl, o2, b2⟩
      rw [Hlen.out]
      have hjl : j < (altL m).length := by rw [Hlen.out]; exact hjt
      obtain ⟨g, rfl, hg1, hg2, hcell⟩ := o2.outer (by omega)
      have hc := hcell j hjl
      have ho := o2.2.2.1 j hjl
      obtain ⟨Aj, cj, hv⟩ := own_form ho
      rw [hv] at ho hc
      have hres : RetD w (rkR m j) (rkB m j) (.returned (.tuple #[.slice Aj (rowD (altL m) j).length cj, .bool true])) w2 := by
        rw [rkR_yes Hb.out, Hb.out, Hat.out]
        exact ⟨Aj, cj, rfl, ho, b2⟩
      have Hres := Lib.hid hres
      generalize (rowD (altL m) j).length = q at *
      clear hres ho o2 hcell hv b2 Ha Hc
      go_wp2
      go_ret2
      exact Hres.out

theorem impl_TriangulationOfRank (n k : Int) (w : World) : Calls Try.prog 21 #[.int .i64 n, .int .i64 k] w (RetD w (rkR n k) (rkB n k)) := by
  have hno : ∀ (w' : World) (_ : rkB n k = false), Below w.heap.size w w' → RetD w (rkR n k) (rkB n k) (.returned (.tuple #[.slice none 0 0, .bool false])) w' := fun w' h hb => by
    rw [rkR_no h, h]
    exact retD_nil hb
  have Hno := Lib.hid hno
  clear hno
  have hlen := atR_len n
  have hfew : inB n 3 8 = false → atR n = [] := fun h => atR_no h
  go_enter Try.func21, Try.ntmps21
  go_wp2_with fail
  refine (impl_AllTriangulations n w).mono ?_
  rintro e w1 ⟨A1, c1, rs, rfl, o1, b1⟩
  obtain ⟨t, ht⟩ : ∃ t, (atR n).length = t := ⟨_, rfl⟩
  have Ht := Lib.hid ht
  have Hfew := Lib.hid hfew
  rw [ht]
  have O1 := Lib.hid o1
  have B1 := Lib.hid b1
  generalize hf : inB n 3 8 = f
  have Hf := Lib.hid hf
  clear hfew ht o1 b1 hf
  by_cases k0 : k < 0
  · have hb : rkB n k = false := by
      unfold rkB
      have : inB k 0 ((atR n).length - 1) = false := by
        cases h : inB k 0 ((atR n).length - 1)
        · rfl
        · have := inB_iff.1 h
          omega
      rw [this]; simp
    have Hres := Lib.hid (Hno.out w1 hb B1.out)
    clear hb Hno
    go_wp2
    go_ret2
    exact Hres.out
  · obtain ⟨j, rfl⟩ := Int.eq_ofNat_of_zero_le (show 0 ≤ k by omega)
    by_cases hjt : j < t
    · have hft : inB n 3 8 = true := by
        cases h : inB n 3 8
        · have := Hfew.out h
          rw [this] at Ht
          have := Ht.out
          simp at this
          omega
        · rfl
      have hb : rkB n j = true := rk_is hft (inB_iff.2 (by rw [Ht.out]; omega))
      have Hb := Lib.hid hb
      have j0 : (0 : Int) ≤ (j : Int) := by omega
      have j1 : (j : Int) < (t : Int) := by omega
      have hjl : j < (atR n).length := by rw [Ht.out]; exact hjt
      obtain ⟨g, rfl, hg1, hg2, hcell⟩ := O1.out.outer (by omega)
      have hc := hcell j hjl
      have ho := O1.out.2.2.1 j hjl
      obtain ⟨Aj, cj, hv⟩ := own_form ho
      rw [hv] at ho hc
      have hres : RetD w (rkR n j) (rkB n j) (.returned (.tuple #[.slice Aj (rowD (atR n) j).length cj, .bool true])) w1 := by
        rw [rkR_yes Hb.out, Hb.out]
        exact ⟨Aj, cj, rfl, ho, B1.out⟩
      have Hres := Lib.hid hres
      generalize (rowD (atR n) j).length = q at *
      clear hres ho hcell hv hb hft hjl Hno
      go_wp2
      go_ret2
      exact Hres.out
    · have hb : rkB n j = false := by
        unfold rkB
        have : inB (j : Int) 0 ((atR n).length - 1) = false := by
          cases h : inB (j : Int) 0 ((atR n).length - 1)
          · rfl
          · have := inB_iff.1 h
            have := Ht.out
            omega
        rw [this]; simp
      have Hres := Lib.hid (Hno.out w1 hb B1.out)
      have j1 : ¬ (j : Int) < (t : Int) := by omega
      clear hb Hno
      go_wp2
      go_ret2
      exact Hres.out

theorem WTriangulationOfRank.walk (w : World) (n : Int) (wn : (Lit.int .i64 n).wf = true) (k : Int) (wk : (Lit.int .i64 k).wf = true) :
    Calls Try.prog 4 #[.int .i64 n, .int .i64 k] w fun e w' => e = .returned (.bool true) ∧ Below w.heap.size w w' :=
  WTriangulationOfRank.core w n k (rkR n k) (rkB n k) (rkR_length n k) (Lib.hid fun w => spec_TriangulationOfRank n k w) (Lib.hid fun w => impl_TriangulationOfRank n k w)
end Go.Proofs.Ytbpaaoeefcebeab
