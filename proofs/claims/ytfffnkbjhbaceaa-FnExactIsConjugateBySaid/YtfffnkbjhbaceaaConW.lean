/- IsConjugateBy: the model's and the program's contracts, and the law's walk. -/
import Derived.Test.YtfffnkbjhbaceaaTimW
import Derived.Test.YtfffnkbjhbaceaaMatE
import Derived.Test.YtfffnkbjhbaceaaIsConjugateByC
namespace Go.Proofs.Ytfffnkbjhbaceaa
set_option linter.unusedVariables false
open Go.RowKit

/-- g times m times the inverse of g, zeros if a product is no matrix -/
def conF (m g : M4) : M4 := (g.within m).within g.inv
/-- whether that is one, and whether it is k -/
def RetCon (m k g : M4) (w : World) (e : Ending) (w' : World) : Prop := e = .returned (.tuple #[.bool ((conF m g).ok && (conF m g).eqB k), .bool (conF m g).ok]) ∧ Below w.heap.size w w'
theorem retCon_no {m k g : M4} {w w' : World} (h : (conF m g).ok = false) (hb : Below w.heap.size w w') : RetCon m k g w (.returned (.tuple #[.bool false, .bool false])) w' := by
  unfold RetCon; rw [h]; exact ⟨rfl, hb⟩
theorem retCon_yes {m k g : M4} {b : Bool} {w w' : World} (h : (conF m g).ok = true) (e : (conF m g).eqB k = b) (hb : Below w.heap.size w w') : RetCon m k g w (.returned (.tuple #[.bool b, .bool true])) w' := by
  unfold RetCon; rw [h, e]; exact ⟨rfl, hb⟩
theorem below3' (w : World) (x y z : Obj) : Below w.heap.size w (((w.alloc x).alloc y).alloc z) := below3 w x y z
theorem spec_IsConjugateBy_no1 (a0 b0 c0 d0 a1 b1 c1 d1 a2 b2 c2 d2 : Int) (w : World) (h1 : mxB a0 b0 c0 d0 = false) : Calls Try.prog 36 #[.agg #[.int .i64 a0, .int .i64 b0, .int .i64 c0, .int .i64 d0], .agg #[.int .i64 a1, .int .i64 b1, .int .i64 c1, .int .i64 d1], .agg #[.int .i64 a2, .int .i64 b2, .int .i64 c2, .int .i64 d2]] w fun r w' => r = .returned (.tuple #[.bool false, .bool false]) ∧ Below w.heap.size w w' := by
  have hc := spec_mxGood a0 b0 c0 d0
  rw [h1] at hc
  have Hc1 := Lib.hid hc
  clear hc h1
  go_enter Try.func36, Try.ntmps36
  go_wp2_with fail
  refine (Hc1.out _).mono ?_
  rintro e w1 ⟨rfl, hb1⟩
  obtain ⟨hc1, hf1, hz1⟩ := bcell hb1
  have hy1_2 : w.heap.size + 2 < w1.heap.size := by simp at hz1; omega
  have hy1_1 : w.heap.size + 1 < w1.heap.size := by omega
  have hy1_0 : w.heap.size < w1.heap.size := by omega
  have hd := (below3 w _ _ _).trans (hb1.mono (by simp; omega))
  clear hb1
  clear Hc1
  have hE := Lib.hid hd
  go_wp2
  go_ret2
  exact ⟨rfl, hE.out⟩
theorem spec_IsConjugateBy_no2 (a0 b0 c0 d0 a1 b1 c1 d1 a2 b2 c2 d2 : Int) (w : World) (h1 : mxB a0 b0 c0 d0 = true) (h2 : mxB a1 b1 c1 d1 = false) : Calls Try.prog 36 #[.agg #[.int .i64 a0, .int .i64 b0, .int .i64 c0, .int .i64 d0], .agg #[.int .i64 a1, .int .i64 b1, .int .i64 c1, .int .i64 d1], .agg #[.int .i64 a2, .int .i64 b2, .int .i64 c2, .int .i64 d2]] w fun r w' => r = .returned (.tuple #[.bool false, .bool false]) ∧ Below w.heap.size w w' := by
  have hc := spec_mxGood a0 b0 c0 d0
  rw [h1] at hc
  have Hc1 := Lib.hid hc
  clear hc h1
  have hc := spec_mxGood a1 b1 c1 d1
  rw [h2] at hc
  have Hc2 := Lib.hid hc
  clear hc h2
  go_enter Try.func36, Try.ntmps36
  go_wp2_with fail
  refine (Hc1.out _).mono ?_
  rintro e w1 ⟨rfl, hb1⟩
  obtain ⟨hc1, hf1, hz1⟩ := bcell hb1
  have hy1_2 : w.heap.size + 2 < w1.heap.size := by simp at hz1; omega
  have hy1_1 : w.heap.size + 1 < w1.heap.size := by omega
  have hy1_0 : w.heap.size < w1.heap.size := by omega
  have hd := (below3 w _ _ _).trans (hb1.mono (by simp; omega))
  clear hb1
  go_wp2_with fail
  refine (Hc2.out _).mono ?_
  rintro e w2 ⟨rfl, hb2⟩
  obtain ⟨hc2, hf2, hz2⟩ := bcell hb2
  have hy2_2 : w.heap.size + 2 < w2.heap.size := by omega
  have hy2_1 : w.heap.size + 1 < w2.heap.size := by omega
  have hy2_0 : w.heap.size < w2.heap.size := by omega
  replace hd := below_kept hd (Nat.le_refl _) hb2
  clear hb2
  clear Hc1 Hc2
  have hE := Lib.hid hd
  go_wp2
  go_ret2
  exact ⟨rfl, hE.out⟩
theorem spec_IsConjugateBy_no3 (a0 b0 c0 d0 a1 b1 c1 d1 a2 b2 c2 d2 : Int) (w : World) (h1 : mxB a0 b0 c0 d0 = true) (h2 : mxB a1 b1 c1 d1 = true) (h3 : mxB a2 b2 c2 d2 = false) : Calls Try.prog 36 #[.agg #[.int .i64 a0, .int .i64 b0, .int .i64 c0, .int .i64 d0], .agg #[.int .i64 a1, .int .i64 b1, .int .i64 c1, .int .i64 d1], .agg #[.int .i64 a2, .int .i64 b2, .int .i64 c2, .int .i64 d2]] w fun r w' => r = .returned (.tuple #[.bool false, .bool false]) ∧ Below w.heap.size w w' := by
  have hc := spec_mxGood a0 b0 c0 d0
  rw [h1] at hc
  have Hc1 := Lib.hid hc
  clear hc h1
  have hc := spec_mxGood a1 b1 c1 d1
  rw [h2] at hc
  have Hc2 := Lib.hid hc
  clear hc h2
  have hc := spec_mxGood a2 b2 c2 d2
  rw [h3] at hc
  have Hc3 := Lib.hid hc
  clear hc h3
  go_enter Try.func36, Try.ntmps36
  go_wp2_with fail
  refine (Hc1.out _).mono ?_
  rintro e w1 ⟨rfl, hb1⟩
  obtain ⟨hc1, hf1, hz1⟩ := bcell hb1
  have hy1_2 : w.heap.size + 2 < w1.heap.size := by simp at hz1; omega
  have hy1_1 : w.heap.size + 1 < w1.heap.size := by omega
  have hy1_0 : w.heap.size < w1.heap.size := by omega
  have hd := (below3 w _ _ _).trans (hb1.mono (by simp; omega))
  clear hb1
  go_wp2_with fail
  refine (Hc2.out _).mono ?_
  rintro e w2 ⟨rfl, hb2⟩
  obtain ⟨hc2, hf2, hz2⟩ := bcell hb2
  have hy2_2 : w.heap.size + 2 < w2.heap.size := by omega
  have hy2_1 : w.heap.size + 1 < w2.heap.size := by omega
  have hy2_0 : w.heap.size < w2.heap.size := by omega
  replace hd := below_kept hd (Nat.le_refl _) hb2
  clear hb2
  go_wp2_with fail
  refine (Hc3.out _).mono ?_
  rintro e w3 ⟨rfl, hb3⟩
  obtain ⟨hc3, hf3, hz3⟩ := bcell hb3
  have hy3_2 : w.heap.size + 2 < w3.heap.size := by omega
  have hy3_1 : w.heap.size + 1 < w3.heap.size := by omega
  have hy3_0 : w.heap.size < w3.heap.size := by omega
  replace hd := below_kept hd (Nat.le_refl _) hb3
  clear hb3
  clear Hc1 Hc2 Hc3
  have hE := Lib.hid hd
  go_wp2
  go_ret2
  exact ⟨rfl, hE.out⟩
theorem impl_IsConjugateBy_no1 (a0 b0 c0 d0 a1 b1 c1 d1 a2 b2 c2 d2 : Int) (w : World) (h1 : mxB a0 b0 c0 d0 = false) : Calls Try.prog 37 #[.agg #[.int .i64 a0, .int .i64 b0, .int .i64 c0, .int .i64 d0], .agg #[.int .i64 a1, .int .i64 b1, .int .i64 c1, .int .i64 d1], .agg #[.int .i64 a2, .int .i64 b2, .int .i64 c2, .int .i64 d2]] w fun r w' => r = .returned (.tuple #[.bool false, .bool false]) ∧ Below w.heap.size w w' := by
  have hc := impl_IsMatrix a0 b0 c0 d0
  rw [h1] at hc
  have Hc1 := Lib.hid hc
  clear hc h1
  go_enter Try.func37, Try.ntmps37
  go_wp2_with fail
  refine (Hc1.out _).mono ?_
  rintro e w1 ⟨rfl, hb1⟩
  obtain ⟨hc1, hf1, hz1⟩ := bcell hb1
  have hy1_2 : w.heap.size + 2 < w1.heap.size := by simp at hz1; omega
  have hy1_1 : w.heap.size + 1 < w1.heap.size := by omega
  have hy1_0 : w.heap.size < w1.heap.size := by omega
  have hd := (below3 w _ _ _).trans (hb1.mono (by simp; omega))
  clear hb1
  clear Hc1
  have hE := Lib.hid hd
  go_wp2
  go_ret2
  exact ⟨rfl, hE.out⟩
theorem impl_IsConjugateBy_no2 (a0 b0 c0 d0 a1 b1 c1 d1 a2 b2 c2 d2 : Int) (w : World) (h1 : mxB a0 b0 c0 d0 = true) (h2 : mxB a1 b1 c1 d1 = false) : Calls Try.prog 37 #[.agg #[.int .i64 a0, .int .i64 b0, .int .i64 c0, .int .i64 d0], .agg #[.int .i64 a1, .int .i64 b1, .int .i64 c1, .int .i64 d1], .agg #[.int .i64 a2, .int .i64 b2, .int .i64 c2, .int .i64 d2]] w fun r w' => r = .returned (.tuple #[.bool false, .bool false]) ∧ Below w.heap.size w w' := by
  have hc := impl_IsMatrix a0 b0 c0 d0
  rw [h1] at hc
  have Hc1 := Lib.hid hc
  clear hc h1
  have hc := impl_IsMatrix a1 b1 c1 d1
  rw [h2] at hc
  have Hc2 := Lib.hid hc
  clear hc h2
  go_enter Try.func37, Try.ntmps37
  go_wp2_with fail
  refine (Hc1.out _).mono ?_
  rintro e w1 ⟨rfl, hb1⟩
  obtain ⟨hc1, hf1, hz1⟩ := bcell hb1
  have hy1_2 : w.heap.size + 2 < w1.heap.size := by simp at hz1; omega
  have hy1_1 : w.heap.size + 1 < w1.heap.size := by omega
  have hy1_0 : w.heap.size < w1.heap.size := by omega
  have hd := (below3 w _ _ _).trans (hb1.mono (by simp; omega))
  clear hb1
  go_wp2_with fail
  refine (Hc2.out _).mono ?_
  rintro e w2 ⟨rfl, hb2⟩
  obtain ⟨hc2, hf2, hz2⟩ := bcell hb2
  have hy2_2 : w.heap.size + 2 < w2.heap.size := by omega
  have hy2_1 : w.heap.size + 1 < w2.heap.size := by omega
  have hy2_0 : w.heap.size < w2.heap.size := by omega
  replace hd := below_kept hd (Nat.le_refl _) hb2
  clear hb2
  clear Hc1 Hc2
  have hE := Lib.hid hd
  go_wp2
  go_ret2
  exact ⟨rfl, hE.out⟩
theorem impl_IsConjugateBy_no3 (a0 b0 c0 d0 a1 b1 c1 d1 a2 b2 c2 d2 : Int) (w : World) (h1 : mxB a0 b0 c0 d0 = true) (h2 : mxB a1 b1 c1 d1 = true) (h3 : mxB a2 b2 c2 d2 = false) : Calls Try.prog 37 #[.agg #[.int .i64 a0, .int .i64 b0, .int .i64 c0, .int .i64 d0], .agg #[.int .i64 a1, .int .i64 b1, .int .i64 c1, .int .i64 d1], .agg #[.int .i64 a2, .int .i64 b2, .int .i64 c2, .int .i64 d2]] w fun r w' => r = .returned (.tuple #[.bool false, .bool false]) ∧ Below w.heap.size w w' := by
  have hc := impl_IsMatrix a0 b0 c0 d0
  rw [h1] at hc
  have Hc1 := Lib.hid hc
  clear hc h1
  have hc := impl_IsMatrix a1 b1 c1 d1
  rw [h2] at hc
  have Hc2 := Lib.hid hc
  clear hc h2
  have hc := impl_IsMatrix a2 b2 c2 d2
  rw [h3] at hc
  have Hc3 := Lib.hid hc
  clear hc h3
  go_enter Try.func37, Try.ntmps37
  go_wp2_with fail
  refine (Hc1.out _).mono ?_
  rintro e w1 ⟨rfl, hb1⟩
  obtain ⟨hc1, hf1, hz1⟩ := bcell hb1
  have hy1_2 : w.heap.size + 2 < w1.heap.size := by simp at hz1; omega
  have hy1_1 : w.heap.size + 1 < w1.heap.size := by omega
  have hy1_0 : w.heap.size < w1.heap.size := by omega
  have hd := (below3 w _ _ _).trans (hb1.mono (by simp; omega))
  clear hb1
  go_wp2_with fail
  refine (Hc2.out _).mono ?_
  rintro e w2 ⟨rfl, hb2⟩
  obtain ⟨hc2, hf2, hz2⟩ := bcell hb2
  have hy2_2 : w.heap.size + 2 < w2.heap.size := by omega
  have hy2_1 : w.heap.size + 1 < w2.heap.size := by omega
  have hy2_0 : w.heap.size < w2.heap.size := by omega
  replace hd := below_kept hd (Nat.le_refl _) hb2
  clear hb2
  go_wp2_with fail
  refine (Hc3.out _).mono ?_
  rintro e w3 ⟨rfl, hb3⟩
  obtain ⟨hc3, hf3, hz3⟩ := bcell hb3
  have hy3_2 : w.heap.size + 2 < w3.heap.size := by omega
  have hy3_1 : w.heap.size + 1 < w3.heap.size := by omega
  have hy3_0 : w.heap.size < w3.heap.size := by omega
  replace hd := below_kept hd (Nat.le_refl _) hb3
  clear hb3
  clear Hc1 Hc2 Hc3
  have hE := Lib.hid hd
  go_wp2
  go_ret2
  exact ⟨rfl, hE.out⟩
set_option maxHeartbeats 3200000 in
theorem spec_IsConjugateBy_yes (a0 b0 c0 d0 a1 b1 c1 d1 a2 b2 c2 d2 : Int) (w : World) (h1 : mxB a0 b0 c0 d0 = true) (h2 : mxB a1 b1 c1 d1 = true) (h3 : mxB a2 b2 c2 d2 = true) : Calls Try.prog 36 #[.agg #[.int .i64 a0, .int .i64 b0, .int .i64 c0, .int .i64 d0], .agg #[.int .i64 a1, .int .i64 b1, .int .i64 c1, .int .i64 d1], .agg #[.int .i64 a2, .int .i64 b2, .int .i64 c2, .int .i64 d2]] w (RetCon ⟨a0, b0, c0, d0⟩ ⟨a1, b1, c1, d1⟩ ⟨a2, b2, c2, d2⟩ w) := by
  have hc := spec_mxGood a0 b0 c0 d0
  rw [h1] at hc
  have Hc1 := Lib.hid hc
  clear hc
  have hc := spec_mxGood a1 b1 c1 d1
  rw [h2] at hc
  have HcK := Lib.hid hc
  clear hc
  have hc := spec_mxGood a2 b2 c2 d2
  rw [h3] at hc
  have Hc3 := Lib.hid hc
  clear hc
  have Ht := Lib.hid (fun w => spec_mxTimes a2 b2 c2 d2 a0 b0 c0 d0 1000000000 1000000000 w (M4.ok_in (m := ⟨a2, b2, c2, d2⟩) h3) (M4.ok_in (m := ⟨a0, b0, c0, d0⟩) h1) (by omega))
  have hE2 : M4.mul ⟨a2, b2, c2, d2⟩ ⟨a0, b0, c0, d0⟩ = ⟨a2 * a0 + b2 * c0, a2 * b0 + b2 * d0, c2 * a0 + d2 * c0, c2 * b0 + d2 * d0⟩ := rfl
  obtain ⟨⟨-, gb2, gc2, -⟩, -⟩ := mxB_iff.1 h3
  have hgi : M4.In ⟨d2, -b2, -c2, a2⟩ 1000000000 := M4.In.inv (m := ⟨a2, b2, c2, d2⟩) (M4.ok_in (m := ⟨a2, b2, c2, d2⟩) h3)
  have Hi := Lib.hid (fun w => spec_mxInverse a2 b2 c2 d2 w gb2 gc2)
  clear gb2 gc2 h1 h2 h3
  generalize a2 * a0 + b2 * c0 = p at *
  generalize a2 * b0 + b2 * d0 = q at *
  generalize c2 * a0 + d2 * c0 = r at *
  generalize c2 * b0 + d2 * d0 = s at *
  cases hok : mxB p q r s
  · have hw : M4.within ⟨a2, b2, c2, d2⟩ ⟨a0, b0, c0, d0⟩ = M4.zero := by
      exact M4.within_no (by rw [hE2]; exact hok)
    have Hm := Lib.hid (fun w => spec_mxIf_no p q r s w hok)
    have HE := Lib.hid (fun w' (hb : Below w.heap.size w w') => retCon_no (m := ⟨a0, b0, c0, d0⟩) (k := ⟨a1, b1, c1, d1⟩) (g := ⟨a2, b2, c2, d2⟩) (by unfold conF; rw [hw, M4.zero_within]; exact M4.zero_ok) hb)
    clear hw hok hE2 hgi Hi
    go_enter Try.func36, Try.ntmps36
    go_wp2_with fail
    refine (Hc1.out _).mono ?_
    rintro e w1 ⟨rfl, hb1⟩
    obtain ⟨hc1, hf1, hz1⟩ := bcell hb1
    have hy1_2 : w.heap.size + 2 < w1.heap.size := by simp at hz1; omega
    have hy1_1 : w.heap.size + 1 < w1.heap.size := by omega
    have hy1_0 : w.heap.size < w1.heap.size := by omega
    have hd := (below3 w _ _ _).trans (hb1.mono (by simp; omega))
    clear hb1
    go_wp2_with fail
    refine (HcK.out _).mono ?_
    rintro e w2 ⟨rfl, hb2⟩
    obtain ⟨hc2, hf2, hz2⟩ := bcell hb2
    have hy2_2 : w.heap.size + 2 < w2.heap.size := by omega
    have hy2_1 : w.heap.size + 1 < w2.heap.size := by omega
    have hy2_0 : w.heap.size < w2.heap.size := by omega
    replace hd := below_kept hd (Nat.le_refl _) hb2
    clear hb2
    go_wp2_with fail
    refine (Hc3.out _).mono ?_
    rintro e w3 ⟨rfl, hb3⟩
    obtain ⟨hc3, hf3, hz3⟩ := bcell hb3
    have hy3_2 : w.heap.size + 2 < w3.heap.size := by omega
    have hy3_1 : w.heap.size + 1 < w3.heap.size := by omega
    have hy3_0 : w.heap.size < w3.heap.size := by omega
    replace hd := below_kept hd (Nat.le_refl _) hb3
    clear hb3
    go_wp2_with fail
    refine (Ht.out _).mono ?_
    rintro e w4 ⟨rfl, hb4⟩
    obtain ⟨hc4, hf4, hz4⟩ := bcell hb4
    have hy4_2 : w.heap.size + 2 < w4.heap.size := by omega
    have hy4_1 : w.heap.size + 1 < w4.heap.size := by omega
    have hy4_0 : w.heap.size < w4.heap.size := by omega
    replace hd := below_kept hd (Nat.le_refl _) hb4
    clear hb4
    go_wp2_with fail
    refine (Hm.out _).mono ?_
    rintro e w5 ⟨rfl, hb5⟩
    obtain ⟨hc5, hf5, hz5⟩ := bcell hb5
    have hy5_2 : w.heap.size + 2 < w5.heap.size := by omega
    have hy5_1 : w.heap.size + 1 < w5.heap.size := by omega
    have hy5_0 : w.heap.size < w5.heap.size := by omega
    replace hd := below_kept hd (Nat.le_refl _) hb5
    clear hb5
    clear Hc1 HcK Hc3 Ht Hm
    have hE := Lib.hid (HE.out _ (below_alloc1 hd (Nat.le_refl _) (.cells #[.int .i64 0, .int .i64 0, .int .i64 0, .int .i64 0] 25)))
    go_wp2
    go_ret2
    exact hE.out
  · have hw : M4.within ⟨a2, b2, c2, d2⟩ ⟨a0, b0, c0, d0⟩ = ⟨p, q, r, s⟩ := by
      rw [M4.within_yes (by rw [hE2]; exact hok), hE2]
    have Hm := Lib.hid (fun w => spec_mxIf_yes p q r s w hok)
    have hc2 : conF ⟨a0, b0, c0, d0⟩ ⟨a2, b2, c2, d2⟩ = M4.within ⟨p, q, r, s⟩ ⟨d2, -b2, -c2, a2⟩ := by unfold conF; rw [hw]; rfl
    have Ht2 := Lib.hid (fun w => spec_mxTimes p q r s d2 (-b2) (-c2) a2 1000000000 1000000000 w (M4.ok_in (m := ⟨p, q, r, s⟩) hok) hgi (by omega))
    have hE3 : M4.mul ⟨p, q, r, s⟩ ⟨d2, -b2, -c2, a2⟩ = ⟨p * d2 + q * -c2, p * -b2 + q * a2, r * d2 + s * -c2, r * -b2 + s * a2⟩ := rfl
    clear hw hok hE2 hgi
    generalize p * d2 + q * -c2 = p2 at *
    generalize p * -b2 + q * a2 = q2 at *
    generalize r * d2 + s * -c2 = r2 at *
    generalize r * -b2 + s * a2 = s2 at *
    have Hc2 := Lib.hid hc2
    have He3 := Lib.hid hE3
    clear hc2 hE3
    go_enter Try.func36, Try.ntmps36
    go_wp2_with fail
    have A := (show Bx (((w.alloc (.cells #[.int .i64 a0, .int .i64 b0, .int .i64 c0, .int .i64 d0] 25)).alloc (.cells #[.int .i64 a1, .int .i64 b1, .int .i64 c1, .int .i64 d1] 25)).alloc (.cells #[.int .i64 a2, .int .i64 b2, .int .i64 c2, .int .i64 d2] 25)) (w.heap.size) a0 b0 c0 d0 by simp [Bx, go_sem])
    have B := (show Bx (((w.alloc (.cells #[.int .i64 a0, .int .i64 b0, .int .i64 c0, .int .i64 d0] 25)).alloc (.cells #[.int .i64 a1, .int .i64 b1, .int .i64 c1, .int .i64 d1] 25)).alloc (.cells #[.int .i64 a2, .int .i64 b2, .int .i64 c2, .int .i64 d2] 25)) (w.heap.size + 1) a1 b1 c1 d1 by simp [Bx, go_sem])
    have C := (show Bx (((w.alloc (.cells #[.int .i64 a0, .int .i64 b0, .int .i64 c0, .int .i64 d0] 25)).alloc (.cells #[.int .i64 a1, .int .i64 b1, .int .i64 c1, .int .i64 d1] 25)).alloc (.cells #[.int .i64 a2, .int .i64 b2, .int .i64 c2, .int .i64 d2] 25)) (w.heap.size + 2) a2 b2 c2 d2 by simp [Bx, go_sem])
    refine (Hc1.out _).mono ?_
    rintro e w1 ⟨rfl, hb1⟩
    obtain ⟨hc1, hf1, hz1⟩ := bcell hb1
    have hy1_2 : w.heap.size + 2 < w1.heap.size := by simp at hz1; omega
    have hy1_1 : w.heap.size + 1 < w1.heap.size := by omega
    have hy1_0 : w.heap.size < w1.heap.size := by omega
    have hd := (below3 w _ _ _).trans (hb1.mono (by simp; omega))
    replace A := A.kept hb1
    replace B := B.kept hb1
    replace C := C.kept hb1
    clear hb1
    go_wp2_with fail
    refine (HcK.out _).mono ?_
    rintro e w2 ⟨rfl, hb2⟩
    obtain ⟨hc2, hf2, hz2⟩ := bcell hb2
    have hy2_2 : w.heap.size + 2 < w2.heap.size := by omega
    have hy2_1 : w.heap.size + 1 < w2.heap.size := by omega
    have hy2_0 : w.heap.size < w2.heap.size := by omega
    replace hd := below_kept hd (Nat.le_refl _) hb2
    replace A := A.kept hb2
    replace B := B.kept hb2
    replace C := C.kept hb2
    clear hb2
    go_wp2_with fail
    refine (Hc3.out _).mono ?_
    rintro e w3 ⟨rfl, hb3⟩
    obtain ⟨hc3, hf3, hz3⟩ := bcell hb3
    have hy3_2 : w.heap.size + 2 < w3.heap.size := by omega
    have hy3_1 : w.heap.size + 1 < w3.heap.size := by omega
    have hy3_0 : w.heap.size < w3.heap.size := by omega
    replace hd := below_kept hd (Nat.le_refl _) hb3
    replace A := A.kept hb3
    replace B := B.kept hb3
    replace C := C.kept hb3
    clear hb3
    go_wp2_with fail
    refine (Ht.out _).mono ?_
    rintro e w4 ⟨rfl, hb4⟩
    obtain ⟨hc4, hf4, hz4⟩ := bcell hb4
    have hy4_2 : w.heap.size + 2 < w4.heap.size := by omega
    have hy4_1 : w.heap.size + 1 < w4.heap.size := by omega
    have hy4_0 : w.heap.size < w4.heap.size := by omega
    replace hd := below_kept hd (Nat.le_refl _) hb4
    replace A := A.kept hb4
    replace B := B.kept hb4
    replace C := C.kept hb4
    clear hb4
    go_wp2_with fail
    refine (Hm.out _).mono ?_
    rintro e w5 ⟨rfl, hb5⟩
    obtain ⟨hc5, hf5, hz5⟩ := bcell hb5
    have hy5_2 : w.heap.size + 2 < w5.heap.size := by omega
    have hy5_1 : w.heap.size + 1 < w5.heap.size := by omega
    have hy5_0 : w.heap.size < w5.heap.size := by omega
    replace hd := below_kept hd (Nat.le_refl _) hb5
    replace A := A.kept hb5
    replace B := B.kept hb5
    replace C := C.kept hb5
    clear hb5
    clear Hc1 HcK Hc3 Ht Hm
    have hAl : Below w5.heap.size w5 (w5.alloc (.cells #[.int .i64 p, .int .i64 q, .int .i64 r, .int .i64 s] 25)) := (Below.refl _ _).alloc (Nat.le_refl _) _
    obtain ⟨wa, hwa⟩ : ∃ wa, wa = w5.alloc (.cells #[.int .i64 p, .int .i64 q, .int .i64 r, .int .i64 s] 25) := ⟨_, rfl⟩
    obtain ⟨gf, hgf⟩ : ∃ gf, gf = w5.heap.size := ⟨_, rfl⟩
    obtain ⟨gg, hgg⟩ : ∃ gg, gg = w.heap.size + 1 + 1 := ⟨_, rfl⟩
    obtain ⟨gk, hgk⟩ : ∃ gk, gk = w.heap.size + 1 := ⟨_, rfl⟩
    have hF1 : Hid (Bx wa gf p q r s) := Lib.hid (by rw [hwa, hgf]; exact Bx.new w5 _ p q r s)
    have hG : Hid (Bx wa gg a2 b2 c2 d2) := Lib.hid (by rw [hwa, hgg]; exact C.kept hAl)
    have hK : Hid (Bx wa gk a1 b1 c1 d1) := Lib.hid (by rw [hwa, hgk]; exact B.kept hAl)
    have hD : Hid (Below w.heap.size w wa) := Lib.hid (by rw [hwa]; exact below_alloc1 hd (Nat.le_refl _) _)
    have yw : w.heap.size ≤ wa.heap.size := by rw [hwa]; simp; omega
    have yf : gf < wa.heap.size := by rw [hwa, hgf]; simp
    have yg : gg < wa.heap.size := by rw [hwa, hgg]; simp; omega
    have hS0 := Lib.hid (twoOf (w' := wa.drew) hF1.out hG.out (Below.refl _ _).drew)
    go_upto_region 6 with fail
    rw [← hwa, ← hgf, ← hgg, ← hgk]
    clear hwa hgf hgg hgk hAl A B C hd hc1 hf1 hz1 hy1_0 hy1_1 hy1_2 hc2 hf2 hz2 hy2_0 hy2_1 hy2_2 hc3 hf3 hz3 hy3_0 hy3_1 hy3_2 hc4 hf4 hz4 hy4_0 hy4_1 hy4_2 hc5 hf5 hz5 hy5_0 hy5_1 hy5_2
    obtain ⟨okm, hok⟩ : ∃ x, (M4.mk p2 q2 r2 s2).ok = x := ⟨_, rfl⟩
    obtain ⟨F, hF⟩ : ∃ x, (M4.mk p2 q2 r2 s2).fit = x := ⟨_, rfl⟩
    have Hm2 := Lib.hid (fun w => spec_mxIf_as ⟨p2, q2, r2, s2⟩ F okm hF hok w)
    have Hok := Lib.hid hok
    have HF := Lib.hid hF
    clear hok hF
    obtain ⟨x, y, z, u⟩ := F
    go_cut [9, 10] (fun s9 s10 wx => ∃ gr, wa.heap.size ≤ gr ∧ s10 = .pointer (some ⟨gr, 0, none⟩) ∧ s9 = .bool okm ∧ Bx wx gr x y z u ∧ Below wa.heap.size wa wx)
    case first =>
      go_region_held3 (fun w' => w'.cell? ⟨gf, 0, none⟩ = some (.int .i64 p) ∧ w'.cell? ⟨gf, 1, none⟩ = some (.int .i64 q) ∧ w'.cell? ⟨gf, 2, none⟩ = some (.int .i64 r) ∧ w'.cell? ⟨gf, 3, none⟩ = some (.int .i64 s) ∧
          w'.cell? ⟨gg, 0, none⟩ = some (.int .i64 a2) ∧ w'.cell? ⟨gg, 1, none⟩ = some (.int .i64 b2) ∧ w'.cell? ⟨gg, 2, none⟩ = some (.int .i64 c2) ∧ w'.cell? ⟨gg, 3, none⟩ = some (.int .i64 d2) ∧ Below wa.heap.size wa w')
        (first
          | with_reducible exact hS0.out
          | with_reducible exact twoOf hF1.out hG.out D1
          | with_reducible exact twoOf hF1.out hG.out (below_alloc1 D1 (Nat.le_refl _) _)
          | with_reducible exact twoOf hF1.out hG.out (below_alloc1 (Below.refl _ _) (Nat.le_refl _) _).drew
          | with_reducible exact twoOf hF1.out hG.out (below_set4 D1 (Nat.le_refl _))
          | with_reducible exact twoOf hF1.out hG.out (below_set4 D1 (by omega)))
        (first
          | (go_at_call 51; refine (Hi.out _).mono ?_; rintro e w1 ⟨rfl, hb1⟩; (have D1 := below_kept (twoBelow (by assumption)) (Nat.le_refl _) hb1); (have Z1 : wa.heap.size ≤ w1.heap.size := D1.size); (first | (have X1 := (Zb.newd _ 25).kept hb1; have X2 := X1; obtain ⟨⟨x0, x1, x2, x3⟩, ⟨f0, f1, f2, f3⟩⟩ := X2) | (have X1 := (Zb.new _ 25).kept hb1; have X2 := X1; obtain ⟨⟨x0, x1, x2, x3⟩, ⟨f0, f1, f2, f3⟩⟩ := X2) | (have X1 := Zb.kept (by assumption) hb1; have X2 := X1; obtain ⟨⟨x0, x1, x2, x3⟩, ⟨f0, f1, f2, f3⟩⟩ := X2) | skip))
          | (go_at_call 47; refine (Ht2.out _).mono ?_; rintro e w1 ⟨rfl, hb1⟩; (have D1 := below_kept (twoBelow (by assumption)) (Nat.le_refl _) hb1); (have Z1 : wa.heap.size ≤ w1.heap.size := D1.size); (first | (have X1 := (Zb.newd _ 25).kept hb1; have X2 := X1; obtain ⟨⟨x0, x1, x2, x3⟩, ⟨f0, f1, f2, f3⟩⟩ := X2) | (have X1 := (Zb.new _ 25).kept hb1; have X2 := X1; obtain ⟨⟨x0, x1, x2, x3⟩, ⟨f0, f1, f2, f3⟩⟩ := X2) | (have X1 := Zb.kept (by assumption) hb1; have X2 := X1; obtain ⟨⟨x0, x1, x2, x3⟩, ⟨f0, f1, f2, f3⟩⟩ := X2) | skip))
          | (go_at_call 46; refine (Hm2.out _).mono ?_; rintro e w1 ⟨rfl, hb1⟩; (have D1 := below_kept (twoBelow (by assumption)) (Nat.le_refl _) hb1); (have Z1 : wa.heap.size ≤ w1.heap.size := D1.size); (first | (have X1 := (Zb.newd _ 25).kept hb1; have X2 := X1; obtain ⟨⟨x0, x1, x2, x3⟩, ⟨f0, f1, f2, f3⟩⟩ := X2) | (have X1 := (Zb.new _ 25).kept hb1; have X2 := X1; obtain ⟨⟨x0, x1, x2, x3⟩, ⟨f0, f1, f2, f3⟩⟩ := X2) | (have X1 := Zb.kept (by assumption) hb1; have X2 := X1; obtain ⟨⟨x0, x1, x2, x3⟩, ⟨f0, f1, f2, f3⟩⟩ := X2) | skip)))
      all_goals go_wp2_with fail
      all_goals go_meet
      all_goals refine ⟨_, ?_, rfl, rfl, ?_, ?_⟩
      all_goals first
        | with_reducible exact D1.size
        | with_reducible exact Nat.le_refl _
        | with_reducible assumption
        | with_reducible exact Bx.new _ _ x y z u
        | with_reducible exact bx_set4 X1.bx x y z u
        | with_reducible exact below_alloc1 D1 (Nat.le_refl _) _
        | with_reducible exact below_set4 D1 (Nat.le_refl _)
        | with_reducible exact below_set4 D1 (by omega)
    case rest =>
      obtain ⟨gr, hgr, rfl, rfl, S, hd⟩ := hcut
      have hB := hK.out.kept hd
      have hD3 := Lib.hid (hD.out.trans (hd.mono yw))
      have yr := S.lt
      have yk := hB.lt
      have hokc : (conF ⟨a0, b0, c0, d0⟩ ⟨a2, b2, c2, d2⟩).ok = okm := by rw [Hc2.out, M4.within_ok, He3.out]; exact Hok.out
      have hfc : okm = true → conF ⟨a0, b0, c0, d0⟩ ⟨a2, b2, c2, d2⟩ = ⟨x, y, z, u⟩ := fun h => by rw [Hc2.out, M4.within_yes (by rw [He3.out, Hok.out]; exact h), He3.out, ← HF.out, M4.fit_yes (by rw [Hok.out]; exact h)]
      obtain ⟨i0, i1, i2, i3⟩ := S
      obtain ⟨r0, r1, r2, r3⟩ := hB
      clear hd hF1 hG hK hD hS0 yf yg hgr Hc2 He3 Hok HF Hm2 Ht2 Hi
      cases okm
      · have hE := Lib.hid (retCon_no (k := ⟨a1, b1, c1, d1⟩) hokc hD3.out)
        clear hokc hfc hD3
        go_wp2
        go_ret2
        exact hE.out
      · have hrun := run_mx_eq x y z u a1 b1 c1 d1
        obtain ⟨bq, hbq⟩ : ∃ bq, bq = M4.eqB ⟨x, y, z, u⟩ ⟨a1, b1, c1, d1⟩ := ⟨_, rfl⟩
        rw [← hbq] at hrun
        have hE := Lib.hid (retCon_yes (b := bq) (k := ⟨a1, b1, c1, d1⟩) hokc (by rw [hfc rfl]; exact hbq.symm) hD3.out)
        clear hokc hfc hD3 hbq
        go_wp2
        go_ret2
        exact hE.out
theorem Zb.new2 (w : World) (o : Obj) (t : TypeId) : Zb ((w.alloc o).alloc (.cells #[.int .i64 0, .int .i64 0, .int .i64 0, .int .i64 0] t)) (w.heap.size + 1) := by
  have h := Zb.new (w.alloc o) t
  simpa using h
/-- three squares in a slice that has just been made -/
theorem slq_three (w : World) (t : TypeId) (a0 b0 c0 d0 a1 b1 c1 d1 a2 b2 c2 d2 : Int) : SlQ (w.alloc (.cells #[.int .i64 a0, .int .i64 b0, .int .i64 c0, .int .i64 d0, .int .i64 a1, .int .i64 b1, .int .i64 c1, .int .i64 d1, .int .i64 a2, .int .i64 b2, .int .i64 c2, .int .i64 d2] t)) (w.heap.size + 1) (some ⟨w.heap.size, 0, none⟩) [⟨a0, b0, c0, d0⟩, ⟨a1, b1, c1, d1⟩, ⟨a2, b2, c2, d2⟩] := fun _ => ⟨_, _, rfl, by omega, fun j hj => by
  have h2 : j = 0 ∨ j = 1 ∨ j = 2 := by simp at hj; omega
  rcases h2 with rfl | rfl | rfl <;> simp [go_sem]⟩
theorem slq_three2 (w : World) (o : Obj) (t : TypeId) (a0 b0 c0 d0 a1 b1 c1 d1 a2 b2 c2 d2 : Int) : SlQ ((w.alloc o).alloc (.cells #[.int .i64 a0, .int .i64 b0, .int .i64 c0, .int .i64 d0, .int .i64 a1, .int .i64 b1, .int .i64 c1, .int .i64 d1, .int .i64 a2, .int .i64 b2, .int .i64 c2, .int .i64 d2] t)) (w.heap.size + 2) (some ⟨w.heap.size + 1, 0, none⟩) [⟨a0, b0, c0, d0⟩, ⟨a1, b1, c1, d1⟩, ⟨a2, b2, c2, d2⟩] := by
  have h := slq_three (w.alloc o) t a0 b0 c0 d0 a1 b1 c1 d1 a2 b2 c2 d2
  simpa using h
theorem impl_mulThree (a0 b0 c0 d0 a2 b2 c2 d2 : Int) (w : World) (A : Option Addr) (B : Nat) (h1 : mxB a0 b0 c0 d0 = true) (h3 : mxB a2 b2 c2 d2 = true)
    (hs : SlQ w B A [⟨a2, b2, c2, d2⟩, ⟨a0, b0, c0, d0⟩, ⟨d2, -b2, -c2, a2⟩]) (hB : B ≤ w.heap.size) :
    Calls Try.prog 49 #[.func (.func 60) #[] #[], .slice A 3 3] w (RetQ (conF ⟨a0, b0, c0, d0⟩ ⟨a2, b2, c2, d2⟩) w) := by
  have e1 : M4.one.within ⟨a2, b2, c2, d2⟩ = ⟨a2, b2, c2, d2⟩ := M4.one_within h3
  have hr := impl_mulAll_W A 3 3 B [⟨a2, b2, c2, d2⟩, ⟨a0, b0, c0, d0⟩, ⟨d2, -b2, -c2, a2⟩] _ rfl hs hB (by omega) (fun k hk => by
    have hk2 : k = 0 ∨ k = 1 ∨ k = 2 := by simp at hk; omega
    rcases hk2 with rfl | rfl | rfl
    · exact ⟨M4.one_in.mono (by omega), M4.ok_in (m := ⟨a2, b2, c2, d2⟩) h3⟩
    · exact ⟨M4.within_in _ _, M4.ok_in (m := ⟨a0, b0, c0, d0⟩) h1⟩
    · exact ⟨M4.within_in _ _, M4.In.inv (m := ⟨a2, b2, c2, d2⟩) (M4.ok_in (m := ⟨a2, b2, c2, d2⟩) h3)⟩)
  have e : prodF M4.within [⟨a2, b2, c2, d2⟩, ⟨a0, b0, c0, d0⟩, ⟨d2, -b2, -c2, a2⟩] = conF ⟨a0, b0, c0, d0⟩ ⟨a2, b2, c2, d2⟩ := by
    show ((M4.one.within ⟨a2, b2, c2, d2⟩).within _).within _ = _
    rw [e1]
    rfl
  rw [e] at hr
  exact hr
set_option maxHeartbeats 3200000 in
theorem impl_IsConjugateBy_yes (a0 b0 c0 d0 a1 b1 c1 d1 a2 b2 c2 d2 : Int) (w : World) (h1 : mxB a0 b0 c0 d0 = true) (h2 : mxB a1 b1 c1 d1 = true) (h3 : mxB a2 b2 c2 d2 = true) : Calls Try.prog 37 #[.agg #[.int .i64 a0, .int .i64 b0, .int .i64 c0, .int .i64 d0], .agg #[.int .i64 a1, .int .i64 b1, .int .i64 c1, .int .i64 d1], .agg #[.int .i64 a2, .int .i64 b2, .int .i64 c2, .int .i64 d2]] w (RetCon ⟨a0, b0, c0, d0⟩ ⟨a1, b1, c1, d1⟩ ⟨a2, b2, c2, d2⟩ w) := by
  have hc := impl_IsMatrix a0 b0 c0 d0
  rw [h1] at hc
  have Hm1 := Lib.hid hc
  clear hc
  have hc := impl_IsMatrix a1 b1 c1 d1
  rw [h2] at hc
  have Hm2 := Lib.hid hc
  clear hc
  have hc := impl_IsMatrix a2 b2 c2 d2
  rw [h3] at hc
  have Hm3 := Lib.hid hc
  clear hc
  have Ht1 := Lib.hid (fun w t => impl_mulThree a0 b0 c0 d0 a2 b2 c2 d2 _ _ _ h1 h3 (slq_three w t a2 b2 c2 d2 a0 b0 c0 d0 d2 (-b2) (-c2) a2) (by simp))
  have Ht2 := Lib.hid (fun w o t => impl_mulThree a0 b0 c0 d0 a2 b2 c2 d2 _ _ _ h1 h3 (slq_three2 w o t a2 b2 c2 d2 a0 b0 c0 d0 d2 (-b2) (-c2) a2) (by simp))
  have Ht3 := Lib.hid (fun w t o => impl_mulThree a0 b0 c0 d0 a2 b2 c2 d2 _ _ _ h1 h3 ((slq_three w t a2 b2 c2 d2 a0 b0 c0 d0 d2 (-b2) (-c2) a2).below ((Below.refl _ _).alloc (by simp) o)) (by simp))
  obtain ⟨⟨-, gb2, gc2, -⟩, -⟩ := mxB_iff.1 h3
  have Hi := Lib.hid (fun w => impl_inverse a2 b2 c2 d2 w gb2 gc2)
  clear gb2 gc2 h1 h2 h3
  have HE0 := Lib.hid (fun w' h hb => retCon_no (m := ⟨a0, b0, c0, d0⟩) (k := ⟨a1, b1, c1, d1⟩) (g := ⟨a2, b2, c2, d2⟩) (w := w) (w' := w') h hb)
  have HE1 := Lib.hid (fun w' b h e hb => retCon_yes (m := ⟨a0, b0, c0, d0⟩) (k := ⟨a1, b1, c1, d1⟩) (g := ⟨a2, b2, c2, d2⟩) (b := b) (w := w) (w' := w') h e hb)
  generalize conF ⟨a0, b0, c0, d0⟩ ⟨a2, b2, c2, d2⟩ = R at Ht1 Ht2 Ht3 HE0 HE1
  obtain ⟨x, y, z, u⟩ := R
  go_enter Try.func37, Try.ntmps37
  go_wp2_with fail
  have A := (show Bx (((w.alloc (.cells #[.int .i64 a0, .int .i64 b0, .int .i64 c0, .int .i64 d0] 25)).alloc (.cells #[.int .i64 a1, .int .i64 b1, .int .i64 c1, .int .i64 d1] 25)).alloc (.cells #[.int .i64 a2, .int .i64 b2, .int .i64 c2, .int .i64 d2] 25)) (w.heap.size) a0 b0 c0 d0 by simp [Bx, go_sem])
  have B := (show Bx (((w.alloc (.cells #[.int .i64 a0, .int .i64 b0, .int .i64 c0, .int .i64 d0] 25)).alloc (.cells #[.int .i64 a1, .int .i64 b1, .int .i64 c1, .int .i64 d1] 25)).alloc (.cells #[.int .i64 a2, .int .i64 b2, .int .i64 c2, .int .i64 d2] 25)) (w.heap.size + 1) a1 b1 c1 d1 by simp [Bx, go_sem])
  have C := (show Bx (((w.alloc (.cells #[.int .i64 a0, .int .i64 b0, .int .i64 c0, .int .i64 d0] 25)).alloc (.cells #[.int .i64 a1, .int .i64 b1, .int .i64 c1, .int .i64 d1] 25)).alloc (.cells #[.int .i64 a2, .int .i64 b2, .int .i64 c2, .int .i64 d2] 25)) (w.heap.size + 2) a2 b2 c2 d2 by simp [Bx, go_sem])
  refine (Hm1.out _).mono ?_
  rintro e w1 ⟨rfl, hb1⟩
  obtain ⟨hc1, hf1, hz1⟩ := bcell hb1
  have hy1_2 : w.heap.size + 2 < w1.heap.size := by simp at hz1; omega
  have hy1_1 : w.heap.size + 1 < w1.heap.size := by omega
  have hy1_0 : w.heap.size < w1.heap.size := by omega
  have hd := (below3 w _ _ _).trans (hb1.mono (by simp; omega))
  replace A := A.kept hb1
  replace B := B.kept hb1
  replace C := C.kept hb1
  clear hb1
  go_wp2_with fail
  refine (Hm2.out _).mono ?_
  rintro e w2 ⟨rfl, hb2⟩
  obtain ⟨hc2, hf2, hz2⟩ := bcell hb2
  have hy2_2 : w.heap.size + 2 < w2.heap.size := by omega
  have hy2_1 : w.heap.size + 1 < w2.heap.size := by omega
  have hy2_0 : w.heap.size < w2.heap.size := by omega
  replace hd := below_kept hd (Nat.le_refl _) hb2
  replace A := A.kept hb2
  replace B := B.kept hb2
  replace C := C.kept hb2
  clear hb2
  go_wp2_with fail
  refine (Hm3.out _).mono ?_
  rintro e w3 ⟨rfl, hb3⟩
  obtain ⟨hc3, hf3, hz3⟩ := bcell hb3
  have hy3_2 : w.heap.size + 2 < w3.heap.size := by omega
  have hy3_1 : w.heap.size + 1 < w3.heap.size := by omega
  have hy3_0 : w.heap.size < w3.heap.size := by omega
  replace hd := below_kept hd (Nat.le_refl _) hb3
  replace A := A.kept hb3
  replace B := B.kept hb3
  replace C := C.kept hb3
  clear hb3
  go_wp2_with fail
  refine (impl_squareOf a2 b2 c2 d2 _).mono ?_
  rintro e w4 ⟨rfl, hb4⟩
  obtain ⟨hc4, hf4, hz4⟩ := bcell hb4
  have hy4_2 : w.heap.size + 2 < w4.heap.size := by omega
  have hy4_1 : w.heap.size + 1 < w4.heap.size := by omega
  have hy4_0 : w.heap.size < w4.heap.size := by omega
  replace hd := below_kept hd (Nat.le_refl _) hb4
  replace A := A.kept hb4
  replace B := B.kept hb4
  replace C := C.kept hb4
  clear hb4
  clear Hm1 Hm2 Hm3
  have hAl : Below w4.heap.size w4 (w4.alloc (.cells #[.int .i64 a2, .int .i64 b2, .int .i64 c2, .int .i64 d2] 54)) := (Below.refl _ _).alloc (Nat.le_refl _) _
  obtain ⟨wa, hwa⟩ : ∃ wa, wa = w4.alloc (.cells #[.int .i64 a2, .int .i64 b2, .int .i64 c2, .int .i64 d2] 54) := ⟨_, rfl⟩
  obtain ⟨gf, hgf⟩ : ∃ gf, gf = w4.heap.size := ⟨_, rfl⟩
  obtain ⟨gm, hgm⟩ : ∃ gm, gm = w.heap.size := ⟨_, rfl⟩
  obtain ⟨gk, hgk⟩ : ∃ gk, gk = w.heap.size + 1 := ⟨_, rfl⟩
  have hF1 : Hid (Bx wa gf a2 b2 c2 d2) := Lib.hid (by rw [hwa, hgf]; exact Bx.new w4 _ a2 b2 c2 d2)
  have hG : Hid (Bx wa gm a0 b0 c0 d0) := Lib.hid (by rw [hwa, hgm]; exact A.kept hAl)
  have hK : Hid (Bx wa gk a1 b1 c1 d1) := Lib.hid (by rw [hwa, hgk]; exact B.kept hAl)
  have hD : Hid (Below w.heap.size w wa) := Lib.hid (by rw [hwa]; exact below_alloc1 hd (Nat.le_refl _) _)
  have yw : w.heap.size ≤ wa.heap.size := by rw [hwa]; simp; omega
  have yf : gf < wa.heap.size := by rw [hwa, hgf]; simp
  have yg : gm < wa.heap.size := by rw [hwa, hgm]; simp; omega
  have hS0 := Lib.hid (twoOf (w' := wa.drew) hF1.out hG.out (Below.refl _ _).drew)
  have hgm2 := Lib.hid hgm
  go_upto_region 4 with fail
  rw [← hwa, ← hgf, ← hgk, ← hgm]
  clear hwa hgf hgm hgk hAl A B C hd hc1 hf1 hz1 hy1_0 hy1_1 hy1_2 hc2 hf2 hz2 hy2_0 hy2_1 hy2_2 hc3 hf3 hz3 hy3_0 hy3_1 hy3_2 hc4 hf4 hz4 hy4_0 hy4_1 hy4_2
  go_cut [9] (fun s9 wx => ∃ gr, wa.heap.size ≤ gr ∧ s9 = .pointer (some ⟨gr, 0, none⟩) ∧ Bx wx gr x y z u ∧ Below wa.heap.size wa wx)
  case first =>
    go_region_held3 (fun w' => w'.cell? ⟨gf, 0, none⟩ = some (.int .i64 a2) ∧ w'.cell? ⟨gf, 1, none⟩ = some (.int .i64 b2) ∧ w'.cell? ⟨gf, 2, none⟩ = some (.int .i64 c2) ∧ w'.cell? ⟨gf, 3, none⟩ = some (.int .i64 d2) ∧
        w'.cell? ⟨gm, 0, none⟩ = some (.int .i64 a0) ∧ w'.cell? ⟨gm, 1, none⟩ = some (.int .i64 b0) ∧ w'.cell? ⟨gm, 2, none⟩ = some (.int .i64 c0) ∧ w'.cell? ⟨gm, 3, none⟩ = some (.int .i64 d0) ∧ Below wa.heap.size wa w')
      (first
        | with_reducible exact hS0.out
        | with_reducible exact twoOf hF1.out hG.out D1
        | with_reducible exact twoOf hF1.out hG.out (below_alloc1 D1 (Nat.le_refl _) _)
        | with_reducible exact twoOf hF1.out hG.out (below_alloc1 (below_alloc1 D1 (Nat.le_refl _) _) (Nat.le_refl _) _)
        | with_reducible exact twoOf hF1.out hG.out (below_alloc1 (Below.refl _ _) (Nat.le_refl _) _).drew
        | with_reducible exact twoOf hF1.out hG.out (below_set4 D1 (Nat.le_refl _))
        | with_reducible exact twoOf hF1.out hG.out (below_set4 D1 (by omega)))
      (first
        | (go_at_call 45; refine (impl_squareOf _ _ _ _ _).mono ?_; rintro e w1 ⟨rfl, hb1⟩; (have D1 := below_kept (twoBelow (by assumption)) (Nat.le_refl _) hb1); (have Z1 : wa.heap.size ≤ w1.heap.size := D1.size); (first | ((with_reducible have X1 := (Zb.new2 _ _ 54).kept hb1); have X2 := X1; obtain ⟨⟨x0, x1, x2, x3⟩, ⟨f0, f1, f2, f3⟩⟩ := X2) | ((with_reducible have X1 := (Zb.newd _ 54).kept hb1); have X2 := X1; obtain ⟨⟨x0, x1, x2, x3⟩, ⟨f0, f1, f2, f3⟩⟩ := X2) | ((with_reducible have X1 := (Zb.new _ 54).kept hb1); have X2 := X1; obtain ⟨⟨x0, x1, x2, x3⟩, ⟨f0, f1, f2, f3⟩⟩ := X2) | ((with_reducible have X1 := Zb.kept (by assumption) hb1); have X2 := X1; obtain ⟨⟨x0, x1, x2, x3⟩, ⟨f0, f1, f2, f3⟩⟩ := X2) | ((with_reducible have X1 := Zb.kept (Zb.kept (by assumption) ((Below.refl _ _).alloc (Nat.le_refl _) _)) hb1); have X2 := X1; obtain ⟨⟨x0, x1, x2, x3⟩, ⟨f0, f1, f2, f3⟩⟩ := X2) | ((with_reducible have X1 := Zb.kept (Zb.kept (Zb.new _ 54) ((Below.refl _ _).alloc (Nat.le_refl _) _)) hb1); have X2 := X1; obtain ⟨⟨x0, x1, x2, x3⟩, ⟨f0, f1, f2, f3⟩⟩ := X2) | skip))
        | (go_at_call 52; refine (Hi.out _).mono ?_; rintro e w1 ⟨rfl, hb1⟩; (have D1 := below_kept (twoBelow (by assumption)) (Nat.le_refl _) hb1); (have Z1 : wa.heap.size ≤ w1.heap.size := D1.size); (first | ((with_reducible have X1 := (Zb.new2 _ _ 54).kept hb1); have X2 := X1; obtain ⟨⟨x0, x1, x2, x3⟩, ⟨f0, f1, f2, f3⟩⟩ := X2) | ((with_reducible have X1 := (Zb.newd _ 54).kept hb1); have X2 := X1; obtain ⟨⟨x0, x1, x2, x3⟩, ⟨f0, f1, f2, f3⟩⟩ := X2) | ((with_reducible have X1 := (Zb.new _ 54).kept hb1); have X2 := X1; obtain ⟨⟨x0, x1, x2, x3⟩, ⟨f0, f1, f2, f3⟩⟩ := X2) | ((with_reducible have X1 := Zb.kept (by assumption) hb1); have X2 := X1; obtain ⟨⟨x0, x1, x2, x3⟩, ⟨f0, f1, f2, f3⟩⟩ := X2) | ((with_reducible have X1 := Zb.kept (Zb.kept (by assumption) ((Below.refl _ _).alloc (Nat.le_refl _) _)) hb1); have X2 := X1; obtain ⟨⟨x0, x1, x2, x3⟩, ⟨f0, f1, f2, f3⟩⟩ := X2) | ((with_reducible have X1 := Zb.kept (Zb.kept (Zb.new _ 54) ((Below.refl _ _).alloc (Nat.le_refl _) _)) hb1); have X2 := X1; obtain ⟨⟨x0, x1, x2, x3⟩, ⟨f0, f1, f2, f3⟩⟩ := X2) | skip))
        | (go_at_call 49; (with_reducible refine (Ht1.out _ _).mono ?_); rintro e w1 ⟨rfl, hb1⟩; (have D1 := below_kept (twoBelow (by assumption)) (Nat.le_refl _) hb1); (have Z1 : wa.heap.size ≤ w1.heap.size := D1.size); (first | ((with_reducible have X1 := (Zb.new2 _ _ 54).kept hb1); have X2 := X1; obtain ⟨⟨x0, x1, x2, x3⟩, ⟨f0, f1, f2, f3⟩⟩ := X2) | ((with_reducible have X1 := (Zb.newd _ 54).kept hb1); have X2 := X1; obtain ⟨⟨x0, x1, x2, x3⟩, ⟨f0, f1, f2, f3⟩⟩ := X2) | ((with_reducible have X1 := (Zb.new _ 54).kept hb1); have X2 := X1; obtain ⟨⟨x0, x1, x2, x3⟩, ⟨f0, f1, f2, f3⟩⟩ := X2) | ((with_reducible have X1 := Zb.kept (by assumption) hb1); have X2 := X1; obtain ⟨⟨x0, x1, x2, x3⟩, ⟨f0, f1, f2, f3⟩⟩ := X2) | ((with_reducible have X1 := Zb.kept (Zb.kept (by assumption) ((Below.refl _ _).alloc (Nat.le_refl _) _)) hb1); have X2 := X1; obtain ⟨⟨x0, x1, x2, x3⟩, ⟨f0, f1, f2, f3⟩⟩ := X2) | ((with_reducible have X1 := Zb.kept (Zb.kept (Zb.new _ 54) ((Below.refl _ _).alloc (Nat.le_refl _) _)) hb1); have X2 := X1; obtain ⟨⟨x0, x1, x2, x3⟩, ⟨f0, f1, f2, f3⟩⟩ := X2) | skip))
        | (go_at_call 49; (with_reducible refine (Ht2.out _ _ _).mono ?_); rintro e w1 ⟨rfl, hb1⟩; (have D1 := below_kept (twoBelow (by assumption)) (Nat.le_refl _) hb1); (have Z1 : wa.heap.size ≤ w1.heap.size := D1.size); (first | ((with_reducible have X1 := (Zb.new2 _ _ 54).kept hb1); have X2 := X1; obtain ⟨⟨x0, x1, x2, x3⟩, ⟨f0, f1, f2, f3⟩⟩ := X2) | ((with_reducible have X1 := (Zb.newd _ 54).kept hb1); have X2 := X1; obtain ⟨⟨x0, x1, x2, x3⟩, ⟨f0, f1, f2, f3⟩⟩ := X2) | ((with_reducible have X1 := (Zb.new _ 54).kept hb1); have X2 := X1; obtain ⟨⟨x0, x1, x2, x3⟩, ⟨f0, f1, f2, f3⟩⟩ := X2) | ((with_reducible have X1 := Zb.kept (by assumption) hb1); have X2 := X1; obtain ⟨⟨x0, x1, x2, x3⟩, ⟨f0, f1, f2, f3⟩⟩ := X2) | ((with_reducible have X1 := Zb.kept (Zb.kept (by assumption) ((Below.refl _ _).alloc (Nat.le_refl _) _)) hb1); have X2 := X1; obtain ⟨⟨x0, x1, x2, x3⟩, ⟨f0, f1, f2, f3⟩⟩ := X2) | ((with_reducible have X1 := Zb.kept (Zb.kept (Zb.new _ 54) ((Below.refl _ _).alloc (Nat.le_refl _) _)) hb1); have X2 := X1; obtain ⟨⟨x0, x1, x2, x3⟩, ⟨f0, f1, f2, f3⟩⟩ := X2) | skip))
        | (go_at_call 49; (with_reducible refine (Ht3.out _ _ _).mono ?_); rintro e w1 ⟨rfl, hb1⟩; (have D1 := below_kept (twoBelow (by assumption)) (Nat.le_refl _) hb1); (have Z1 : wa.heap.size ≤ w1.heap.size := D1.size); (first | ((with_reducible have X1 := (Zb.new2 _ _ 54).kept hb1); have X2 := X1; obtain ⟨⟨x0, x1, x2, x3⟩, ⟨f0, f1, f2, f3⟩⟩ := X2) | ((with_reducible have X1 := (Zb.newd _ 54).kept hb1); have X2 := X1; obtain ⟨⟨x0, x1, x2, x3⟩, ⟨f0, f1, f2, f3⟩⟩ := X2) | ((with_reducible have X1 := (Zb.new _ 54).kept hb1); have X2 := X1; obtain ⟨⟨x0, x1, x2, x3⟩, ⟨f0, f1, f2, f3⟩⟩ := X2) | ((with_reducible have X1 := Zb.kept (by assumption) hb1); have X2 := X1; obtain ⟨⟨x0, x1, x2, x3⟩, ⟨f0, f1, f2, f3⟩⟩ := X2) | ((with_reducible have X1 := Zb.kept (Zb.kept (by assumption) ((Below.refl _ _).alloc (Nat.le_refl _) _)) hb1); have X2 := X1; obtain ⟨⟨x0, x1, x2, x3⟩, ⟨f0, f1, f2, f3⟩⟩ := X2) | ((with_reducible have X1 := Zb.kept (Zb.kept (Zb.new _ 54) ((Below.refl _ _).alloc (Nat.le_refl _) _)) hb1); have X2 := X1; obtain ⟨⟨x0, x1, x2, x3⟩, ⟨f0, f1, f2, f3⟩⟩ := X2) | skip)))
    all_goals go_wp2_with fail
    all_goals go_meet
    all_goals refine ⟨_, ?_, rfl, ?_, ?_⟩
    all_goals first
      | with_reducible exact D1.size
      | with_reducible exact Nat.le_refl _
      | with_reducible assumption
      | with_reducible exact Bx.new _ _ x y z u
      | with_reducible exact bx_set4 X1.bx x y z u
      | with_reducible exact below_alloc1 D1 (Nat.le_refl _) _
      | with_reducible exact below_set4 D1 (Nat.le_refl _)
      | with_reducible exact below_set4 D1 (by omega)
      | omega
  case rest =>
    obtain ⟨gr, hgr, rfl, S, hd⟩ := hcut
    obtain ⟨wb, hwb⟩ : ∃ wb, wb = wc := ⟨_, rfl⟩
    subst hwb
    have K1 := hK.out.kept hd
    have hD3 := hD.out.trans (hd.mono yw)
    have S1 := S
    obtain ⟨i0, i1, i2, i3⟩ := S1
    have yi := S.lt
    have Hz := Lib.hid hD3
    have HS := Lib.hid S
    have HK := Lib.hid K1
    clear hd hF1 hG hK hD hS0 yf yg hgr hD3 S K1 Ht1 Ht2 Ht3 Hi yw
    cases hok : mxB x y z u
    · have Hm := Lib.hid (fun w => impl_matrixOf_no x y z u w hok)
      go_wp2_with fail
      refine (Hm.out _).mono ?_
      rintro e w2 ⟨rfl, hb2⟩
      have S2 := HS.out.kept hb2
      have K2 := HK.out.kept hb2
      have D2 := below_kept Hz.out (Nat.le_refl _) hb2
      obtain ⟨wq, hwq⟩ : ∃ wq, wq = w2.alloc (.cells #[.int .i64 0, .int .i64 0, .int .i64 0, .int .i64 0] 25) := ⟨_, rfl⟩
      have S3 : Bx wq gr x y z u := by rw [hwq]; exact S2.alloc _
      have K3 : Bx wq gk a1 b1 c1 d1 := by rw [hwq]; exact K2.alloc _
      have D3 : Below w.heap.size w wq := by rw [hwq]; exact below_alloc1 D2 (Nat.le_refl _) _
      clear hb2 S2 K2 D2 Hm i0 i1 i2 i3 yi HS HK Hz
      have hE := Lib.hid (fun n => HE0.out (wq.drewN n) hok (below_drewN D3 n))
      go_upto_region 6 with fail
      rw [← hwq]
      clear hwq S3 K3 D3 HE0 HE1 hok hgm2
      go_quiet (fail)
      go_wp2
      go_ret2
      exact hE.out _
    · have Hm := Lib.hid (fun w => impl_matrixOf_yes x y z u w hok)
      go_wp2_with fail
      refine (Hm.out _).mono ?_
      rintro e w2 ⟨rfl, hb2⟩
      have S2 := HS.out.kept hb2
      have K2 := HK.out.kept hb2
      have D2 := below_kept Hz.out (Nat.le_refl _) hb2
      obtain ⟨wq, hwq⟩ : ∃ wq, wq = w2.alloc (.cells #[.int .i64 x, .int .i64 y, .int .i64 z, .int .i64 u] 25) := ⟨_, rfl⟩
      have S3 : Bx wq gr x y z u := by rw [hwq]; exact S2.alloc _
      have K3 : Bx wq gk a1 b1 c1 d1 := by rw [hwq]; exact K2.alloc _
      have D3 : Below w.heap.size w wq := by rw [hwq]; exact below_alloc1 D2 (Nat.le_refl _) _
      clear hb2 S2 K2 D2 Hm i0 i1 i2 i3 yi HS HK Hz
      have hrun := run_sq_eq x y z u a1 b1 c1 d1
      obtain ⟨bq, hbq⟩ : ∃ bq, bq = M4.eqB ⟨x, y, z, u⟩ ⟨a1, b1, c1, d1⟩ := ⟨_, rfl⟩
      rw [← hbq] at hrun
      have HE := Lib.hid (fun w' hb => HE1.out w' bq hok hbq.symm hb)
      have H3 := Lib.hid (show wq.drew.cell? ⟨gr, 0, none⟩ = some (.int .i64 x) ∧ wq.drew.cell? ⟨gr, 1, none⟩ = some (.int .i64 y) ∧ wq.drew.cell? ⟨gr, 2, none⟩ = some (.int .i64 z) ∧ wq.drew.cell? ⟨gr, 3, none⟩ = some (.int .i64 u) ∧ wq.drew.cell? ⟨gk, 0, none⟩ = some (.int .i64 a1) ∧ wq.drew.cell? ⟨gk, 1, none⟩ = some (.int .i64 b1) ∧ wq.drew.cell? ⟨gk, 2, none⟩ = some (.int .i64 c1) ∧ wq.drew.cell? ⟨gk, 3, none⟩ = some (.int .i64 d1) ∧ Below w.heap.size w wq.drew from ⟨S3.1, S3.2.1, S3.2.2.1, S3.2.2.2, K3.1, K3.2.1, K3.2.2.1, K3.2.2.2, D3.drew⟩)
      go_upto_region 6 with fail
      rw [← hwq]
      clear hwq S3 K3 D3 HE0 HE1 hok hgm2 hbq
      go_region_held3 (fun w' => w'.cell? ⟨gr, 0, none⟩ = some (.int .i64 x) ∧ w'.cell? ⟨gr, 1, none⟩ = some (.int .i64 y) ∧ w'.cell? ⟨gr, 2, none⟩ = some (.int .i64 z) ∧ w'.cell? ⟨gr, 3, none⟩ = some (.int .i64 u) ∧ w'.cell? ⟨gk, 0, none⟩ = some (.int .i64 a1) ∧ w'.cell? ⟨gk, 1, none⟩ = some (.int .i64 b1) ∧ w'.cell? ⟨gk, 2, none⟩ = some (.int .i64 c1) ∧ w'.cell? ⟨gk, 3, none⟩ = some (.int .i64 d1) ∧ Below w.heap.size w w')
        (first | with_reducible exact H3.out | with_reducible exact keptB8 (by assumption) hb1 (Nat.le_refl _))
        (first | (go_at_call 45; refine (impl_squareOf _ _ _ _ _).mono ?_; rintro e w1 ⟨rfl, hb1⟩))
      rename_i hS
      have hE := Lib.hid (HE.out _ hS.2.2.2.2.2.2.2.2)
      clear hS hb1 HE H3 hrun
      go_wp2
      go_ret2
      exact hE.out
theorem WIsConjugateBy.walk (w : World) (a0 b0 c0 d0 a1 b1 c1 d1 a2 b2 c2 d2 : Int) : Calls Try.prog 12 #[.agg #[.int .i64 a0, .int .i64 b0, .int .i64 c0, .int .i64 d0], .agg #[.int .i64 a1, .int .i64 b1, .int .i64 c1, .int .i64 d1], .agg #[.int .i64 a2, .int .i64 b2, .int .i64 c2, .int .i64 d2]] w fun e w' => e = .returned (.bool true) ∧ Below w.heap.size w w' := by
  cases h1 : mxB a0 b0 c0 d0
  · exact WIsConjugateBy.core w a0 b0 c0 d0 a1 b1 c1 d1 a2 b2 c2 d2 false false (Lib.hid fun w => spec_IsConjugateBy_no1 a0 b0 c0 d0 a1 b1 c1 d1 a2 b2 c2 d2 w h1) (Lib.hid fun w => impl_IsConjugateBy_no1 a0 b0 c0 d0 a1 b1 c1 d1 a2 b2 c2 d2 w h1)
  · cases h2 : mxB a1 b1 c1 d1
    · exact WIsConjugateBy.core w a0 b0 c0 d0 a1 b1 c1 d1 a2 b2 c2 d2 false false (Lib.hid fun w => spec_IsConjugateBy_no2 a0 b0 c0 d0 a1 b1 c1 d1 a2 b2 c2 d2 w h1 h2) (Lib.hid fun w => impl_IsConjugateBy_no2 a0 b0 c0 d0 a1 b1 c1 d1 a2 b2 c2 d2 w h1 h2)
    · cases h3 : mxB a2 b2 c2 d2
      · exact WIsConjugateBy.core w a0 b0 c0 d0 a1 b1 c1 d1 a2 b2 c2 d2 false false (Lib.hid fun w => spec_IsConjugateBy_no3 a0 b0 c0 d0 a1 b1 c1 d1 a2 b2 c2 d2 w h1 h2 h3) (Lib.hid fun w => impl_IsConjugateBy_no3 a0 b0 c0 d0 a1 b1 c1 d1 a2 b2 c2 d2 w h1 h2 h3)
      · exact WIsConjugateBy.core w a0 b0 c0 d0 a1 b1 c1 d1 a2 b2 c2 d2 _ _ (Lib.hid fun w => spec_IsConjugateBy_yes a0 b0 c0 d0 a1 b1 c1 d1 a2 b2 c2 d2 w h1 h2 h3) (Lib.hid fun w => impl_IsConjugateBy_yes a0 b0 c0 d0 a1 b1 c1 d1 a2 b2 c2 d2 w h1 h2 h3)
end Go.Proofs.Ytfffnkbjhbaceaa
