/- IsMatrix, InverseMatrix, NegateMatrix, TraceOf, FixedSign: the model's and the program's contracts, and the laws' walks. -/
import Derived.Test.YtfffnkbjhbaceaaMatL
import Derived.Test.YtfffnkbjhbaceaaIsMatrixC
import Derived.Test.YtfffnkbjhbaceaaInverseMatrixC
import Derived.Test.YtfffnkbjhbaceaaNegateMatrixC
import Derived.Test.YtfffnkbjhbaceaaTraceOfC
import Derived.Test.YtfffnkbjhbaceaaFixedSignC
namespace Go.Proofs.Ytfffnkbjhbaceaa
set_option linter.unusedVariables false
open Go.RowKit

theorem spec_IsMatrix (a b c d : Int) (w : World) : Calls Try.prog 15 #[.agg #[.int .i64 a, .int .i64 b, .int .i64 c, .int .i64 d]] w fun e w' => e = .returned (.bool (mxB a b c d)) ∧ Below w.heap.size w w' := by
  go_enter Try.func15, Try.ntmps15
  go_wp2_with fail
  refine (spec_mxGood a b c d _).mono ?_
  rintro e w1 ⟨rfl, hb1⟩
  have hd := ((Below.refl w.heap.size w).alloc (Nat.le_refl _) _).trans (hb1.mono (by simp))
  clear hb1
  go_wp2
  go_ret
  exact ⟨rfl, hd⟩
theorem spec_NegateMatrix_no (a b c d : Int) (w : World) (h : mxB a b c d = false) :
    Calls Try.prog 23 #[.agg #[.int .i64 a, .int .i64 b, .int .i64 c, .int .i64 d]] w fun r w' => r = .returned (.tuple #[.agg #[.int .i64 0, .int .i64 0, .int .i64 0, .int .i64 0], .bool false]) ∧ Below w.heap.size w w' := by
  have hc := spec_mxGood a b c d
  rw [h] at hc
  have Hc := Lib.hid hc
  clear hc h
  go_enter Try.func23, Try.ntmps23
  go_wp2_with fail
  refine (Hc.out _).mono ?_
  rintro e w1 ⟨rfl, hb1⟩
  obtain ⟨hc1, hf1, hz1⟩ := bcell hb1
  have hy1 : w.heap.size + 1 < w1.heap.size := by simp at hz1; omega
  have hy0 : w.heap.size < w1.heap.size := by omega
  have hd := (below2 w _ _).trans (hb1.mono (by simp; omega))
  clear hb1 Hc
  go_wp2
  exact bodyPost_ret (v := .tuple #[.agg #[.int .i64 0, .int .i64 0, .int .i64 0, .int .i64 0], .bool false]) (by simp [results, Try.results23, go_sem, hc1, hf1, hy0, hy1]) rfl ⟨rfl, below_set4 hd (by omega)⟩
theorem spec_NegateMatrix_yes (a b c d : Int) (w : World) (h : mxB a b c d = true) :
    Calls Try.prog 23 #[.agg #[.int .i64 a, .int .i64 b, .int .i64 c, .int .i64 d]] w fun r w' => r = .returned (.tuple #[.agg #[.int .i64 (-a), .int .i64 (-b), .int .i64 (-c), .int .i64 (-d)], .bool true]) ∧ Below w.heap.size w w' := by
  have hc := spec_mxGood a b c d
  rw [h] at hc
  have Hc := Lib.hid hc
  obtain ⟨⟨⟨a1, a2⟩, ⟨b1, b2⟩, ⟨c1, c2⟩, ⟨d1, d2⟩⟩, -⟩ := mxB_iff.1 h
  clear hc h
  go_enter Try.func23, Try.ntmps23
  go_wp2_with fail
  refine (Hc.out _).mono ?_
  rintro e w1 ⟨rfl, hb1⟩
  obtain ⟨hc1, hf1, hz1⟩ := bcell hb1
  have hy1 : w.heap.size + 1 < w1.heap.size := by simp at hz1; omega
  have hy0 : w.heap.size < w1.heap.size := by omega
  have hd := (below2 w _ _).trans (hb1.mono (by simp; omega))
  clear hb1 Hc
  go_wp2
  exact bodyPost_ret (v := .tuple #[.agg #[.int .i64 (-a), .int .i64 (-b), .int .i64 (-c), .int .i64 (-d)], .bool true]) (by simp [results, Try.results23, go_sem, hc1, hf1, hy0, hy1]) rfl ⟨rfl, below_set4 hd (by omega)⟩
theorem spec_TraceOf_no (a b c d : Int) (w : World) (h : mxB a b c d = false) :
    Calls Try.prog 25 #[.agg #[.int .i64 a, .int .i64 b, .int .i64 c, .int .i64 d]] w fun r w' => r = .returned (.tuple #[.int .i64 0, .bool false]) ∧ Below w.heap.size w w' := by
  have hc := spec_mxGood a b c d
  rw [h] at hc
  have Hc := Lib.hid hc
  clear hc h
  go_enter Try.func25, Try.ntmps25
  go_wp2_with fail
  refine (Hc.out _).mono ?_
  rintro e w1 ⟨rfl, hb1⟩
  obtain ⟨hc1, hf1, hz1⟩ := bcell hb1
  have hy0 : w.heap.size < w1.heap.size := by simp at hz1; omega
  have hd := ((Below.refl w.heap.size w).alloc (Nat.le_refl _) _).trans (hb1.mono (by simp))
  clear hb1 Hc
  go_wp2
  go_ret2
  exact ⟨rfl, hd⟩
theorem spec_TraceOf_yes (a b c d : Int) (w : World) (h : mxB a b c d = true) :
    Calls Try.prog 25 #[.agg #[.int .i64 a, .int .i64 b, .int .i64 c, .int .i64 d]] w fun r w' => r = .returned (.tuple #[.int .i64 (a + d), .bool true]) ∧ Below w.heap.size w w' := by
  have hc := spec_mxGood a b c d
  rw [h] at hc
  have Hc := Lib.hid hc
  obtain ⟨⟨⟨a1, a2⟩, ⟨b1, b2⟩, ⟨c1, c2⟩, ⟨d1, d2⟩⟩, -⟩ := mxB_iff.1 h
  clear hc h
  go_enter Try.func25, Try.ntmps25
  go_wp2_with fail
  refine (Hc.out _).mono ?_
  rintro e w1 ⟨rfl, hb1⟩
  obtain ⟨hc1, hf1, hz1⟩ := bcell hb1
  have hy0 : w.heap.size < w1.heap.size := by simp at hz1; omega
  have hd := ((Below.refl w.heap.size w).alloc (Nat.le_refl _) _).trans (hb1.mono (by simp))
  clear hb1 Hc
  go_wp2
  go_ret2
  exact ⟨rfl, hd⟩
theorem spec_InverseMatrix_no (a b c d : Int) (w : World) (h : mxB a b c d = false) :
    Calls Try.prog 21 #[.agg #[.int .i64 a, .int .i64 b, .int .i64 c, .int .i64 d]] w fun r w' => r = .returned (.tuple #[.agg #[.int .i64 0, .int .i64 0, .int .i64 0, .int .i64 0], .bool false]) ∧ Below w.heap.size w w' := by
  have hc := spec_mxGood a b c d
  rw [h] at hc
  have Hc := Lib.hid hc
  clear hc h
  go_enter Try.func21, Try.ntmps21
  go_wp2_with fail
  refine (Hc.out _).mono ?_
  rintro e w1 ⟨rfl, hb1⟩
  obtain ⟨hc1, hf1, hz1⟩ := bcell hb1
  have hy1 : w.heap.size + 1 < w1.heap.size := by simp at hz1; omega
  have hy0 : w.heap.size < w1.heap.size := by omega
  have hd := (below2 w _ _).trans (hb1.mono (by simp; omega))
  clear hb1 Hc
  go_wp2
  exact bodyPost_ret (v := .tuple #[.agg #[.int .i64 0, .int .i64 0, .int .i64 0, .int .i64 0], .bool false]) (by simp [results, Try.results21, go_sem, hc1, hf1, hy0, hy1]) rfl ⟨rfl, below_set4 hd (by omega)⟩
theorem impl_NegateMatrix_no (a b c d : Int) (w : World) (h : mxB a b c d = false) :
    Calls Try.prog 24 #[.agg #[.int .i64 a, .int .i64 b, .int .i64 c, .int .i64 d]] w fun r w' => r = .returned (.tuple #[.agg #[.int .i64 0, .int .i64 0, .int .i64 0, .int .i64 0], .bool false]) ∧ Below w.heap.size w w' := by
  have hc := impl_IsMatrix a b c d
  rw [h] at hc
  have Hc := Lib.hid hc
  clear hc h
  go_enter Try.func24, Try.ntmps24
  go_wp2_with fail
  refine (Hc.out _).mono ?_
  rintro e w1 ⟨rfl, hb1⟩
  obtain ⟨hc1, hf1, hz1⟩ := bcell hb1
  have hy1 : w.heap.size + 1 < w1.heap.size := by simp at hz1; omega
  have hy0 : w.heap.size < w1.heap.size := by omega
  have hd := (below2 w _ _).trans (hb1.mono (by simp; omega))
  clear hb1 Hc
  go_wp2
  exact bodyPost_ret (v := .tuple #[.agg #[.int .i64 0, .int .i64 0, .int .i64 0, .int .i64 0], .bool false]) (by simp [results, Try.results24, go_sem, hc1, hf1, hy0, hy1]) rfl ⟨rfl, below_set4 hd (by omega)⟩
theorem impl_NegateMatrix_yes (a b c d : Int) (w : World) (h : mxB a b c d = true) :
    Calls Try.prog 24 #[.agg #[.int .i64 a, .int .i64 b, .int .i64 c, .int .i64 d]] w fun r w' => r = .returned (.tuple #[.agg #[.int .i64 (-a), .int .i64 (-b), .int .i64 (-c), .int .i64 (-d)], .bool true]) ∧ Below w.heap.size w w' := by
  have hc := impl_IsMatrix a b c d
  rw [h] at hc
  have Hc := Lib.hid hc
  obtain ⟨⟨⟨a1, a2⟩, ⟨b1, b2⟩, ⟨c1, c2⟩, ⟨d1, d2⟩⟩, -⟩ := mxB_iff.1 h
  clear hc h
  go_enter Try.func24, Try.ntmps24
  go_wp2_with fail
  refine (Hc.out _).mono ?_
  rintro e w1 ⟨rfl, hb1⟩
  obtain ⟨hc1, hf1, hz1⟩ := bcell hb1
  have hy1 : w.heap.size + 1 < w1.heap.size := by simp at hz1; omega
  have hy0 : w.heap.size < w1.heap.size := by omega
  have hd := (below2 w _ _).trans (hb1.mono (by simp; omega))
  clear hb1 Hc
  go_wp2
  exact bodyPost_ret (v := .tuple #[.agg #[.int .i64 (-a), .int .i64 (-b), .int .i64 (-c), .int .i64 (-d)], .bool true]) (by simp [results, Try.results24, go_sem, hc1, hf1, hy0, hy1]) rfl ⟨rfl, below_set4 hd (by omega)⟩
theorem impl_TraceOf_no (a b c d : Int) (w : World) (h : mxB a b c d = false) :
    Calls Try.prog 26 #[.agg #[.int .i64 a, .int .i64 b, .int .i64 c, .int .i64 d]] w fun r w' => r = .returned (.tuple #[.int .i64 0, .bool false]) ∧ Below w.heap.size w w' := by
  have hc := impl_IsMatrix a b c d
  rw [h] at hc
  have Hc := Lib.hid hc
  clear hc h
  go_enter Try.func26, Try.ntmps26
  go_wp2_with fail
  refine (Hc.out _).mono ?_
  rintro e w1 ⟨rfl, hb1⟩
  obtain ⟨hc1, hf1, hz1⟩ := bcell hb1
  have hy0 : w.heap.size < w1.heap.size := by simp at hz1; omega
  have hd := ((Below.refl w.heap.size w).alloc (Nat.le_refl _) _).trans (hb1.mono (by simp))
  clear hb1 Hc
  go_wp2
  go_ret2
  exact ⟨rfl, hd⟩
theorem impl_TraceOf_yes (a b c d : Int) (w : World) (h : mxB a b c d = true) :
    Calls Try.prog 26 #[.agg #[.int .i64 a, .int .i64 b, .int .i64 c, .int .i64 d]] w fun r w' => r = .returned (.tuple #[.int .i64 (a + d), .bool true]) ∧ Below w.heap.size w w' := by
  have hc := impl_IsMatrix a b c d
  rw [h] at hc
  have Hc := Lib.hid hc
  obtain ⟨⟨⟨a1, a2⟩, ⟨b1, b2⟩, ⟨c1, c2⟩, ⟨d1, d2⟩⟩, -⟩ := mxB_iff.1 h
  clear hc h
  go_enter Try.func26, Try.ntmps26
  go_wp2_with fail
  refine (Hc.out _).mono ?_
  rintro e w1 ⟨rfl, hb1⟩
  obtain ⟨hc1, hf1, hz1⟩ := bcell hb1
  have hy0 : w.heap.size < w1.heap.size := by simp at hz1; omega
  have hd := ((Below.refl w.heap.size w).alloc (Nat.le_refl _) _).trans (hb1.mono (by simp))
  clear hb1 Hc
  go_wp2
  go_ret2
  exact ⟨rfl, hd⟩
theorem impl_InverseMatrix_no (a b c d : Int) (w : World) (h : mxB a b c d = false) :
    Calls Try.prog 22 #[.agg #[.int .i64 a, .int .i64 b, .int .i64 c, .int .i64 d]] w fun r w' => r = .returned (.tuple #[.agg #[.int .i64 0, .int .i64 0, .int .i64 0, .int .i64 0], .bool false]) ∧ Below w.heap.size w w' := by
  have hc := impl_IsMatrix a b c d
  rw [h] at hc
  have Hc := Lib.hid hc
  clear hc h
  go_enter Try.func22, Try.ntmps22
  go_wp2_with fail
  refine (Hc.out _).mono ?_
  rintro e w1 ⟨rfl, hb1⟩
  obtain ⟨hc1, hf1, hz1⟩ := bcell hb1
  have hy1 : w.heap.size + 1 < w1.heap.size := by simp at hz1; omega
  have hy0 : w.heap.size < w1.heap.size := by omega
  have hd := (below2 w _ _).trans (hb1.mono (by simp; omega))
  clear hb1 Hc
  go_wp2
  exact bodyPost_ret (v := .tuple #[.agg #[.int .i64 0, .int .i64 0, .int .i64 0, .int .i64 0], .bool false]) (by simp [results, Try.results22, go_sem, hc1, hf1, hy0, hy1]) rfl ⟨rfl, below_set4 hd (by omega)⟩
theorem spec_InverseMatrix_yes (a b c d : Int) (w : World) (h : mxB a b c d = true) :
    Calls Try.prog 21 #[.agg #[.int .i64 a, .int .i64 b, .int .i64 c, .int .i64 d]] w fun r w' => r = .returned (.tuple #[.agg #[.int .i64 d, .int .i64 (-b), .int .i64 (-c), .int .i64 a], .bool true]) ∧ Below w.heap.size w w' := by
  have hc := spec_mxGood a b c d
  rw [h] at hc
  have Hc := Lib.hid hc
  obtain ⟨⟨-, hbb, hcc, -⟩, -⟩ := mxB_iff.1 h
  have Hi := Lib.hid (fun w => spec_mxInverse a b c d w hbb hcc)
  clear hc h hbb hcc
  go_enter Try.func21, Try.ntmps21
  go_wp2_with fail
  refine (Hc.out _).mono ?_
  rintro e w1 ⟨rfl, hb1⟩
  obtain ⟨hc1, hf1, hz1⟩ := bcell hb1
  have hy1 : w.heap.size + 1 < w1.heap.size := by simp at hz1; omega
  have hy0 : w.heap.size < w1.heap.size := by omega
  have hd := (below2 w _ _).trans (hb1.mono (by simp; omega))
  clear hb1 Hc
  go_wp2_with fail
  refine (Hi.out _).mono ?_
  rintro e w2 ⟨rfl, hb2⟩
  obtain ⟨hc2, hf2, hz2⟩ := bcell hb2
  have hy3 : w.heap.size + 1 < w2.heap.size := by omega
  have hy2 : w.heap.size < w2.heap.size := by omega
  replace hd := below_kept hd (Nat.le_refl _) hb2
  clear hb2 Hi
  go_wp2
  exact bodyPost_ret (v := .tuple #[.agg #[.int .i64 d, .int .i64 (-b), .int .i64 (-c), .int .i64 a], .bool true]) (by simp [results, Try.results21, go_sem, hc1, hf1, hy0, hy1, hc2, hf2, hy2, hy3]) rfl ⟨rfl, below_set4 hd (by omega)⟩
theorem impl_InverseMatrix_yes (a b c d : Int) (w : World) (h : mxB a b c d = true) :
    Calls Try.prog 22 #[.agg #[.int .i64 a, .int .i64 b, .int .i64 c, .int .i64 d]] w fun r w' => r = .returned (.tuple #[.agg #[.int .i64 d, .int .i64 (-b), .int .i64 (-c), .int .i64 a], .bool true]) ∧ Below w.heap.size w w' := by
  have hc := impl_IsMatrix a b c d
  rw [h] at hc
  have Hc := Lib.hid hc
  obtain ⟨⟨-, hbb, hcc, -⟩, -⟩ := mxB_iff.1 h
  have Hi := Lib.hid (fun w => impl_inverse a b c d w hbb hcc)
  have hok : mxB d (-b) (-c) a = true := M4.inv_ok (m := ⟨a, b, c, d⟩) h
  have Hm := Lib.hid (fun w => impl_matrixOf_yes d (-b) (-c) a w hok)
  clear hc h hbb hcc hok
  go_enter Try.func22, Try.ntmps22
  go_wp2_with fail
  refine (Hc.out _).mono ?_
  rintro e w1 ⟨rfl, hb1⟩
  obtain ⟨hc1, hf1, hz1⟩ := bcell hb1
  have hy1 : w.heap.size + 1 < w1.heap.size := by simp at hz1; omega
  have hy0 : w.heap.size < w1.heap.size := by omega
  have hd := (below2 w _ _).trans (hb1.mono (by simp; omega))
  clear hb1 Hc
  go_wp2_with fail
  refine (impl_squareOf a b c d _).mono ?_
  rintro e w2 ⟨rfl, hb2⟩
  obtain ⟨hc2, hf2, hz2⟩ := bcell hb2
  have hy3 : w.heap.size + 1 < w2.heap.size := by omega
  have hy2 : w.heap.size < w2.heap.size := by omega
  replace hd := below_kept hd (Nat.le_refl _) hb2
  clear hb2
  go_wp2_with fail
  refine (Hi.out _).mono ?_
  rintro e w3 ⟨rfl, hb3⟩
  obtain ⟨hc3, hf3, hz3⟩ := bcell hb3
  have hy5 : w.heap.size + 1 < w3.heap.size := by omega
  have hy4 : w.heap.size < w3.heap.size := by omega
  replace hd := below_kept hd (Nat.le_refl _) hb3
  clear hb3 Hi
  go_wp2_with fail
  refine (Hm.out _).mono ?_
  rintro e w4 ⟨rfl, hb4⟩
  obtain ⟨hc4, hf4, hz4⟩ := bcell hb4
  have hy7 : w.heap.size + 1 < w4.heap.size := by omega
  have hy6 : w.heap.size < w4.heap.size := by omega
  replace hd := below_kept hd (Nat.le_refl _) hb4
  clear hb4 Hm
  go_wp2
  exact bodyPost_ret (v := .tuple #[.agg #[.int .i64 d, .int .i64 (-b), .int .i64 (-c), .int .i64 a], .bool true]) (by simp [results, Try.results22, go_sem, hc1, hf1, hy0, hy1, hc2, hf2, hy2, hy3, hc3, hf3, hc4, hf4, hy4, hy5, hy6, hy7]) rfl ⟨rfl, below_set4 hd (by omega)⟩
/-- the sign of the square of the trace less 4 -/
def fxR (t : Int) : Int := if t < -2 ∨ 2 < t then 1 else if -2 < t ∧ t < 2 then -1 else 0
theorem spec_l1Sign (n : Int) (w : World) : Calls Try.prog 54 #[.int .i64 n] w fun e w' => e = .returned (.int .i64 (if 0 < n then 1 else if n < 0 then -1 else 0)) ∧ w = w' := by
  go_enter Try.func54, Try.ntmps54
  go_wp2
  all_goals go_ret
  all_goals refine ⟨ret_int ?_, rfl⟩
  all_goals (repeat' split) <;> omega
theorem spec_l1Most (a b : Int) (w : World) : Calls Try.prog 68 #[.int .i64 a, .int .i64 b] w fun e w' => e = .returned (.int .i64 (if b < a then a else b)) ∧ w = w' := by
  go_enter Try.func68, Try.ntmps68
  go_wp2
  all_goals go_ret
  all_goals refine ⟨ret_int ?_, rfl⟩
  all_goals (repeat' split) <;> omega
theorem spec_l1Abs (n : Int) (w : World) (h : -9000000000000000000 ≤ n) (h2 : n ≤ 9000000000000000000) : Calls Try.prog 53 #[.int .i64 n] w fun e w' => e = .returned (.int .i64 (if n < 0 then -n else n)) ∧ w = w' := by
  obtain ⟨v, hv⟩ : ∃ v, v = (if n < 0 then -n else n) := ⟨_, rfl⟩
  rw [← hv]
  have e1 := Lib.hid (show (if -n < n then n else -n) = v by rw [hv]; (repeat' split) <;> omega)
  clear hv
  go_enter Try.func53, Try.ntmps53
  go_wp2_with fail
  refine (spec_l1Most n (-n) _).mono ?_
  rintro e w1 ⟨rfl, rfl⟩
  rw [e1.out]
  go_wp2
  go_ret
  exact ⟨rfl, rfl⟩
theorem cmp_Compare4 (n : Int) (w : World) : Calls Try.prog 55 #[.int .i64 n, .int .i64 4] w fun e w' => e = .returned (.int .i64 (if n < 4 then -1 else if 4 < n then 1 else 0)) ∧ w = w' := by
  go_enter Try.func55, Try.ntmps55
  go_wp2
  all_goals go_ret
  all_goals refine ⟨ret_int ?_, rfl⟩
  all_goals (repeat' split) <;> omega
theorem spec_FixedSign_yes (a b c d : Int) (w : World) (h : mxB a b c d = true) :
    Calls Try.prog 27 #[.agg #[.int .i64 a, .int .i64 b, .int .i64 c, .int .i64 d]] w fun r w' => r = .returned (.tuple #[.int .i64 (fxR (a + d)), .bool true]) ∧ Below w.heap.size w w' := by
  have hc := spec_mxGood a b c d
  rw [h] at hc
  have Hc := Lib.hid hc
  obtain ⟨⟨⟨a1, a2⟩, -, -, ⟨d1, d2⟩⟩, -⟩ := mxB_iff.1 h
  have Hv := Lib.hid (show (if 0 < (if a + d < 0 then -(a + d) else a + d) - 2 then (1 : Int) else if (if a + d < 0 then -(a + d) else a + d) - 2 < 0 then -1 else 0) = fxR (a + d) by unfold fxR; (repeat' split) <;> omega)
  have hv2 : -9000000000000000000 ≤ (if a + d < 0 then -(a + d) else a + d) - 2 ∧ (if a + d < 0 then -(a + d) else a + d) - 2 ≤ 9000000000000000000 := by split <;> omega
  have Hl := Lib.hid (fun w => spec_l1Abs (a + d) w (by omega) (by omega))
  obtain ⟨v, hv⟩ : ∃ v, v = (if a + d < 0 then -(a + d) else a + d) := ⟨_, rfl⟩
  rw [← hv] at Hv hv2 Hl
  obtain ⟨v1, v2⟩ := hv2
  clear hc h hv
  go_enter Try.func27, Try.ntmps27
  go_wp2_with fail
  refine (Hc.out _).mono ?_
  rintro e w1 ⟨rfl, hb1⟩
  obtain ⟨hc1, hf1, hz1⟩ := bcell hb1
  have hy0 : w.heap.size < w1.heap.size := by simp at hz1; omega
  have hd := ((Below.refl w.heap.size w).alloc (Nat.le_refl _) _).trans (hb1.mono (by simp))
  clear hb1 Hc
  go_wp2_with fail
  refine (Hl.out _).mono ?_
  rintro e w2 ⟨rfl, rfl⟩
  go_wp2_with fail
  refine (spec_l1Sign _ _).mono ?_
  rintro e w2 ⟨rfl, rfl⟩
  rw [Hv.out]
  clear Hl
  go_wp2
  go_ret2
  exact ⟨rfl, hd⟩
theorem impl_FixedSign_yes (a b c d : Int) (w : World) (h : mxB a b c d = true) :
    Calls Try.prog 28 #[.agg #[.int .i64 a, .int .i64 b, .int .i64 c, .int .i64 d]] w fun r w' => r = .returned (.tuple #[.int .i64 (fxR (a + d)), .bool true]) ∧ Below w.heap.size w w' := by
  have Hc := Lib.hid (fun w => impl_TraceOf_yes a b c d w h)
  obtain ⟨⟨⟨a1, a2⟩, -, -, ⟨d1, d2⟩⟩, -⟩ := mxB_iff.1 h
  have hp := prodBd (x := a + d) (y := a + d) (P := 2000000000) (Q := 2000000000) (by omega) (by omega)
  have hv : (if (a + d) * (a + d) < 4 then (-1 : Int) else if 4 < (a + d) * (a + d) then 1 else 0) = fxR (a + d) := by
    generalize a + d = t
    have g0 : t < -2 ∨ t = -2 ∨ (-2 < t ∧ t < 2) ∨ t = 2 ∨ 2 < t := by omega
    unfold fxR
    rcases g0 with g | rfl | g | rfl | g
    · have := Int.mul_le_mul (show (3 : Int) ≤ -t by omega) (show (3 : Int) ≤ -t by omega) (by omega) (by omega)
      rw [Int.neg_mul_neg] at this
      rw [if_neg (by omega), if_pos (by omega), if_pos (by omega)]
    · decide
    · have : t = -1 ∨ t = 0 ∨ t = 1 := by omega
      rcases this with rfl | rfl | rfl <;> decide
    · decide
    · have := Int.mul_le_mul (show (3 : Int) ≤ t by omega) (show (3 : Int) ≤ t by omega) (by omega) (by omega)
      rw [if_neg (by omega), if_pos (by omega), if_pos (by omega)]
  have Hv := Lib.hid hv
  have hp2 : -4000000000000000000 ≤ (a + d) * (a + d) ∧ (a + d) * (a + d) ≤ 4000000000000000000 := by omega
  obtain ⟨p1, p2⟩ := hp2
  generalize a + d = t at *
  clear h hv hp
  go_enter Try.func28, Try.ntmps28
  go_wp2_with fail
  refine (Hc.out _).mono ?_
  rintro e w1 ⟨rfl, hb1⟩
  have hd := ((Below.refl w.heap.size w).alloc (Nat.le_refl _) _).trans (hb1.mono (by simp))
  clear hb1 Hc
  go_wp2_with fail
  refine (cmp_Compare4 _ _).mono ?_
  rintro e w2 ⟨rfl, rfl⟩
  rw [Hv.out]
  go_wp2
  go_ret2
  exact ⟨rfl, hd⟩
theorem impl_FixedSign_no (a b c d : Int) (w : World) (h : mxB a b c d = false) :
    Calls Try.prog 28 #[.agg #[.int .i64 a, .int .i64 b, .int .i64 c, .int .i64 d]] w fun r w' => r = .returned (.tuple #[.int .i64 0, .bool false]) ∧ Below w.heap.size w w' := by
  have Hc := Lib.hid (fun w => impl_TraceOf_no a b c d w h)
  clear h
  go_enter Try.func28, Try.ntmps28
  go_wp2_with fail
  refine (Hc.out _).mono ?_
  rintro e w1 ⟨rfl, hb1⟩
  have hd := ((Below.refl w.heap.size w).alloc (Nat.le_refl _) _).trans (hb1.mono (by simp))
  clear hb1 Hc
  go_wp2
  go_ret2
  exact ⟨rfl, hd⟩
theorem spec_FixedSign_no (a b c d : Int) (w : World) (h : mxB a b c d = false) :
    Calls Try.prog 27 #[.agg #[.int .i64 a, .int .i64 b, .int .i64 c, .int .i64 d]] w fun r w' => r = .returned (.tuple #[.int .i64 0, .bool false]) ∧ Below w.heap.size w w' := by
  have hc := spec_mxGood a b c d
  rw [h] at hc
  have Hc := Lib.hid hc
  clear hc h
  go_enter Try.func27, Try.ntmps27
  go_wp2_with fail
  refine (Hc.out _).mono ?_
  rintro e w1 ⟨rfl, hb1⟩
  obtain ⟨hc1, hf1, hz1⟩ := bcell hb1
  have hy0 : w.heap.size < w1.heap.size := by simp at hz1; omega
  have hd := ((Below.refl w.heap.size w).alloc (Nat.le_refl _) _).trans (hb1.mono (by simp))
  clear hb1 Hc
  go_wp2
  go_ret2
  exact ⟨rfl, hd⟩
theorem WIsMatrix.walk (w : World) (a b c d : Int) : Calls Try.prog 3 #[.agg #[.int .i64 a, .int .i64 b, .int .i64 c, .int .i64 d]] w fun e w' => e = .returned (.bool true) ∧ Below w.heap.size w w' :=
  WIsMatrix.core w a b c d (mxB a b c d) (Lib.hid (spec_IsMatrix a b c d)) (Lib.hid (impl_IsMatrix a b c d))
theorem WInverseMatrix.walk (w : World) (a b c d : Int) : Calls Try.prog 5 #[.agg #[.int .i64 a, .int .i64 b, .int .i64 c, .int .i64 d]] w fun e w' => e = .returned (.bool true) ∧ Below w.heap.size w w' := by
  cases h : mxB a b c d
  · exact WInverseMatrix.core w a b c d 0 0 0 0 false (Lib.hid fun w => spec_InverseMatrix_no a b c d w h) (Lib.hid fun w => impl_InverseMatrix_no a b c d w h)
  · exact WInverseMatrix.core w a b c d d (-b) (-c) a true (Lib.hid fun w => spec_InverseMatrix_yes a b c d w h) (Lib.hid fun w => impl_InverseMatrix_yes a b c d w h)
theorem WNegateMatrix.walk (w : World) (a b c d : Int) : Calls Try.prog 6 #[.agg #[.int .i64 a, .int .i64 b, .int .i64 c, .int .i64 d]] w fun e w' => e = .returned (.bool true) ∧ Below w.heap.size w w' := by
  cases h : mxB a b c d
  · exact WNegateMatrix.core w a b c d 0 0 0 0 false (Lib.hid fun w => spec_NegateMatrix_no a b c d w h) (Lib.hid fun w => impl_NegateMatrix_no a b c d w h)
  · exact WNegateMatrix.core w a b c d (-a) (-b) (-c) (-d) true (Lib.hid fun w => spec_NegateMatrix_yes a b c d w h) (Lib.hid fun w => impl_NegateMatrix_yes a b c d w h)
theorem WTraceOf.walk (w : World) (a b c d : Int) : Calls Try.prog 7 #[.agg #[.int .i64 a, .int .i64 b, .int .i64 c, .int .i64 d]] w fun e w' => e = .returned (.bool true) ∧ Below w.heap.size w w' := by
  cases h : mxB a b c d
  · exact WTraceOf.core w a b c d 0 false (Lib.hid fun w => spec_TraceOf_no a b c d w h) (Lib.hid fun w => impl_TraceOf_no a b c d w h)
  · exact WTraceOf.core w a b c d (a + d) true (Lib.hid fun w => spec_TraceOf_yes a b c d w h) (Lib.hid fun w => impl_TraceOf_yes a b c d w h)
theorem WFixedSign.walk (w : World) (a b c d : Int) : Calls Try.prog 8 #[.agg #[.int .i64 a, .int .i64 b, .int .i64 c, .int .i64 d]] w fun e w' => e = .returned (.bool true) ∧ Below w.heap.size w w' := by
  cases h : mxB a b c d
  · exact WFixedSign.core w a b c d 0 false (Lib.hid fun w => spec_FixedSign_no a b c d w h) (Lib.hid fun w => impl_FixedSign_no a b c d w h)
  · exact WFixedSign.core w a b c d (fxR (a + d)) true (Lib.hid fun w => spec_FixedSign_yes a b c d w h) (Lib.hid fun w => impl_FixedSign_yes a b c d w h)
end Go.Proofs.Ytfffnkbjhbaceaa
