/- Chapter 4: products, inverses, and what is a matrix, the model's and the program's. -/
import Derived.Test.YtfkkbjbgjmaciaaMatI
import Derived.Deep.QuietTactic
import Derived.BigQuiet
namespace Go.Proofs.Ytfkkbjbgjmaciaa
set_option linter.unusedVariables false
open Go.RowKit

theorem mulFacts {a b c d e f g h P Q : Int} (hm : M4.In ⟨a, b, c, d⟩ P) (hk : M4.In ⟨e, f, g, h⟩ Q) (hPQ : P * Q ≤ 4000000000000000000) :
    ((-4000000000000000000 ≤ a * e ∧ a * e ≤ 4000000000000000000) ∧ (-4000000000000000000 ≤ b * g ∧ b * g ≤ 4000000000000000000)) ∧
    ((-4000000000000000000 ≤ a * f ∧ a * f ≤ 4000000000000000000) ∧ (-4000000000000000000 ≤ b * h ∧ b * h ≤ 4000000000000000000)) ∧
    ((-4000000000000000000 ≤ c * e ∧ c * e ≤ 4000000000000000000) ∧ (-4000000000000000000 ≤ d * g ∧ d * g ≤ 4000000000000000000)) ∧
    ((-4000000000000000000 ≤ c * f ∧ c * f ≤ 4000000000000000000) ∧ (-4000000000000000000 ≤ d * h ∧ d * h ≤ 4000000000000000000)) := by
  obtain ⟨h1, h2, h3, h4⟩ := hm
  obtain ⟨k1, k2, k3, k4⟩ := hk
  have a1 := prodBd h1 k1
  have a2 := prodBd h2 k3
  have a3 := prodBd h1 k2
  have a4 := prodBd h2 k4
  have a5 := prodBd h3 k1
  have a6 := prodBd h4 k3
  have a7 := prodBd h3 k2
  have a8 := prodBd h4 k4
  dsimp only at *
  generalize P * Q = R at *
  omega

theorem spec_mxTimes (a b c d e f g h P Q : Int) (w : World) (hm : M4.In ⟨a, b, c, d⟩ P) (hk : M4.In ⟨e, f, g, h⟩ Q) (hPQ : P * Q ≤ 4000000000000000000) :
    Calls Try.prog 134 #[.agg #[.int .i64 a, .int .i64 b, .int .i64 c, .int .i64 d], .agg #[.int .i64 e, .int .i64 f, .int .i64 g, .int .i64 h]] w fun r w' =>
      r = .returned (.agg #[.int .i64 (a * e + b * g), .int .i64 (a * f + b * h), .int .i64 (c * e + d * g), .int .i64 (c * f + d * h)]) ∧ Below w.heap.size w w' := by
  obtain ⟨⟨⟨p1, p2⟩, ⟨p3, p4⟩⟩, ⟨⟨p5, p6⟩, ⟨p7, p8⟩⟩, ⟨⟨q1, q2⟩, ⟨q3, q4⟩⟩, ⟨⟨q5, q6⟩, ⟨q7, q8⟩⟩⟩ := mulFacts hm hk hPQ
  clear hm hk hPQ
  go_enter Try.func134, Try.ntmps134
  go_wp2
  exact bodyPost_ret (v := .agg #[.int .i64 (a * e + b * g), .int .i64 (a * f + b * h), .int .i64 (c * e + d * g), .int .i64 (c * f + d * h)]) (by simp [results, Try.results134, go_sem]) rfl ⟨rfl, ((Below.refl _ _).alloc (Nat.le_refl _) _).alloc (by simp) _ |>.alloc (by simp; omega) _⟩
theorem impl_times (a b c d e f g h P Q : Int) (w : World) (hm : M4.In ⟨a, b, c, d⟩ P) (hk : M4.In ⟨e, f, g, h⟩ Q) (hPQ : P * Q ≤ 4000000000000000000) :
    Calls Try.prog 131 #[.agg #[.int .i64 a, .int .i64 b, .int .i64 c, .int .i64 d], .agg #[.int .i64 e, .int .i64 f, .int .i64 g, .int .i64 h]] w fun r w' =>
      r = .returned (.agg #[.int .i64 (a * e + b * g), .int .i64 (a * f + b * h), .int .i64 (c * e + d * g), .int .i64 (c * f + d * h)]) ∧ Below w.heap.size w w' := by
  obtain ⟨⟨⟨p1, p2⟩, ⟨p3, p4⟩⟩, ⟨⟨p5, p6⟩, ⟨p7, p8⟩⟩, ⟨⟨q1, q2⟩, ⟨q3, q4⟩⟩, ⟨⟨q5, q6⟩, ⟨q7, q8⟩⟩⟩ := mulFacts hm hk hPQ
  clear hm hk hPQ
  go_enter Try.func131, Try.ntmps131
  go_wp2
  exact bodyPost_ret (v := .agg #[.int .i64 (a * e + b * g), .int .i64 (a * f + b * h), .int .i64 (c * e + d * g), .int .i64 (c * f + d * h)]) (by simp [results, Try.results131, go_sem]) rfl ⟨rfl, ((Below.refl _ _).alloc (Nat.le_refl _) _).alloc (by simp) _ |>.alloc (by simp; omega) _⟩
theorem below_set4 {B g : Nat} {w0 w : World} {x0 x1 x2 x3 : Value} (h : Below B w0 w) (hg : B ≤ g) : Below B w0 ((((w.setCell ⟨g, 0, none⟩ x0).setCell ⟨g, 1, none⟩ x1).setCell ⟨g, 2, none⟩ x2).setCell ⟨g, 3, none⟩ x3) :=
  (((h.setCell (p := ⟨g, 0, none⟩) hg _).setCell (p := ⟨g, 1, none⟩) hg _).setCell (p := ⟨g, 2, none⟩) hg _).setCell (p := ⟨g, 3, none⟩) hg _
theorem spec_mxIf_yes (a b c d : Int) (w : World) (h : mxB a b c d = true) :
    Calls Try.prog 135 #[.agg #[.int .i64 a, .int .i64 b, .int .i64 c, .int .i64 d]] w fun r w' =>
      r = .returned (.tuple #[.agg #[.int .i64 a, .int .i64 b, .int .i64 c, .int .i64 d], .bool true]) ∧ Below w.heap.size w w' := by
  have hc := spec_mxGood a b c d
  rw [h] at hc
  have Hc := Lib.hid hc
  clear hc h
  go_enter Try.func135, Try.ntmps135
  go_wp2_with fail
  refine (Hc.out _).mono ?_
  rintro e w1 ⟨rfl, hb1⟩
  obtain ⟨hc1, hf1, hz1⟩ := bcell hb1
  have hy2 : w.heap.size + 1 < w1.heap.size := by simp at hz1; omega
  have hy1 : w.heap.size + 1 < w1.heap.size := by omega
  have hy0 : w.heap.size < w1.heap.size := by omega
  have hd := (below2 w _ _).trans (hb1.mono (by simp; omega))
  clear hb1 Hc
  go_wp2
  exact bodyPost_ret (v := .tuple #[.agg #[.int .i64 a, .int .i64 b, .int .i64 c, .int .i64 d], .bool true]) (by simp [results, Try.results135, go_sem, hc1, hf1, hy0, hy1, hy2]) rfl ⟨rfl, below_set4 hd (by omega)⟩
theorem spec_mxIf_no (a b c d : Int) (w : World) (h : mxB a b c d = false) :
    Calls Try.prog 135 #[.agg #[.int .i64 a, .int .i64 b, .int .i64 c, .int .i64 d]] w fun r w' =>
      r = .returned (.tuple #[.agg #[.int .i64 0, .int .i64 0, .int .i64 0, .int .i64 0], .bool false]) ∧ Below w.heap.size w w' := by
  have hc := spec_mxGood a b c d
  rw [h] at hc
  have Hc := Lib.hid hc
  clear hc h
  go_enter Try.func135, Try.ntmps135
  go_wp2_with fail
  refine (Hc.out _).mono ?_
  rintro e w1 ⟨rfl, hb1⟩
  obtain ⟨hc1, hf1, hz1⟩ := bcell hb1
  have hy2 : w.heap.size + 1 < w1.heap.size := by simp at hz1; omega
  have hy1 : w.heap.size + 1 < w1.heap.size := by omega
  have hy0 : w.heap.size < w1.heap.size := by omega
  have hd := (below2 w _ _).trans (hb1.mono (by simp; omega))
  clear hb1 Hc
  go_wp2
  exact bodyPost_ret (v := .tuple #[.agg #[.int .i64 0, .int .i64 0, .int .i64 0, .int .i64 0], .bool false]) (by simp [results, Try.results135, go_sem, hc1, hf1, hy0, hy1, hy2]) rfl ⟨rfl, below_set4 hd (by omega)⟩
theorem impl_matrixOf_yes (a b c d : Int) (w : World) (h : mxB a b c d = true) :
    Calls Try.prog 129 #[.agg #[.int .i64 a, .int .i64 b, .int .i64 c, .int .i64 d]] w fun r w' =>
      r = .returned (.tuple #[.agg #[.int .i64 a, .int .i64 b, .int .i64 c, .int .i64 d], .bool true]) ∧ Below w.heap.size w w' := by
  have hc := impl_IsMatrix a b c d
  rw [h] at hc
  have Hc := Lib.hid hc
  clear hc h
  go_enter Try.func129, Try.ntmps129
  go_wp2_with fail
  refine (Hc.out _).mono ?_
  rintro e w1 ⟨rfl, hb1⟩
  obtain ⟨hc1, hf1, hz1⟩ := bcell hb1
  have hy2 : w.heap.size + 2 < w1.heap.size := by simp at hz1; omega
  have hy1 : w.heap.size + 1 < w1.heap.size := by omega
  have hy0 : w.heap.size < w1.heap.size := by omega
  have hd := ((below2 w _ _).alloc (by simp; omega) _).trans (hb1.mono (by simp; omega))
  clear hb1 Hc
  go_wp2
  exact bodyPost_ret (v := .tuple #[.agg #[.int .i64 a, .int .i64 b, .int .i64 c, .int .i64 d], .bool true]) (by simp [results, Try.results129, go_sem, hc1, hf1, hy0, hy1, hy2]) rfl ⟨rfl, below_set4 hd (by omega)⟩
theorem impl_matrixOf_no (a b c d : Int) (w : World) (h : mxB a b c d = false) :
    Calls Try.prog 129 #[.agg #[.int .i64 a, .int .i64 b, .int .i64 c, .int .i64 d]] w fun r w' =>
      r = .returned (.tuple #[.agg #[.int .i64 0, .int .i64 0, .int .i64 0, .int .i64 0], .bool false]) ∧ Below w.heap.size w w' := by
  have hc := impl_IsMatrix a b c d
  rw [h] at hc
  have Hc := Lib.hid hc
  clear hc h
  go_enter Try.func129, Try.ntmps129
  go_wp2_with fail
  refine (Hc.out _).mono ?_
  rintro e w1 ⟨rfl, hb1⟩
  obtain ⟨hc1, hf1, hz1⟩ := bcell hb1
  have hy2 : w.heap.size + 2 < w1.heap.size := by simp at hz1; omega
  have hy1 : w.heap.size + 1 < w1.heap.size := by omega
  have hy0 : w.heap.size < w1.heap.size := by omega
  have hd := ((below2 w _ _).alloc (by simp; omega) _).trans (hb1.mono (by simp; omega))
  clear hb1 Hc
  go_wp2
  exact bodyPost_ret (v := .tuple #[.agg #[.int .i64 0, .int .i64 0, .int .i64 0, .int .i64 0], .bool false]) (by simp [results, Try.results129, go_sem, hc1, hf1, hy0, hy1, hy2]) rfl ⟨rfl, below_set4 hd (by omega)⟩
theorem impl_inverse (a b c d : Int) (w : World) (hb : -1000000000 ≤ b ∧ b ≤ 1000000000) (hc : -1000000000 ≤ c ∧ c ≤ 1000000000) :
    Calls Try.prog 140 #[.agg #[.int .i64 a, .int .i64 b, .int .i64 c, .int .i64 d]] w fun r w' =>
      r = .returned (.agg #[.int .i64 d, .int .i64 (-b), .int .i64 (-c), .int .i64 a]) ∧ Below w.heap.size w w' := by
  obtain ⟨b1, b2⟩ := hb
  obtain ⟨c1, c2⟩ := hc
  go_enter Try.func140, Try.ntmps140
  go_wp2
  exact bodyPost_ret (v := .agg #[.int .i64 d, .int .i64 (-b), .int .i64 (-c), .int .i64 a]) (by simp [results, Try.results140, go_sem]) rfl ⟨rfl, below2 _ _ _⟩
end Go.Proofs.Ytfkkbjbgjmaciaa
