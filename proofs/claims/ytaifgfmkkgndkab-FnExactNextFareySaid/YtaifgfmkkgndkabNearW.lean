/- CrossOf, AreNear, MediantOf: the model's and the program's contracts. -/
import Derived.Test.YtaifgfmkkgndkabNbS
namespace Go.Proofs.Ytaifgfmkkgndkab
set_option linter.unusedVariables false
open Go.RowKit

/-- the boxes of two fractions -/
def TwoB (w w1 : World) (a b c d : Int) : Prop :=
  (w1.cell? ⟨w.heap.size, 0, none⟩ = some (.int .i64 a) ∧ w1.cell? ⟨w.heap.size, 1, none⟩ = some (.int .i64 b) ∧ w1.cell? ⟨w.heap.size + 1, 0, none⟩ = some (.int .i64 c) ∧ w1.cell? ⟨w.heap.size + 1, 1, none⟩ = some (.int .i64 d)) ∧ Below w.heap.size w w1
theorem TwoB.start (w : World) (t s : TypeId) (a b c d : Int) : TwoB w ((w.alloc (.cells #[.int .i64 a, .int .i64 b] t)).alloc (.cells #[.int .i64 c, .int .i64 d] s)) a b c d :=
  ⟨⟨by simp [go_sem], by simp [go_sem], by simp [go_sem], by simp [go_sem]⟩, below_two w _ _⟩
theorem TwoB.kept {w w1 w2 : World} {a b c d : Int} (h : TwoB w w1 a b c d) (hb : Below w1.heap.size w1 w2) : TwoB w w2 a b c d := by
  obtain ⟨⟨h0, h1, h2, h3⟩, h4⟩ := h
  exact ⟨⟨cell_kept hb h0, cell_kept hb h1, cell_kept hb h2, cell_kept hb h3⟩, below_kept h4 (Nat.le_refl _) hb⟩
theorem TwoB.alloc {w w1 : World} {a b c d : Int} (h : TwoB w w1 a b c d) (o : Obj) : TwoB w (w1.alloc o) a b c d := h.kept (below_one _ _)
/-- two fractions are near -/
def nearB (a b c d : Int) : Bool := decide (crs (a, b) (c, d) = 1 ∨ crs (a, b) (c, d) = -1)
def okk (a b c d : Int) : Bool := nbB a b && nbB c d
theorem crs_bd {a b c d : Int} (ha : Sm a) (hb : Sm b) (hc : Sm c) (hd : Sm d) : -8000000000000 ≤ crs (a, b) (c, d) ∧ crs (a, b) (c, d) ≤ 8000000000000 := by
  have P1 := prodSm hc hb
  have P2 := prodSm ha hd
  unfold crs
  dsimp only
  omega

set_option maxHeartbeats 800000 in
theorem spec_nbNear (a b c d : Int) (w : World) (ha : Sm a) (hb : Sm b) (hc : Sm c) (hd : Sm d) :
    Calls Try.prog 69 #[.agg #[.int .i64 a, .int .i64 b], .agg #[.int .i64 c, .int .i64 d]] w fun e w' => e = .returned (.bool (nearB a b c d)) ∧ Below w.heap.size w w' := by
  have H := Lib.hid (fun w => spec_nbCross a b c d w ha hb hc hd)
  obtain ⟨x1, x2⟩ := crs_bd ha hb hc hd
  have HE := Lib.hid (show nearB a b c d = decide (crs (a, b) (c, d) = 1 ∨ crs (a, b) (c, d) = -1) from rfl)
  have hd0 := Lib.hid (below_two w (.cells #[.int .i64 a, .int .i64 b] 32) (.cells #[.int .i64 c, .int .i64 d] 32))
  clear ha hb hc hd
  generalize crs (a, b) (c, d) = x at *
  go_enter Try.func69, Try.ntmps69
  go_wp2_with fail
  refine (H.out _).mono ?_
  rintro e w1 ⟨rfl, hb1⟩
  have Hd := Lib.hid (hd0.out.trans (hb1.mono (by simp; omega)))
  clear hb1 H hd0
  go_wp2_with fail
  refine (spec_l1Abs x _ (by omega) (by omega)).mono ?_
  rintro e w2 ⟨rfl, rfl⟩
  have hz : (if x < 0 then -x else x) = 1 ↔ (x = 1 ∨ x = -1) := by split <;> omega
  have HZ := Lib.hid hz
  clear hz
  generalize (if x < 0 then -x else x) = y at *
  go_wp2
  go_ret
  exact ⟨ret_bool (by rw [HE.out, Bool.eq_iff_iff, decide_eq_true_eq, ← HZ.out]; simp), Hd.out⟩
theorem retP {v0 v1 : Value} {u0 u1 : Value} (h0 : v0 = u0) (h1 : v1 = u1) : Ending.returned (.tuple #[v0, v1]) = .returned (.tuple #[u0, u1]) := by rw [h0, h1]

def crR (a b c d : Int) : Int := if okk a b c d = true then crs (a, b) (c, d) else 0
def nrR (a b c d : Int) : Bool := if okk a b c d = true then nearB a b c d else false
end Go.Proofs.Ytaifgfmkkgndkab
