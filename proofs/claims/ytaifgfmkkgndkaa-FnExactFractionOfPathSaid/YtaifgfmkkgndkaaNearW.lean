/- CrossOf, AreNear, MediantOf: the model's and the program's contracts. -/
import Derived.Test.YtaifgfmkkgndkaaNbS
namespace Go.Proofs.Ytaifgfmkkgndkaa
set_option linter.unusedVariables false
open Go.RowKit

/-- the boxes of two fractions -/
def TwoB (w w1 : World) (a b c d : Int) : Prop :=
  (w1.cell? ⟨w.heap.size, 0, none⟩ = some (.int .i64 a) ∧ w1.cell? ⟨w.heap.size, 1, none⟩ = some (.int .i64 b) ∧ w1.cell? ⟨w.heap.size + 1, 0, none⟩ = some (.int .i64 c) ∧ w1.cell? ⟨w.heap.size + 1, 1, none⟩ = some (.int .i64 d)) ∧ Below w.heap.size w w1
theorem TwoB.start (w : World) (t s : TypeId) (a b c d : Int) : TwoB w ((w.alloc (.cells #[.int .i64 a, .int .i64 b] t)).alloc (.cells #[.int .i64 c, .int .i64 d] s)) a b c d :=
  ⟨⟨by simp [go_sem], by simp [go_sem], by simp [go_sem], by simp [go_sem]⟩, below_two w _ _⟩
theorem TwoB.kept {w w1 w2 : World} {a b c d : Int} (h : TwoB w w1 a b c d) (hb : Below w1.heap.size w1 w2) : TwoB w w2 a b c d := by
  obtain ⟨⟨h0, h1, h2, h3⟩, h4⟩ := h
  exact ⟨⟨cell_kept hb h0, cell_kept hb h1, cell_kept hb h2, cell_kept hb h3⟩, below_kept h4 (Nat.le_refl _) hb⟩
theorem TwoB.alloc {w w1 : World} {a b c d : Int} (h : TwoB w w1 a b c d) (o : Obj) : TwoB w (w1.alloc o) a b c d := h.kept (below_one _ _)
/-- two fractions are near -/
def nearB (a b c d : Int) : Bool := decide (crs (a, b) (c, d) = 1 ∨ crs (a, b) (c, d) = -1)
def okk (a b c d : Int) : Bool := nbB a b && nbB c d
theorem crs_bd {a b c d : Int} (ha : Sm a) (hb : Sm b) (hc : Sm c) (hd : Sm d) : -8000000000000 ≤ crs (a, b) (c, d) ∧ crs (a, b) (c, d) ≤ 8000000000000 := by
  have P1 := prodSm hc hb
  have P2 := prodSm ha hd
  unfold crs
  dsimp only
  omega

set_option maxHeartbeats 800000 in
theorem spec_nbNear (a b c d : Int) (w : World) (ha : Sm a) (hb : Sm b) (hc : Sm c) (hd : Sm d) :
    Calls Try.prog 53 #[.agg #[.int .i64 a, .int .i64 b], .agg #[.int .i64 c, .int .i64 d]] w fun e w' => e = .returned (.bool (nearB a b c d)) ∧ Below w.heap.size w w' := by
  have H := Lib.hid (fun w => spec_nbCross a b c d w ha hb hc hd)
  obtain ⟨x1, x2⟩ := crs_bd ha hb hc hd
  have HE := Lib.hid (show nearB a b c d = decide (crs (a, b) (c, d) = 1 ∨ crs (a, b) (c, d) = -1) from rfl)
  have hd0 := Lib.hid (below_two w (.cells #[.int .i64 a, .int .i64 b] 25) (.cells #[.int .i64 c, .int .i64 d] 25))
  clear ha hb hc hd
  generalize crs (a, b) (c, d) = x at *
  go_enter Try.func53, Try.ntmps53
  go_wp2_with fail
  refine (H.out _).mono ?_
  rintro e w1 ⟨rfl, hb1⟩
  have Hd := Lib.hid (hd0.out.trans (hb1.mono (by simp; omega)))
  clear hb1 H hd0
  go_wp2_with fail
  refine (spec_l1Abs x _ (by omega) (by omega)).mono ?_
  rintro e w2 ⟨rfl, rfl⟩
  have hz : (if x < 0 then -x else x) = 1 ↔ (x = 1 ∨ x = -1) := by split <;> omega
  have HZ := Lib.hid hz
  clear hz
  generalize (if x < 0 then -x else x) = y at *
  go_wp2
  go_ret
  exact ⟨ret_bool (by rw [HE.out, Bool.eq_iff_iff, decide_eq_true_eq, ← HZ.out]; simp), Hd.out⟩
set_option maxHeartbeats 800000 in
theorem impl_isNear (a b c d : Int) (w : World) (ha : Sm a) (hb : Sm b) (hc : Sm c) (hd : Sm d) :
    Calls Try.prog 54 #[.agg #[.int .i64 a, .int .i64 b], .agg #[.int .i64 c, .int .i64 d]] w fun e w' => e = .returned (.bool (nearB a b c d)) ∧ Below w.heap.size w w' := by
  have H := Lib.hid (fun w => impl_crossF a b c d w ha hb hc hd)
  have HE := Lib.hid (show nearB a b c d = decide (crs (a, b) (c, d) = 1 ∨ crs (a, b) (c, d) = -1) from rfl)
  have hd0 := Lib.hid (below_two w (.cells #[.int .i64 a, .int .i64 b] 25) (.cells #[.int .i64 c, .int .i64 d] 25))
  clear ha hb hc hd
  generalize crs (a, b) (c, d) = x at *
  by_cases h1 : x = 1
  · subst h1
    go_enter Try.func54, Try.ntmps54
    go_wp2_with fail
    refine (H.out _).mono ?_
    rintro e w1 ⟨rfl, hb1⟩
    have Hd := Lib.hid (hd0.out.trans (hb1.mono (by simp; omega)))
    clear hb1 H hd0
    go_wp2
    go_ret
    exact ⟨ret_bool (by rw [HE.out]; rfl), Hd.out⟩
  · go_enter Try.func54, Try.ntmps54
    go_wp2_with fail
    refine (H.out _).mono ?_
    rintro e w1 ⟨rfl, hb1⟩
    have Hd := Lib.hid (hd0.out.trans (hb1.mono (by simp; omega)))
    have hx : (x == 1) = false := by simpa using h1
    clear hb1 H hd0
    go_wp2
    go_ret
    exact ⟨ret_bool (by rw [HE.out, Bool.eq_iff_iff]; simp [h1]), Hd.out⟩

theorem retP {v0 v1 : Value} {u0 u1 : Value} (h0 : v0 = u0) (h1 : v1 = u1) : Ending.returned (.tuple #[v0, v1]) = .returned (.tuple #[u0, u1]) := by rw [h0, h1]

def crR (a b c d : Int) : Int := if okk a b c d = true then crs (a, b) (c, d) else 0
set_option maxHeartbeats 1600000 in
theorem spec_CrossOf (a b c d : Int) (w : World) : Calls Try.prog 18 #[.agg #[.int .i64 a, .int .i64 b], .agg #[.int .i64 c, .int .i64 d]] w fun e w' => e = .returned (.tuple #[.int .i64 (crR a b c d), .bool (okk a b c d)]) ∧ Below w.heap.size w w' := by
  have G1 := Lib.hid (spec_nbGood a b)
  have G2 := Lib.hid (spec_nbGood c d)
  cases h1 : nbB a b
  · have HE := Lib.hid (show okk a b c d = false by unfold okk; rw [h1]; rfl)
    have HR := Lib.hid (show crR a b c d = 0 by unfold crR; rw [HE.out]; rfl)
    rw [h1] at G1
    clear h1
    go_enter Try.func18, Try.ntmps18
    go_wp2_with fail
    refine (G1.out _).mono ?_
    rintro e w1 ⟨rfl, hb1⟩
    have S := (TwoB.start w 25 25 a b c d).kept hb1
    clear hb1
    obtain ⟨⟨s0, s1, s2, s3⟩, _⟩ := id S
    replace S := Lib.hid S
    go_wp2
    go_ret2
    exact ⟨retP (by rw [HR.out] <;> rfl) (by rw [HE.out] <;> rfl), S.out.2⟩
  · cases h2 : nbB c d
    · have HE := Lib.hid (show okk a b c d = false by unfold okk; rw [h2, Bool.and_false])
      have HR := Lib.hid (show crR a b c d = 0 by unfold crR; rw [HE.out]; rfl)
      rw [h1] at G1
      rw [h2] at G2
      clear h1 h2
      go_enter Try.func18, Try.ntmps18
      go_wp2_with fail
      refine (G1.out _).mono ?_
      rintro e w1 ⟨rfl, hb1⟩
      have S := (TwoB.start w 25 25 a b c d).kept hb1
      clear hb1
      obtain ⟨⟨s0, s1, s2, s3⟩, _⟩ := id S
      replace S := Lib.hid S
      go_wp2_with fail
      clear s0 s1 s2 s3
      refine (G2.out _).mono ?_
      rintro e w2 ⟨rfl, hb1⟩
      replace S := (Hid.out S).kept hb1
      clear hb1
      obtain ⟨⟨s0, s1, s2, s3⟩, _⟩ := id S
      replace S := Lib.hid S
      go_wp2
      go_ret2
      exact ⟨retP (by rw [HR.out] <;> rfl) (by rw [HE.out] <;> rfl), S.out.2⟩
    · have HE := Lib.hid (show okk a b c d = true by unfold okk; rw [h1, h2]; rfl)
      have HR := Lib.hid (show crR a b c d = crs (a, b) (c, d) by unfold crR; rw [HE.out]; rfl)
      have HC := Lib.hid (fun w => spec_nbCross a b c d w (nbB_sm h1).1 (nbB_sm h1).2 (nbB_sm h2).1 (nbB_sm h2).2)
      rw [h1] at G1
      rw [h2] at G2
      clear h1 h2
      generalize crs (a, b) (c, d) = x at *
      go_enter Try.func18, Try.ntmps18
      go_wp2_with fail
      refine (G1.out _).mono ?_
      rintro e w1 ⟨rfl, hb1⟩
      have S := (TwoB.start w 25 25 a b c d).kept hb1
      clear hb1
      obtain ⟨⟨s0, s1, s2, s3⟩, _⟩ := id S
      replace S := Lib.hid S
      go_wp2_with fail
      clear s0 s1 s2 s3
      refine (G2.out _).mono ?_
      rintro e w2 ⟨rfl, hb1⟩
      replace S := (Hid.out S).kept hb1
      clear hb1
      obtain ⟨⟨s0, s1, s2, s3⟩, _⟩ := id S
      replace S := Lib.hid S
      go_wp2_with fail
      clear s0 s1 s2 s3
      refine (HC.out _).mono ?_
      rintro e w3 ⟨rfl, hb1⟩
      replace S := (Hid.out S).kept hb1
      clear hb1
      obtain ⟨⟨s0, s1, s2, s3⟩, _⟩ := id S
      replace S := Lib.hid S
      go_wp2
      go_ret2
      exact ⟨retP (by rw [HR.out] <;> rfl) (by rw [HE.out] <;> rfl), S.out.2⟩
set_option maxHeartbeats 1600000 in
theorem impl_CrossOf (a b c d : Int) (w : World) : Calls Try.prog 19 #[.agg #[.int .i64 a, .int .i64 b], .agg #[.int .i64 c, .int .i64 d]] w fun e w' => e = .returned (.tuple #[.int .i64 (crR a b c d), .bool (okk a b c d)]) ∧ Below w.heap.size w w' := by
  have G1 := Lib.hid (impl_IsFraction a b)
  have G2 := Lib.hid (impl_IsFraction c d)
  cases h1 : nbB a b
  · have HE := Lib.hid (show okk a b c d = false by unfold okk; rw [h1]; rfl)
    have HR := Lib.hid (show crR a b c d = 0 by unfold crR; rw [HE.out]; rfl)
    rw [h1] at G1
    clear h1
    go_enter Try.func19, Try.ntmps19
    go_wp2_with fail
    refine (G1.out _).mono ?_
    rintro e w1 ⟨rfl, hb1⟩
    have S := (TwoB.start w 25 25 a b c d).kept hb1
    clear hb1
    obtain ⟨⟨s0, s1, s2, s3⟩, _⟩ := id S
    replace S := Lib.hid S
    go_wp2
    go_ret2
    exact ⟨retP (by rw [HR.out] <;> rfl) (by rw [HE.out] <;> rfl), S.out.2⟩
  · cases h2 : nbB c d
    · have HE := Lib.hid (show okk a b c d = false by unfold okk; rw [h2, Bool.and_false])
      have HR := Lib.hid (show crR a b c d = 0 by unfold crR; rw [HE.out]; rfl)
      rw [h1] at G1
      rw [h2] at G2
      clear h1 h2
      go_enter Try.func19, Try.ntmps19
      go_wp2_with fail
      refine (G1.out _).mono ?_
      rintro e w1 ⟨rfl, hb1⟩
      have S := (TwoB.start w 25 25 a b c d).kept hb1
      clear hb1
      obtain ⟨⟨s0, s1, s2, s3⟩, _⟩ := id S
      replace S := Lib.hid S
      go_wp2_with fail
      clear s0 s1 s2 s3
      refine (G2.out _).mono ?_
      rintro e w2 ⟨rfl, hb1⟩
      replace S := (Hid.out S).kept hb1
      clear hb1
      obtain ⟨⟨s0, s1, s2, s3⟩, _⟩ := id S
      replace S := Lib.hid S
      go_wp2
      go_ret2
      exact ⟨retP (by rw [HR.out] <;> rfl) (by rw [HE.out] <;> rfl), S.out.2⟩
    · have HE := Lib.hid (show okk a b c d = true by unfold okk; rw [h1, h2]; rfl)
      have HR := Lib.hid (show crR a b c d = crs (a, b) (c, d) by unfold crR; rw [HE.out]; rfl)
      have HC := Lib.hid (fun w => impl_crossF a b c d w (nbB_sm h1).1 (nbB_sm h1).2 (nbB_sm h2).1 (nbB_sm h2).2)
      rw [h1] at G1
      rw [h2] at G2
      clear h1 h2
      generalize crs (a, b) (c, d) = x at *
      go_enter Try.func19, Try.ntmps19
      go_wp2_with fail
      refine (G1.out _).mono ?_
      rintro e w1 ⟨rfl, hb1⟩
      have S := (TwoB.start w 25 25 a b c d).kept hb1
      clear hb1
      obtain ⟨⟨s0, s1, s2, s3⟩, _⟩ := id S
      replace S := Lib.hid S
      go_wp2_with fail
      clear s0 s1 s2 s3
      refine (G2.out _).mono ?_
      rintro e w2 ⟨rfl, hb1⟩
      replace S := (Hid.out S).kept hb1
      clear hb1
      obtain ⟨⟨s0, s1, s2, s3⟩, _⟩ := id S
      replace S := Lib.hid S
      go_wp2_with fail
      clear s0 s1 s2 s3
      refine (HC.out _).mono ?_
      rintro e w3 ⟨rfl, hb1⟩
      replace S := (Hid.out S).kept hb1
      clear hb1
      obtain ⟨⟨s0, s1, s2, s3⟩, _⟩ := id S
      replace S := Lib.hid S
      go_wp2
      go_ret2
      exact ⟨retP (by rw [HR.out] <;> rfl) (by rw [HE.out] <;> rfl), S.out.2⟩
def nrR (a b c d : Int) : Bool := if okk a b c d = true then nearB a b c d else false
set_option maxHeartbeats 1600000 in
theorem spec_AreNear (a b c d : Int) (w : World) : Calls Try.prog 20 #[.agg #[.int .i64 a, .int .i64 b], .agg #[.int .i64 c, .int .i64 d]] w fun e w' => e = .returned (.tuple #[.bool (nrR a b c d), .bool (okk a b c d)]) ∧ Below w.heap.size w w' := by
  have G1 := Lib.hid (spec_nbGood a b)
  have G2 := Lib.hid (spec_nbGood c d)
  cases h1 : nbB a b
  · have HE := Lib.hid (show okk a b c d = false by unfold okk; rw [h1]; rfl)
    have HR := Lib.hid (show nrR a b c d = false by unfold nrR; rw [HE.out]; rfl)
    rw [h1] at G1
    clear h1
    go_enter Try.func20, Try.ntmps20
    go_wp2_with fail
    refine (G1.out _).mono ?_
    rintro e w1 ⟨rfl, hb1⟩
    have S := (TwoB.start w 25 25 a b c d).kept hb1
    clear hb1
    obtain ⟨⟨s0, s1, s2, s3⟩, _⟩ := id S
    replace S := Lib.hid S
    go_wp2
    go_ret2
    exact ⟨retP (by rw [HR.out] <;> rfl) (by rw [HE.out] <;> rfl), S.out.2⟩
  · cases h2 : nbB c d
    · have HE := Lib.hid (show okk a b c d = false by unfold okk; rw [h2, Bool.and_false])
      have HR := Lib.hid (show nrR a b c d = false by unfold nrR; rw [HE.out]; rfl)
      rw [h1] at G1
      rw [h2] at G2
      clear h1 h2
      go_enter Try.func20, Try.ntmps20
      go_wp2_with fail
      refine (G1.out _).mono ?_
      rintro e w1 ⟨rfl, hb1⟩
      have S := (TwoB.start w 25 25 a b c d).kept hb1
      clear hb1
      obtain ⟨⟨s0, s1, s2, s3⟩, _⟩ := id S
      replace S := Lib.hid S
      go_wp2_with fail
      clear s0 s1 s2 s3
      refine (G2.out _).mono ?_
      rintro e w2 ⟨rfl, hb1⟩
      replace S := (Hid.out S).kept hb1
      clear hb1
      obtain ⟨⟨s0, s1, s2, s3⟩, _⟩ := id S
      replace S := Lib.hid S
      go_wp2
      go_ret2
      exact ⟨retP (by rw [HR.out] <;> rfl) (by rw [HE.out] <;> rfl), S.out.2⟩
    · have HE := Lib.hid (show okk a b c d = true by unfold okk; rw [h1, h2]; rfl)
      have HR := Lib.hid (show nrR a b c d = nearB a b c d by unfold nrR; rw [HE.out]; rfl)
      have HC := Lib.hid (fun w => spec_nbNear a b c d w (nbB_sm h1).1 (nbB_sm h1).2 (nbB_sm h2).1 (nbB_sm h2).2)
      rw [h1] at G1
      rw [h2] at G2
      clear h1 h2
      generalize nearB a b c d = x at *
      go_enter Try.func20, Try.ntmps20
      go_wp2_with fail
      refine (G1.out _).mono ?_
      rintro e w1 ⟨rfl, hb1⟩
      have S := (TwoB.start w 25 25 a b c d).kept hb1
      clear hb1
      obtain ⟨⟨s0, s1, s2, s3⟩, _⟩ := id S
      replace S := Lib.hid S
      go_wp2_with fail
      clear s0 s1 s2 s3
      refine (G2.out _).mono ?_
      rintro e w2 ⟨rfl, hb1⟩
      replace S := (Hid.out S).kept hb1
      clear hb1
      obtain ⟨⟨s0, s1, s2, s3⟩, _⟩ := id S
      replace S := Lib.hid S
      go_wp2_with fail
      clear s0 s1 s2 s3
      refine (HC.out _).mono ?_
      rintro e w3 ⟨rfl, hb1⟩
      replace S := (Hid.out S).kept hb1
      clear hb1
      obtain ⟨⟨s0, s1, s2, s3⟩, _⟩ := id S
      replace S := Lib.hid S
      go_wp2
      go_ret2
      exact ⟨retP (by rw [HR.out] <;> rfl) (by rw [HE.out] <;> rfl), S.out.2⟩
set_option maxHeartbeats 1600000 in
theorem impl_AreNear (a b c d : Int) (w : World) : Calls Try.prog 21 #[.agg #[.int .i64 a, .int .i64 b], .agg #[.int .i64 c, .int .i64 d]] w fun e w' => e = .returned (.tuple #[.bool (nrR a b c d), .bool (okk a b c d)]) ∧ Below w.heap.size w w' := by
  have G1 := Lib.hid (impl_IsFraction a b)
  have G2 := Lib.hid (impl_IsFraction c d)
  cases h1 : nbB a b
  · have HE := Lib.hid (show okk a b c d = false by unfold okk; rw [h1]; rfl)
    have HR := Lib.hid (show nrR a b c d = false by unfold nrR; rw [HE.out]; rfl)
    rw [h1] at G1
    clear h1
    go_enter Try.func21, Try.ntmps21
    go_wp2_with fail
    refine (G1.out _).mono ?_
    rintro e w1 ⟨rfl, hb1⟩
    have S := (TwoB.start w 25 25 a b c d).kept hb1
    clear hb1
    obtain ⟨⟨s0, s1, s2, s3⟩, _⟩ := id S
    replace S := Lib.hid S
    go_wp2
    go_ret2
    exact ⟨retP (by rw [HR.out] <;> rfl) (by rw [HE.out] <;> rfl), S.out.2⟩
  · cases h2 : nbB c d
    · have HE := Lib.hid (show okk a b c d = false by unfold okk; rw [h2, Bool.and_false])
      have HR := Lib.hid (show nrR a b c d = false by unfold nrR; rw [HE.out]; rfl)
      rw [h1] at G1
      rw [h2] at G2
      clear h1 h2
      go_enter Try.func21, Try.ntmps21
      go_wp2_with fail
      refine (G1.out _).mono ?_
      rintro e w1 ⟨rfl, hb1⟩
      have S := (TwoB.start w 25 25 a b c d).kept hb1
      clear hb1
      obtain ⟨⟨s0, s1, s2, s3⟩, _⟩ := id S
      replace S := Lib.hid S
      go_wp2_with fail
      clear s0 s1 s2 s3
      refine (G2.out _).mono ?_
      rintro e w2 ⟨rfl, hb1⟩
      replace S := (Hid.out S).kept hb1
      clear hb1
      obtain ⟨⟨s0, s1, s2, s3⟩, _⟩ := id S
      replace S := Lib.hid S
      go_wp2
      go_ret2
      exact ⟨retP (by rw [HR.out] <;> rfl) (by rw [HE.out] <;> rfl), S.out.2⟩
    · have HE := Lib.hid (show okk a b c d = true by unfold okk; rw [h1, h2]; rfl)
      have HR := Lib.hid (show nrR a b c d = nearB a b c d by unfold nrR; rw [HE.out]; rfl)
      have HC := Lib.hid (fun w => impl_isNear a b c d w (nbB_sm h1).1 (nbB_sm h1).2 (nbB_sm h2).1 (nbB_sm h2).2)
      rw [h1] at G1
      rw [h2] at G2
      clear h1 h2
      generalize nearB a b c d = x at *
      go_enter Try.func21, Try.ntmps21
      go_wp2_with fail
      refine (G1.out _).mono ?_
      rintro e w1 ⟨rfl, hb1⟩
      have S := (TwoB.start w 25 25 a b c d).kept hb1
      clear hb1
      obtain ⟨⟨s0, s1, s2, s3⟩, _⟩ := id S
      replace S := Lib.hid S
      go_wp2_with fail
      clear s0 s1 s2 s3
      refine (G2.out _).mono ?_
      rintro e w2 ⟨rfl, hb1⟩
      replace S := (Hid.out S).kept hb1
      clear hb1
      obtain ⟨⟨s0, s1, s2, s3⟩, _⟩ := id S
      replace S := Lib.hid S
      go_wp2_with fail
      clear s0 s1 s2 s3
      refine (HC.out _).mono ?_
      rintro e w3 ⟨rfl, hb1⟩
      replace S := (Hid.out S).kept hb1
      clear hb1
      obtain ⟨⟨s0, s1, s2, s3⟩, _⟩ := id S
      replace S := Lib.hid S
      go_wp2
      go_ret2
      exact ⟨retP (by rw [HR.out] <;> rfl) (by rw [HE.out] <;> rfl), S.out.2⟩
end Go.Proofs.Ytaifgfmkkgndkaa
