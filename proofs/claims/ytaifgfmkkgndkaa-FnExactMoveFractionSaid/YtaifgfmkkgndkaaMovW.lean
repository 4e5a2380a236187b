/- MoveFraction: the model's and the program's contracts, and the law's walk. -/
import Derived.Test.YtaifgfmkkgndkaaMatW
import Derived.Test.YtaifgfmkkgndkaaNbB
import Derived.Test.YtaifgfmkkgndkaaMoveFractionC
import Derived.Deep.DeepCutAuto
namespace Go.Proofs.Ytaifgfmkkgndkaa
set_option linter.unusedVariables false
open Go.RowKit


/-- numerator and denominator, behind the sign -/
def mvN (x y : Int) : Int := if y < 0 ∨ (y = 0 ∧ x < 0) then -x else x
def mvD (x y : Int) : Int := if y < 0 ∨ (y = 0 ∧ x < 0) then -y else y
def mvOk (n d : Int) : Bool := decide (-1000000000000000 ≤ n ∧ n ≤ 1000000000000000 ∧ d ≤ 1000000000000000)
def mvR (x y : Int) : Int × Int × Bool := if mvOk (mvN x y) (mvD x y) = true then (mvN x y, mvD x y, true) else (0, 0, false)
def MvE (R : Int × Int × Bool) (w : World) (e : Ending) (w' : World) : Prop := e = .returned (.tuple #[.int .i64 R.1, .int .i64 R.2.1, .bool R.2.2]) ∧ Below w.heap.size w w'
theorem mvE_no {R : Int × Int × Bool} {w w' : World} (h : R = (0, 0, false)) (hb : Below w.heap.size w w') : MvE R w (.returned (.tuple #[.int .i64 0, .int .i64 0, .bool false])) w' := by
  subst h
  exact ⟨rfl, hb⟩
theorem mvR_no {x y n d : Int} (h1 : mvN x y = n) (h2 : mvD x y = d) (h3 : mvOk n d = false) : mvR x y = (0, 0, false) := by
  unfold mvR
  rw [h1, h2, h3]
  rfl
theorem mvE_yes {x y n d : Int} {w w' : World} (h1 : mvN x y = n) (h2 : mvD x y = d) (h3 : mvOk n d = true) (hb : Below w.heap.size w w') : MvE (mvR x y) w (.returned (.tuple #[.int .i64 n, .int .i64 d, .bool true])) w' := by
  have e : mvR x y = (n, d, true) := by
    unfold mvR
    rw [h1, h2, h3]
    rfl
  rw [e]
  exact ⟨rfl, hb⟩
def mvAll (a b c d p q : Int) : Int × Int × Bool := if mxB a b c d = true ∧ nbB p q = true then mvR (a * p + b * q) (c * p + d * q) else (0, 0, false)
set_option maxHeartbeats 3200000 in
theorem spec_MoveFraction (a b c d p q : Int) (w : World) : Calls Try.prog 27 #[.agg #[.int .i64 a, .int .i64 b, .int .i64 c, .int .i64 d], .agg #[.int .i64 p, .int .i64 q]] w (MvE (mvAll a b c d p q) w) := by
  have hc := spec_mxGood a b c d
  cases hm : mxB a b c d
  · rw [hm] at hc
    have Hc := Lib.hid hc
    have hR : mvAll a b c d p q = (0, 0, false) := if_neg (by rw [hm]; simp)
    rw [hR]
    clear hc hm hR
    go_enter Try.func27, Try.ntmps27
    go_wp2_with fail
    refine (Hc.out _).mono ?_
    rintro e w1 ⟨rfl, hb1⟩
    have hd := mvE_no (R := (0, 0, false)) rfl ((below2 w _ _).trans (hb1.mono (by simp; omega)))
    clear hb1 Hc
    go_wp2
    exact bodyPost_ret (v := .tuple #[.int .i64 0, .int .i64 0, .bool false]) (by simp [results, Try.results27, go_sem]) rfl hd
  have hn := spec_nbGood p q
  cases hq : nbB p q
  · rw [hm] at hc
    rw [hq] at hn
    have Hc := Lib.hid hc
    have Hn := Lib.hid hn
    have hR : mvAll a b c d p q = (0, 0, false) := if_neg (by rw [hq]; simp)
    rw [hR]
    clear hc hm hR hn hq
    go_enter Try.func27, Try.ntmps27
    go_wp2_with fail
    refine (Hc.out _).mono ?_
    rintro e w1 ⟨rfl, hb1⟩
    obtain ⟨hc1, hf1, hz1⟩ := bcell hb1
    have hy1 : w.heap.size + 1 < w1.heap.size := by simp at hz1; omega
    have hd := (below2 w _ _).trans (hb1.mono (by simp; omega))
    clear hb1 Hc
    go_wp2_with fail
    refine (Hn.out _).mono ?_
    rintro e w2 ⟨rfl, hb2⟩
    have hd2 := mvE_no (R := (0, 0, false)) rfl (below_kept hd (Nat.le_refl _) hb2)
    clear hb2 Hn
    go_wp2
    exact bodyPost_ret (v := .tuple #[.int .i64 0, .int .i64 0, .bool false]) (by simp [results, Try.results27, go_sem]) rfl hd2
  · rw [hm] at hc
    rw [hq] at hn
    have Hc := Lib.hid hc
    have Hn := Lib.hid hn
    have hR : mvAll a b c d p q = mvR (a * p + b * q) (c * p + d * q) := if_pos ⟨hm, hq⟩
    rw [hR]
    obtain ⟨⟨ba, bb, bc, bd⟩, -⟩ := mxB_iff.1 hm
    obtain ⟨bp, bq, -⟩ := nbB_iff.1 hq
    have P1 := prodBd (P := 1000000000) (Q := 1000000) ba (y := p) (by omega)
    have P2 := prodBd (P := 1000000000) (Q := 1000000) bb (y := q) (by omega)
    have P3 := prodBd (P := 1000000000) (Q := 1000000) bc (y := p) (by omega)
    have P4 := prodBd (P := 1000000000) (Q := 1000000) bd (y := q) (by omega)
    have Q1 : -1000000000000000 ≤ a * p ∧ a * p ≤ 1000000000000000 := by omega
    have Q2 : -1000000000000000 ≤ b * q ∧ b * q ≤ 1000000000000000 := by omega
    have Q3 : -1000000000000000 ≤ c * p ∧ c * p ≤ 1000000000000000 := by omega
    have Q4 : -1000000000000000 ≤ d * q ∧ d * q ≤ 1000000000000000 := by omega
    obtain ⟨q1, q2⟩ := Q1
    obtain ⟨q3, q4⟩ := Q2
    obtain ⟨q5, q6⟩ := Q3
    obtain ⟨q7, q8⟩ := Q4
    have wx : IntKind.i64.wrap (a * p + b * q) = a * p + b * q := IntWalk.i64_in _ (by omega)
    have wy : IntKind.i64.wrap (c * p + d * q) = c * p + d * q := IntWalk.i64_in _ (by omega)
    have w1' : IntKind.i64.wrap (a * p) = a * p := IntWalk.i64_in _ (by omega)
    have w2' : IntKind.i64.wrap (b * q) = b * q := IntWalk.i64_in _ (by omega)
    have w3' : IntKind.i64.wrap (c * p) = c * p := IntWalk.i64_in _ (by omega)
    have w4' : IntKind.i64.wrap (d * q) = d * q := IntWalk.i64_in _ (by omega)
    clear hc hm hR hn hq P1 P2 P3 P4 ba bb bc bd bp bq
    go_enter Try.func27, Try.ntmps27
    go_wp2_with fail
    refine (Hc.out _).mono ?_
    rintro e w1 ⟨rfl, hb1⟩
    obtain ⟨hc1, hf1, hz1⟩ := bcell hb1
    have hy1 : w.heap.size + 1 < w1.heap.size := by simp at hz1; omega
    have hy0 : w.heap.size < w1.heap.size := by omega
    have hd := (below2 w _ _).trans (hb1.mono (by simp; omega))
    have A := Bx.kept (by simp [Bx, go_sem] : Bx ((w.alloc (.cells #[.int .i64 a, .int .i64 b, .int .i64 c, .int .i64 d] 42)).alloc (.cells #[.int .i64 p, .int .i64 q] 25)) w.heap.size a b c d) hb1
    have B0 := cell_kept hb1 (by simp [go_sem] : ((w.alloc (.cells #[.int .i64 a, .int .i64 b, .int .i64 c, .int .i64 d] 42)).alloc (.cells #[.int .i64 p, .int .i64 q] 25)).cell? ⟨w.heap.size + 1, 0, none⟩ = some (.int .i64 p))
    have B1 := cell_kept hb1 (by simp [go_sem] : ((w.alloc (.cells #[.int .i64 a, .int .i64 b, .int .i64 c, .int .i64 d] 42)).alloc (.cells #[.int .i64 p, .int .i64 q] 25)).cell? ⟨w.heap.size + 1, 1, none⟩ = some (.int .i64 q))
    clear hb1 Hc hc1 hf1 hz1
    go_wp2_with fail
    refine (Hn.out _).mono ?_
    rintro e w2 ⟨rfl, hb2⟩
    replace A := A.kept hb2
    replace B0 := cell_kept hb2 B0
    replace B1 := cell_kept hb2 B1
    have Hd := Lib.hid (below_kept hd (Nat.le_refl _) hb2)
    obtain ⟨A0, A1, A2, A3⟩ := A
    clear hb2 Hn hd hy1 hy0
    go_wp2
    go_quiet (fail)
    clear A0 A1 A2 A3 B0 B1 wx wy w1' w2' w3' w4'
    have xb : -2000000000000000 ≤ a * p + b * q ∧ a * p + b * q ≤ 2000000000000000 := by omega
    have yb : -2000000000000000 ≤ c * p + d * q ∧ c * p + d * q ≤ 2000000000000000 := by omega
    obtain ⟨x1, x2⟩ := xb
    obtain ⟨y1, y2⟩ := yb
    clear q1 q2 q3 q4 q5 q6 q7 q8
    generalize a * p + b * q = x at *
    generalize c * p + d * q = y at *
    generalize hwn : w2.drewN nq = wn at *
    have Hd2 : Hid (Below w.heap.size w wn) := Lib.hid (by rw [← hwn]; exact below_drewN Hd.out _)
    clear hwn Hd
    have h4 : y < 0 ∨ (y = 0 ∧ x < 0) ∨ (y = 0 ∧ 0 ≤ x) ∨ 0 < y := by omega
    rcases h4 with h | ⟨rfl, h⟩ | ⟨rfl, h⟩ | h
    · have E1 := Lib.hid (show mvN x y = (-x) by unfold mvN; rw [if_pos (by omega)])
      have E2 := Lib.hid (show mvD x y = (-y) by unfold mvD; rw [if_pos (by omega)])
      cases hk : mvOk (-x) (-y)
      · have hk2 : ¬ (-1000000000000000 ≤ (-x) ∧ (-x) ≤ 1000000000000000 ∧ (-y) ≤ 1000000000000000) := by unfold mvOk at hk; simpa using hk
        have HE := Lib.hid (mvE_no (mvR_no E1.out E2.out hk) (Hd2.out))
        clear hk E1 E2
        have Hl := Lib.hid (fun w => spec_l1Abs (-x) w (by omega) (by omega))
        obtain ⟨v, hv⟩ : ∃ v, v = (if (-x) < 0 then -(-x) else (-x)) := ⟨_, rfl⟩
        have hv2 : ¬ (v ≤ 1000000000000000 ∧ (-y) ≤ 1000000000000000) := by rw [hv]; split <;> omega
        rw [← hv] at Hl
        clear hv
        go_wp2_with fail
        refine (Hl.out _).mono ?_
        rintro e w3 ⟨rfl, rfl⟩
        go_wp2
        all_goals first | exact bodyPost_ret (v := .tuple #[.int .i64 0, .int .i64 0, .bool false]) (by simp [results, Try.results27, go_sem]) rfl HE.out | (exfalso; simp at *; omega)
      · have hk2 : (-1000000000000000 ≤ (-x) ∧ (-x) ≤ 1000000000000000 ∧ (-y) ≤ 1000000000000000) := by unfold mvOk at hk; simpa using hk
        have HE := Lib.hid (mvE_yes E1.out E2.out hk (Hd2.out))
        clear hk E1 E2
        have Hl := Lib.hid (fun w => spec_l1Abs (-x) w (by omega) (by omega))
        obtain ⟨v, hv⟩ : ∃ v, v = (if (-x) < 0 then -(-x) else (-x)) := ⟨_, rfl⟩
        have hv2 : (v ≤ 1000000000000000 ∧ (-y) ≤ 1000000000000000) := by rw [hv]; split <;> omega
        rw [← hv] at Hl
        clear hv
        go_wp2_with fail
        refine (Hl.out _).mono ?_
        rintro e w3 ⟨rfl, rfl⟩
        go_wp2
        all_goals first | exact bodyPost_ret (v := .tuple #[.int .i64 (-x), .int .i64 (-y), .bool true]) (by simp [results, Try.results27, go_sem]) rfl HE.out | (exfalso; simp at *; omega)
    · have E1 := Lib.hid (show mvN x 0 = (-x) by unfold mvN; rw [if_pos (by omega)])
      have E2 := Lib.hid (show mvD x 0 = 0 by unfold mvD; rw [if_pos (by omega)]; rfl)
      cases hk : mvOk (-x) 0
      · have hk2 : ¬ (-1000000000000000 ≤ (-x) ∧ (-x) ≤ 1000000000000000 ∧ 0 ≤ 1000000000000000) := by unfold mvOk at hk; simpa using hk
        have HE := Lib.hid (mvE_no (mvR_no E1.out E2.out hk) (Hd2.out))
        clear hk E1 E2
        have Hl := Lib.hid (fun w => spec_l1Abs (-x) w (by omega) (by omega))
        obtain ⟨v, hv⟩ : ∃ v, v = (if (-x) < 0 then -(-x) else (-x)) := ⟨_, rfl⟩
        have hv2 : ¬ (v ≤ 1000000000000000 ∧ 0 ≤ 1000000000000000) := by rw [hv]; split <;> omega
        rw [← hv] at Hl
        clear hv
        go_wp2_with fail
        refine (Hl.out _).mono ?_
        rintro e w3 ⟨rfl, rfl⟩
        go_wp2
        all_goals first | exact bodyPost_ret (v := .tuple #[.int .i64 0, .int .i64 0, .bool false]) (by simp [results, Try.results27, go_sem]) rfl HE.out | (exfalso; simp at *; omega)
      · have hk2 : (-1000000000000000 ≤ (-x) ∧ (-x) ≤ 1000000000000000 ∧ 0 ≤ 1000000000000000) := by unfold mvOk at hk; simpa using hk
        have HE := Lib.hid (mvE_yes E1.out E2.out hk (Hd2.out))
        clear hk E1 E2
        have Hl := Lib.hid (fun w => spec_l1Abs (-x) w (by omega) (by omega))
        obtain ⟨v, hv⟩ : ∃ v, v = (if (-x) < 0 then -(-x) else (-x)) := ⟨_, rfl⟩
        have hv2 : (v ≤ 1000000000000000 ∧ 0 ≤ 1000000000000000) := by rw [hv]; split <;> omega
        rw [← hv] at Hl
        clear hv
        go_wp2_with fail
        refine (Hl.out _).mono ?_
        rintro e w3 ⟨rfl, rfl⟩
        go_wp2
        all_goals first | exact bodyPost_ret (v := .tuple #[.int .i64 (-x), .int .i64 0, .bool true]) (by simp [results, Try.results27, go_sem]) rfl HE.out | (exfalso; simp at *; omega)
    · have E1 := Lib.hid (show mvN x 0 = x by unfold mvN; rw [if_neg (by omega)])
      have E2 := Lib.hid (show mvD x 0 = 0 by unfold mvD; rw [if_neg (by omega)])
      cases hk : mvOk x 0
      · have hk2 : ¬ (-1000000000000000 ≤ x ∧ x ≤ 1000000000000000 ∧ 0 ≤ 1000000000000000) := by unfold mvOk at hk; simpa using hk
        have HE := Lib.hid (mvE_no (mvR_no E1.out E2.out hk) (Hd2.out))
        clear hk E1 E2
        have Hl := Lib.hid (fun w => spec_l1Abs x w (by omega) (by omega))
        obtain ⟨v, hv⟩ : ∃ v, v = (if x < 0 then -x else x) := ⟨_, rfl⟩
        have hv2 : ¬ (v ≤ 1000000000000000 ∧ 0 ≤ 1000000000000000) := by rw [hv]; split <;> omega
        rw [← hv] at Hl
        clear hv
        go_wp2_with fail
        refine (Hl.out _).mono ?_
        rintro e w3 ⟨rfl, rfl⟩
        go_wp2
        all_goals first | exact bodyPost_ret (v := .tuple #[.int .i64 0, .int .i64 0, .bool false]) (by simp [results, Try.results27, go_sem]) rfl HE.out | (exfalso; simp at *; omega)
      · have hk2 : (-1000000000000000 ≤ x ∧ x ≤ 1000000000000000 ∧ 0 ≤ 1000000000000000) := by unfold mvOk at hk; simpa using hk
        have HE := Lib.hid (mvE_yes E1.out E2.out hk (Hd2.out))
        clear hk E1 E2
        have Hl := Lib.hid (fun w => spec_l1Abs x w (by omega) (by omega))
        obtain ⟨v, hv⟩ : ∃ v, v = (if x < 0 then -x else x) := ⟨_, rfl⟩
        have hv2 : (v ≤ 1000000000000000 ∧ 0 ≤ 1000000000000000) := by rw [hv]; split <;> omega
        rw [← hv] at Hl
        clear hv
        go_wp2_with fail
        refine (Hl.out _).mono ?_
        rintro e w3 ⟨rfl, rfl⟩
        go_wp2
        all_goals first | exact bodyPost_ret (v := .tuple #[.int .i64 x, .int .i64 0, .bool true]) (by simp [results, Try.results27, go_sem]) rfl HE.out | (exfalso; simp at *; omega)
    · have E1 := Lib.hid (show mvN x y = x by unfold mvN; rw [if_neg (by omega)])
      have E2 := Lib.hid (show mvD x y = y by unfold mvD; rw [if_neg (by omega)])
      cases hk : mvOk x y
      · have hk2 : ¬ (-1000000000000000 ≤ x ∧ x ≤ 1000000000000000 ∧ y ≤ 1000000000000000) := by unfold mvOk at hk; simpa using hk
        have HE := Lib.hid (mvE_no (mvR_no E1.out E2.out hk) (Hd2.out))
        clear hk E1 E2
        have Hl := Lib.hid (fun w => spec_l1Abs x w (by omega) (by omega))
        obtain ⟨v, hv⟩ : ∃ v, v = (if x < 0 then -x else x) := ⟨_, rfl⟩
        have hv2 : ¬ (v ≤ 1000000000000000 ∧ y ≤ 1000000000000000) := by rw [hv]; split <;> omega
        rw [← hv] at Hl
        clear hv
        go_wp2_with fail
        refine (Hl.out _).mono ?_
        rintro e w3 ⟨rfl, rfl⟩
        go_wp2
        all_goals first | exact bodyPost_ret (v := .tuple #[.int .i64 0, .int .i64 0, .bool false]) (by simp [results, Try.results27, go_sem]) rfl HE.out | (exfalso; simp at *; omega)
      · have hk2 : (-1000000000000000 ≤ x ∧ x ≤ 1000000000000000 ∧ y ≤ 1000000000000000) := by unfold mvOk at hk; simpa using hk
        have HE := Lib.hid (mvE_yes E1.out E2.out hk (Hd2.out))
        clear hk E1 E2
        have Hl := Lib.hid (fun w => spec_l1Abs x w (by omega) (by omega))
        obtain ⟨v, hv⟩ : ∃ v, v = (if x < 0 then -x else x) := ⟨_, rfl⟩
        have hv2 : (v ≤ 1000000000000000 ∧ y ≤ 1000000000000000) := by rw [hv]; split <;> omega
        rw [← hv] at Hl
        clear hv
        go_wp2_with fail
        refine (Hl.out _).mono ?_
        rintro e w3 ⟨rfl, rfl⟩
        go_wp2
        all_goals first | exact bodyPost_ret (v := .tuple #[.int .i64 x, .int .i64 y, .bool true]) (by simp [results, Try.results27, go_sem]) rfl HE.out | (exfalso; simp at *; omega)
set_option maxHeartbeats 3200000 in
theorem impl_MoveFraction (a b c d p q : Int) (w : World) : Calls Try.prog 29 #[.agg #[.int .i64 a, .int .i64 b, .int .i64 c, .int .i64 d], .agg #[.int .i64 p, .int .i64 q]] w (MvE (mvAll a b c d p q) w) := by
  have hc := impl_IsMatrix a b c d
  cases hm : mxB a b c d
  · rw [hm] at hc
    have Hc := Lib.hid hc
    have hR : mvAll a b c d p q = (0, 0, false) := if_neg (by rw [hm]; simp)
    rw [hR]
    clear hc hm hR
    go_enter Try.func29, Try.ntmps29
    go_wp2_with fail
    refine (Hc.out _).mono ?_
    rintro e w1 ⟨rfl, hb1⟩
    have hd := mvE_no (R := (0, 0, false)) rfl ((below2 w _ _).trans (hb1.mono (by simp; omega)))
    clear hb1 Hc
    go_wp2
    exact bodyPost_ret (v := .tuple #[.int .i64 0, .int .i64 0, .bool false]) (by simp [results, Try.results29, go_sem]) rfl hd
  have hn := impl_IsFraction p q
  cases hq : nbB p q
  · rw [hm] at hc
    rw [hq] at hn
    have Hc := Lib.hid hc
    have Hn := Lib.hid hn
    have hR : mvAll a b c d p q = (0, 0, false) := if_neg (by rw [hq]; simp)
    rw [hR]
    clear hc hm hR hn hq
    go_enter Try.func29, Try.ntmps29
    go_wp2_with fail
    refine (Hc.out _).mono ?_
    rintro e w1 ⟨rfl, hb1⟩
    obtain ⟨hc1, hf1, hz1⟩ := bcell hb1
    have hy1 : w.heap.size + 1 < w1.heap.size := by simp at hz1; omega
    have hd := (below2 w _ _).trans (hb1.mono (by simp; omega))
    clear hb1 Hc
    go_wp2_with fail
    refine (Hn.out _).mono ?_
    rintro e w2 ⟨rfl, hb2⟩
    have hd2 := mvE_no (R := (0, 0, false)) rfl (below_kept hd (Nat.le_refl _) hb2)
    clear hb2 Hn
    go_wp2
    exact bodyPost_ret (v := .tuple #[.int .i64 0, .int .i64 0, .bool false]) (by simp [results, Try.results29, go_sem]) rfl hd2
  · rw [hm] at hc
    rw [hq] at hn
    have Hc := Lib.hid hc
    have Hn := Lib.hid hn
    have hR : mvAll a b c d p q = mvR (a * p + b * q) (c * p + d * q) := if_pos ⟨hm, hq⟩
    rw [hR]
    obtain ⟨⟨ba, bb, bc, bd⟩, -⟩ := mxB_iff.1 hm
    obtain ⟨bp, bq, -⟩ := nbB_iff.1 hq
    have P1 := prodBd (P := 1000000000) (Q := 1000000) ba (y := p) (by omega)
    have P2 := prodBd (P := 1000000000) (Q := 1000000) bb (y := q) (by omega)
    have P3 := prodBd (P := 1000000000) (Q := 1000000) bc (y := p) (by omega)
    have P4 := prodBd (P := 1000000000) (Q := 1000000) bd (y := q) (by omega)
    have Q1 : -1000000000000000 ≤ a * p ∧ a * p ≤ 1000000000000000 := by omega
    have Q2 : -1000000000000000 ≤ b * q ∧ b * q ≤ 1000000000000000 := by omega
    have Q3 : -1000000000000000 ≤ c * p ∧ c * p ≤ 1000000000000000 := by omega
    have Q4 : -1000000000000000 ≤ d * q ∧ d * q ≤ 1000000000000000 := by omega
    obtain ⟨q1, q2⟩ := Q1
    obtain ⟨q3, q4⟩ := Q2
    obtain ⟨q5, q6⟩ := Q3
    obtain ⟨q7, q8⟩ := Q4
    have wx : IntKind.i64.wrap (a * p + b * q) = a * p + b * q := IntWalk.i64_in _ (by omega)
    have wy : IntKind.i64.wrap (c * p + d * q) = c * p + d * q := IntWalk.i64_in _ (by omega)
    have w1' : IntKind.i64.wrap (a * p) = a * p := IntWalk.i64_in _ (by omega)
    have w2' : IntKind.i64.wrap (b * q) = b * q := IntWalk.i64_in _ (by omega)
    have w3' : IntKind.i64.wrap (c * p) = c * p := IntWalk.i64_in _ (by omega)
    have w4' : IntKind.i64.wrap (d * q) = d * q := IntWalk.i64_in _ (by omega)
    clear hc hm hR hn hq P1 P2 P3 P4 ba bb bc bd bp bq
    go_enter Try.func29, Try.ntmps29
    go_wp2_with fail
    refine (Hc.out _).mono ?_
    rintro e w1 ⟨rfl, hb1⟩
    obtain ⟨hc1, hf1, hz1⟩ := bcell hb1
    have hy1 : w.heap.size + 1 < w1.heap.size := by simp at hz1; omega
    have hy0 : w.heap.size < w1.heap.size := by omega
    have hd := (below2 w _ _).trans (hb1.mono (by simp; omega))
    have A := Bx.kept (by simp [Bx, go_sem] : Bx ((w.alloc (.cells #[.int .i64 a, .int .i64 b, .int .i64 c, .int .i64 d] 42)).alloc (.cells #[.int .i64 p, .int .i64 q] 25)) w.heap.size a b c d) hb1
    have B0 := cell_kept hb1 (by simp [go_sem] : ((w.alloc (.cells #[.int .i64 a, .int .i64 b, .int .i64 c, .int .i64 d] 42)).alloc (.cells #[.int .i64 p, .int .i64 q] 25)).cell? ⟨w.heap.size + 1, 0, none⟩ = some (.int .i64 p))
    have B1 := cell_kept hb1 (by simp [go_sem] : ((w.alloc (.cells #[.int .i64 a, .int .i64 b, .int .i64 c, .int .i64 d] 42)).alloc (.cells #[.int .i64 p, .int .i64 q] 25)).cell? ⟨w.heap.size + 1, 1, none⟩ = some (.int .i64 q))
    clear hb1 Hc hc1 hf1 hz1
    go_wp2_with fail
    refine (Hn.out _).mono ?_
    rintro e w2 ⟨rfl, hb2⟩
    replace A := A.kept hb2
    replace B0 := cell_kept hb2 B0
    replace B1 := cell_kept hb2 B1
    have Hd := Lib.hid (below_kept hd (Nat.le_refl _) hb2)
    obtain ⟨A0, A1, A2, A3⟩ := A
    clear hb2 Hn hd hy1 hy0
    go_upto_region 5 with fail
    clear A0 A1 A2 A3 B0 B1 wx wy w1' w2' w3' w4'
    have xb : -2000000000000000 ≤ a * p + b * q ∧ a * p + b * q ≤ 2000000000000000 := by omega
    have yb : -2000000000000000 ≤ c * p + d * q ∧ c * p + d * q ≤ 2000000000000000 := by omega
    obtain ⟨x1, x2⟩ := xb
    obtain ⟨y1, y2⟩ := yb
    clear q1 q2 q3 q4 q5 q6 q7 q8
    generalize a * p + b * q = x at *
    generalize c * p + d * q = y at *
    have h4 : y < 0 ∨ (y = 0 ∧ x < 0) ∨ (y = 0 ∧ 0 ≤ x) ∨ 0 < y := by omega
    rcases h4 with h | ⟨rfl, h⟩ | ⟨rfl, h⟩ | h
    · have E1 := Lib.hid (show mvN x y = (-x) by unfold mvN; rw [if_pos (by omega)])
      have E2 := Lib.hid (show mvD x y = (-y) by unfold mvD; rw [if_pos (by omega)])
      cases hk : mvOk (-x) (-y)
      · have hk2 : ¬ (-1000000000000000 ≤ (-x) ∧ (-x) ≤ 1000000000000000 ∧ (-y) ≤ 1000000000000000) := by unfold mvOk at hk; simpa using hk
        have HE := Lib.hid (mvE_no (mvR_no E1.out E2.out hk) (Hd.out))
        clear hk E1 E2
        go_wp2
        all_goals first | exact bodyPost_ret (v := .tuple #[.int .i64 0, .int .i64 0, .bool false]) (by simp [results, Try.results29, go_sem]) rfl HE.out | (exfalso; simp at *; omega)
      · have hk2 : (-1000000000000000 ≤ (-x) ∧ (-x) ≤ 1000000000000000 ∧ (-y) ≤ 1000000000000000) := by unfold mvOk at hk; simpa using hk
        have HE := Lib.hid (mvE_yes E1.out E2.out hk (Hd.out))
        clear hk E1 E2
        go_wp2
        all_goals first | exact bodyPost_ret (v := .tuple #[.int .i64 (-x), .int .i64 (-y), .bool true]) (by simp [results, Try.results29, go_sem]) rfl HE.out | (exfalso; simp at *; omega)
    · have E1 := Lib.hid (show mvN x 0 = (-x) by unfold mvN; rw [if_pos (by omega)])
      have E2 := Lib.hid (show mvD x 0 = 0 by unfold mvD; rw [if_pos (by omega)]; rfl)
      cases hk : mvOk (-x) 0
      · have hk2 : ¬ (-1000000000000000 ≤ (-x) ∧ (-x) ≤ 1000000000000000 ∧ 0 ≤ 1000000000000000) := by unfold mvOk at hk; simpa using hk
        have HE := Lib.hid (mvE_no (mvR_no E1.out E2.out hk) (Hd.out))
        clear hk E1 E2
        go_wp2
        all_goals first | exact bodyPost_ret (v := .tuple #[.int .i64 0, .int .i64 0, .bool false]) (by simp [results, Try.results29, go_sem]) rfl HE.out | (exfalso; simp at *; omega)
      · have hk2 : (-1000000000000000 ≤ (-x) ∧ (-x) ≤ 1000000000000000 ∧ 0 ≤ 1000000000000000) := by unfold mvOk at hk; simpa using hk
        have HE := Lib.hid (mvE_yes E1.out E2.out hk (Hd.out))
        clear hk E1 E2
        go_wp2
        all_goals first | exact bodyPost_ret (v := .tuple #[.int .i64 (-x), .int .i64 0, .bool true]) (by simp [results, Try.results29, go_sem]) rfl HE.out | (exfalso; simp at *; omega)
    · have E1 := Lib.hid (show mvN x 0 = x by unfold mvN; rw [if_neg (by omega)])
      have E2 := Lib.hid (show mvD x 0 = 0 by unfold mvD; rw [if_neg (by omega)])
      cases hk : mvOk x 0
      · have hk2 : ¬ (-1000000000000000 ≤ x ∧ x ≤ 1000000000000000 ∧ 0 ≤ 1000000000000000) := by unfold mvOk at hk; simpa using hk
        have HE := Lib.hid (mvE_no (mvR_no E1.out E2.out hk) (Hd.out))
        clear hk E1 E2
        go_wp2
        all_goals first | exact bodyPost_ret (v := .tuple #[.int .i64 0, .int .i64 0, .bool false]) (by simp [results, Try.results29, go_sem]) rfl HE.out | (exfalso; simp at *; omega)
      · have hk2 : (-1000000000000000 ≤ x ∧ x ≤ 1000000000000000 ∧ 0 ≤ 1000000000000000) := by unfold mvOk at hk; simpa using hk
        have HE := Lib.hid (mvE_yes E1.out E2.out hk (Hd.out))
        clear hk E1 E2
        go_wp2
        all_goals first | exact bodyPost_ret (v := .tuple #[.int .i64 x, .int .i64 0, .bool true]) (by simp [results, Try.results29, go_sem]) rfl HE.out | (exfalso; simp at *; omega)
    · have E1 := Lib.hid (show mvN x y = x by unfold mvN; rw [if_neg (by omega)])
      have E2 := Lib.hid (show mvD x y = y by unfold mvD; rw [if_neg (by omega)])
      cases hk : mvOk x y
      · have hk2 : ¬ (-1000000000000000 ≤ x ∧ x ≤ 1000000000000000 ∧ y ≤ 1000000000000000) := by unfold mvOk at hk; simpa using hk
        have HE := Lib.hid (mvE_no (mvR_no E1.out E2.out hk) (Hd.out))
        clear hk E1 E2
        go_wp2
        all_goals first | exact bodyPost_ret (v := .tuple #[.int .i64 0, .int .i64 0, .bool false]) (by simp [results, Try.results29, go_sem]) rfl HE.out | (exfalso; simp at *; omega)
      · have hk2 : (-1000000000000000 ≤ x ∧ x ≤ 1000000000000000 ∧ y ≤ 1000000000000000) := by unfold mvOk at hk; simpa using hk
        have HE := Lib.hid (mvE_yes E1.out E2.out hk (Hd.out))
        clear hk E1 E2
        go_wp2
        all_goals first | exact bodyPost_ret (v := .tuple #[.int .i64 x, .int .i64 y, .bool true]) (by simp [results, Try.results29, go_sem]) rfl HE.out | (exfalso; simp at *; omega)
theorem WMoveFraction.walk (w : World) (a b c d p q : Int) : Calls Try.prog 8 #[.agg #[.int .i64 a, .int .i64 b, .int .i64 c, .int .i64 d], .agg #[.int .i64 p, .int .i64 q]] w fun e w' => e = .returned (.bool true) ∧ Below w.heap.size w w' :=
  WMoveFraction.core w a b c d p q _ _ _ (Lib.hid (spec_MoveFraction a b c d p q)) (Lib.hid (impl_MoveFraction a b c d p q))
end Go.Proofs.Ytaifgfmkkgndkaa
