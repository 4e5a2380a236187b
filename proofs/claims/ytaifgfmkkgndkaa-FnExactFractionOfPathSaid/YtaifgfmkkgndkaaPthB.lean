/- The program's parents of a path: child, letterTo, behind, firstParents. -/
import Derived.Test.YtaifgfmkkgndkaaMedW
import Derived.Test.YtaifgfmkkgndkaaBx4
import Derived.Test.YtaifgfmkkgndkaaKept
import Derived.Deep.RegionHeld3
import Derived.Deep.DeepCutAuto
namespace Go.Proofs.Ytaifgfmkkgndkaa
set_option linter.unusedVariables false
open Go.RowKit

theorem impl_firstParents (w : World) : Calls Try.prog 71 #[] w fun e w' => e = .returned (.agg #[.int .i64 0, .int .i64 1, .int .i64 1, .int .i64 0]) ∧ Below w.heap.size w w' := by
  go_enter Try.func71, Try.ntmps71
  go_wp2
  exact bodyPost_ret (v := .agg #[.int .i64 0, .int .i64 1, .int .i64 1, .int .i64 0]) (by simp [results, Try.results71, go_sem]) rfl ⟨rfl, below_one _ _⟩

set_option maxHeartbeats 800000 in
theorem impl_child (a b c d : Int) (w : World) (ha : Sm a) (hb : Sm b) (hc : Sm c) (hd : Sm d) :
    Calls Try.prog 72 #[.agg #[.int .i64 a, .int .i64 b, .int .i64 c, .int .i64 d]] w fun e w' => e = .returned (.agg #[.int .i64 (a + c), .int .i64 (b + d)]) ∧ Below w.heap.size w w' := by
  have H := Lib.hid (fun w => impl_plus a b c d w ha hb hc hd)
  clear ha hb hc hd
  generalize a + c = m at *
  generalize b + d = n at *
  go_enter Try.func72, Try.ntmps72
  go_wp2_with fail
  refine (H.out _).mono ?_
  rintro e w1 ⟨rfl, hb1⟩
  have R := (show Bx2 ((w.alloc (.cells #[.int .i64 a, .int .i64 b, .int .i64 c, .int .i64 d] 77)).alloc (.cells #[.int .i64 0, .int .i64 0] 25)) (w.heap.size + 1) 0 0 by
    have h := Bx2.new (w.alloc (.cells #[.int .i64 a, .int .i64 b, .int .i64 c, .int .i64 d] 77)) 25 0 0
    simpa using h).kept hb1
  have hd := below_kept (below_two w (.cells #[.int .i64 a, .int .i64 b, .int .i64 c, .int .i64 d] 77) (.cells #[.int .i64 0, .int .i64 0] 25)) (Nat.le_refl _) hb1
  have HD := Lib.hid hd
  have k := R.lt
  obtain ⟨⟨r0, r1⟩, r2, r3⟩ := R
  clear hb1 hd H
  go_wp2
  exact bodyPost_ret (v := .agg #[.int .i64 m, .int .i64 n]) (by simp [results, Try.results72, go_sem, r0, r1]) rfl ⟨rfl, below_setP HD.out (by omega)⟩
set_option maxHeartbeats 1600000 in
theorem impl_letterTo_l (a b c d p q : Int) (w : World) (ha : Sm a) (hb : Sm b) (hc : Sm c) (hd : Sm d) (hm : Sm (a + c)) (hn : Sm (b + d)) (hp : Sm p) (hq : Sm q) (h : 0 < crs (p, q) (a + c, b + d)) :
    Calls Try.prog 73 #[.agg #[.int .i64 a, .int .i64 b, .int .i64 c, .int .i64 d], .agg #[.int .i64 p, .int .i64 q]] w fun e w' => e = .returned (.int .u8 108) ∧ Below w.heap.size w w' := by
  have H := Lib.hid (fun w => impl_child a b c d w ha hb hc hd)
  have HC := Lib.hid (fun w => impl_crossF p q (a + c) (b + d) w hp hq hm hn)
  clear ha hb hc hd hm hn hp hq
  generalize crs (p, q) (a + c, b + d) = x at *
  generalize a + c = m at *
  generalize b + d = n at *
  go_enter Try.func73, Try.ntmps73
  go_wp2_with fail
  go_region_held3 (fun w' => w'.cell? ⟨w.heap.size, 0, none⟩ = some (.int .i64 a) ∧ w'.cell? ⟨w.heap.size, 1, none⟩ = some (.int .i64 b) ∧ w'.cell? ⟨w.heap.size, 2, none⟩ = some (.int .i64 c) ∧ w'.cell? ⟨w.heap.size, 3, none⟩ = some (.int .i64 d) ∧ w'.cell? ⟨w.heap.size + 1, 0, none⟩ = some (.int .i64 p) ∧ w'.cell? ⟨w.heap.size + 1, 1, none⟩ = some (.int .i64 q) ∧ Below w.heap.size w w')
    (first
      | with_reducible exact keptB6 (by assumption) hb1 (Nat.le_refl _)
      | exact ⟨by simp [go_sem], by simp [go_sem], by simp [go_sem], by simp [go_sem], by simp [go_sem], by simp [go_sem], (below_two w _ _).drew⟩)
    (first
      | (go_at_call 72; refine (H.out _).mono ?_; rintro e w1 ⟨rfl, hb1⟩)
      | (go_at_call 52; refine (HC.out _).mono ?_; rintro e w1 ⟨rfl, hb1⟩))
  rename_i hS
  have HD := Lib.hid hS.2.2.2.2.2.2
  clear hS hb1 H HC
  go_wp2
  go_ret
  exact ⟨rfl, HD.out⟩
set_option maxHeartbeats 1600000 in
theorem impl_letterTo_r (a b c d p q : Int) (w : World) (ha : Sm a) (hb : Sm b) (hc : Sm c) (hd : Sm d) (hm : Sm (a + c)) (hn : Sm (b + d)) (hp : Sm p) (hq : Sm q) (h : ¬ 0 < crs (p, q) (a + c, b + d)) :
    Calls Try.prog 73 #[.agg #[.int .i64 a, .int .i64 b, .int .i64 c, .int .i64 d], .agg #[.int .i64 p, .int .i64 q]] w fun e w' => e = .returned (.int .u8 114) ∧ Below w.heap.size w w' := by
  have H := Lib.hid (fun w => impl_child a b c d w ha hb hc hd)
  have HC := Lib.hid (fun w => impl_crossF p q (a + c) (b + d) w hp hq hm hn)
  clear ha hb hc hd hm hn hp hq
  generalize crs (p, q) (a + c, b + d) = x at *
  generalize a + c = m at *
  generalize b + d = n at *
  go_enter Try.func73, Try.ntmps73
  go_wp2_with fail
  go_region_held3 (fun w' => w'.cell? ⟨w.heap.size, 0, none⟩ = some (.int .i64 a) ∧ w'.cell? ⟨w.heap.size, 1, none⟩ = some (.int .i64 b) ∧ w'.cell? ⟨w.heap.size, 2, none⟩ = some (.int .i64 c) ∧ w'.cell? ⟨w.heap.size, 3, none⟩ = some (.int .i64 d) ∧ w'.cell? ⟨w.heap.size + 1, 0, none⟩ = some (.int .i64 p) ∧ w'.cell? ⟨w.heap.size + 1, 1, none⟩ = some (.int .i64 q) ∧ Below w.heap.size w w')
    (first
      | with_reducible exact keptB6 (by assumption) hb1 (Nat.le_refl _)
      | exact ⟨by simp [go_sem], by simp [go_sem], by simp [go_sem], by simp [go_sem], by simp [go_sem], by simp [go_sem], (below_two w _ _).drew⟩)
    (first
      | (go_at_call 72; refine (H.out _).mono ?_; rintro e w1 ⟨rfl, hb1⟩)
      | (go_at_call 52; refine (HC.out _).mono ?_; rintro e w1 ⟨rfl, hb1⟩))
  rename_i hS
  have HD := Lib.hid hS.2.2.2.2.2.2
  clear hS hb1 H HC
  go_wp2
  go_ret
  exact ⟨rfl, HD.out⟩
theorem keep4 {w w1 : World} {a b c d : Int} (A : Bx4 w1 w.heap.size a b c d) (D : Below w.heap.size w w1) (v0 v1 v2 v3 : Value) :
    ((((w1.setCell ⟨w.heap.size + 1, 0, none⟩ v0).setCell ⟨w.heap.size + 1, 1, none⟩ v1).setCell ⟨w.heap.size + 1, 2, none⟩ v2).setCell ⟨w.heap.size + 1, 3, none⟩ v3).cell? ⟨w.heap.size, 0, none⟩ = some (.int .i64 a) ∧
    ((((w1.setCell ⟨w.heap.size + 1, 0, none⟩ v0).setCell ⟨w.heap.size + 1, 1, none⟩ v1).setCell ⟨w.heap.size + 1, 2, none⟩ v2).setCell ⟨w.heap.size + 1, 3, none⟩ v3).cell? ⟨w.heap.size, 1, none⟩ = some (.int .i64 b) ∧
    ((((w1.setCell ⟨w.heap.size + 1, 0, none⟩ v0).setCell ⟨w.heap.size + 1, 1, none⟩ v1).setCell ⟨w.heap.size + 1, 2, none⟩ v2).setCell ⟨w.heap.size + 1, 3, none⟩ v3).cell? ⟨w.heap.size, 2, none⟩ = some (.int .i64 c) ∧
    ((((w1.setCell ⟨w.heap.size + 1, 0, none⟩ v0).setCell ⟨w.heap.size + 1, 1, none⟩ v1).setCell ⟨w.heap.size + 1, 2, none⟩ v2).setCell ⟨w.heap.size + 1, 3, none⟩ v3).cell? ⟨w.heap.size, 3, none⟩ = some (.int .i64 d) ∧
    Below w.heap.size w ((((w1.setCell ⟨w.heap.size + 1, 0, none⟩ v0).setCell ⟨w.heap.size + 1, 1, none⟩ v1).setCell ⟨w.heap.size + 1, 2, none⟩ v2).setCell ⟨w.heap.size + 1, 3, none⟩ v3) := by
  have h := (((A.setFar (show w.heap.size + 1 ≠ w.heap.size by omega) (o := 0) v0).setFar (show w.heap.size + 1 ≠ w.heap.size by omega) (o := 1) v1).setFar (show w.heap.size + 1 ≠ w.heap.size by omega) (o := 2) v2).setFar (show w.heap.size + 1 ≠ w.heap.size by omega) (o := 3) v3
  refine ⟨h.1.1, h.1.2.1, h.1.2.2.1, h.1.2.2.2, ?_⟩
  exact (((D.setCell (p := ⟨w.heap.size + 1, 0, none⟩) (by show w.heap.size ≤ w.heap.size + 1; omega) _).setCell (p := ⟨w.heap.size + 1, 1, none⟩) (by show w.heap.size ≤ w.heap.size + 1; omega) _).setCell (p := ⟨w.heap.size + 1, 2, none⟩) (by show w.heap.size ≤ w.heap.size + 1; omega) _).setCell (p := ⟨w.heap.size + 1, 3, none⟩) (by show w.heap.size ≤ w.heap.size + 1; omega) _
set_option maxRecDepth 100000 in
set_option maxHeartbeats 3200000 in
theorem impl_behind_l (a b c d : Int) (w : World) (ha : Sm a) (hb : Sm b) (hc : Sm c) (hd : Sm d) :
    Calls Try.prog 74 #[.agg #[.int .i64 a, .int .i64 b, .int .i64 c, .int .i64 d], .int .u8 108] w fun e w' => e = .returned (.tuple #[.agg #[.int .i64 a, .int .i64 b, .int .i64 (a + c), .int .i64 (b + d)], .bool true]) ∧ Below w.heap.size w w' := by
  have H := Lib.hid (fun w => impl_child a b c d w ha hb hc hd)
  clear ha hb hc hd
  generalize a + c = m at *
  generalize b + d = n at *
  go_enter Try.func74, Try.ntmps74
  go_upto_region 3 with fail
  obtain ⟨wa, hwa⟩ : ∃ wa, wa = (w.alloc (.cells #[.int .i64 a, .int .i64 b, .int .i64 c, .int .i64 d] 77)).alloc (.cells #[.int .i64 0, .int .i64 0, .int .i64 0, .int .i64 0] 77) := ⟨_, rfl⟩
  have A : Bx4 wa w.heap.size a b c d := by rw [hwa]; exact (Bx4.new w _ a b c d).alloc _
  have R : Bx4 wa (w.heap.size + 1) 0 0 0 0 := by
    rw [hwa]
    have h := Bx4.new (w.alloc (.cells #[.int .i64 a, .int .i64 b, .int .i64 c, .int .i64 d] 77)) 77 0 0 0 0
    simpa using h
  have hd : Below w.heap.size w wa := by rw [hwa]; exact below_two _ _ _
  rw [← hwa]
  clear hwa
  have HA := Lib.hid A
  have HR := Lib.hid R
  have Hd := Lib.hid hd
  have hS0 := Lib.hid (And.intro A.1.1 (And.intro A.1.2.1 (And.intro A.1.2.2.1 (And.intro A.1.2.2.2 hd))))
  clear A R hd
  go_region_held3 (fun w' => w'.cell? ⟨w.heap.size, 0, none⟩ = some (.int .i64 a) ∧ w'.cell? ⟨w.heap.size, 1, none⟩ = some (.int .i64 b) ∧ w'.cell? ⟨w.heap.size, 2, none⟩ = some (.int .i64 c) ∧ w'.cell? ⟨w.heap.size, 3, none⟩ = some (.int .i64 d) ∧ Below w.heap.size w w')
    (first
      | with_reducible exact keptB4 (by assumption) hb1 (Nat.le_refl _)
      | with_reducible exact drewB4 hS0.out
      | with_reducible exact keep4 A1 D1 _ _ _ _)
    (first
      | (go_at_call 72; refine (H.out _).mono ?_; rintro e w1 ⟨rfl, hb1⟩; (have R1 := Bx4.kept (Bx4.drew HR.out) hb1); (have A1 := Bx4.kept (Bx4.drew HA.out) hb1); (have D1 := below_kept Hd.out.drew (Nat.le_refl _) hb1); obtain ⟨⟨r0, r1, r2, r3⟩, f0, f1, f2, f3⟩ := id R1; have rl := R1.lt))
  all_goals (
    rename_i hS
    have HD := Lib.hid hS.2.2.2.2
    clear hS
    go_wp2
    exact bodyPost_ret (v := .tuple #[.agg #[.int .i64 a, .int .i64 b, .int .i64 m, .int .i64 n], .bool true]) (by simp [results, Try.results74, go_sem, r0, r1, r2, r3]) rfl ⟨rfl, HD.out⟩)
set_option maxRecDepth 100000 in
set_option maxHeartbeats 3200000 in
theorem impl_behind_r (a b c d : Int) (w : World) (ha : Sm a) (hb : Sm b) (hc : Sm c) (hd : Sm d) :
    Calls Try.prog 74 #[.agg #[.int .i64 a, .int .i64 b, .int .i64 c, .int .i64 d], .int .u8 114] w fun e w' => e = .returned (.tuple #[.agg #[.int .i64 (a + c), .int .i64 (b + d), .int .i64 c, .int .i64 d], .bool true]) ∧ Below w.heap.size w w' := by
  have H := Lib.hid (fun w => impl_child a b c d w ha hb hc hd)
  clear ha hb hc hd
  generalize a + c = m at *
  generalize b + d = n at *
  go_enter Try.func74, Try.ntmps74
  go_upto_region 5 with fail
  obtain ⟨wa, hwa⟩ : ∃ wa, wa = (w.alloc (.cells #[.int .i64 a, .int .i64 b, .int .i64 c, .int .i64 d] 77)).alloc (.cells #[.int .i64 0, .int .i64 0, .int .i64 0, .int .i64 0] 77) := ⟨_, rfl⟩
  have A : Bx4 wa w.heap.size a b c d := by rw [hwa]; exact (Bx4.new w _ a b c d).alloc _
  have R : Bx4 wa (w.heap.size + 1) 0 0 0 0 := by
    rw [hwa]
    have h := Bx4.new (w.alloc (.cells #[.int .i64 a, .int .i64 b, .int .i64 c, .int .i64 d] 77)) 77 0 0 0 0
    simpa using h
  have hd : Below w.heap.size w wa := by rw [hwa]; exact below_two _ _ _
  rw [← hwa]
  clear hwa
  have HA := Lib.hid A
  have HR := Lib.hid R
  have Hd := Lib.hid hd
  have hS0 := Lib.hid (And.intro A.1.1 (And.intro A.1.2.1 (And.intro A.1.2.2.1 (And.intro A.1.2.2.2 hd))))
  clear A R hd
  go_region_held3 (fun w' => w'.cell? ⟨w.heap.size, 0, none⟩ = some (.int .i64 a) ∧ w'.cell? ⟨w.heap.size, 1, none⟩ = some (.int .i64 b) ∧ w'.cell? ⟨w.heap.size, 2, none⟩ = some (.int .i64 c) ∧ w'.cell? ⟨w.heap.size, 3, none⟩ = some (.int .i64 d) ∧ Below w.heap.size w w')
    (first
      | with_reducible exact keptB4 (by assumption) hb1 (Nat.le_refl _)
      | with_reducible exact drewB4 hS0.out
      | with_reducible exact keep4 A1 D1 _ _ _ _)
    (first
      | (go_at_call 72; refine (H.out _).mono ?_; rintro e w1 ⟨rfl, hb1⟩; (have R1 := Bx4.kept (Bx4.drew HR.out) hb1); (have A1 := Bx4.kept (Bx4.drew HA.out) hb1); (have D1 := below_kept Hd.out.drew (Nat.le_refl _) hb1); obtain ⟨⟨r0, r1, r2, r3⟩, f0, f1, f2, f3⟩ := id R1; have rl := R1.lt))
  all_goals (
    rename_i hS
    have HD := Lib.hid hS.2.2.2.2
    clear hS
    go_wp2
    exact bodyPost_ret (v := .tuple #[.agg #[.int .i64 m, .int .i64 n, .int .i64 c, .int .i64 d], .bool true]) (by simp [results, Try.results74, go_sem, r0, r1, r2, r3]) rfl ⟨rfl, HD.out⟩)
set_option maxHeartbeats 1600000 in
theorem impl_behind_no (a b c d z : Int) (w : World) (h1 : z ≠ 108) (h2 : z ≠ 114) :
    Calls Try.prog 74 #[.agg #[.int .i64 a, .int .i64 b, .int .i64 c, .int .i64 d], .int .u8 z] w fun e w' => e = .returned (.tuple #[.agg #[.int .i64 0, .int .i64 0, .int .i64 0, .int .i64 0], .bool false]) ∧ Below w.heap.size w w' := by
  have e1 : (z == 108) = false := by simpa using h1
  have e2 : (z == 114) = false := by simpa using h2
  go_enter Try.func74, Try.ntmps74
  go_wp2
  exact bodyPost_ret (v := .tuple #[.agg #[.int .i64 0, .int .i64 0, .int .i64 0, .int .i64 0], .bool false]) (by simp [results, Try.results74, go_sem]) rfl ⟨rfl, by first | exact below_two _ _ _ | exact below_put4 (below_two _ _ _) (by simp) _ _ _ _⟩
end Go.Proofs.Ytaifgfmkkgndkaa
