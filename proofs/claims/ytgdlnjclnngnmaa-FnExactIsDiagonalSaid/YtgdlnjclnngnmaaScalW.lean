/- Walks of the laws of chapter 1 that have numbers and single diagonals as arguments: IsDiagonal, DoCross. -/
import Derived.Test.YtgdlnjclnngnmaaDiag
import Derived.Deep.RegionHeld3
namespace Go.Proofs.Ytgdlnjclnngnmaa
open Go.RowKit

theorem spec_IsDiagonal (n lo hi : Int) (w : World) :
    Calls Try.prog 15 #[.int .i64 n, .agg #[.int .i64 lo, .int .i64 hi]] w fun e w' => e = .returned (.bool (dgB n lo hi)) ∧ Below w.heap.size w w' := by
  go_enter Try.func15, Try.ntmps15
  go_wp2_with (go_at_call 52; ((with_reducible refine (spec_poDiagonal n lo hi _).mono ?_); rintro e w1 ⟨rfl, hb1⟩))
  go_ret
  exact ⟨rfl, ((Below.refl _ _).alloc (Nat.le_refl _) _).trans (hb1.mono (by simp))⟩

theorem WIsDiagonal.walk (n : Int) (wn : (Lit.int .i64 n).wf = true) (lo hi : Int) (w : World) :
    Calls Try.prog 3 #[.int .i64 n, .agg #[.int .i64 lo, .int .i64 hi]] w fun e w' => e = .returned (.bool true) ∧ Below w.heap.size w w' := by
  go_enter Try.func3, Try.ntmps3
  go_wp2_with fail
  refine (laws_toDiagonal lo hi _).mono ?_
  rintro e w1 ⟨rfl, hb1⟩
  obtain ⟨hc1, hf1, hz1⟩ := bcell hb1
  have hy1 : w.heap.size < w1.heap.size := by simp at hz1; omega
  have hd1 := ((Below.refl w.heap.size w).alloc (Nat.le_refl _) _).trans (hb1.mono (by simp))
  clear hb1
  go_wp2_with fail
  refine (spec_IsDiagonal n lo hi _).mono ?_
  rintro e w2 ⟨rfl, hb2⟩
  obtain ⟨hc2, hf2, hz2⟩ := bcell hb2
  have hd2 := hd1.trans (hb2.mono (by omega))
  clear hb2 hd1
  go_wp2_with fail
  refine (laws_toDiagonal lo hi _).mono ?_
  rintro e w3 ⟨rfl, hb3⟩
  have hd3 := hd2.trans (hb3.mono (by omega))
  go_wp2_with fail
  refine (impl_IsDiagonal n lo hi _).mono ?_
  rintro e w4 ⟨rfl, hb4⟩
  have hd4 := hd3.trans (hb4.mono (by have := hb3.size; omega))
  clear hc1 hc2 hf1 hf2 hb3 hb4 hd2 hd3
  go_wp2
  go_ret
  exact ⟨rfl, hd4⟩

/-- both are diagonals -/
def dg2B (n a b c d : Int) : Bool := dgB n a b && dgB n c d

theorem spec_DoCross (n a b c d : Int) (w : World) :
    Calls Try.prog 18 #[.int .i64 n, .agg #[.int .i64 a, .int .i64 b], .agg #[.int .i64 c, .int .i64 d]] w fun e w' =>
      e = .returned (.tuple #[.bool (dg2B n a b c d && crB a b c d), .bool (dg2B n a b c d)]) ∧ Below w.heap.size w w' := by
  go_enter Try.func18, Try.ntmps18
  go_wp2_with fail
  refine (spec_poDiagonal n a b _).mono ?_
  rintro e w1 ⟨rfl, hb1⟩
  obtain ⟨hc1, hf1, hz1⟩ := bcell hb1
  have hy1 : w.heap.size + 1 < w1.heap.size := by simp at hz1; omega
  have hy0 : w.heap.size < w1.heap.size := by omega
  have hd1 := (((Below.refl w.heap.size w).alloc (Nat.le_refl _) _).alloc (by simp) _).trans (hb1.mono (by simp; omega))
  clear hb1
  cases h1 : dgB n a b
  · go_wp2
    go_ret2
    simp [dg2B, h1, hd1]
  · go_wp2_with fail
    refine (spec_poDiagonal n c d _).mono ?_
    rintro e w2 ⟨rfl, hb2⟩
    obtain ⟨hc2, hf2, hz2⟩ := bcell hb2
    have hd2 := hd1.trans (hb2.mono (by omega))
    clear hb2 hd1
    cases h2 : dgB n c d
    · go_wp2
      go_ret2
      simp [dg2B, h1, h2, hd2]
    · go_wp2_with fail
      refine (spec_poCross a b c d _).mono ?_
      rintro e w3 ⟨rfl, hb3⟩
      have hd3 := hd2.trans (hb3.mono (by omega))
      clear hb3 hd2
      go_wp2
      go_ret2
      simp [dg2B, h1, h2, hd3]

theorem impl_DoCross (n a b c d : Int) (w : World) :
    Calls Try.prog 19 #[.int .i64 n, .agg #[.int .i64 a, .int .i64 b], .agg #[.int .i64 c, .int .i64 d]] w fun e w' =>
      e = .returned (.tuple #[.bool (dg2B n a b c d && crB a b c d), .bool (dg2B n a b c d)]) ∧ Below w.heap.size w w' := by
  go_enter Try.func19, Try.ntmps19
  go_wp2_with fail
  refine (impl_IsDiagonal n a b _).mono ?_
  rintro e w1 ⟨rfl, hb1⟩
  obtain ⟨hc1, hf1, hz1⟩ := bcell hb1
  have hy1 : w.heap.size + 1 < w1.heap.size := by simp at hz1; omega
  have hy0 : w.heap.size < w1.heap.size := by omega
  have hd1 := (((Below.refl w.heap.size w).alloc (Nat.le_refl _) _).alloc (by simp) _).trans (hb1.mono (by simp; omega))
  clear hb1
  cases h1 : dgB n a b
  · go_wp2
    go_ret2
    simp [dg2B, h1, hd1]
  · go_wp2_with fail
    refine (impl_IsDiagonal n c d _).mono ?_
    rintro e w2 ⟨rfl, hb2⟩
    obtain ⟨hc2, hf2, hz2⟩ := bcell hb2
    have hd2 := hd1.trans (hb2.mono (by omega))
    clear hb2 hd1
    cases h2 : dgB n c d
    · go_wp2
      go_ret2
      simp [dg2B, h1, h2, hd2]
    · go_wp2_with fail
      refine (impl_cross a b c d _).mono ?_
      rintro e w3 ⟨rfl, hb3⟩
      have hd3 := hd2.trans (hb3.mono (by omega))
      clear hb3 hd2
      go_wp2
      go_ret2
      simp [dg2B, h1, h2, hd3]

theorem WDoCross.walk (n : Int) (wn : (Lit.int .i64 n).wf = true) (a b c d : Int) (w : World) :
    Calls Try.prog 4 #[.int .i64 n, .agg #[.int .i64 a, .int .i64 b], .agg #[.int .i64 c, .int .i64 d]] w fun e w' => e = .returned (.bool true) ∧ Below w.heap.size w w' := by
  go_enter Try.func4, Try.ntmps4
  go_wp2_with fail
  go_region_held3 (fun w' => w'.cell? ⟨w.heap.size, 0, none⟩ = some (.int .i64 a) ∧ w'.cell? ⟨w.heap.size, 1, none⟩ = some (.int .i64 b) ∧
      w'.cell? ⟨w.heap.size + 1, 0, none⟩ = some (.int .i64 c) ∧ w'.cell? ⟨w.heap.size + 1, 1, none⟩ = some (.int .i64 d) ∧ Below w.heap.size w w' ∧ w.heap.size + 2 ≤ w'.heap.size)
    (first
      | exact Two.kept (by assumption) hb1
      | exact ⟨by simp [go_sem], by simp [go_sem], by simp [go_sem], by simp [go_sem], (((Below.refl w.heap.size w).alloc (Nat.le_refl _) _).alloc (by simp) _).drew, by simp⟩)
    (first
      | (go_at_call 16; refine (laws_toDiagonal _ _ _).mono ?_; rintro e w1 ⟨rfl, hb1⟩)
      | (go_at_call 18; refine (spec_DoCross _ _ _ _ _ _).mono ?_; rintro e w1 ⟨rfl, hb1⟩))
  rename_i hS
  clear hb1
  go_wp2_with fail
  go_region_held3 (fun w' => w'.cell? ⟨w.heap.size, 0, none⟩ = some (.int .i64 a) ∧ w'.cell? ⟨w.heap.size, 1, none⟩ = some (.int .i64 b) ∧
      w'.cell? ⟨w.heap.size + 1, 0, none⟩ = some (.int .i64 c) ∧ w'.cell? ⟨w.heap.size + 1, 1, none⟩ = some (.int .i64 d) ∧ Below w.heap.size w w' ∧ w.heap.size + 2 ≤ w'.heap.size)
    (first
      | exact Two.kept (by assumption) hb1
      | exact Two.drew hS)
    (first
      | (go_at_call 16; refine (laws_toDiagonal _ _ _).mono ?_; rintro e w1 ⟨rfl, hb1⟩)
      | (go_at_call 19; refine (impl_DoCross _ _ _ _ _ _).mono ?_; rintro e w1 ⟨rfl, hb1⟩))
  rename_i hT
  clear hb1 hS
  go_wp2_with fail
  go_ret
  exact ⟨rfl, hT.2.2.2.2.1⟩

end Go.Proofs.Ytgdlnjclnngnmaa
