/- Contracts of the functions of chapter 1 that only compute with numbers: corners, diagonals, crossings; no conditions. -/
import Derived.Test.YtbpaaoeefcebeabRows
import Derived.Test.YtbpaaoeefcebeabMem
import Derived.Test.YtbpaaoeefcebeabRows
import Derived.WalkKit
import Derived.Outline
import Derived.WalkLawsBesides
namespace Go.Proofs.Ytbpaaoeefcebeab
set_option linter.unusedVariables false
open Go.RowKit

theorem ret_bool {a b : Bool} (h : a = b) : Ending.returned (.bool a) = .returned (.bool b) := by rw [h]
theorem ret_int {k : IntKind} {a b : Int} (h : a = b) : Ending.returned (.int k a) = .returned (.int k b) := by rw [h]

/-- a number of corners -/
def poB (n : Int) : Bool := decide (3 ≤ n ∧ n ≤ 12)
/-- within bounds -/
def inB (n lo hi : Int) : Bool := decide (lo ≤ n ∧ n ≤ hi)
/-- a diagonal of a polygon of n corners -/
def dgB (n lo hi : Int) : Bool := decide (3 ≤ n ∧ n ≤ 12 ∧ 0 ≤ lo ∧ hi < n ∧ 2 ≤ hi - lo ∧ hi - lo ≤ n - 2)
/-- two diagonals that cross -/
def crB (a b c d : Int) : Bool := decide ((a < c ∧ c < b ∧ b < d) ∨ (c < a ∧ a < d ∧ d < b))
/-- one diagonal comes before another one -/
def ltB (a b c d : Int) : Bool := decide (a < c ∨ (a = c ∧ b < d))

theorem dgB_iff {n lo hi : Int} : dgB n lo hi = true ↔ (3 ≤ n ∧ n ≤ 12 ∧ 0 ≤ lo ∧ hi < n ∧ 2 ≤ hi - lo ∧ hi - lo ≤ n - 2) := by unfold dgB; simp

theorem spec_poDiagonal (n lo hi : Int) (w : World) :
    Calls Try.prog 93 #[.int .i64 n, .agg #[.int .i64 lo, .int .i64 hi]] w fun e w' => e = .returned (.bool (dgB n lo hi)) ∧ Below w.heap.size w w' := by
  go_enter Try.func93, Try.ntmps93
  go_wp2
  all_goals go_ret
  all_goals refine ⟨ret_bool ?_, (Below.refl _ _).alloc (Nat.le_refl _) _⟩
  all_goals (unfold dgB; rw [Bool.eq_iff_iff]; simp; try omega)

theorem impl_isPolygon (n : Int) (b : Bool) (w : World) (h : poB n = b) :
    Calls Try.prog 97 #[.int .i64 n] w fun e w' => e = .returned (.bool b) ∧ w = w' := by
  subst h
  go_enter Try.func97, Try.ntmps97
  go_wp2
  all_goals go_ret
  all_goals refine ⟨ret_bool ?_, rfl⟩
  all_goals (unfold poB; rw [Bool.eq_iff_iff]; simp; try omega)

theorem impl_isCorner (n c : Int) (b : Bool) (w : World) (h : inB c 0 (n - 1) = b) :
    Calls Try.prog 152 #[.int .i64 n, .int .i64 c] w fun e w' => e = .returned (.bool b) ∧ w = w' := by
  subst h
  go_enter Try.func152, Try.ntmps152
  go_wp2
  all_goals go_ret
  all_goals refine ⟨ret_bool ?_, rfl⟩
  all_goals (unfold inB; rw [Bool.eq_iff_iff]; simp; try omega)

theorem impl_IsDiagonal (n lo hi : Int) (w : World) :
    Calls Try.prog 125 #[.int .i64 n, .agg #[.int .i64 lo, .int .i64 hi]] w fun e w' => e = .returned (.bool (dgB n lo hi)) ∧ Below w.heap.size w w' := by
  by_cases h1 : 3 ≤ n ∧ n ≤ 12
  · have k1 : poB n = true := by unfold poB; simpa using h1
    obtain ⟨_, _⟩ := h1
    by_cases h2 : 0 ≤ lo ∧ lo < n
    · have k2 : inB lo 0 (n - 1) = true := by unfold inB; simp; omega
      obtain ⟨_, _⟩ := h2
      by_cases h3 : 0 ≤ hi ∧ hi < n
      · have k3 : inB hi 0 (n - 1) = true := by unfold inB; simp; omega
        obtain ⟨_, _⟩ := h3
        go_enter Try.func125, Try.ntmps125
        go_wp2_with (first
          | (go_at_call 97; ((with_reducible refine (impl_isPolygon _ _ _ k1).mono ?_); rintro e w' ⟨rfl, rfl⟩))
          | (go_at_call 152; ((with_reducible refine (impl_isCorner _ _ _ _ k2).mono ?_); rintro e w' ⟨rfl, rfl⟩))
          | (go_at_call 152; ((with_reducible refine (impl_isCorner _ _ _ _ k3).mono ?_); rintro e w' ⟨rfl, rfl⟩)))
        all_goals go_ret
        all_goals refine ⟨ret_bool ?_, (Below.refl _ _).alloc (Nat.le_refl _) _⟩
        all_goals (unfold dgB; rw [Bool.eq_iff_iff]; simp; try omega)
      · have k3 : inB hi 0 (n - 1) = false := by unfold inB; simp; omega
        have kk : dgB n lo hi = false := by unfold dgB; simp; omega
        go_enter Try.func125, Try.ntmps125
        go_wp2_with (first
          | (go_at_call 97; ((with_reducible refine (impl_isPolygon _ _ _ k1).mono ?_); rintro e w' ⟨rfl, rfl⟩))
          | (go_at_call 152; ((with_reducible refine (impl_isCorner _ _ _ _ k2).mono ?_); rintro e w' ⟨rfl, rfl⟩))
          | (go_at_call 152; ((with_reducible refine (impl_isCorner _ _ _ _ k3).mono ?_); rintro e w' ⟨rfl, rfl⟩)))
        all_goals go_ret
        all_goals exact ⟨ret_bool kk.symm, (Below.refl _ _).alloc (Nat.le_refl _) _⟩
    · have k2 : inB lo 0 (n - 1) = false := by unfold inB; simp; omega
      have kk : dgB n lo hi = false := by unfold dgB; simp; omega
      go_enter Try.func125, Try.ntmps125
      go_wp2_with (first
        | (go_at_call 97; ((with_reducible refine (impl_isPolygon _ _ _ k1).mono ?_); rintro e w' ⟨rfl, rfl⟩))
        | (go_at_call 152; ((with_reducible refine (impl_isCorner _ _ _ _ k2).mono ?_); rintro e w' ⟨rfl, rfl⟩)))
      all_goals go_ret
      all_goals exact ⟨ret_bool kk.symm, (Below.refl _ _).alloc (Nat.le_refl _) _⟩
  · have k1 : poB n = false := by unfold poB; simp; omega
    have kk : dgB n lo hi = false := by unfold dgB; simp; omega
    go_enter Try.func125, Try.ntmps125
    go_wp2_with (go_at_call 97; ((with_reducible refine (impl_isPolygon _ _ _ k1).mono ?_); rintro e w' ⟨rfl, rfl⟩))
    all_goals go_ret
    all_goals exact ⟨ret_bool kk.symm, (Below.refl _ _).alloc (Nat.le_refl _) _⟩

theorem spec_poCross (a b c d : Int) (w : World) :
    Calls Try.prog 95 #[.agg #[.int .i64 a, .int .i64 b], .agg #[.int .i64 c, .int .i64 d]] w fun e w' => e = .returned (.bool (crB a b c d)) ∧ Below w.heap.size w w' := by
  go_enter Try.func95, Try.ntmps95
  go_wp2
  all_goals go_ret
  all_goals refine ⟨ret_bool ?_, ((Below.refl _ _).alloc (Nat.le_refl _) _).alloc (by simp) _⟩
  all_goals (unfold crB; rw [Bool.eq_iff_iff]; simp; try omega)

theorem impl_cross (a b c d : Int) (w : World) :
    Calls Try.prog 151 #[.agg #[.int .i64 a, .int .i64 b], .agg #[.int .i64 c, .int .i64 d]] w fun e w' => e = .returned (.bool (crB a b c d)) ∧ Below w.heap.size w w' := by
  go_enter Try.func151, Try.ntmps151
  go_wp2
  all_goals go_ret
  all_goals refine ⟨ret_bool ?_, ((Below.refl _ _).alloc (Nat.le_refl _) _).alloc (by simp) _⟩
  all_goals (unfold crB; rw [Bool.eq_iff_iff]; simp; try omega)

theorem laws_toDiagonal (a b : Int) (w : World) :
    Calls Try.prog 59 #[.agg #[.int .i64 a, .int .i64 b]] w fun e w' => e = .returned (.agg #[.int .i64 a, .int .i64 b]) ∧ Below w.heap.size w w' := by
  go_enter Try.func59, Try.ntmps59
  go_wp2
  exact bodyPost_ret (v := .agg #[.int .i64 a, .int .i64 b]) (by simp [results, Try.results59, go_sem]) rfl ⟨rfl, (((Below.refl _ _).alloc (Nat.le_refl _) _).alloc (by simp) _).alloc (by simp; omega) _⟩

end Go.Proofs.Ytbpaaoeefcebeab
