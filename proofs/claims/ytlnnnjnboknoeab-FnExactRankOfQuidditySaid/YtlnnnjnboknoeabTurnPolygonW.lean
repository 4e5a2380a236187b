/- TurnPolygon: the model's and the program's contract, and the law's walk. -/
import Derived.Test.YtlnnnjnboknoeabTurnS
import Derived.Test.YtlnnnjnboknoeabMove
import Derived.Test.YtlnnnjnboknoeabTriS
import Derived.Test.YtlnnnjnboknoeabTurnPolygonC
import Derived.OpenShut
namespace Go.Proofs.Ytlnnnjnboknoeab
set_option linter.unusedVariables false
open Go.RowKit

theorem spec_l1In (n lo hi : Int) (w : World) : Calls Try.prog 52 #[.int .i64 n, .int .i64 lo, .int .i64 hi] w fun e w' => e = .returned (.bool (inB n lo hi)) ∧ w = w' := by
  go_enter Try.func52, Try.ntmps52
  go_wp2
  all_goals go_ret
  all_goals refine ⟨ret_bool ?_, rfl⟩
  all_goals (unfold inB; rw [Bool.eq_iff_iff]; simp; try omega)

theorem turnL_no {n k : Int} {l : List (Int × Int)} (h : (triB n l && inB k 0 (n - 1)) = false) : turnL n l k = [] := by simp [turnL, h]
theorem turnL_yes {n k : Int} {l : List (Int × Int)} (h : (triB n l && inB k 0 (n - 1)) = true) : turnL n l k = sortD (mvL (turnF n k) l) := by simp [turnL, h]
theorem retD_nil {w w' : World} (hb : Below w.heap.size w w') : RetD w [] false (.returned (.tuple #[.slice none 0 0, .bool false])) w' := ⟨none, 0, rfl, World.ownsRow_nil _ _ _ _, hb⟩
theorem inB_iff {n lo hi : Int} : inB n lo hi = true ↔ lo ≤ n ∧ n ≤ hi := by unfold inB; simp

theorem spec_TurnPolygon (n : Int) (A : Option Addr) (c B : Nat) (l : List (Int × Int)) (k : Int) (w : World) (wn : -9223372036854775808 ≤ n ∧ n ≤ 9223372036854775807) (h : SlD w B A l) (hB : B ≤ w.heap.size) (hl : l.length ≤ 1048576) (hlc : l.length ≤ c) :
    Calls Try.prog 47 #[.int .i64 n, .slice A l.length c, .int .i64 k] w (RetD w (turnL n l k) (triB n l && inB k 0 (n - 1))) := by
  go_enter Try.func47, Try.ntmps47
  go_wp2_with fail
  refine (spec_poGood n A c B l _ h hB hl hlc).mono ?_
  rintro e w1 ⟨rfl, hb1⟩
  cases ht : triB n l
  · have hres : RetD w (turnL n l k) (triB n l && inB k 0 (n - 1)) (.returned (.tuple #[.slice none 0 0, .bool false])) w1 := by
      have e : (triB n l && inB k 0 (n - 1)) = false := by rw [ht]; rfl
      rw [turnL_no e, e]
      exact retD_nil hb1
    have Hres := Lib.hid hres
    clear hres h hb1
    go_wp2
    go_ret2
    exact Hres.out
  · have hn := tri_n ht
    obtain ⟨m, rfl⟩ := Int.eq_ofNat_of_zero_le (show 0 ≤ n by omega)
    have hn1 : (1 : Int) ≤ (m : Int) := by omega
    have hn2 : (m : Int) ≤ 12 := by omega
    clear wn hn
    go_wp2_with fail
    refine (spec_l1In _ _ _ _).mono ?_
    rintro e w2 ⟨rfl, rfl⟩
    cases hi : inB k 0 ((m : Int) - 1)
    · have hres : RetD w (turnL m l k) (triB m l && inB k 0 ((m : Int) - 1)) (.returned (.tuple #[.slice none 0 0, .bool false])) w1 := by
        have e : (triB m l && inB k 0 ((m : Int) - 1)) = false := by rw [ht, hi]; rfl
        rw [turnL_no e, e]
        exact retD_nil hb1
      have Hres := Lib.hid hres
      clear hres h hb1
      go_wp2
      go_ret2
      exact Hres.out
    · have hk := inB_iff.1 hi
      go_wp2_with fail
      refine (spec_poTurn m m k A c B l _ rfl (by omega) hk.1 (by omega) ht (h.below (hb1.mono hB)) (Nat.le_trans hB hb1.size)).mono ?_
      rintro e w2 ⟨A', c', rfl, ho, hb2⟩
      have hres : RetD w (turnL m l k) (triB m l && inB k 0 ((m : Int) - 1)) (.returned (.tuple #[.slice A' (sortD (mvL (turnF m k) l)).length c', .bool true])) w2 := by
        have e : (triB m l && inB k 0 ((m : Int) - 1)) = true := by rw [ht, hi]; rfl
        rw [turnL_yes e, e]
        exact ⟨A', c', rfl, ho.mono hb1.size, below_kept hb1 (Nat.le_refl _) hb2⟩
      have Hres := Lib.hid hres
      clear hres h hb1 hb2 ho hk
      go_wp2
      go_ret2
      exact Hres.out

theorem impl_turned_d (m : Nat) (k : Int) (A : Option Addr) (c B : Nat) (l : List (Int × Int)) (w : World) (hm1 : 1 ≤ m) (hm12 : m ≤ 12) (hk : 0 ≤ k ∧ k < m) (ht : Dgs m l) (h : SlD w B A l) (hB : B ≤ w.heap.size) :
    Calls Try.prog 81 #[.int .i64 m, .slice A l.length c, .int .i64 k] w (GivD w (sortD (mvL (turnF m k) l))) := by
  have hmem := ht.2.2.2
  obtain ⟨hn3', hn12', hn, _⟩ := id ht
  have Hin : Hid (∀ d ∈ l, 0 ≤ d.1 ∧ d.1 < 12 ∧ 0 ≤ d.2 ∧ d.2 < 12) := Lib.hid (fun d hd => by have := hmem d hd; omega)
  have hll : l.length ≤ 12 := by omega
  have hmf : ∀ (fn : Fn) (first cap : Array Value) (w : World), (Instr.makeFunc fn first cap).run Try.prog w = .ok (.func fn first cap) w := fun _ _ _ _ => rfl
  clear hmem hn ht
  go_enter Try.func81, Try.ntmps81
  go_wp2_with fail
  have hbB : Below w.heap.size w ((w.alloc (.cells #[.int .i64 m] 3)).alloc (.cells #[.int .i64 k] 3)) := ((Below.refl _ _).alloc (Nat.le_refl _) _).alloc (by simp) _
  refine (impl_move_turn (w.heap.size + 1) w.heap.size k m A c B l _ ?h1 ?h2 ?h3 ?h4 ?h5 ?h6 hll Hin.out).mono ?_
  case h1 => simp [go_sem]
  case h2 => simp [go_sem]
  case h3 => omega
  case h4 => omega
  case h5 => exact h.below (hbB.mono hB)
  case h6 => simp; omega
  rintro e w2 ⟨A', c', rfl, ho, hb2⟩
  have hres : GivD w (sortD (mvL (turnF m k) l)) (.returned (.slice A' (sortD (mvL (turnF m k) l)).length c')) w2 := ⟨A', c', rfl, ho.mono hbB.size, below_kept hbB (Nat.le_refl _) hb2⟩
  have Hres := Lib.hid hres
  clear hres h hbB hb2 ho hmf
  go_wp2
  go_ret
  exact Hres.out
theorem impl_turned (m : Nat) (k : Int) (A : Option Addr) (c B : Nat) (l : List (Int × Int)) (w : World) (hm1 : 1 ≤ m) (hm12 : m ≤ 12) (hk : 0 ≤ k ∧ k < m) (ht : triB m l = true) (h : SlD w B A l) (hB : B ≤ w.heap.size) :
    Calls Try.prog 81 #[.int .i64 m, .slice A l.length c, .int .i64 k] w (GivD w (sortD (mvL (turnF m k) l))) := impl_turned_d m k A c B l w hm1 hm12 hk (tri_dgs ht) h hB


theorem impl_TurnPolygon (n : Int) (A : Option Addr) (c B : Nat) (l : List (Int × Int)) (k : Int) (w : World) (wn : -9223372036854775808 ≤ n ∧ n ≤ 9223372036854775807) (h : SlD w B A l) (hB : B ≤ w.heap.size) (hl : l.length ≤ 1048576) (hlc : l.length ≤ c) :
    Calls Try.prog 48 #[.int .i64 n, .slice A l.length c, .int .i64 k] w (RetD w (turnL n l k) (triB n l && inB k 0 (n - 1))) := by
  go_enter Try.func48, Try.ntmps48
  go_wp2_with fail
  refine (impl_IsTriangulation n A c B l _ h hB hl hlc).mono ?_
  rintro e w1 ⟨rfl, hb1⟩
  cases ht : triB n l
  · have hres : RetD w (turnL n l k) (triB n l && inB k 0 (n - 1)) (.returned (.tuple #[.slice none 0 0, .bool false])) w1 := by
      have e : (triB n l && inB k 0 (n - 1)) = false := by rw [ht]; rfl
      rw [turnL_no e, e]
      exact retD_nil hb1
    have Hres := Lib.hid hres
    clear hres h hb1
    go_wp2
    go_ret2
    exact Hres.out
  · have hn := tri_n ht
    obtain ⟨m, rfl⟩ := Int.eq_ofNat_of_zero_le (show 0 ≤ n by omega)
    have hn1 : (1 : Int) ≤ (m : Int) := by omega
    have hn2 : (m : Int) ≤ 12 := by omega
    clear wn hn
    cases hi : inB k 0 ((m : Int) - 1)
    · go_wp2_with fail
      refine (impl_isCorner _ _ _ _ hi).mono ?_
      rintro e w2 ⟨rfl, rfl⟩
      have hres : RetD w (turnL m l k) (triB m l && inB k 0 ((m : Int) - 1)) (.returned (.tuple #[.slice none 0 0, .bool false])) w1 := by
        have e : (triB m l && inB k 0 ((m : Int) - 1)) = false := by rw [ht, hi]; rfl
        rw [turnL_no e, e]
        exact retD_nil hb1
      have Hres := Lib.hid hres
      clear hres h hb1
      go_wp2
      go_ret2
      exact Hres.out
    · have hk := inB_iff.1 hi
      go_wp2_with fail
      refine (impl_isCorner _ _ _ _ hi).mono ?_
      rintro e w2 ⟨rfl, rfl⟩
      go_wp2_with fail
      refine (impl_turned m k A c B l _ (by omega) (by omega) (by omega) ht (h.below (hb1.mono hB)) (Nat.le_trans hB hb1.size)).mono ?_
      rintro e w2 ⟨A', c', rfl, ho, hb2⟩
      have hres : RetD w (turnL m l k) (triB m l && inB k 0 ((m : Int) - 1)) (.returned (.tuple #[.slice A' (sortD (mvL (turnF m k) l)).length c', .bool true])) w2 := by
        have e : (triB m l && inB k 0 ((m : Int) - 1)) = true := by rw [ht, hi]; rfl
        rw [turnL_yes e, e]
        exact ⟨A', c', rfl, ho.mono hb1.size, below_kept hb1 (Nat.le_refl _) hb2⟩
      have Hres := Lib.hid hres
      clear hres h hb1 hb2 ho hk
      go_wp2
      go_ret2
      exact Hres.out

theorem WTurnPolygon.walk (w : World) (n : Int) (wn : (Lit.int .i64 n).wf = true) (A : Option Addr) (c : Nat) (l : List (Int × Int)) (h : SlD w w.heap.size A l)
    (hj : l.length ≤ c ∧ c ≤ maxLen ∧ ∀ x ∈ l, (Lit.int .i64 x.1).wf = true ∧ (Lit.int .i64 x.2).wf = true) (k : Int) (wk : (Lit.int .i64 k).wf = true) :
    Calls Try.prog 13 #[.int .i64 n, .slice A l.length c, .int .i64 k] w fun e w' => e = .returned (.bool true) ∧ Below w.heap.size w w' :=
  WTurnPolygon.core w n A c l k h hj.1 hj.2.1 (turnL n l k) (triB n l && inB k 0 (n - 1)) (turnL_length n l k)
    (Lib.hid fun A c w h hl hlc => spec_TurnPolygon n A c _ l k w (bounds_i64 wn) h (Nat.le_refl _) hl hlc)
    (Lib.hid fun A c w h hl hlc => impl_TurnPolygon n A c _ l k w (bounds_i64 wn) h (Nat.le_refl _) hl hlc)

end Go.Proofs.Ytlnnnjnboknoeab
