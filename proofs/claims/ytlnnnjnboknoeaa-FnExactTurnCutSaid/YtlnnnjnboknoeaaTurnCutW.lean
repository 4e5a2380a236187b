/- TurnCut: the model's and the program's contract, and the law's walk. -/
import Derived.Test.YtlnnnjnboknoeaaTurnPolygonW
import Derived.Test.YtlnnnjnboknoeaaIsCutW
import Derived.Test.YtlnnnjnboknoeaaTurnCutC
import Derived.OpenShut
namespace Go.Proofs.Ytlnnnjnboknoeaa
set_option linter.unusedVariables false
open Go.RowKit

def turnC (n : Int) (l : List (Int × Int)) (k : Int) : List (Int × Int) := if (cutB n l && inB k 0 (n - 1)) = true then sortD (mvL (turnF n k) l) else []
theorem cut_dgs {n : Int} {l : List (Int × Int)} (h : cutB n l = true) : Dgs n l := by
  obtain ⟨h3, h12, h9⟩ := cutB_len h
  obtain ⟨m, rfl⟩ := Int.eq_ofNat_of_zero_le (show 0 ≤ n by omega)
  refine ⟨h3, h12, h9, fun d hd => ?_⟩
  have := (cut_nc h).2.2.2.2.1.dg d hd
  omega
theorem turnC_length (n : Int) (l : List (Int × Int)) (k : Int) : (turnC n l k).length ≤ 1000000000 := by
  unfold turnC
  split
  · rename_i h
    rw [Bool.and_eq_true] at h
    have := cutB_len h.1
    rw [sort_mv_length]; omega
  · simp
theorem turnC_no {n k : Int} {l : List (Int × Int)} (h : (cutB n l && inB k 0 (n - 1)) = false) : turnC n l k = [] := by simp [turnC, h]
theorem turnC_yes {n k : Int} {l : List (Int × Int)} (h : (cutB n l && inB k 0 (n - 1)) = true) : turnC n l k = sortD (mvL (turnF n k) l) := by simp [turnC, h]
theorem retD_nilC {w w' : World} (hb : Below w.heap.size w w') : RetD w [] false (.returned (.tuple #[.slice none 0 0, .bool false])) w' := ⟨none, 0, rfl, World.ownsRow_nil _ _ _ _, hb⟩

theorem spec_TurnCut (n : Int) (A : Option Addr) (c B : Nat) (l : List (Int × Int)) (k : Int) (w : World) (wn : -9223372036854775808 ≤ n ∧ n ≤ 9223372036854775807) (h : SlD w B A l) (hB : B ≤ w.heap.size) (hl : l.length ≤ 1048576) (hlc : l.length ≤ c) :
    Calls Try.prog 45 #[.int .i64 n, .slice A l.length c, .int .i64 k] w (RetD w (turnC n l k) (cutB n l && inB k 0 (n - 1))) := by
  go_enter Try.func45, Try.ntmps45
  go_wp2_with fail
  refine (spec_cuGood n A c B l _ h hB hl hlc).mono ?_
  rintro e w1 ⟨rfl, hb1⟩
  cases ht : cutB n l
  · have hres : RetD w (turnC n l k) (cutB n l && inB k 0 (n - 1)) (.returned (.tuple #[.slice none 0 0, .bool false])) w1 := by
      have e : (cutB n l && inB k 0 (n - 1)) = false := by rw [ht]; rfl
      rw [turnC_no e, e]
      exact retD_nilC hb1
    have Hres := Lib.hid hres
    clear hres h hb1
    go_wp2
    go_ret2
    exact Hres.out
  · have hn := cutB_len ht
    obtain ⟨m, rfl⟩ := Int.eq_ofNat_of_zero_le (show 0 ≤ n by omega)
    have hn1 : (1 : Int) ≤ (m : Int) := by omega
    have hn2 : (m : Int) ≤ 12 := by omega
    clear wn hn
    go_wp2_with fail
    refine (spec_l1In _ _ _ _).mono ?_
    rintro e w2 ⟨rfl, rfl⟩
    cases hi : inB k 0 ((m : Int) - 1)
    · have hres : RetD w (turnC m l k) (cutB m l && inB k 0 ((m : Int) - 1)) (.returned (.tuple #[.slice none 0 0, .bool false])) w1 := by
        have e : (cutB m l && inB k 0 ((m : Int) - 1)) = false := by rw [ht, hi]; rfl
        rw [turnC_no e, e]
        exact retD_nilC hb1
      have Hres := Lib.hid hres
      clear hres h hb1
      go_wp2
      go_ret2
      exact Hres.out
    · have hk := inB_iff.1 hi
      go_wp2_with fail
      refine (spec_poTurn_d m m k A c B l _ rfl (by omega) hk.1 (by omega) (cut_dgs ht) (h.below (hb1.mono hB)) (Nat.le_trans hB hb1.size)).mono ?_
      rintro e w2 ⟨A', c', rfl, ho, hb2⟩
      have hres : RetD w (turnC m l k) (cutB m l && inB k 0 ((m : Int) - 1)) (.returned (.tuple #[.slice A' (sortD (mvL (turnF m k) l)).length c', .bool true])) w2 := by
        have e : (cutB m l && inB k 0 ((m : Int) - 1)) = true := by rw [ht, hi]; rfl
        rw [turnC_yes e, e]
        exact ⟨A', c', rfl, ho.mono hb1.size, below_kept hb1 (Nat.le_refl _) hb2⟩
      have Hres := Lib.hid hres
      clear hres h hb1 hb2 ho hk
      go_wp2
      go_ret2
      exact Hres.out

theorem impl_TurnCut (n : Int) (A : Option Addr) (c B : Nat) (l : List (Int × Int)) (k : Int) (w : World) (wn : -9223372036854775808 ≤ n ∧ n ≤ 9223372036854775807) (h : SlD w B A l) (hB : B ≤ w.heap.size) (hl : l.length ≤ 1048576) (hlc : l.length ≤ c) :
    Calls Try.prog 46 #[.int .i64 n, .slice A l.length c, .int .i64 k] w (RetD w (turnC n l k) (cutB n l && inB k 0 (n - 1))) := by
  go_enter Try.func46, Try.ntmps46
  go_wp2_with fail
  refine (impl_IsCut n A c B l _ h hB hl hlc).mono ?_
  rintro e w1 ⟨rfl, hb1⟩
  cases ht : cutB n l
  · have hres : RetD w (turnC n l k) (cutB n l && inB k 0 (n - 1)) (.returned (.tuple #[.slice none 0 0, .bool false])) w1 := by
      have e : (cutB n l && inB k 0 (n - 1)) = false := by rw [ht]; rfl
      rw [turnC_no e, e]
      exact retD_nilC hb1
    have Hres := Lib.hid hres
    clear hres h hb1
    go_wp2
    go_ret2
    exact Hres.out
  · have hn := cutB_len ht
    obtain ⟨m, rfl⟩ := Int.eq_ofNat_of_zero_le (show 0 ≤ n by omega)
    have hn1 : (1 : Int) ≤ (m : Int) := by omega
    have hn2 : (m : Int) ≤ 12 := by omega
    clear wn hn
    cases hi : inB k 0 ((m : Int) - 1)
    · go_wp2_with fail
      refine (impl_isCorner _ _ _ _ hi).mono ?_
      rintro e w2 ⟨rfl, rfl⟩
      have hres : RetD w (turnC m l k) (cutB m l && inB k 0 ((m : Int) - 1)) (.returned (.tuple #[.slice none 0 0, .bool false])) w1 := by
        have e : (cutB m l && inB k 0 ((m : Int) - 1)) = false := by rw [ht, hi]; rfl
        rw [turnC_no e, e]
        exact retD_nilC hb1
      have Hres := Lib.hid hres
      clear hres h hb1
      go_wp2
      go_ret2
      exact Hres.out
    · have hk := inB_iff.1 hi
      go_wp2_with fail
      refine (impl_isCorner _ _ _ _ hi).mono ?_
      rintro e w2 ⟨rfl, rfl⟩
      go_wp2_with fail
      refine (impl_turned_d m k A c B l _ (by omega) (by omega) (by omega) (cut_dgs ht) (h.below (hb1.mono hB)) (Nat.le_trans hB hb1.size)).mono ?_
      rintro e w2 ⟨A', c', rfl, ho, hb2⟩
      have hres : RetD w (turnC m l k) (cutB m l && inB k 0 ((m : Int) - 1)) (.returned (.tuple #[.slice A' (sortD (mvL (turnF m k) l)).length c', .bool true])) w2 := by
        have e : (cutB m l && inB k 0 ((m : Int) - 1)) = true := by rw [ht, hi]; rfl
        rw [turnC_yes e, e]
        exact ⟨A', c', rfl, ho.mono hb1.size, below_kept hb1 (Nat.le_refl _) hb2⟩
      have Hres := Lib.hid hres
      clear hres h hb1 hb2 ho hk
      go_wp2
      go_ret2
      exact Hres.out

theorem WTurnCut.walk (w : World) (n : Int) (wn : (Lit.int .i64 n).wf = true) (A : Option Addr) (c : Nat) (l : List (Int × Int)) (h : SlD w w.heap.size A l)
    (hj : l.length ≤ c ∧ c ≤ maxLen ∧ ∀ x ∈ l, (Lit.int .i64 x.1).wf = true ∧ (Lit.int .i64 x.2).wf = true) (k : Int) (wk : (Lit.int .i64 k).wf = true) :
    Calls Try.prog 12 #[.int .i64 n, .slice A l.length c, .int .i64 k] w fun e w' => e = .returned (.bool true) ∧ Below w.heap.size w w' :=
  WTurnCut.core w n A c l k h hj.1 hj.2.1 (turnC n l k) (cutB n l && inB k 0 (n - 1)) (turnC_length n l k)
    (Lib.hid fun A c w h hl hlc => spec_TurnCut n A c _ l k w (bounds_i64 wn) h (Nat.le_refl _) hl hlc)
    (Lib.hid fun A c w h hl hlc => impl_TurnCut n A c _ l k w (bounds_i64 wn) h (Nat.le_refl _) hl hlc)

end Go.Proofs.Ytlnnnjnboknoeaa
