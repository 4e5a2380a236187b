/- The walk of IsTriangulation's law. -/
import Derived.Test.YtlnnnjnboknoeabTriS
namespace Go.Proofs.Ytlnnnjnboknoeab
set_option linter.unusedVariables false
open Go.RowKit

theorem spec_IsTriangulation (n : Int) (A : Option Addr) (c B : Nat) (l : List (Int × Int)) (w : World) (h : SlD w B A l) (hB : B ≤ w.heap.size) (hl : l.length ≤ 1048576) (hlc : l.length ≤ c) :
    Calls Try.prog 37 #[.int .i64 n, .slice A l.length c] w fun e w' => e = .returned (.bool (triB n l)) ∧ Below w.heap.size w w' := by
  go_enter Try.func37, Try.ntmps37
  go_wp2_with fail
  refine (spec_poGood n A c B l _ h hB hl hlc).mono ?_
  rintro e w1 ⟨rfl, hb1⟩
  clear h
  go_wp2
  go_ret
  exact ⟨rfl, hb1⟩

theorem WIsTriangulation.walk (w : World) (n : Int) (wn : (Lit.int .i64 n).wf = true) (A : Option Addr) (c : Nat) (l : List (Int × Int)) (h : SlD w w.heap.size A l)
    (hj : l.length ≤ c ∧ c ≤ maxLen ∧ ∀ x ∈ l, (Lit.int .i64 x.1).wf = true ∧ (Lit.int .i64 x.2).wf = true) :
    Calls Try.prog 9 #[.int .i64 n, .slice A l.length c] w fun e w' => e = .returned (.bool true) ∧ Below w.heap.size w w' := by
  obtain ⟨hc, hm, -⟩ := hj
  by_cases hl : l.length ≤ 1048576
  · have e1 : (if l.length ≤ 1048576 then 1048576 - (l.length : Int) else -1) = 1048576 - (l.length : Int) := if_pos hl
    have hz := laws_szDiagonalS A l.length c w (by omega)
    rw [e1] at hz
    have Hz := Lib.hid hz
    clear e1 hz
    go_enter Try.func9, Try.ntmps9
    go_wp2_with fail
    refine Hz.out.mono ?_
    rintro e w1 ⟨rfl, rfl⟩
    clear Hz
    go_wp2_with fail
    refine (laws_toDiagonalS A c w.heap.size l _ h (Nat.le_refl _) hl).mono ?_
    rintro e w1 ⟨rfl, ho1, hb1⟩
    go_wp2_with fail
    refine (spec_IsTriangulation n _ l.length w1.heap.size l _ (SlD.of_own ho1) (Nat.le_refl _) hl (Nat.le_refl _)).mono ?_
    rintro e w2 ⟨rfl, hb2⟩
    have hd2 := below_kept hb1 (Nat.le_refl _) hb2
    clear ho1 hb1 hb2
    go_wp2_with fail
    refine (laws_toDiagonalS A c w.heap.size l _ (h.below hd2) hd2.size hl).mono ?_
    rintro e w3 ⟨rfl, ho3, hb3⟩
    have hd3 := below_kept hd2 (Nat.le_refl _) hb3
    clear hb3 hd2
    go_wp2_with fail
    refine (impl_IsTriangulation n _ l.length w3.heap.size l _ (SlD.of_own ho3) (Nat.le_refl _) hl (Nat.le_refl _)).mono ?_
    rintro e w4 ⟨rfl, hb4⟩
    have hd4 := below_kept hd3 (Nat.le_refl _) hb4
    have ho4 := own_kept ho3 hb4
    clear hb4 hd3 ho3
    go_wp2_with fail
    refine (laws_toDiagonalS A c w.heap.size l _ (h.below hd4) hd4.size hl).mono ?_
    rintro e w5 ⟨rfl, ho5, hb5⟩
    have hd5 := below_kept hd4 (Nat.le_refl _) hb5
    have ho6 := own_kept ho4 hb5
    clear hb5 hd4 ho4
    go_wp2_with fail
    refine (laws_eqDiagonalS _ _ l.length l.length w5.heap.size w5.heap.size l _ (SlD.of_own ho6) (SlD.of_own ho5) (Nat.le_refl _) (Nat.le_refl _) (by omega)).mono ?_
    rintro e w6 ⟨rfl, hb6⟩
    have hd6 := below_kept hd5 (Nat.le_refl _) hb6
    clear hb6 hd5 ho5 ho6 h
    go_wp2
    go_ret
    exact ⟨rfl, hd6⟩
  · have e1 : (if l.length ≤ 1048576 then 1048576 - (l.length : Int) else -1) = -1 := if_neg hl
    have hz := laws_szDiagonalS A l.length c w (by omega)
    rw [e1] at hz
    have Hz := Lib.hid hz
    clear e1 hz h
    go_enter Try.func9, Try.ntmps9
    go_wp2_with fail
    refine Hz.out.mono ?_
    rintro e w1 ⟨rfl, rfl⟩
    clear Hz
    go_wp2
    go_ret
    exact ⟨rfl, Below.refl _ _⟩

end Go.Proofs.Ytlnnnjnboknoeab
