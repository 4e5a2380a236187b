/- CountTerms: the model's and the program's contract, and the law's walk. -/
import Derived.Test.YtkekjcfhkecggaaRepT
import Derived.Test.YtkekjcfhkecggaaCountTermsC
namespace Go.Proofs.Ytkekjcfhkecggaa
set_option linter.unusedVariables false
open Go.RowKit

def cnR (n : Int) : Int := if inB n 0 10 = true then ctv 1 (List.replicate n.toNat 1) else 0
def CnEnd (n : Int) (w : World) (e : Ending) (w' : World) : Prop := e = .returned (.tuple #[.int .i64 (cnR n), .bool (inB n 0 10)]) ∧ Below w.heap.size w w'
theorem inBr_iff {n lo hi : Int} : inB n lo hi = true ↔ lo ≤ n ∧ n ≤ hi := by unfold inB; simp
theorem cnEnd_no {n : Int} {w w' : World} (h : inB n 0 10 = false) (hb : Below w.heap.size w w') : CnEnd n w (.returned (.tuple #[.int .i64 0, .bool false])) w' := by
  unfold CnEnd cnR
  rw [h]
  exact ⟨rfl, hb⟩
theorem cnEnd_yes {k : Nat} {w w' : World} (h : k ≤ 10) (hb : Below w.heap.size w w') : CnEnd k w (.returned (.tuple #[.int .i64 (ctv 1 (List.replicate k 1)), .bool true])) w' := by
  have e : inB (k : Int) 0 10 = true := inBr_iff.2 ⟨by omega, by omega⟩
  unfold CnEnd cnR
  rw [e]
  exact ⟨rfl, hb⟩
theorem ones_small (k : Nat) : Small (List.replicate k 1) := fun x hx => by
  have := (List.mem_replicate.1 hx).2
  omega

set_option maxRecDepth 100000 in
set_option maxHeartbeats 3200000 in
theorem spec_CountTerms (n : Int) (w : World) : Calls Try.prog 23 #[.int .i64 n] w (CnEnd n w) := by
  go_enter Try.func23, Try.ntmps23
  go_wp2_with fail
  refine (spec_l1In' _ _ _ _).mono ?_
  rintro e w1 ⟨rfl, rfl⟩
  cases hi : inB n 0 10
  · have HE := Lib.hid (cnEnd_no hi (Below.refl w.heap.size w))
    clear hi
    go_wp2
    go_ret2
    exact HE.out
  · obtain ⟨h1, h2⟩ := inBr_iff.1 hi
    obtain ⟨k, rfl⟩ := Int.eq_ofNat_of_zero_le h1
    clear hi
    have hk : k ≤ 10 := by omega
    have HB := Lib.hid (show Below w.heap.size w (w.alloc (.cells #[.int .i64 1, .int .i64 1, .int .i64 1, .int .i64 1, .int .i64 1, .int .i64 1, .int .i64 1, .int .i64 1, .int .i64 1, .int .i64 1] 3)) from (Below.refl _ _).alloc (Nat.le_refl _) _)
    have HE := Lib.hid (cnEnd_yes (w := w) hk HB.out)
    have HS : Hid (SlI (w.alloc (.cells #[.int .i64 1, .int .i64 1, .int .i64 1, .int .i64 1, .int .i64 1, .int .i64 1, .int .i64 1, .int .i64 1, .int .i64 1, .int .i64 1] 3)) (w.heap.size + 1) (some ⟨w.heap.size, 0, none⟩) (List.replicate k 1)) := Lib.hid fun _ => ⟨w.heap.size, 0, rfl, by omega, fun j hj => by
      have hj2 : j < k := by simpa using hj
      have e : (List.replicate k (1 : Int)).getD j 0 = 1 := by simp [List.getD_eq_getElem?_getD, List.getElem?_replicate, hj2]
      rw [e, Nat.zero_add]
      have : j = 0 ∨ j = 1 ∨ j = 2 ∨ j = 3 ∨ j = 4 ∨ j = 5 ∨ j = 6 ∨ j = 7 ∨ j = 8 ∨ j = 9 := by omega
      rcases this with rfl | rfl | rfl | rfl | rfl | rfl | rfl | rfl | rfl | rfl
      all_goals simp [go_sem]⟩
    have k10 : (k : Int) ≤ 10 := by omega
    go_wp2_with fail
    refine (spec_ctValue _ k 10 (w.heap.size + 1) (List.replicate k 1) 1 _ (by simp) (.inl rfl) HS.out (ones_small k) hk).mono ?_
    rintro e w1 ⟨rfl, rfl⟩
    generalize ctv 1 (List.replicate k 1) = v at *
    go_wp2
    go_ret2
    exact HE.out

set_option maxRecDepth 100000 in
set_option maxHeartbeats 3200000 in
theorem impl_CountTerms (n : Int) (w : World) : Calls Try.prog 24 #[.int .i64 n] w (CnEnd n w) := by
  by_cases h1 : n < 0
  · have HE := Lib.hid (cnEnd_no (n := n) (show inB n 0 10 = false by rw [Bool.eq_false_iff]; intro e; have := inBr_iff.1 e; omega) (Below.refl w.heap.size w))
    go_enter Try.func24, Try.ntmps24
    go_wp2
    go_ret2
    exact HE.out
  · by_cases h2 : 10 < n
    · have HE := Lib.hid (cnEnd_no (n := n) (show inB n 0 10 = false by rw [Bool.eq_false_iff]; intro e; have := inBr_iff.1 e; omega) (Below.refl w.heap.size w))
      go_enter Try.func24, Try.ntmps24
      go_wp2
      go_ret2
      exact HE.out
    · obtain ⟨k, rfl⟩ := Int.eq_ofNat_of_zero_le (show 0 ≤ n by omega)
      have hk : k ≤ 10 := by omega
      have HB := Lib.hid (show Below w.heap.size w (w.alloc (.cells #[.int .i64 1] 3)) from (Below.refl _ _).alloc (Nat.le_refl _) _)
      have hfin : ∀ w', Below w.heap.size w w' → ∀ z, CnEnd k w (.returned (.tuple #[.int .i64 (ctv 1 (List.replicate k 1)), .bool true])) (w'.drewN z) := fun w' hb z => cnEnd_yes hk (below_drewN hb z)
      have Hfin := Lib.hid hfin
      have hc : (w.alloc (.cells #[.int .i64 1] 3)).cell? ⟨w.heap.size, 0, none⟩ = some (.int .i64 1) := by simp [go_sem]
      have Hc := Lib.hid hc
      clear hfin hc
      by_cases h0 : k = 0
      · subst h0
        go_enter Try.func24, Try.ntmps24
        go_wp2_with fail
        refine (Rep.slices_Repeat0x _ _ Hc.out).mono ?_
        rintro e w2 ⟨A2, c2, rfl, b2⟩
        have Hb2 := Lib.hid (below_kept HB.out (Nat.le_refl _) b2)
        clear b2
        go_wp2_with fail
        refine (impl_plusContinuant A2 0 c2 0 (List.replicate 0 1) _ rfl (by omega) (Nat.zero_le _) SlI.nil_ (ones_small 0)).mono ?_
        rintro e w3 ⟨rfl, z, rfl⟩
        have HE := Lib.hid (Hfin.out _ Hb2.out z)
        generalize ctv 1 (List.replicate 0 1) = v at *
        go_wp2
        go_ret2
        exact HE.out
      · go_enter Try.func24, Try.ntmps24
        go_wp2_with fail
        refine (Rep.slices_Repeat1 _ k _ Hc.out (by omega) (by omega)).mono ?_
        rintro e w2 ⟨A2, c2, rfl, o2, b2⟩
        have hl : (List.replicate k (1 : Int)).length = k := by simp
        rw [hl] at o2 ⊢
        have hcap := own_capI o2
        have Hs2 := Lib.hid (SlI.of_own (l := List.replicate k 1) o2)
        have Hb2 := Lib.hid (below_kept HB.out (Nat.le_refl _) b2)
        have Hl := Lib.hid hl
        clear b2 o2 hl
        go_wp2_with fail
        refine (impl_plusContinuant A2 k c2 _ (List.replicate k 1) _ Hl.out hk hcap Hs2.out (ones_small k)).mono ?_
        rintro e w3 ⟨rfl, z, rfl⟩
        have HE := Lib.hid (Hfin.out _ Hb2.out z)
        generalize ctv 1 (List.replicate k 1) = v at *
        go_wp2
        go_ret2
        exact HE.out

theorem WCountTerms.walk (w : World) (n : Int) (wn : (Lit.int .i64 n).wf = true) :
    Calls Try.prog 6 #[.int .i64 n] w fun e w' => e = .returned (.bool true) ∧ Below w.heap.size w w' :=
  WCountTerms.core w n (cnR n) (inB n 0 10)
    (Lib.hid fun w => spec_CountTerms n w)
    (Lib.hid fun w => impl_CountTerms n w)
end Go.Proofs.Ytkekjcfhkecggaa
