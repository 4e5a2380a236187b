/- Contracts of the model's small helpers over lists of numbers. -/
import Derived.Test.YtfkkbjbgjmaciaaAppI
import Derived.Test.YtfkkbjbgjmaciaaOfM
namespace Go.Proofs.Ytfkkbjbgjmaciaa
set_option linter.unusedVariables false
open Go.RowKit

theorem spec_l1In' (n lo hi : Int) (w : World) : Calls Try.prog 104 #[.int .i64 n, .int .i64 lo, .int .i64 hi] w fun e w' => e = .returned (.bool (inB n lo hi)) ∧ w = w' := by
  go_enter Try.func104, Try.ntmps104
  go_wp2
  all_goals go_ret
  all_goals refine ⟨ret_bool ?_, rfl⟩
  all_goals (unfold inB; rw [Bool.eq_iff_iff]; simp; try omega)

theorem spec_l1Own (A : Option Addr) (n c B : Nat) (l : List Int) (w : World) (hn : l.length = n) (h : SlI w B A l) (hB : B ≤ w.heap.size) (hl : n ≤ 1000000) :
    Calls Try.prog 114 #[.slice A n c] w (GivI w l) := by
  have own0 := own_madeI w (B := w.heap.size) (Nat.le_refl _)
  have hb0 : Below w.heap.size w (w.alloc (.cells #[] 3)) := (Below.refl w.heap.size w).alloc (Nat.le_refl _) _
  have hs := h.below (hb0.mono hB)
  have Hn := Lib.hid hn
  have Hs := Lib.hid hs
  have Hb0 := Lib.hid hb0
  clear hn h hs hb0
  go_enter Try.func114, Try.ntmps114
  go_wp2_with (at_builtin; refine wpList_appendNI _ rfl _ _ rfl w.heap.size (.slice (some ⟨w.heap.size, 0, none⟩) 0 0) 0 [] rfl rfl own0 A n c l B n (Nat.zero_add n).symm rfl Hn.out Hs.out (by omega) hl Hb0.out.size ?_; intro A3 c3 w3 own3 hg3)
  have hb3 := Hb0.out.grown hg3 Hb0.out.size (above_blk (Nat.le_refl _))
  have hres : GivI w l (.returned (.slice A3 n c3)) w3 := by
    have e := Hn.out
    subst e
    exact ⟨A3, c3, rfl, own3, hb3⟩
  have Hres := Lib.hid hres
  clear hres own3 hg3 hb3 own0
  go_wp2
  go_ret
  exact Hres.out

theorem allB_take (l : List Int) (lo hi : Int) (k : Nat) (h : k < l.length) : allB (l.take (k + 1)) lo hi = (allB (l.take k) lo hi && decide (lo ≤ l.getD k 0 ∧ l.getD k 0 ≤ hi)) := by
  unfold allB
  rw [List.take_succ_eq_append_getElem h, List.all_append]
  simp [h]
theorem allB_bad (l : List Int) (lo hi : Int) (k : Nat) (h : k < l.length) (hx : inB (l.getD k 0) lo hi = false) : allB l lo hi = false := by
  cases hc : allB l lo hi
  · rfl
  · have := allB_iff.1 hc k h
    unfold inB at hx
    rw [decide_eq_false_iff_not] at hx
    exact absurd this hx

theorem spec_l1All (A : Option Addr) (c B : Nat) (l : List Int) (lo hi : Int) (w : World) (h : SlI w B A l) (hl : l.length ≤ 1000000000) :
    Calls Try.prog 168 #[.slice A l.length c, .int .i64 lo, .int .i64 hi] w fun e w' => e = .returned (.bool (allB l lo hi)) ∧ w = w' := by
  go_enter Try.func168, Try.ntmps168
  go_wp2
  go_loop [8, 11] (fun _ i => ∃ k : Nat, k ≤ l.length ∧ i = .int .i64 k ∧ allB (l.take k) lo hi = true) (fun _ i => l.length - (intOf i).toNat)
  case atStart => exact ⟨0, Nat.zero_le _, rfl, by simp [allB]⟩
  case round =>
    obtain ⟨k, hk, rfl, hno⟩ := hrel
    have Hno := Lib.hid hno
    clear hno
    by_cases hlt : k < l.length
    · obtain ⟨b', off, rfl, hbB, hc⟩ := h (by omega)
      have g0 := hc k hlt
      have i0 : (0 : Int) ≤ (k : Int) := by omega
      have i1 : (k : Int) < (l.length : Int) := by omega
      have hst := allB_take l lo hi k hlt
      have hbad := allB_bad l lo hi k hlt
      clear hc h
      generalize l.getD k 0 = x at *
      have Hst := Lib.hid hst
      have Hbad := Lib.hid hbad
      clear hst hbad
      go_wp2_with fail
      refine (spec_l1In' _ _ _ _).mono ?_
      rintro e w1 ⟨rfl, rfl⟩
      clear g0
      cases hx : inB x lo hi
      · go_wp2
        go_ret
        exact ⟨ret_bool (Hbad.out hx).symm, rfl⟩
      · go_wp2
        go_round
        case rel => exact ⟨k + 1, by omega, by go_num, by rw [Hst.out, Hno.out]; unfold inB at hx; simpa using hx⟩
        case measure => simp [intOf]; omega
    · obtain rfl : k = l.length := by omega
      have hno := Hno.out
      rw [List.take_length] at hno
      have Hno2 := Lib.hid hno
      clear hno
      go_wp2
      go_ret
      exact ⟨ret_bool Hno2.out.symm, rfl⟩
end Go.Proofs.Ytfkkbjbgjmaciaa
