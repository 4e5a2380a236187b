/- Triangulations of one kind: the program's triangulationsThat; how many are of a kind. -/
import Derived.Test.YtbpaaoeefcebeabDelT
namespace Go.Proofs.Ytbpaaoeefcebeab
set_option linter.unusedVariables false
open Go.RowKit

theorem alt_pos : ∀ n : Fin 9, 3 ≤ (n : Nat) → 0 < (altL n).length := by decide +kernel
theorem deleteFunc_nil (gr : Nat) (A : Option Addr) (c : Nat) (w : World) : Calls Try.prog 108 #[.slice A 0 c, .func (.func 109) #[] #[.pointer (some ⟨gr, 0, none⟩)]] w fun e w' => e = .returned (.slice A 0 c) ∧ w = w' := by
  have hidx : Calls Try.prog 128 #[.slice A 0 c, .func (.func 109) #[] #[.pointer (some ⟨gr, 0, none⟩)]] w fun e w' => e = .returned (.int .i64 (-1)) ∧ w = w' := by
    go_enter Try.func128, Try.ntmps128
    go_wp2
    refine wp_loop_rounds 1 ?_
    rw [rounds_succ]
    go_wp2
    go_ret
    exact ⟨rfl, rfl⟩
  have Hidx := Lib.hid hidx
  clear hidx
  go_enter Try.func108, Try.ntmps108
  go_wp2_with fail
  refine Hidx.out.mono ?_
  rintro e w1 ⟨rfl, rfl⟩
  go_wp2
  go_ret
  exact ⟨rfl, rfl⟩

theorem impl_that (n : Int) (f : Nat) (caps : Array Value) (P : List (Int × Int) → Bool) (w : World) (hT : Tells n w.heap.size P (w.alloc (.cells #[.func (.func f) #[] caps] 75))) :
    Calls Try.prog 71 #[.int .i64 n, .func (.func f) #[] caps] w (RetDD w ((atR n).filter P) (inB n 3 8)) := by
  have hmf : ∀ (fn : Fn) (first cap : Array Value) (w : World), (Instr.makeFunc fn first cap).run Try.prog w = .ok (.func fn first cap) w := fun _ _ _ _ => rfl
  have HT := Lib.hid hT
  clear hT
  obtain ⟨W1, hW1⟩ : ∃ W1, W1 = w.alloc (.cells #[.func (.func f) #[] caps] 75) := ⟨_, rfl⟩
  have HW1 := Lib.hid hW1
  have hbA : Below w.heap.size w W1 := by rw [hW1]; exact (Below.refl _ _).alloc (Nat.le_refl _) _
  have hzA : W1.heap.size = w.heap.size + 1 := by rw [hW1]; simp
  rw [← hW1] at HT
  have Hall := Lib.hid (impl_AllTriangulations n W1)
  have HbA := Lib.hid hbA
  have HzA := Lib.hid hzA
  clear hbA hzA hW1
  go_enter Try.func71, Try.ntmps71
  go_wp2_with fail
  rw [← HW1.out]
  refine Hall.out.mono ?_
  rintro e w2 ⟨A, c, rs, rfl, o, b⟩
  have B2 := Lib.hid (below_kept HbA.out (Nat.le_refl _) b)
  have z2 := b.size
  cases hi : inB n 3 8
  · have hat := atR_no hi
    rw [hat] at o ⊢
    have Hd := Lib.hid (deleteFunc_nil w.heap.size A c w2)
    have hres : RetDD w ((atR n).filter P) (inB n 3 8) (.returned (.tuple #[.slice A 0 c, .bool false])) w2 := by
      rw [hat, hi]
      exact ⟨A, c, rs, rfl, o.mono HbA.out.size, B2.out⟩
    have Hres := Lib.hid hres
    clear hres o b hat
    go_wp2_with fail
    refine Hd.out.mono ?_
    rintro e w3 ⟨rfl, rfl⟩
    go_wp2
    go_ret2
    exact Hres.out
  · have hk := inB_iff.1 hi
    obtain ⟨m, rfl⟩ := Int.eq_ofNat_of_zero_le (show 0 ≤ n by omega)
    have hat := atR_yes hi
    have h9 : m < 9 := by omega
    have hpos : 0 < (altL m).length := alt_pos ⟨m, h9⟩ (by show 3 ≤ m; omega)
    have hbd : (altL m).length ≤ 132 := alt_bd ⟨m, h9⟩
    have hdel := deleteFunc_that (m : Int) w.heap.size P W1 A c W1.heap.size (atR m).length rs (atR m) w2 HT.out (b.mono (Nat.le_of_eq HzA.out.symm)) (Nat.le_of_eq HzA.out.symm) z2 o rfl
      (fun j hj => by
        rw [hat] at hj ⊢
        exact (alt_row ⟨m, h9⟩ (by show 3 ≤ m; omega) (rowD (altL m) j) (by unfold rowD; simp [hj])).2) (by rw [hat]; omega) (by rw [hat]; exact hpos)
    have Hdel := Lib.hid hdel
    have Hi := Lib.hid hi
    clear hdel hat hpos hbd o b hk
    generalize (atR m).length = q at *
    go_wp2_with fail
    refine Hdel.out.mono ?_
    rintro e w3 ⟨A3, c3, rs3, rfl, o3, b3⟩
    have hres : RetDD w ((atR m).filter P) (inB m 3 8) (.returned (.tuple #[.slice A3 ((atR m).filter P).length c3, .bool true])) w3 := by
      rw [Hi.out]
      exact ⟨A3, c3, rs3, rfl, o3.mono HbA.out.size, B2.out.trans (b3.mono HbA.out.size)⟩
    have Hres := Lib.hid hres
    clear hres o3 b3
    generalize ((atR m).filter P).length = t at *
    go_wp2
    go_ret2
    exact Hres.out
end Go.Proofs.Ytbpaaoeefcebeab
