/- The text of a matrix: integers in digits, of both sides; what is told. -/
import Derived.Test.YtbebalgleiafdabDoorItoW
import Derived.Test.YtbebalgleiafdabDoorMatI
import Derived.Test.YtbebalgleiafdabDoorBx4
import Derived.Lib.ItoaLen
namespace Go.Proofs.YtbebalgleiafdabDoor
set_option linter.unusedVariables false
open Go.RowKit

def In9 (n : Int) : Prop := -1000000000 ≤ n ∧ n ≤ 1000000000
theorem itoa_len {n : Int} (h : In9 n) : (Lib.itoa n).length ≤ 21 := by
  unfold In9 at h
  exact Lib.itoa_length_le n (by omega) (by omega)
theorem bsL_cons (x : UInt8) (L : List UInt8) : (⟨#[x]⟩ : ByteArray) ++ bsL L = bsL (x :: L) := by
  have := bsL_app [x] L
  rw [List.singleton_append] at this
  rw [this]
  rfl
theorem spec_l1Int (n : Int) (w : World) (hn : In9 n) : Calls Tryd.prog 25 #[.int .i64 n] w fun e w' => e = .returned (.string (bsL (Lib.itoa n))) ∧ Below w.heap.size w w' := by
  obtain ⟨h0, h1⟩ := hn
  by_cases h : n < 0
  · obtain ⟨m, rfl⟩ : ∃ m : Nat, n = -(m : Int) := ⟨n.natAbs, by omega⟩
    have HE := Lib.hid (Lib.itoa_neg m (by omega))
    have hw : IntKind.i64.wrap ((m : Nat) : Int) = (m : Int) := IntWalk.i64_in _ (by omega)
    have H := Lib.hid (fun w => spec_l1Num m w (by omega))
    have hl := dig_len m
    have hs := bsL_size (Lib.decDigits m)
    have hsz : ¬ 9223372036854775807 < 1 + (Lib.decDigits m).length := by omega
    clear hl
    generalize Lib.decDigits m = M at *
    go_enter Tryd.func25, Tryd.ntmps25
    go_wp2_with fail
    refine (H.out _).mono ?_
    rintro e w1 ⟨rfl, hb⟩
    have HB := Lib.hid hb
    clear hb
    go_wp2
    go_ret
    exact ⟨by rw [HE.out, ← bsL_cons]; rfl, HB.out⟩
  · obtain ⟨m, rfl⟩ := Int.eq_ofNat_of_zero_le (show 0 ≤ n by omega)
    have HE := Lib.hid (Lib.itoa_nonneg m)
    have H := Lib.hid (fun w => spec_l1Num m w (by omega))
    generalize Lib.decDigits m = M at *
    go_enter Tryd.func25, Tryd.ntmps25
    go_wp2_with fail
    refine (H.out _).mono ?_
    rintro e w1 ⟨rfl, hb⟩
    have HB := Lib.hid hb
    clear hb
    go_wp2
    go_ret
    exact ⟨by rw [HE.out]; rfl, HB.out⟩
theorem impl_ItoaI (n : Int) (w : World) (hn : In9 n) (ht : TabW w) :
    Calls Tryd.prog 27 #[.int .i64 n] w fun e w' => e = .returned (.string (bsL (Lib.itoa n))) ∧ Below w.heap.size w w' := by
  obtain ⟨h0, h1⟩ := hn
  refine Calls.mono (Any.strconv_Itoa itoaL n (by omega) (by omega) w ht) ?_
  rintro e w' ⟨rfl, k, os, rfl⟩
  exact ⟨rfl, below_growN w k os⟩
def mtx (a b c d : Int) : List UInt8 := if mxB a b c d = true then Lib.itoa a ++ [44] ++ Lib.itoa b ++ [47] ++ Lib.itoa c ++ [44] ++ Lib.itoa d else []
def MtE (a b c d : Int) (w : World) (e : Ending) (w' : World) : Prop := e = .returned (.tuple #[.string (bsL (mtx a b c d)), .bool (mxB a b c d)]) ∧ Below w.heap.size w w'
theorem mtE_no {a b c d : Int} {w w' : World} (h : mxB a b c d = false) (hb : Below w.heap.size w w') : MtE a b c d w (.returned (.tuple #[.string ⟨#[]⟩, .bool false])) w' := by
  unfold MtE mtx
  rw [h]
  exact ⟨rfl, hb⟩
theorem mtE_yes {a b c d : Int} {w w' : World} (h : mxB a b c d = true) (hb : Below w.heap.size w w') :
    MtE a b c d w (.returned (.tuple #[.string (bsL (Lib.itoa a) ++ ⟨#[44]⟩ ++ bsL (Lib.itoa b) ++ ⟨#[47]⟩ ++ bsL (Lib.itoa c) ++ ⟨#[44]⟩ ++ bsL (Lib.itoa d)), .bool true])) w' := by
  unfold MtE mtx
  rw [if_pos h, h, bsL_app, bsL_snoc, bsL_app, bsL_snoc, bsL_app, bsL_snoc]
  exact ⟨rfl, hb⟩
theorem mx_in9 {a b c d : Int} (h : mxB a b c d = true) : In9 a ∧ In9 b ∧ In9 c ∧ In9 d := (mxB_iff.1 h).1
end Go.Proofs.YtbebalgleiafdabDoor
