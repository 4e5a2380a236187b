/- The program's FriezeOfDiagonal: is a number less than 1? -/
import Derived.Test.YtbebalgleiafdabQuidI
import Derived.Test.YtbebalgleiafdabFodN
namespace Go.Proofs.Ytbebalgleiafdab
set_option linter.unusedVariables false
open Go.RowKit

def oneP (x : Int) : Bool := decide (x < 1)
theorem impl_one1 (x : Int) (w : World) : Calls Try.prog 64 #[.int .i64 x] w fun e w' => e = .returned (.bool (oneP x)) ∧ w = w' := by
  go_enter Try.func64, Try.ntmps64
  go_wp2
  go_ret
  exact ⟨rfl, rfl⟩

def oneAny (l : List Int) : Bool := l.any (oneP)
theorem oneAny_take (l : List Int) (k : Nat) (h : k < l.length) : oneAny (l.take (k + 1)) = (oneAny (l.take k) || oneP (l.getD k 0)) := by
  unfold oneAny
  rw [List.take_succ_eq_append_getElem h, List.any_append]
  simp [h]
theorem oneAny_hit (l : List Int) (k : Nat) (h : k < l.length) (hc : oneP (l.getD k 0) = true) : oneAny l = true := by
  unfold oneAny
  rw [List.any_eq_true]
  refine ⟨l[k], List.getElem_mem h, ?_⟩
  have e : l.getD k 0 = l[k] := by simp [h]
  rw [e] at hc
  exact hc

set_option maxHeartbeats 800000 in
theorem indexFunc_one (A : Option Addr) (c B : Nat) (l : List Int) (w : World)
    (h : SlI w B A l) (hl : l.length ≤ 1000000000) :
    Calls Try.prog 87 #[.slice A l.length c, .func (.func 64) #[] #[]] w (FoundI (oneAny l) w) := by
  go_enter Try.func87, Try.ntmps87
  go_wp2
  go_loop [5, 8] (fun _ i => ∃ k : Nat, k ≤ l.length ∧ i = .int .i64 k ∧ oneAny (l.take k) = false) (fun _ i => l.length - (intOf i).toNat)
  case atStart => exact ⟨0, Nat.zero_le _, rfl, by simp [oneAny]⟩
  case round =>
    obtain ⟨k, hk, rfl, hno⟩ := hrel
    by_cases hlt : k < l.length
    · obtain ⟨b', off, rfl, hbB, hc⟩ := h (by omega)
      have g0 := hc k hlt
      have i0 : (0 : Int) ≤ (k : Int) := by omega
      have i1 : (k : Int) < (l.length : Int) := by omega
      have hst := oneAny_take l k hlt
      have hhit := oneAny_hit l k hlt
      rw [hno, Bool.false_or] at hst
      clear hc h hno
      generalize l.getD k 0 = x at *
      have Hst := Lib.hid hst
      have Hhit := Lib.hid hhit
      clear hst hhit
      go_wp2_with fail
      refine (impl_one1 x _).mono ?_
      rintro e w1 ⟨rfl, rfl⟩
      clear g0
      cases hx : oneP x
      · go_wp2
        go_round
        case rel => exact ⟨k + 1, by omega, by go_num, by rw [Hst.out, hx]⟩
        case measure => simp [intOf]; omega
      · go_wp2
        go_ret
        exact ⟨k, rfl, by rw [Hhit.out hx]; simp, rfl⟩
    · obtain rfl : k = l.length := by omega
      rw [List.take_length] at hno
      have Hno := Lib.hid hno
      clear hno
      go_wp2
      go_ret
      exact ⟨-1, rfl, by rw [Hno.out]; rfl, rfl⟩

theorem containsFunc_one (A : Option Addr) (c B : Nat) (l : List Int) (w : World)
    (h : SlI w B A l) (hl : l.length ≤ 1000000000) :
    Calls Try.prog 63 #[.slice A l.length c, .func (.func 64) #[] #[]] w fun e w' => e = .returned (.bool (oneAny l)) ∧ w = w' := by
  go_enter Try.func63, Try.ntmps63
  go_wp2_with fail
  refine (indexFunc_one A c B l _ h hl).mono ?_
  rintro e w1 ⟨r, rfl, hr, rfl⟩
  have Hr := Lib.hid hr
  clear hr h
  go_wp2
  all_goals go_ret
  exact ⟨ret_bool Hr.out, rfl⟩

theorem oneAny_eq (l : List Int) : oneAny l = !posB l := by
  unfold oneAny posB
  induction l with
  | nil => rfl
  | cons x r ih =>
    rw [List.any_cons, List.all_cons, ih, Bool.not_and]
    congr 1
    rw [Bool.eq_iff_iff]
    simp [oneP]
end Go.Proofs.Ytbebalgleiafdab
