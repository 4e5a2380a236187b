/- The model's and the program's terms and continuants. -/
import Derived.Test.YtfkkbjbgjmaciaaContM
import Derived.Test.YtfkkbjbgjmaciaaL1
import Derived.IntWalk
namespace Go.Proofs.Ytfkkbjbgjmaciaa
set_option linter.unusedVariables false
open Go.RowKit

theorem spec_ctGood (A : Option Addr) (n c B : Nat) (l : List Int) (w : World) (hn : l.length = n) (h : SlI w B A l) (hl : n ≤ 1048576) :
    Calls Try.prog 94 #[.slice A n c] w fun e w' => e = .returned (.bool (good l)) ∧ w = w' := by
  subst hn
  have hg : good l = (decide (l.length ≤ 10) && allB l (-30) 30) := rfl
  have Hg := Lib.hid hg
  clear hg
  by_cases h10 : l.length ≤ 10
  · have n1 : (l.length : Int) ≤ 10 := by omega
    have hd : decide (l.length ≤ 10) = true := decide_eq_true h10
    have Hd := Lib.hid hd
    clear hd
    go_enter Try.func94, Try.ntmps94
    go_wp2_with fail
    refine (spec_l1All A c B l (-30) 30 _ h (by omega)).mono ?_
    rintro e w1 ⟨rfl, rfl⟩
    clear h
    go_wp2
    go_ret
    exact ⟨ret_bool (by rw [Hg.out, Hd.out]; rfl), rfl⟩
  · have n1 : ¬ (l.length : Int) ≤ 10 := by omega
    have hd : decide (l.length ≤ 10) = false := decide_eq_false h10
    have Hd := Lib.hid hd
    clear hd h
    go_enter Try.func94, Try.ntmps94
    go_wp2
    go_ret
    exact ⟨ret_bool (by rw [Hg.out, Hd.out]; rfl), rfl⟩

set_option maxHeartbeats 800000 in
theorem spec_ctValue (A : Option Addr) (n c B : Nat) (l : List Int) (s : Int) (w : World) (hn : l.length = n) (hs : s = 1 ∨ s = -1) (h : SlI w B A l) (hsm : Small l) (hl : n ≤ 10) :
    Calls Try.prog 97 #[.slice A n c, .int .i64 s] w fun e w' => e = .returned (.int .i64 (ctv s l)) ∧ w = w' := by
  subst hn
  have hsb : -1 ≤ s ∧ s ≤ 1 := by omega
  obtain ⟨sb0, sb1⟩ := hsb
  have Hs := Lib.hid hs
  have Hsm := Lib.hid hsm
  clear hs hsm
  go_enter Try.func97, Try.ntmps97
  go_wp2
  go_loop [5, 6, 8, 9, 12] (fun b a _ _ i => ∃ k : Nat, k ≤ l.length ∧ i = .int .i64 k ∧ b = .int .i64 (ctS s (l.take k)).1 ∧ a = .int .i64 (ctS s (l.take k)).2) (fun _ _ _ _ i => l.length - (intOf i).toNat)
  case atStart => exact ⟨0, Nat.zero_le _, rfl, rfl, rfl⟩
  case round =>
    obtain ⟨k, hk, rfl, rfl, rfl⟩ := hrel
    by_cases hlt : k < l.length
    · obtain ⟨b', off, rfl, hbB, hc⟩ := h (by omega)
      have g0 := hc k hlt
      have i0 : (0 : Int) ≤ (k : Int) := by omega
      have i1 : (k : Int) < (l.length : Int) := by omega
      have hst := ctS_take s l k hlt
      obtain ⟨⟨p1, p2⟩, ⟨q1, q2⟩, r1, r2⟩ := ctS_round Hs.out l Hsm.out hl k hlt
      have sp : -26439622160671 ≤ s * (ctS s (l.take k)).1 ∧ s * (ctS s (l.take k)).1 ≤ 26439622160671 := by
        rcases Hs.out with rfl | rfl <;> omega
      obtain ⟨sp1, sp2⟩ := sp
      generalize (ctS s (l.take k)).1 = p at *
      generalize (ctS s (l.take k)).2 = q at *
      generalize l.getD k 0 = x at *
      have Hst := Lib.hid hst
      clear hst hc h
      go_wp2
      go_round
      case rel => exact ⟨k + 1, by omega, by go_num, by rw [Hst.out], by rw [Hst.out]⟩
      case measure => simp [intOf]; omega
    · obtain rfl : k = l.length := by omega
      clear h
      go_wp2
      go_ret
      exact ⟨ret_int rfl, rfl⟩

/-- what the program's IsTermList looks for -/
def termP (x : Int) : Bool := decide (x < -30 ∨ 30 < x)
theorem impl_term1 (x : Int) (w : World) : Calls Try.prog 102 #[.int .i64 x] w fun e w' => e = .returned (.bool (termP x)) ∧ w = w' := by
  go_enter Try.func102, Try.ntmps102
  go_wp2
  all_goals go_ret
  all_goals refine ⟨ret_bool ?_, rfl⟩
  all_goals (unfold termP; rw [Bool.eq_iff_iff]; simp; try omega)

def FoundT (q : Bool) (w : World) (e : Ending) (w' : World) : Prop := ∃ r : Int, e = .returned (.int .i64 r) ∧ decide (0 ≤ r) = q ∧ w = w'

def termAny (l : List Int) : Bool := l.any (termP)
theorem termAny_take (l : List Int) (k : Nat) (h : k < l.length) : termAny (l.take (k + 1)) = (termAny (l.take k) || termP (l.getD k 0)) := by
  unfold termAny
  rw [List.take_succ_eq_append_getElem h, List.any_append]
  simp [h]
theorem termAny_hit (l : List Int) (k : Nat) (h : k < l.length) (hc : termP (l.getD k 0) = true) : termAny l = true := by
  unfold termAny
  rw [List.any_eq_true]
  refine ⟨l[k], List.getElem_mem h, ?_⟩
  have e : l.getD k 0 = l[k] := by simp [h]
  rw [e] at hc
  exact hc

set_option maxHeartbeats 800000 in
theorem indexFunc_term (A : Option Addr) (c B : Nat) (l : List Int) (w : World)
    (h : SlI w B A l) (hl : l.length ≤ 1000000000) :
    Calls Try.prog 170 #[.slice A l.length c, .func (.func 102) #[] #[]] w (FoundT (termAny l) w) := by
  go_enter Try.func170, Try.ntmps170
  go_wp2
  go_loop [5, 8] (fun _ i => ∃ k : Nat, k ≤ l.length ∧ i = .int .i64 k ∧ termAny (l.take k) = false) (fun _ i => l.length - (intOf i).toNat)
  case atStart => exact ⟨0, Nat.zero_le _, rfl, by simp [termAny]⟩
  case round =>
    obtain ⟨k, hk, rfl, hno⟩ := hrel
    by_cases hlt : k < l.length
    · obtain ⟨b', off, rfl, hbB, hc⟩ := h (by omega)
      have g0 := hc k hlt
      have i0 : (0 : Int) ≤ (k : Int) := by omega
      have i1 : (k : Int) < (l.length : Int) := by omega
      have hst := termAny_take l k hlt
      have hhit := termAny_hit l k hlt
      rw [hno, Bool.false_or] at hst
      clear hc h hno
      generalize l.getD k 0 = x at *
      have Hst := Lib.hid hst
      have Hhit := Lib.hid hhit
      clear hst hhit
      go_wp2_with fail
      refine (impl_term1 x _).mono ?_
      rintro e w1 ⟨rfl, rfl⟩
      clear g0
      cases hx : termP x
      · go_wp2
        go_round
        case rel => exact ⟨k + 1, by omega, by go_num, by rw [Hst.out, hx]⟩
        case measure => simp [intOf]; omega
      · go_wp2
        go_ret
        exact ⟨k, rfl, by rw [Hhit.out hx]; simp, rfl⟩
    · obtain rfl : k = l.length := by omega
      rw [List.take_length] at hno
      have Hno := Lib.hid hno
      clear hno
      go_wp2
      go_ret
      exact ⟨-1, rfl, by rw [Hno.out]; rfl, rfl⟩

theorem containsFunc_term (A : Option Addr) (c B : Nat) (l : List Int) (w : World)
    (h : SlI w B A l) (hl : l.length ≤ 1000000000) :
    Calls Try.prog 101 #[.slice A l.length c, .func (.func 102) #[] #[]] w fun e w' => e = .returned (.bool (termAny l)) ∧ w = w' := by
  go_enter Try.func101, Try.ntmps101
  go_wp2_with fail
  refine (indexFunc_term A c B l _ h hl).mono ?_
  rintro e w1 ⟨r, rfl, hr, rfl⟩
  have Hr := Lib.hid hr
  clear hr h
  go_wp2
  all_goals go_ret
  exact ⟨ret_bool Hr.out, rfl⟩


theorem termAny_allB (l : List Int) : termAny l = !allB l (-30) 30 := by
  unfold termAny allB
  induction l with
  | nil => rfl
  | cons x r ih =>
    rw [List.any_cons, List.all_cons, ih, Bool.not_and]
    congr 1
    unfold termP
    rw [Bool.eq_iff_iff]
    simp

theorem impl_IsTermList (A : Option Addr) (n c B : Nat) (l : List Int) (w : World) (hn : l.length = n) (h : SlI w B A l) (hl : n ≤ 1048576) :
    Calls Try.prog 21 #[.slice A n c] w fun e w' => e = .returned (.bool (good l)) ∧ w = w' := by
  subst hn
  have hg : good l = (decide (l.length ≤ 10) && allB l (-30) 30) := rfl
  have Hg := Lib.hid hg
  clear hg
  by_cases h10 : l.length ≤ 10
  · have n1 : (l.length : Int) ≤ 10 := by omega
    have hd : decide (l.length ≤ 10) = true := decide_eq_true h10
    have Hd := Lib.hid hd
    clear hd
    go_enter Try.func21, Try.ntmps21
    go_wp2_with fail
    refine (containsFunc_term A c B l _ h (by omega)).mono ?_
    rintro e w1 ⟨rfl, rfl⟩
    clear h
    go_wp2
    go_ret
    exact ⟨ret_bool (by rw [Hg.out, Hd.out, termAny_allB]; simp), rfl⟩
  · have n1 : ¬ (l.length : Int) ≤ 10 := by omega
    have hd : decide (l.length ≤ 10) = false := decide_eq_false h10
    have Hd := Lib.hid hd
    clear hd h
    go_enter Try.func21, Try.ntmps21
    go_wp2
    go_ret
    exact ⟨ret_bool (by rw [Hg.out, Hd.out]; rfl), rfl⟩
end Go.Proofs.Ytfkkbjbgjmaciaa
