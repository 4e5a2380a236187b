/- The program's couldBeQuiddity and ringOf. -/
import Derived.Test.YtfkkbjbgjmaciaaRing
namespace Go.Proofs.Ytfkkbjbgjmaciaa
set_option linter.unusedVariables false
open Go.RowKit

def FoundI (q : Bool) (w : World) (e : Ending) (w' : World) : Prop := ∃ r : Int, e = .returned (.int .i64 r) ∧ decide (0 ≤ r) = q ∧ w = w'

def couldP (n x : Int) : Bool := decide (x < 1 ∨ n - 2 < x)
theorem impl_could1 (g : Nat) (n x : Int) (w : World) (h0 : w.cell? ⟨g, 0, none⟩ = some (.int .i64 n)) (hn : 0 ≤ n ∧ n ≤ 100) :
    Calls Try.prog 207 #[.int .i64 x, .pointer (some ⟨g, 0, none⟩)] w fun e w' => e = .returned (.bool (couldP n x)) ∧ w = w' := by
  obtain ⟨_, _⟩ := hn
  go_enter Try.func207, Try.ntmps207
  go_wp2
  all_goals go_ret
  all_goals refine ⟨ret_bool ?_, rfl⟩
  all_goals (unfold couldP; rw [Bool.eq_iff_iff]; simp <;> omega)

def couldAny (n : Int) (l : List Int) : Bool := l.any (couldP n)
theorem couldAny_take (n : Int) (l : List Int) (k : Nat) (h : k < l.length) : couldAny n (l.take (k + 1)) = (couldAny n (l.take k) || couldP n (l.getD k 0)) := by
  unfold couldAny
  rw [List.take_succ_eq_append_getElem h, List.any_append]
  simp [h]
theorem couldAny_hit (n : Int) (l : List Int) (k : Nat) (h : k < l.length) (hc : couldP n (l.getD k 0) = true) : couldAny n l = true := by
  unfold couldAny
  rw [List.any_eq_true]
  refine ⟨l[k], List.getElem_mem h, ?_⟩
  have e : l.getD k 0 = l[k] := by simp [h]
  rw [e] at hc
  exact hc

set_option maxHeartbeats 800000 in
theorem indexFunc_could (g : Nat) (n : Int) (A : Option Addr) (c B : Nat) (l : List Int) (w : World) (h0 : w.cell? ⟨g, 0, none⟩ = some (.int .i64 n)) (hn : 0 ≤ n ∧ n ≤ 100)
    (h : SlI w B A l) (hl : l.length ≤ 1000000000) :
    Calls Try.prog 170 #[.slice A l.length c, .func (.func 207) #[] #[.pointer (some ⟨g, 0, none⟩)]] w (FoundI (couldAny n l) w) := by
  go_enter Try.func170, Try.ntmps170
  go_wp2
  go_loop [5, 8] (fun _ i => ∃ k : Nat, k ≤ l.length ∧ i = .int .i64 k ∧ couldAny n (l.take k) = false) (fun _ i => l.length - (intOf i).toNat)
  case atStart => exact ⟨0, Nat.zero_le _, rfl, by simp [couldAny]⟩
  case round =>
    obtain ⟨k, hk, rfl, hno⟩ := hrel
    by_cases hlt : k < l.length
    · obtain ⟨b', off, rfl, hbB, hc⟩ := h (by omega)
      have g0 := hc k hlt
      have i0 : (0 : Int) ≤ (k : Int) := by omega
      have i1 : (k : Int) < (l.length : Int) := by omega
      have hst := couldAny_take n l k hlt
      have hhit := couldAny_hit n l k hlt
      rw [hno, Bool.false_or] at hst
      clear hc h hno
      generalize l.getD k 0 = x at *
      have Hst := Lib.hid hst
      have Hhit := Lib.hid hhit
      clear hst hhit
      go_wp2_with fail
      refine (impl_could1 g n x _ h0 hn).mono ?_
      rintro e w1 ⟨rfl, rfl⟩
      clear g0 h0
      cases hx : couldP n x
      · go_wp2
        go_round
        case rel => exact ⟨k + 1, by omega, by go_num, by rw [Hst.out, hx]⟩
        case measure => simp [intOf]; omega
      · go_wp2
        go_ret
        exact ⟨k, rfl, by rw [Hhit.out hx]; simp, rfl⟩
    · obtain rfl : k = l.length := by omega
      rw [List.take_length] at hno
      have Hno := Lib.hid hno
      clear hno
      go_wp2
      go_ret
      exact ⟨-1, rfl, by rw [Hno.out]; rfl, rfl⟩

theorem containsFunc_could (g : Nat) (n : Int) (A : Option Addr) (c B : Nat) (l : List Int) (w : World) (h0 : w.cell? ⟨g, 0, none⟩ = some (.int .i64 n)) (hn : 0 ≤ n ∧ n ≤ 100)
    (h : SlI w B A l) (hl : l.length ≤ 1000000000) :
    Calls Try.prog 101 #[.slice A l.length c, .func (.func 207) #[] #[.pointer (some ⟨g, 0, none⟩)]] w fun e w' => e = .returned (.bool (couldAny n l)) ∧ w = w' := by
  go_enter Try.func101, Try.ntmps101
  go_wp2_with fail
  refine (indexFunc_could g n A c B l _ h0 hn h hl).mono ?_
  rintro e w1 ⟨r, rfl, hr, rfl⟩
  have Hr := Lib.hid hr
  clear hr h0 h
  go_wp2
  all_goals go_ret
  exact ⟨ret_bool Hr.out, rfl⟩


theorem couldAny_allB (l : List Int) (n : Int) : couldAny n l = !allB l 1 (n - 2) := by
  unfold couldAny allB
  induction l with
  | nil => rfl
  | cons x r ih =>
    rw [List.any_cons, List.all_cons, ih, Bool.not_and]
    congr 1
    unfold couldP
    rw [Bool.eq_iff_iff]
    simp

set_option maxRecDepth 100000 in
theorem impl_couldBeQuiddity (A : Option Addr) (c B : Nat) (l : List Int) (w : World) (h : SlI w B A l) (hB : B ≤ w.heap.size) (hl : l.length ≤ 1048576) :
    Calls Try.prog 190 #[.slice A l.length c] w fun e w' => e = .returned (.bool (couldB l)) ∧ Below w.heap.size w w' := by
  have hmf : ∀ (fn : Fn) (first cap : Array Value) (w : World), (Instr.makeFunc fn first cap).run Try.prog w = .ok (.func fn first cap) w := fun _ _ _ _ => rfl
  have hfin : couldB l = (poB l.length && allB l 1 ((l.length : Int) - 2)) := rfl
  have Hfin := Lib.hid hfin
  clear hfin
  have hb : Below w.heap.size w (w.alloc (.cells #[.int .i64 l.length] 3)) := (Below.refl _ _).alloc (Nat.le_refl _) _
  cases hp : poB l.length
  · go_enter Try.func190, Try.ntmps190
    go_wp2_with (go_at_call 206; ((with_reducible refine (impl_isPolygon _ _ _ hp).mono ?_); rintro e w' ⟨rfl, rfl⟩))
    go_ret
    exact ⟨ret_bool (by rw [Hfin.out, hp]; rfl), hb⟩
  · have hn : 3 ≤ (l.length : Int) ∧ (l.length : Int) ≤ 12 := by unfold poB at hp; simpa using hp
    have hs := h.below (hb.mono hB)
    have Hn := Lib.hid hn
    clear hn
    go_enter Try.func190, Try.ntmps190
    go_wp2_with (go_at_call 206; ((with_reducible refine (impl_isPolygon _ _ _ hp).mono ?_); rintro e w' ⟨rfl, rfl⟩))
    refine (containsFunc_could w.heap.size l.length A c B l _ ?h0 ?h1 hs (by omega)).mono ?_
    case h0 => simp [go_sem]
    case h1 => have := Hn.out; omega
    rintro e w1 ⟨rfl, rfl⟩
    clear hs h
    go_wp2
    go_ret
    exact ⟨ret_bool (by rw [Hfin.out, hp, couldAny_allB]; simp), hb⟩

end Go.Proofs.Ytfkkbjbgjmaciaa
