/- The program's own test of triangulations, function by function. -/
import Derived.Test.YtbpaaoeefcebeabTriM
import Derived.Test.YtbpaaoeefcebeabLawD
namespace Go.Proofs.Ytbpaaoeefcebeab
set_option linter.unusedVariables false
open Go.RowKit

theorem cmp_isNaN (a : Int) (w : World) : Calls Try.prog 144 #[.int .i64 a] w fun e w' => e = .returned (.bool false) ∧ w = w' := by
  go_enter Try.func144, Try.ntmps144
  go_wp2
  go_ret
  exact ⟨rfl, rfl⟩

theorem cmp_Compare (a b : Int) (w : World) : Calls Try.prog 120 #[.int .i64 a, .int .i64 b] w fun e w' => e = .returned (.int .i64 (sgnI a b)) ∧ w = w' := by
  rcases Int.lt_trichotomy a b with h | h | h
  · have h1 : ¬ b < a := by omega
    rw [show sgnI a b = -1 from if_pos h]
    go_enter Try.func120, Try.ntmps120
    go_wp2_with (go_at_call 144; refine (cmp_isNaN _ _).mono ?_; rintro e w' ⟨rfl, rfl⟩)
    go_ret
    exact ⟨rfl, rfl⟩
  · subst h
    have h1 : ¬ a < a := by omega
    rw [show sgnI a a = 0 by simp [sgnI]]
    go_enter Try.func120, Try.ntmps120
    go_wp2_with (go_at_call 144; refine (cmp_isNaN _ _).mono ?_; rintro e w' ⟨rfl, rfl⟩)
    go_ret
    exact ⟨rfl, rfl⟩
  · have h1 : ¬ a < b := by omega
    rw [show sgnI a b = 1 by simp [sgnI, h1, h]]
    go_enter Try.func120, Try.ntmps120
    go_wp2_with (go_at_call 144; refine (cmp_isNaN _ _).mono ?_; rintro e w' ⟨rfl, rfl⟩)
    go_ret
    exact ⟨rfl, rfl⟩

theorem cmp_Or (g : Nat) (a b : Int) (w : World) (h0 : w.cell? ⟨g, 0, none⟩ = some (.int .i64 a)) (h1 : w.cell? ⟨g, 1, none⟩ = some (.int .i64 b)) :
    Calls Try.prog 126 #[.slice (some ⟨g, 0, none⟩) 2 2] w fun e w' => e = .returned (.int .i64 (orI a b)) ∧ w = w' := by
  by_cases ha : a = 0
  · subst ha
    rw [show orI 0 b = b from rfl]
    by_cases hb : b = 0
    · subst hb
      go_enter Try.func126, Try.ntmps126
      go_wp2
      refine wp_loop_rounds 3 ?_
      rw [rounds_succ]
      go_wp2
      rw [rounds_succ]
      go_wp2
      rw [rounds_succ]
      go_wp2
      go_ret
      exact ⟨rfl, rfl⟩
    · have hb' : (b != 0) = true := by simpa using hb
      go_enter Try.func126, Try.ntmps126
      go_wp2
      refine wp_loop_rounds 2 ?_
      rw [rounds_succ]
      go_wp2
      rw [rounds_succ]
      go_wp2
      go_ret
      exact ⟨rfl, rfl⟩
  · have ha' : (a != 0) = true := by simpa using ha
    rw [show orI a b = a from if_neg ha]
    go_enter Try.func126, Try.ntmps126
    go_wp2
    refine wp_loop_rounds 1 ?_
    rw [rounds_succ]
    go_wp2
    go_ret
    exact ⟨rfl, rfl⟩

theorem impl_compareDiagonals (a b c d : Int) (w : World) :
    Calls Try.prog 102 #[.agg #[.int .i64 a, .int .i64 b], .agg #[.int .i64 c, .int .i64 d]] w fun e w' => e = .returned (.int .i64 (cmpD a b c d)) ∧ Below w.heap.size w w' := by
  go_enter Try.func102, Try.ntmps102
  go_wp2
  go_region_held3 (fun w' => w'.cell? ⟨w.heap.size, 0, none⟩ = some (.int .i64 a) ∧ w'.cell? ⟨w.heap.size, 1, none⟩ = some (.int .i64 b) ∧
      w'.cell? ⟨w.heap.size + 1, 0, none⟩ = some (.int .i64 c) ∧ w'.cell? ⟨w.heap.size + 1, 1, none⟩ = some (.int .i64 d) ∧ Below w.heap.size w w')
    (first
      | exact ⟨by simp [go_sem], by simp [go_sem], by simp [go_sem], by simp [go_sem], (((Below.refl w.heap.size w).alloc (Nat.le_refl _) _).alloc (by simp) _).drew⟩
      | assumption
      | exact kept4 (by assumption) ((Below.refl _ _).alloc (Nat.le_refl _) _) (Nat.le_refl _))
    (first
      | (go_at_call 120; refine (cmp_Compare _ _ _).mono ?_; rintro e w1 ⟨rfl, rfl⟩)
      | (go_at_call 126; refine (cmp_Or _ (sgnI a c) (sgnI b d) _ ?h0 ?h1).mono ?_; (case h0 => simp [go_sem]); (case h1 => simp [go_sem]); rintro e w1 ⟨rfl, rfl⟩))
  rename_i hS
  obtain ⟨_, _, _, _, hd⟩ := hS
  go_wp2
  go_ret
  exact ⟨ret_int (orI_sgn a b c d), hd⟩

/-- the closure of crossesAny: its own diagonal is the captured one's cell -/
theorem impl_crossesAny1 (g : Nat) (a b c d : Int) (w : World) (h0 : w.cell? ⟨g, 0, none⟩ = some (.int .i64 a)) (h1 : w.cell? ⟨g, 1, none⟩ = some (.int .i64 b)) :
    Calls Try.prog 150 #[.agg #[.int .i64 c, .int .i64 d], .pointer (some ⟨g, 0, none⟩)] w fun e w' => e = .returned (.bool (crB a b c d)) ∧ Below w.heap.size w w' := by
  have hg : g < w.heap.size := World.block_lt_of_cell? w _ h0
  go_enter Try.func150, Try.ntmps150
  go_wp2_with fail
  refine (impl_cross a b c d _).mono ?_
  rintro e w1 ⟨rfl, hb1⟩
  have hd := ((Below.refl w.heap.size w).alloc (Nat.le_refl _) _).trans (hb1.mono (by simp))
  clear hb1
  go_wp2
  go_ret
  exact ⟨rfl, hd⟩

def Found (q : Bool) (w : World) (e : Ending) (w' : World) : Prop := ∃ r : Int, e = .returned (.int .i64 r) ∧ decide (0 ≤ r) = q ∧ Below w.heap.size w w'

set_option maxHeartbeats 800000 in
theorem indexFunc_crosses (g : Nat) (a b : Int) (A : Option Addr) (c B : Nat) (l : List (Int × Int)) (w : World) (h0 : w.cell? ⟨g, 0, none⟩ = some (.int .i64 a)) (h1 : w.cell? ⟨g, 1, none⟩ = some (.int .i64 b))
    (h : SlD w B A l) (hB : B ≤ w.heap.size) (hl : l.length ≤ 1000000000) :
    Calls Try.prog 163 #[.slice A l.length c, .func (.func 150) #[] #[.pointer (some ⟨g, 0, none⟩)]] w (Found (anyCross (a, b) l) w) := by
  go_enter Try.func163, Try.ntmps163
  go_wp2
  go_loopw [5, 8] (fun _ i wr => ∃ k : Nat, k ≤ l.length ∧ i = .int .i64 k ∧ Below w.heap.size w wr ∧ anyCross (a, b) (l.take k) = false) (fun _ i _ => l.length - (intOf i).toNat)
  case atStart => exact ⟨0, Nat.zero_le _, rfl, Below.refl _ _, by simp [anyCross]⟩
  case round =>
    obtain ⟨k, hk, rfl, hb, hno⟩ := hrel
    by_cases hlt : k < l.length
    · have hA := h.below (hb.mono hB)
      obtain ⟨b', off, rfl, hbB, hc⟩ := hA (by omega)
      obtain ⟨g0, g1⟩ := hc k hlt
      have i0 : (0 : Int) ≤ (k : Int) := by omega
      have i1 : (k : Int) < (l.length : Int) := by omega
      have q0 := cell_kept (hb.mono (Nat.le_refl _)) h0
      have q1 := cell_kept (hb.mono (Nat.le_refl _)) h1
      have hst := anyCross_take (a, b) l k hlt
      have hhit := anyCross_hit (a, b) l k hlt
      rw [hno, Bool.false_or] at hst
      dsimp only at hst hhit
      clear hc h hA hno
      generalize (l.getD k (0, 0)).1 = x at *
      generalize (l.getD k (0, 0)).2 = y at *
      have Hst := Lib.hid hst
      have Hhit := Lib.hid hhit
      clear hst hhit
      go_wp2_with fail
      refine (impl_crossesAny1 g a b x y _ q0 q1).mono ?_
      rintro e w1 ⟨rfl, hb1⟩
      have hd := below_kept hb (Nat.le_refl _) hb1
      clear hb hb1 q0 q1 g0 g1 h0 h1
      cases hx : crB a b x y
      · go_wp2
        go_roundw
        case rel => exact ⟨k + 1, by omega, by go_num, hd, by rw [Hst.out, hx]⟩
        case measure => simp [intOf]; omega
      · go_wp2
        go_ret
        exact ⟨k, rfl, by rw [Hhit.out hx]; simp, hd⟩
    · obtain rfl : k = l.length := by omega
      rw [List.take_length] at hno
      have Hno := Lib.hid hno
      clear hno
      go_wp2
      go_ret
      exact ⟨-1, rfl, by rw [Hno.out]; rfl, hb⟩

theorem containsFunc_crosses (g : Nat) (a b : Int) (A : Option Addr) (c B : Nat) (l : List (Int × Int)) (w : World) (h0 : w.cell? ⟨g, 0, none⟩ = some (.int .i64 a)) (h1 : w.cell? ⟨g, 1, none⟩ = some (.int .i64 b))
    (h : SlD w B A l) (hB : B ≤ w.heap.size) (hl : l.length ≤ 1000000000) :
    Calls Try.prog 149 #[.slice A l.length c, .func (.func 150) #[] #[.pointer (some ⟨g, 0, none⟩)]] w fun e w' => e = .returned (.bool (anyCross (a, b) l)) ∧ Below w.heap.size w w' := by
  go_enter Try.func149, Try.ntmps149
  go_wp2_with fail
  refine (indexFunc_crosses g a b A c B l _ h0 h1 h hB hl).mono ?_
  rintro e w1 ⟨r, rfl, hr, hb⟩
  have Hr := Lib.hid hr
  clear hr h0 h1 h
  go_wp2
  all_goals go_ret
  exact ⟨ret_bool Hr.out, hb⟩

theorem impl_crossesAny (a b : Int) (A : Option Addr) (c B : Nat) (l : List (Int × Int)) (w : World) (h : SlD w B A l) (hB : B ≤ w.heap.size) (hl : l.length ≤ 1000000000) :
    Calls Try.prog 123 #[.agg #[.int .i64 a, .int .i64 b], .slice A l.length c] w fun e w' => e = .returned (.bool (anyCross (a, b) l)) ∧ Below w.heap.size w w' := by
  have hmf : ∀ (fn : Fn) (first cap : Array Value) (w : World), (Instr.makeFunc fn first cap).run Try.prog w = .ok (.func fn first cap) w := fun _ _ _ _ => rfl
  go_enter Try.func123, Try.ntmps123
  go_wp2_with fail
  refine (containsFunc_crosses w.heap.size a b A c B l _ ?h0 ?h1 ?h2 ?h3 hl).mono ?_
  case h0 => simp [go_sem]
  case h1 => simp [go_sem]
  case h2 => exact h.below (((Below.refl _ _).alloc (Nat.le_refl _) _).mono hB)
  case h3 => simp; omega
  rintro e w1 ⟨rfl, hb1⟩
  have hd := ((Below.refl w.heap.size w).alloc (Nat.le_refl _) _).trans (hb1.mono (by simp))
  clear hb1
  go_wp2
  go_ret
  exact ⟨rfl, hd⟩

theorem impl_crossesAny_n (a b : Int) (A : Option Addr) (n c B : Nat) (l : List (Int × Int)) (w : World) (hn : l.length = n) (h : SlD w B A l) (hB : B ≤ w.heap.size) (hl : n ≤ 1000000000) :
    Calls Try.prog 123 #[.agg #[.int .i64 a, .int .i64 b], .slice A n c] w fun e w' => e = .returned (.bool (anyCross (a, b) l)) ∧ Below w.heap.size w w' := by
  subst hn
  exact impl_crossesAny a b A c B l w h hB hl

end Go.Proofs.Ytbpaaoeefcebeab
