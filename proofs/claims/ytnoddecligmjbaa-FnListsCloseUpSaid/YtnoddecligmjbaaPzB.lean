/- Is a list of numbers a puzzle? The model's and the program's. -/
import Derived.Test.YtnoddecligmjbaaPuzH
import Derived.Test.YtnoddecligmjbaaL1
import Derived.IntWalk
import Derived.BigQuiet
namespace Go.Proofs.Ytnoddecligmjbaa
set_option linter.unusedVariables false
open Go.RowKit

/-- a puzzle's length; a puzzle -/
def pzL (n : Nat) : Bool := decide (3 ≤ n ∧ n ≤ 9)
def pzB (l : List Int) : Bool := pzL l.length && allB l 0 ((l.length : Int) - 2)
theorem pzB_len {l : List Int} (h : pzB l = true) : 3 ≤ l.length ∧ l.length ≤ 9 := by
  unfold pzB pzL at h
  simp at h
  omega
theorem pzB_get {l : List Int} (h : pzB l = true) (k : Nat) (hk : k < l.length) : 0 ≤ l.getD k 0 ∧ l.getD k 0 ≤ (l.length : Int) - 2 := by
  unfold pzB at h
  simp only [Bool.and_eq_true] at h
  exact allB_iff.1 h.2 k hk

theorem spec_pzGood (A : Option Addr) (n c B : Nat) (l : List Int) (w : World) (hn : l.length = n) (h : SlI w B A l) (hB : B ≤ w.heap.size) (hl : n ≤ 1048576) :
    Calls Try.prog 96 #[.agg #[.slice A n c]] w fun e w' => e = .returned (.bool (pzB l)) ∧ Below w.heap.size w w' := by
  subst hn
  have hfin : pzB l = (pzL l.length && allB l 0 ((l.length : Int) - 2)) := rfl
  have Hfin := Lib.hid hfin
  clear hfin
  have hb := below_box (Below.refl w.heap.size w) (Nat.le_refl _) (.cells #[.slice A l.length c] 27)
  have hs := h.below (hb.mono hB)
  have Hb := Lib.hid hb
  clear hb h
  cases hp : pzL l.length
  · have hi : inB (l.length : Int) 3 9 = false := by unfold pzL at hp; unfold inB; simp at hp ⊢; omega
    have HE : Hid (pzB l = false) := Lib.hid (by rw [Hfin.out, hp]; rfl)
    clear hp Hfin hs
    go_enter Try.func96, Try.ntmps96
    go_wp2_with fail
    refine (spec_l1In' _ _ _ _).mono ?_
    rintro e w1 ⟨rfl, rfl⟩
    rw [hi]
    clear hi
    go_wp2
    go_ret
    exact ⟨ret_bool HE.out.symm, Hb.out⟩
  · have hn : 3 ≤ l.length ∧ l.length ≤ 9 := by unfold pzL at hp; simpa using hp
    have hi : inB (l.length : Int) 3 9 = true := by unfold inB; simp; omega
    have HE : Hid (pzB l = allB l 0 ((l.length : Int) - 2)) := Lib.hid (by rw [Hfin.out, hp]; rfl)
    clear hp Hfin
    go_enter Try.func96, Try.ntmps96
    go_wp2_with fail
    refine (spec_l1In' _ _ _ _).mono ?_
    rintro e w1 ⟨rfl, rfl⟩
    rw [hi]
    clear hi
    go_wp2_with fail
    refine (spec_l1All A c B l _ _ _ hs (by omega)).mono ?_
    rintro e w1 ⟨rfl, rfl⟩
    clear hs
    go_wp2
    go_ret
    exact ⟨ret_bool HE.out.symm, Hb.out⟩

theorem spec_IsPuzzle (A : Option Addr) (n c B : Nat) (l : List Int) (w : World) (hn : l.length = n) (h : SlI w B A l) (hB : B ≤ w.heap.size) (hl : n ≤ 1048576) :
    Calls Try.prog 16 #[.agg #[.slice A n c]] w fun e w' => e = .returned (.bool (pzB l)) ∧ Below w.heap.size w w' := by
  have hb := below_box (Below.refl w.heap.size w) (Nat.le_refl _) (.cells #[.slice A n c] 27)
  have hs := h.below (hb.mono hB)
  have Hb := Lib.hid hb
  clear hb h
  go_enter Try.func16, Try.ntmps16
  go_wp2_with fail
  refine (spec_pzGood A n c B l _ hn hs (by simp; omega) hl).mono ?_
  rintro e w1 ⟨rfl, hb1⟩
  have hE := Lib.hid (below_kept Hb.out (Nat.le_refl _) hb1)
  clear hb1 hs
  go_wp2
  go_ret
  exact ⟨rfl, hE.out⟩

theorem impl_isPuzzleLength (n : Int) (w : World) : Calls Try.prog 97 #[.int .i64 n] w fun e w' => e = .returned (.bool (inB n 3 9)) ∧ w = w' := by
  go_enter Try.func97, Try.ntmps97
  go_wp2
  all_goals go_ret
  all_goals refine ⟨ret_bool ?_, rfl⟩
  all_goals (unfold inB; rw [Bool.eq_iff_iff]; simp; try omega)

def FoundP (q : Bool) (w : World) (e : Ending) (w' : World) : Prop := ∃ r : Int, e = .returned (.int .i64 r) ∧ decide (0 ≤ r) = q ∧ w = w'
def pzP (n x : Int) : Bool := decide (x < 0 ∨ n - 2 < x)
theorem impl_pz1 (g : Nat) (n x : Int) (w : World) (h0 : w.cell? ⟨g, 0, none⟩ = some (.int .i64 n)) (hn : 0 ≤ n ∧ n ≤ 100) :
    Calls Try.prog 99 #[.int .i64 x, .pointer (some ⟨g, 0, none⟩)] w fun e w' => e = .returned (.bool (pzP n x)) ∧ w = w' := by
  obtain ⟨_, _⟩ := hn
  go_enter Try.func99, Try.ntmps99
  go_wp2
  all_goals go_ret
  all_goals refine ⟨ret_bool ?_, rfl⟩
  all_goals (unfold pzP; rw [Bool.eq_iff_iff]; simp <;> omega)

def pzAny (n : Int) (l : List Int) : Bool := l.any (pzP n)
theorem pzAny_take (n : Int) (l : List Int) (k : Nat) (h : k < l.length) : pzAny n (l.take (k + 1)) = (pzAny n (l.take k) || pzP n (l.getD k 0)) := by
  unfold pzAny
  rw [List.take_succ_eq_append_getElem h, List.any_append]
  simp [h]
theorem pzAny_hit (n : Int) (l : List Int) (k : Nat) (h : k < l.length) (hc : pzP n (l.getD k 0) = true) : pzAny n l = true := by
  unfold pzAny
  rw [List.any_eq_true]
  refine ⟨l[k], List.getElem_mem h, ?_⟩
  have e : l.getD k 0 = l[k] := by simp [h]
  rw [e] at hc
  exact hc

set_option maxHeartbeats 800000 in
theorem indexFunc_pz (g : Nat) (n : Int) (A : Option Addr) (c B : Nat) (l : List Int) (w : World) (h0 : w.cell? ⟨g, 0, none⟩ = some (.int .i64 n)) (hn : 0 ≤ n ∧ n ≤ 100)
    (h : SlI w B A l) (hl : l.length ≤ 1000000000) :
    Calls Try.prog 156 #[.slice A l.length c, .func (.func 99) #[] #[.pointer (some ⟨g, 0, none⟩)]] w (FoundP (pzAny n l) w) := by
  go_enter Try.func156, Try.ntmps156
  go_wp2
  go_loop [5, 8] (fun _ i => ∃ k : Nat, k ≤ l.length ∧ i = .int .i64 k ∧ pzAny n (l.take k) = false) (fun _ i => l.length - (intOf i).toNat)
  case atStart => exact ⟨0, Nat.zero_le _, rfl, by simp [pzAny]⟩
  case round =>
    obtain ⟨k, hk, rfl, hno⟩ := hrel
    by_cases hlt : k < l.length
    · obtain ⟨b', off, rfl, hbB, hc⟩ := h (by omega)
      have g0 := hc k hlt
      have i0 : (0 : Int) ≤ (k : Int) := by omega
      have i1 : (k : Int) < (l.length : Int) := by omega
      have hst := pzAny_take n l k hlt
      have hhit := pzAny_hit n l k hlt
      rw [hno, Bool.false_or] at hst
      clear hc h hno
      generalize l.getD k 0 = x at *
      have Hst := Lib.hid hst
      have Hhit := Lib.hid hhit
      clear hst hhit
      go_wp2_with fail
      refine (impl_pz1 g n x _ h0 hn).mono ?_
      rintro e w1 ⟨rfl, rfl⟩
      clear g0 h0
      cases hx : pzP n x
      · go_wp2
        go_round
        case rel => exact ⟨k + 1, by omega, by go_num, by rw [Hst.out, hx]⟩
        case measure => simp [intOf]; omega
      · go_wp2
        go_ret
        exact ⟨k, rfl, by rw [Hhit.out hx]; simp, rfl⟩
    · obtain rfl : k = l.length := by omega
      rw [List.take_length] at hno
      have Hno := Lib.hid hno
      clear hno
      go_wp2
      go_ret
      exact ⟨-1, rfl, by rw [Hno.out]; rfl, rfl⟩

theorem containsFunc_pz (g : Nat) (n : Int) (A : Option Addr) (c B : Nat) (l : List Int) (w : World) (h0 : w.cell? ⟨g, 0, none⟩ = some (.int .i64 n)) (hn : 0 ≤ n ∧ n ≤ 100)
    (h : SlI w B A l) (hl : l.length ≤ 1000000000) :
    Calls Try.prog 98 #[.slice A l.length c, .func (.func 99) #[] #[.pointer (some ⟨g, 0, none⟩)]] w fun e w' => e = .returned (.bool (pzAny n l)) ∧ w = w' := by
  go_enter Try.func98, Try.ntmps98
  go_wp2_with fail
  refine (indexFunc_pz g n A c B l _ h0 hn h hl).mono ?_
  rintro e w1 ⟨r, rfl, hr, rfl⟩
  have Hr := Lib.hid hr
  clear hr h0 h
  go_wp2
  all_goals go_ret
  exact ⟨ret_bool Hr.out, rfl⟩


theorem pzAny_allB (l : List Int) (n : Int) : pzAny n l = !allB l 0 (n - 2) := by
  unfold pzAny allB
  induction l with
  | nil => rfl
  | cons x r ih =>
    rw [List.any_cons, List.all_cons, ih, Bool.not_and]
    congr 1
    unfold pzP
    rw [Bool.eq_iff_iff]
    simp

set_option maxRecDepth 100000 in
theorem impl_IsPuzzle (A : Option Addr) (n c B : Nat) (l : List Int) (w : World) (hn : l.length = n) (h : SlI w B A l) (hB : B ≤ w.heap.size) (hl : n ≤ 1048576) :
    Calls Try.prog 18 #[.agg #[.slice A n c]] w fun e w' => e = .returned (.bool (pzB l)) ∧ Below w.heap.size w w' := by
  subst hn
  have hmf : ∀ (fn : Fn) (first cap : Array Value) (w : World), (Instr.makeFunc fn first cap).run Try.prog w = .ok (.func fn first cap) w := fun _ _ _ _ => rfl
  have hfin : pzB l = (pzL l.length && allB l 0 ((l.length : Int) - 2)) := rfl
  have Hfin := Lib.hid hfin
  clear hfin
  obtain ⟨w2, hw2⟩ : ∃ w2, w2 = (w.alloc (.cells #[.slice A l.length c] 27)).alloc (.cells #[.int .i64 l.length] 3) := ⟨_, rfl⟩
  have hb : Below w.heap.size w w2 := by
    rw [hw2]
    exact below_box (below_box (Below.refl _ _) (Nat.le_refl _) _) (Nat.le_refl _) _
  have c0 : w2.cell? ⟨w.heap.size, 0, none⟩ = some (.slice A l.length c) := by rw [hw2]; simp [go_sem]
  have c1 : w2.cell? ⟨w.heap.size + 1, 0, none⟩ = some (.int .i64 l.length) := by rw [hw2]; simp [go_sem]
  have hs := h.below (hb.mono hB)
  have Hb := Lib.hid hb
  have Hw2 := Lib.hid hw2
  clear hb h hw2
  cases hp : pzL l.length
  · have hi : inB (l.length : Int) 3 9 = false := by unfold pzL at hp; unfold inB; simp at hp ⊢; omega
    have HE : Hid (pzB l = false) := Lib.hid (by rw [Hfin.out, hp]; rfl)
    clear hp Hfin hs
    go_enter Try.func18, Try.ntmps18
    go_wp2_with fail
    rw [← Hw2.out]
    clear Hw2
    refine (impl_isPuzzleLength _ _).mono ?_
    rintro e w1 ⟨rfl, rfl⟩
    rw [hi]
    clear hi
    go_wp2
    go_ret
    exact ⟨ret_bool HE.out.symm, Hb.out⟩
  · have hn : 3 ≤ (l.length : Int) ∧ (l.length : Int) ≤ 9 := by unfold pzL at hp; simp at hp; omega
    have hi : inB (l.length : Int) 3 9 = true := by unfold inB; simp; omega
    have HE : Hid (pzB l = !pzAny l.length l) := Lib.hid (by rw [Hfin.out, hp, pzAny_allB]; simp)
    have Hn := Lib.hid hn
    clear hp Hfin hn
    go_enter Try.func18, Try.ntmps18
    go_wp2_with fail
    rw [← Hw2.out]
    clear Hw2
    refine (impl_isPuzzleLength _ _).mono ?_
    rintro e w1 ⟨rfl, rfl⟩
    rw [hi]
    clear hi
    go_wp2_with fail
    refine (containsFunc_pz (w.heap.size + 1) l.length A c B l _ c1 (by have := Hn.out; omega) hs (by omega)).mono ?_
    rintro e w1 ⟨rfl, rfl⟩
    clear hs c0 c1
    go_wp2
    go_ret
    exact ⟨ret_bool HE.out.symm, Hb.out⟩

end Go.Proofs.Ytnoddecligmjbaa
