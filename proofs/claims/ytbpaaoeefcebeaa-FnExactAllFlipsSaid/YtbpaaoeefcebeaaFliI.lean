/- The program's search for a diagonal in a list, its sides of triangles, the other diagonal of a quadrilateral. -/
import Derived.Test.YtbpaaoeefcebeaaFlipM
import Derived.Test.YtbpaaoeefcebeaaMove
import Derived.Test.YtbpaaoeefcebeaaLawM
import Derived.Deep.QuietTactic
import Derived.BigQuiet
namespace Go.Proofs.Ytbpaaoeefcebeaa
set_option linter.unusedVariables false
open Go.RowKit

/-- where a diagonal first stands in a list; -1: nowhere -/
def IdxD (l : List (Int × Int)) (d : Int × Int) (r : Int) : Prop := (∃ k : Nat, k < l.length ∧ r = (k : Int) ∧ l.getD k (0, 0) = d ∧ ∀ j, j < k → l.getD j (0, 0) ≠ d) ∨ (r = -1 ∧ d ∉ l)
theorem idx_none {l : List (Int × Int)} {d : Int × Int} (h : ∀ j, j < l.length → l.getD j (0, 0) ≠ d) : d ∉ l := fun hm => by
  obtain ⟨i, hi, rfl⟩ := List.getElem_of_mem hm
  exact h i hi (getD_at hi)
def IdxEnd (l : List (Int × Int)) (d : Int × Int) (w : World) (e : Ending) (w' : World) : Prop := ∃ r, e = .returned (.int .i64 r) ∧ IdxD l d r ∧ Below w.heap.size w w'

set_option maxRecDepth 100000 in
set_option maxHeartbeats 1600000 in
theorem slices_IndexD (A : Option Addr) (n c B : Nat) (l : List (Int × Int)) (x y : Int) (w : World) (h : SlD w B A l) (hl : l.length = n) (hB : B ≤ w.heap.size) (hn : n ≤ 1000000) :
    Calls Try.prog 98 #[.slice A n c, .agg #[.int .i64 x, .int .i64 y]] w (IdxEnd l (x, y) w) := by
  have Hl := Lib.hid hl
  have H := Lib.hid h
  clear hl h
  go_enter Try.func98, Try.ntmps98
  go_wp2
  go_loopw [5, 8] (fun _ i wr => ∃ k : Nat, k ≤ n ∧ i = .int .i64 k ∧ (∀ j, j < k → l.getD j (0, 0) ≠ (x, y)) ∧ wr.cell? ⟨w.heap.size, 0, none⟩ = some (.int .i64 x) ∧ wr.cell? ⟨w.heap.size, 1, none⟩ = some (.int .i64 y) ∧ Below w.heap.size w wr) (fun _ i _ => n - (intOf i).toNat)
  case atStart => exact ⟨0, Nat.zero_le _, rfl, fun j hj => by omega, by simp [go_sem], by simp [go_sem], (Below.refl _ _).alloc (Nat.le_refl _) _⟩
  case round =>
    obtain ⟨k, hk, rfl, hno, q0, q1, hb⟩ := hrel
    have Hno := Lib.hid hno
    clear hno
    by_cases hlt : k < n
    · obtain ⟨b, off, rfl, hbB, hc⟩ := H.out.below (hb.mono hB) (by have := Hl.out; omega)
      obtain ⟨g0, g1⟩ := hc k (by rw [Hl.out]; exact hlt)
      have i0 : (0 : Int) ≤ (k : Int) := by omega
      have i1 : (k : Int) < (n : Int) := by omega
      generalize hd : l.getD k (0, 0) = d at *
      have Hd := Lib.hid hd
      obtain ⟨u, v⟩ := d
      dsimp only at g0 g1
      clear hc hd
      have Hb := Lib.hid hb
      have hnext : (x, y) ≠ (u, v) → ∀ j, j < k + 1 → l.getD j (0, 0) ≠ (x, y) := fun hne j hj => by
        by_cases e : j = k
        · subst e; rw [Hd.out]; exact fun e => hne e.symm
        · exact Hno.out j (by omega)
      have Hnext := Lib.hid hnext
      clear hb hnext
      by_cases hx : x = u
      · subst hx
        by_cases hy : y = v
        · subst hy
          have hres : ∀ z : Nat, IdxEnd l (x, y) w (.returned (.int .i64 k)) (wr.drewN z) := fun z => ⟨k, rfl, Or.inl ⟨k, by rw [Hl.out]; exact hlt, rfl, Hd.out, Hno.out⟩, below_drewN Hb.out z⟩
          have Hres := Lib.hid hres
          clear hres
          go_wp2
          go_quiet (fail)
          go_wp2
          go_ret
          exact Hres.out _
        · have hy' : (y == v) = false := by simpa using hy
          go_wp2
          go_quiet (fail)
          go_wp2
          go_roundw
          case rel => exact ⟨k + 1, by omega, by go_num, Hnext.out (fun e => by injection e with e1 e2; exact hy e2), q0, q1, below_drewN Hb.out _⟩
          case measure => simp [intOf]; omega
      · have hx' : (x == u) = false := by simpa using hx
        go_wp2
        go_quiet (fail)
        go_wp2
        go_roundw
        case rel => exact ⟨k + 1, by omega, by go_num, Hnext.out (fun e => by injection e with e1 e2; exact hx e1), q0, q1, below_drewN Hb.out _⟩
        case measure => simp [intOf]; omega
    · obtain rfl : k = n := by omega
      have hres : IdxEnd l (x, y) w (.returned (.int .i64 (-1))) wr := ⟨-1, rfl, Or.inr ⟨rfl, idx_none (by rw [Hl.out]; exact Hno.out)⟩, hb⟩
      have Hres := Lib.hid hres
      clear hres
      go_wp2
      go_ret
      exact Hres.out

set_option maxHeartbeats 800000 in
theorem slices_ContainsD (A : Option Addr) (n c B : Nat) (l : List (Int × Int)) (x y : Int) (b : Bool) (w : World) (h : SlD w B A l) (hl : l.length = n) (hB : B ≤ w.heap.size) (hn : n ≤ 1000000) (hb : decide ((x, y) ∈ l) = b) :
    Calls Try.prog 69 #[.slice A n c, .agg #[.int .i64 x, .int .i64 y]] w fun e w' => e = .returned (.bool b) ∧ Below w.heap.size w w' := by
  go_enter Try.func69, Try.ntmps69
  have hbA : Below w.heap.size w (w.alloc (.cells #[.int .i64 x, .int .i64 y] 40)) := (Below.refl _ _).alloc (Nat.le_refl _) _
  go_wp2_with fail
  refine (slices_IndexD A n c B l x y _ (h.below (hbA.mono hB)) hl (Nat.le_trans hB hbA.size) hn).mono ?_
  rintro e w1 ⟨r, rfl, hi, hb1⟩
  have hd := below_kept hbA (Nat.le_refl _) hb1
  have hr : decide (0 ≤ r) = b := by
    rw [← hb, decide_eq_decide]
    rcases hi with ⟨k, hk, rfl, hg, _⟩ | ⟨rfl, hn⟩
    · constructor
      · intro _
        rw [← hg, getD_at hk]
        exact List.getElem_mem hk
      · intro _; omega
    · constructor
      · intro h; omega
      · intro h; exact absurd h hn
  have Hr := Lib.hid hr
  clear hr hi hb1 hb h
  go_wp2
  go_ret
  exact ⟨ret_bool (by rw [← Hr.out]), hd⟩

set_option maxRecDepth 100000 in
set_option maxHeartbeats 1600000 in
theorem impl_isSide (n : Int) (A : Option Addr) (m c B : Nat) (l : List (Int × Int)) (x y : Int) (b : Bool) (w : World) (h : SlD w B A l) (hl : l.length = m) (hB : B ≤ w.heap.size) (hm : m ≤ 1000000) (hn : 3 ≤ n ∧ n ≤ 12) (hx : 0 ≤ x ∧ x < n) (hJ : decide (Jd n l x y) = b) :
    Calls Try.prog 103 #[.int .i64 n, .slice A m c, .agg #[.int .i64 x, .int .i64 y]] w fun e w' => e = .returned (.bool b) ∧ Below w.heap.size w w' := by
  obtain ⟨_, _⟩ := hn
  obtain ⟨_, _⟩ := hx
  have hbA : Below w.heap.size w (w.alloc (.cells #[.int .i64 x, .int .i64 y] 40)) := (Below.refl _ _).alloc (Nat.le_refl _) _
  have HJ := Lib.hid hJ
  have H := Lib.hid h
  have HbA := Lib.hid hbA
  clear hJ h hbA
  by_cases h1 : y = x + 1
  · have hb : b = true := by rw [← HJ.out, decide_eq_true_eq]; exact Or.inl h1
    have Hb := Lib.hid hb
    clear hb
    go_enter Try.func103, Try.ntmps103
    go_wp2
    go_ret
    exact ⟨ret_bool Hb.out.symm, (Below.refl _ _).alloc (Nat.le_refl _) _⟩
  · have h1' : (y == x + 1) = false := by simpa using h1
    by_cases h2 : x = 0 ∧ y = n - 1
    · have hb : b = true := by rw [← HJ.out, decide_eq_true_eq]; exact Or.inr (Or.inl h2)
      have Hb := Lib.hid hb
      obtain ⟨e1, e2⟩ := h2
      have e1' : (x == 0) = true := by simpa using e1
      have e2' : (y == n - 1) = true := by simpa using e2
      clear hb
      go_enter Try.func103, Try.ntmps103
      go_wp2
      go_ret
      exact ⟨ret_bool Hb.out.symm, (Below.refl _ _).alloc (Nat.le_refl _) _⟩
    · have hmm : decide ((x, y) ∈ l) = b := by
        rw [← HJ.out, decide_eq_decide]
        unfold Jd
        constructor
        · intro h; exact Or.inr (Or.inr h)
        · rintro (h | h | h)
          · exact absurd h h1
          · exact absurd h h2
          · exact h
      have Hm := Lib.hid hmm
      clear hmm
      by_cases e1 : x = 0
      · have e2 : ¬ y = n - 1 := fun e => h2 ⟨e1, e⟩
        subst e1
        have e2' : (y == n - 1) = false := by simpa using e2
        have e3' : (y == 1) = false := by simpa using h1
        clear h2
        go_enter Try.func103, Try.ntmps103
        go_wp2_with fail
        refine (slices_ContainsD A m c B l 0 y b _ (H.out.below (HbA.out.mono hB)) hl (Nat.le_trans hB HbA.out.size) hm Hm.out).mono ?_
        rintro e w1 ⟨rfl, hb1⟩
        have hd := below_kept HbA.out (Nat.le_refl _) hb1
        clear hb1
        go_wp2
        go_ret
        exact ⟨rfl, hd⟩
      · have e1' : (x == 0) = false := by simpa using e1
        clear h2
        go_enter Try.func103, Try.ntmps103
        go_wp2_with fail
        refine (slices_ContainsD A m c B l x y b _ (H.out.below (HbA.out.mono hB)) hl (Nat.le_trans hB HbA.out.size) hm Hm.out).mono ?_
        rintro e w1 ⟨rfl, hb1⟩
        have hd := below_kept HbA.out (Nat.le_refl _) hb1
        clear hb1
        go_wp2
        go_ret
        exact ⟨rfl, hd⟩
end Go.Proofs.Ytbpaaoeefcebeaa
