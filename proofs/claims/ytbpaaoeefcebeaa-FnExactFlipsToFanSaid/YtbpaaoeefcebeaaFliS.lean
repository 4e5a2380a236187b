/- The model's search for a diagonal in a list, its joined corners, the other diagonal of a quadrilateral. -/
import Derived.Test.YtbpaaoeefcebeaaFlipM
import Derived.Test.YtbpaaoeefcebeaaTurnS
import Derived.Test.YtbpaaoeefcebeaaLawM
import Derived.Deep.QuietTactic
import Derived.BigQuiet
namespace Go.Proofs.Ytbpaaoeefcebeaa
set_option linter.unusedVariables false
open Go.RowKit

theorem mem_no {l : List (Int × Int)} {d : Int × Int} {n : Nat} (hl : l.length = n) (h : ∀ j, j < n → l.getD j (0, 0) ≠ d) : d ∉ l := fun hm => by
  obtain ⟨i, hi, rfl⟩ := List.getElem_of_mem hm
  exact h i (by omega) (getD_at hi)
theorem mem_yes {l : List (Int × Int)} {d : Int × Int} {k n : Nat} (hl : l.length = n) (hk : k < n) (h : l.getD k (0, 0) = d) : d ∈ l := by
  rw [← h, getD_at (by omega)]
  exact List.getElem_mem _

set_option maxRecDepth 100000 in
set_option maxHeartbeats 1600000 in
theorem spec_flIn (A : Option Addr) (n c B : Nat) (l : List (Int × Int)) (x y : Int) (b : Bool) (w : World) (h : SlD w B A l) (hl : l.length = n) (hB : B ≤ w.heap.size) (hn : n ≤ 1048576) (hb : decide ((x, y) ∈ l) = b) :
    Calls Try.prog 65 #[.slice A n c, .agg #[.int .i64 x, .int .i64 y]] w fun e w' => e = .returned (.bool b) ∧ Below w.heap.size w w' := by
  have Hl := Lib.hid hl
  have H := Lib.hid h
  have HB := Lib.hid hb
  clear hl h hb
  go_enter Try.func65, Try.ntmps65
  go_wp2
  go_loopw [6, 9] (fun _ i wr => ∃ k : Nat, k ≤ n ∧ i = .int .i64 k ∧ (∀ j, j < k → l.getD j (0, 0) ≠ (x, y)) ∧ wr.cell? ⟨w.heap.size, 0, none⟩ = some (.int .i64 x) ∧ wr.cell? ⟨w.heap.size, 1, none⟩ = some (.int .i64 y) ∧ Below w.heap.size w wr) (fun _ i _ => n - (intOf i).toNat)
  case atStart => exact ⟨0, Nat.zero_le _, rfl, fun j hj => by omega, by simp [go_sem], by simp [go_sem], (Below.refl _ _).alloc (Nat.le_refl _) _⟩
  case round =>
    obtain ⟨k, hk, rfl, hno, q0, q1, hb⟩ := hrel
    have Hno := Lib.hid hno
    clear hno
    by_cases hlt : k < n
    · obtain ⟨b2, off, rfl, hbB, hc⟩ := H.out.below (hb.mono hB) (by have := Hl.out; omega)
      obtain ⟨g0, g1⟩ := hc k (by rw [Hl.out]; exact hlt)
      have i0 : (0 : Int) ≤ (k : Int) := by omega
      have i1 : (k : Int) < (n : Int) := by omega
      generalize hd : l.getD k (0, 0) = d at *
      have Hd := Lib.hid hd
      obtain ⟨u, v⟩ := d
      dsimp only at g0 g1
      have hwr : w.heap.size < wr.heap.size := World.block_lt_of_cell? wr _ q0
      clear hc hd
      have hb2 := hb.alloc hb.size (.cells #[.int .i64 u, .int .i64 v] 40)
      have Hb := Lib.hid hb2
      have hnext : (x, y) ≠ (u, v) → ∀ j, j < k + 1 → l.getD j (0, 0) ≠ (x, y) := fun hne j hj => by
        by_cases e : j = k
        · subst e; rw [Hd.out]; exact fun e => hne e.symm
        · exact Hno.out j (by omega)
      have Hnext := Lib.hid hnext
      have k0 : (wr.alloc (.cells #[.int .i64 u, .int .i64 v] 40)).cell? ⟨w.heap.size, 0, none⟩ = some (.int .i64 x) := cell_kept ((Below.refl wr.heap.size wr).alloc (Nat.le_refl _) _) q0
      have k1 : (wr.alloc (.cells #[.int .i64 u, .int .i64 v] 40)).cell? ⟨w.heap.size, 1, none⟩ = some (.int .i64 y) := cell_kept ((Below.refl wr.heap.size wr).alloc (Nat.le_refl _) _) q1
      clear hb2 hnext hb
      by_cases hx : u = x
      · subst hx
        by_cases hy : v = y
        · subst hy
          have hbb : b = true := by rw [← HB.out, decide_eq_true_eq]; exact mem_yes Hl.out hlt Hd.out
          have Hbb := Lib.hid hbb
          clear hbb
          go_wp2
          go_ret
          exact ⟨ret_bool Hbb.out.symm, Hb.out⟩
        · have hy' : (v == y) = false := by simpa using hy
          go_wp2
          go_roundw
          case rel => exact ⟨k + 1, by omega, by go_num, Hnext.out (fun e => by injection e with e1 e2; exact hy e2.symm), k0, k1, Hb.out⟩
          case measure => simp [intOf]; omega
      · have hx' : (u == x) = false := by simpa using hx
        go_wp2
        go_roundw
        case rel => exact ⟨k + 1, by omega, by go_num, Hnext.out (fun e => by injection e with e1 e2; exact hx e1.symm), k0, k1, Hb.out⟩
        case measure => simp [intOf]; omega
    · obtain rfl : k = n := by omega
      have hbb : b = false := by rw [← HB.out, decide_eq_false_iff_not]; exact mem_no Hl.out Hno.out
      have Hbb := Lib.hid hbb
      clear hbb
      go_wp2
      go_ret
      exact ⟨ret_bool Hbb.out.symm, hb⟩

set_option maxRecDepth 100000 in
set_option maxHeartbeats 1600000 in
theorem spec_poJoined (n : Int) (A : Option Addr) (m c B : Nat) (l : List (Int × Int)) (x y : Int) (b : Bool) (w : World) (h : SlD w B A l) (hl : l.length = m) (hB : B ≤ w.heap.size) (hm : m ≤ 1000000) (hn : 3 ≤ n ∧ n ≤ 12) (hx : 0 ≤ x ∧ x < n) (hy : 0 ≤ y ∧ y < n) (hJ : decide (Jd n l x y) = b) :
    Calls Try.prog 88 #[.int .i64 n, .slice A m c, .int .i64 x, .int .i64 y] w fun e w' => e = .returned (.bool b) ∧ Below w.heap.size w w' := by
  obtain ⟨_, _⟩ := hn
  obtain ⟨_, _⟩ := hx
  obtain ⟨_, _⟩ := hy
  have HJ := Lib.hid hJ
  have Hl := Lib.hid hl
  have H := Lib.hid h
  clear hJ hl h
  by_cases h1 : y - x = 1
  · have hb : b = true := by rw [← HJ.out, decide_eq_true_eq]; exact Or.inl (by omega)
    have Hb := Lib.hid hb
    clear hb
    have h1' : (y - x == 1) = true := by simpa using h1
    go_enter Try.func88, Try.ntmps88
    go_wp2
    go_ret
    exact ⟨ret_bool Hb.out.symm, Below.refl _ _⟩
  · have h1' : (y - x == 1) = false := by simpa using h1
    by_cases h2 : y - x = n - 1
    · have hb : b = true := by rw [← HJ.out, decide_eq_true_eq]; exact Or.inr (Or.inl (by omega))
      have Hb := Lib.hid hb
      clear hb
      have h2' : (y - x == n - 1) = true := by simpa using h2
      go_enter Try.func88, Try.ntmps88
      go_wp2
      go_ret
      exact ⟨ret_bool Hb.out.symm, Below.refl _ _⟩
    · have h2' : (y - x == n - 1) = false := by simpa using h2
      have hmm : decide ((x, y) ∈ l) = b := by
        rw [← HJ.out, decide_eq_decide]
        unfold Jd
        constructor
        · intro h; exact Or.inr (Or.inr h)
        · rintro (h | h | h)
          · omega
          · omega
          · exact h
      have Hm := Lib.hid hmm
      clear hmm
      go_enter Try.func88, Try.ntmps88
      go_wp2
      go_loopw [10, 25] (fun _ i wr => ∃ k : Nat, k ≤ m ∧ i = .int .i64 k ∧ (∀ j, j < k → l.getD j (0, 0) ≠ (x, y)) ∧ Below w.heap.size w wr) (fun _ i _ => m - (intOf i).toNat)
      case atStart => exact ⟨0, Nat.zero_le _, rfl, fun j hj => by omega, Below.refl _ _⟩
      case round =>
        obtain ⟨k, hk, rfl, hno, hb⟩ := hrel
        have Hno := Lib.hid hno
        clear hno
        by_cases hlt : k < m
        · obtain ⟨b2, off, rfl, hbB, hc⟩ := H.out.below (hb.mono hB) (by have := Hl.out; omega)
          obtain ⟨g0, g1⟩ := hc k (by rw [Hl.out]; exact hlt)
          have i0 : (0 : Int) ≤ (k : Int) := by omega
          have i1 : (k : Int) < (m : Int) := by omega
          generalize hd : l.getD k (0, 0) = d at *
          have Hd := Lib.hid hd
          obtain ⟨u, v⟩ := d
          dsimp only at g0 g1
          clear hc hd
          have hb2 := hb.alloc hb.size (.cells #[.int .i64 u, .int .i64 v] 40)
          have Hb := Lib.hid hb2
          have hnext : (x, y) ≠ (u, v) → ∀ j, j < k + 1 → l.getD j (0, 0) ≠ (x, y) := fun hne j hj => by
            by_cases e : j = k
            · subst e; rw [Hd.out]; exact fun e => hne e.symm
            · exact Hno.out j (by omega)
          have Hnext := Lib.hid hnext
          clear hb2 hnext hb
          by_cases hx : u = x
          · subst hx
            by_cases hy : v = y
            · subst hy
              have hbb : b = true := by rw [← Hm.out, decide_eq_true_eq]; exact mem_yes Hl.out hlt Hd.out
              have Hbb := Lib.hid hbb
              clear hbb
              go_wp2
              go_ret
              exact ⟨ret_bool Hbb.out.symm, Hb.out⟩
            · have hy' : (v == y) = false := by simpa using hy
              go_wp2
              go_roundw
              case rel => exact ⟨k + 1, by omega, by go_num, Hnext.out (fun e => by injection e with e1 e2; exact hy e2.symm), Hb.out⟩
              case measure => simp [intOf]; omega
          · have hx' : (u == x) = false := by simpa using hx
            go_wp2
            go_roundw
            case rel => exact ⟨k + 1, by omega, by go_num, Hnext.out (fun e => by injection e with e1 e2; exact hx e1.symm), Hb.out⟩
            case measure => simp [intOf]; omega
        · obtain rfl : k = m := by omega
          have hbb : b = false := by rw [← Hm.out, decide_eq_false_iff_not]; exact mem_no Hl.out Hno.out
          have Hbb := Lib.hid hbb
          clear hbb
          go_wp2
          go_ret
          exact ⟨ret_bool Hbb.out.symm, hb⟩
end Go.Proofs.Ytbpaaoeefcebeaa
