/- slices.Equal of diagonals. -/
import Derived.Test.YtbpaaoeefcebeabSame
namespace Go.Proofs.Ytbpaaoeefcebeab
set_option linter.unusedVariables false
open Go.RowKit


set_option maxRecDepth 100000 in
set_option maxHeartbeats 1600000 in
theorem slices_Equal (A A2 : Option Addr) (n n2 c c2 B B2 : Nat) (l r : List (Int × Int)) (w : World) (h : SlD w B A l) (h2 : SlD w B2 A2 r) (hl : l.length = n) (hr : r.length = n2) (hnn : n = n2) (hB : B ≤ w.heap.size) (hB2 : B2 ≤ w.heap.size) (hn : n ≤ 1000) :
    Calls Try.prog 73 #[.slice A n c, .slice A2 n2 c2] w (SameEnd l r w) := by
  subst hnn
  have Hl := Lib.hid hl
  have Hr := Lib.hid hr
  clear hl hr
  go_enter Try.func73, Try.ntmps73
  go_wp2
  go_loopw [5, 13] (fun _ i wr => ∃ k : Nat, k ≤ n ∧ i = .int .i64 k ∧ l.take k = r.take k ∧ Below w.heap.size w wr) (fun _ i _ => n - (intOf i).toNat)
  case atStart => exact ⟨0, Nat.zero_le _, rfl, rfl, Below.refl _ _⟩
  case round =>
    obtain ⟨k, hk, rfl, ht, hb⟩ := hrel
    have Ht := Lib.hid ht
    clear ht
    by_cases hlt : k < n
    · obtain ⟨b, off, rfl, hbB, hc⟩ := h.below (hb.mono hB) (by have := Hl.out; omega)
      obtain ⟨g0, g1⟩ := hc k (by rw [Hl.out]; exact hlt)
      obtain ⟨b2, off2, rfl, hbB2, hc2⟩ := h2.below (hb.mono hB2) (by have := Hr.out; omega)
      obtain ⟨q0, q1⟩ := hc2 k (by rw [Hr.out]; exact hlt)
      have i0 : (0 : Int) ≤ (k : Int) := by omega
      have i1 : (k : Int) < (n : Int) := by omega
      have hdiff := take_differ (l := l) (r := r) (k := k) (by rw [Hl.out, Hr.out]) (by rw [Hl.out]; exact hlt)
      have hsame := take_same (l := l) (r := r) (k := k) (by rw [Hl.out, Hr.out]) (by rw [Hl.out]; exact hlt) Ht.out
      generalize l.getD k (0, 0) = d at *
      generalize r.getD k (0, 0) = e at *
      obtain ⟨x, y⟩ := d
      obtain ⟨u, v⟩ := e
      dsimp only at g0 g1 q0 q1
      have Hdiff := Lib.hid hdiff
      have Hsame := Lib.hid hsame
      clear hc hc2 hdiff hsame
      by_cases hx : x = u
      · subst hx
        by_cases hy : y = v
        · subst hy
          go_wp2
          go_quiet (fail)
          go_wp2
          go_roundw
          case rel => exact ⟨k + 1, by omega, by go_num, Hsame.out (by first | trivial | rfl), below_drewN hb _⟩
          case measure => simp [intOf]; omega
        · have hy' : (y == v) = false := by simpa using hy
          go_wp2
          go_quiet (fail)
          go_wp2
          go_ret
          exact ⟨ret_bool (Hdiff.out (by intro e; injection e with e1 e2; exact hy e2)).symm, below_drewN hb _⟩
      · have hx' : (x == u) = false := by simpa using hx
        go_wp2
        go_quiet (fail)
        go_wp2
        go_ret
        exact ⟨ret_bool (Hdiff.out (by intro e; injection e with e1 e2; exact hx e1)).symm, below_drewN hb _⟩
    · obtain rfl : k = n := by omega
      have heq : decide (l = r) = true := by
        rw [decide_eq_true_eq]
        have h1 := List.take_of_length_le (l := l) (i := k) (by rw [Hl.out]; exact Nat.le_refl _)
        have h2 := List.take_of_length_le (l := r) (i := k) (by rw [Hr.out]; exact Nat.le_refl _)
        rw [← h1, ← h2]
        exact Ht.out
      have Heq := Lib.hid heq
      clear heq
      go_wp2
      go_ret
      exact ⟨ret_bool Heq.out.symm, hb⟩
end Go.Proofs.Ytbpaaoeefcebeab
