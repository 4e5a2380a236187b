/- The first one of the turned ones: the program's. -/
import Derived.Test.YtbpaaoeefcebeabLexM
import Derived.Test.YtbpaaoeefcebeabTurnPolygonW
import Derived.Test.YtbpaaoeefcebeabDDA
namespace Go.Proofs.Ytbpaaoeefcebeab
set_option linter.unusedVariables false
open Go.RowKit

theorem take_snoc {l r : List (Int × Int)} {k : Nat} (hl : k < l.length) (hr : k < r.length) (ht : l.take k = r.take k) (h : l.getD k (0, 0) = r.getD k (0, 0)) : l.take (k + 1) = r.take (k + 1) := by
  rw [List.take_succ_eq_append_getElem hl, List.take_succ_eq_append_getElem hr, ht]
  have e1 : l.getD k (0, 0) = l[k] := by simp [hl]
  have e2 : r.getD k (0, 0) = r[k] := by simp [hr]
  rw [← e1, ← e2, h]

set_option maxRecDepth 100000 in
set_option maxHeartbeats 3200000 in
theorem slices_CompareFuncD (A A2 : Option Addr) (n n2 c c2 B B2 : Nat) (l r : List (Int × Int)) (w : World) (h : SlD w B A l) (h2 : SlD w B2 A2 r) (hl : l.length = n) (hr : r.length = n2) (hB : B ≤ w.heap.size) (hB2 : B2 ≤ w.heap.size) (hn : n ≤ 1048576) (hn2 : n2 ≤ 1048576) :
    Calls Try.prog 101 #[.slice A n c, .slice A2 n2 c2, .func (.func 102) #[] #[]] w fun e w' => e = .returned (.int .i64 (cmpL l r)) ∧ Below w.heap.size w w' := by
  have Hl := Lib.hid hl
  have Hr := Lib.hid hr
  have H := Lib.hid h
  have H2 := Lib.hid h2
  clear hl hr h h2
  go_enter Try.func101, Try.ntmps101
  go_wp2
  go_loopw [7, 8, 9, 10, 13] (fun _ _ _ _ i wr => ∃ k : Nat, k ≤ n ∧ k ≤ n2 ∧ i = .int .i64 k ∧ l.take k = r.take k ∧ Below w.heap.size w wr) (fun _ _ _ _ i _ => n - (intOf i).toNat)
  case atStart => exact ⟨0, Nat.zero_le _, Nat.zero_le _, rfl, rfl, Below.refl _ _⟩
  case round =>
    obtain ⟨k, hk, hk2, rfl, ht, hb⟩ := hrel
    have Ht := Lib.hid ht
    clear ht
    have hsz := hb.size
    by_cases hlt : k < n
    · obtain ⟨b, off, rfl, hbB, hc⟩ := H.out.below (hb.mono hB) (by have := Hl.out; omega)
      obtain ⟨g0, g1⟩ := hc k (by rw [Hl.out]; exact hlt)
      have i0 : (0 : Int) ≤ (k : Int) := by omega
      have i1 : (k : Int) < (n : Int) := by omega
      by_cases hlt2 : k < n2
      · obtain ⟨b2, off2, rfl, hbB2, hc2⟩ := H2.out.below (hb.mono hB2) (by have := Hr.out; omega)
        obtain ⟨q0, q1⟩ := hc2 k (by rw [Hr.out]; exact hlt2)
        have i2 : (k : Int) < (n2 : Int) := by omega
        have hat := cmpL_at (l := l) (r := r) (k := k) (by rw [Hl.out]; exact hlt) (by rw [Hr.out]; exact hlt2) Ht.out
        have hsn := take_snoc (l := l) (r := r) (k := k) (by rw [Hl.out]; exact hlt) (by rw [Hr.out]; exact hlt2) Ht.out
        generalize l.getD k (0, 0) = d at *
        generalize r.getD k (0, 0) = e at *
        obtain ⟨x, y⟩ := d
        obtain ⟨u, v⟩ := e
        dsimp only at g0 g1 q0 q1 hat
        have bb : b2 < wr.heap.size := by omega
        have Hat := Lib.hid hat
        have Hsn := Lib.hid hsn
        have Hb := Lib.hid ((hb.alloc hsz (.cells #[.int .i64 x, .int .i64 y] 65)).alloc (Nat.le_trans hsz (by simp)) (.cells #[.int .i64 u, .int .i64 v] 65))
        clear hc hc2 hat hsn hb
        go_wp2_with fail
        refine (impl_compareDiagonals _ _ _ _ _).mono ?_
        rintro e w3 ⟨rfl, b3⟩
        have B3 := Lib.hid (below_kept Hb.out (Nat.le_refl _) b3)
        clear b3
        by_cases hz : cmpD x y u v = 0
        · have he := cmpD_zero.1 hz
          have HS := Lib.hid (Hsn.out (by rw [he.1, he.2]))
          rw [hz]
          clear he hz
          go_wp2
          go_roundw
          case rel => exact ⟨k + 1, by omega, by omega, by go_num, HS.out, B3.out⟩
          case measure => simp [intOf]; omega
        · have HE := Lib.hid (Hat.out hz)
          generalize cmpD x y u v = z at *
          go_wp2
          go_ret
          exact ⟨ret_int HE.out.symm, B3.out⟩
      · have hlg : cmpL l r = 1 := cmpL_long (by rw [Hl.out, Hr.out]; omega) (by
          have := Ht.out
          rw [List.take_of_length_le (l := r) (i := k) (by rw [Hr.out]; omega)] at this
          rw [Hr.out, show n2 = k by omega]; exact this)
        have HE := Lib.hid hlg
        have i2 : ¬ (k : Int) < (n2 : Int) := by omega
        have Hb := Lib.hid hb
        generalize l.getD k (0, 0) = d at *
        obtain ⟨x, y⟩ := d
        dsimp only at g0 g1
        clear hlg hc hb
        go_wp2
        go_ret
        exact ⟨ret_int HE.out.symm, Hb.out.alloc hsz _⟩
    · obtain rfl : k = n := by omega
      by_cases hlt2 : k < n2
      · have hsh : cmpL l r = -1 := cmpL_short (by rw [Hl.out, Hr.out]; exact hlt2) (by
          have := Ht.out
          rw [List.take_of_length_le (l := l) (i := k) (by rw [Hl.out]; exact Nat.le_refl _)] at this
          rw [Hl.out]; exact this)
        have HE := Lib.hid hsh
        have i2 : (k : Int) < (n2 : Int) := by omega
        clear hsh
        go_wp2
        go_ret
        exact ⟨ret_int HE.out.symm, hb⟩
      · have heq : l = r := by
          have h1 := List.take_of_length_le (l := l) (i := k) (by rw [Hl.out]; exact Nat.le_refl _)
          have h2 := List.take_of_length_le (l := r) (i := k) (by rw [Hr.out]; omega)
          rw [← h1, ← h2]
          exact Ht.out
        have hz : cmpL l r = 0 := cmpL_zero.2 heq
        have HE := Lib.hid hz
        have i2 : ¬ (k : Int) < (n2 : Int) := by omega
        clear heq hz
        go_wp2
        go_ret
        exact ⟨ret_int HE.out.symm, hb⟩

theorem impl_compareLists (A A2 : Option Addr) (n n2 c c2 B B2 : Nat) (l r : List (Int × Int)) (w : World) (h : SlD w B A l) (h2 : SlD w B2 A2 r) (hl : l.length = n) (hr : r.length = n2) (hB : B ≤ w.heap.size) (hB2 : B2 ≤ w.heap.size) (hn : n ≤ 1048576) (hn2 : n2 ≤ 1048576) :
    Calls Try.prog 62 #[.slice A n c, .slice A2 n2 c2] w fun e w' => e = .returned (.int .i64 (cmpL l r)) ∧ Below w.heap.size w w' := by
  have Hc := Lib.hid (slices_CompareFuncD A A2 n n2 c c2 B B2 l r w h h2 hl hr hB hB2 hn hn2)
  clear h h2 hl hr
  go_enter Try.func62, Try.ntmps62
  go_wp2_with fail
  refine Hc.out.mono ?_
  rintro e w1 ⟨rfl, hb⟩
  clear Hc
  obtain ⟨z, hz⟩ : ∃ z, cmpL l r = z := ⟨_, rfl⟩
  have HZ := Lib.hid hz
  rw [hz]
  clear hz
  go_wp2
  go_ret
  exact ⟨ret_int HZ.out.symm, hb⟩
end Go.Proofs.Ytbpaaoeefcebeab
