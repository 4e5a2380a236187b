/- PeriodOfPolygon: the model's and the program's contract, and the law's walk. -/
import Derived.Test.YtbpaaoeefcebeaaTurnPolygonW
import Derived.Test.YtbpaaoeefcebeaaPeriodOfPolygonC
import Derived.Laws.StructEq
namespace Go.Proofs.Ytbpaaoeefcebeaa
set_option linter.unusedVariables false
open Go.RowKit

/-- the first k from k on at which p holds, f steps at most -/
def perG (p : Nat → Bool) : Nat → Nat → Nat
  | 0, k => k
  | f + 1, k => if p k = true then k else perG p f (k + 1)
def turnB (n : Int) (l : List (Int × Int)) (k : Nat) : Bool := decide (sortD (mvL (turnF n (k : Int)) l) = l)
/-- the period of a polygon; 0 for none -/
def perP (n : Int) (l : List (Int × Int)) : Int := if triB n l = true then (perG (turnB n l) (n.toNat - 1) 1 : Int) else 0

theorem take_differ {l r : List (Int × Int)} {k : Nat} (hl : l.length = r.length) (hk : k < l.length) (h : l.getD k (0, 0) ≠ r.getD k (0, 0)) : decide (l = r) = false := by
  rw [decide_eq_false_iff_not]
  rintro rfl
  exact h rfl
theorem take_same {l r : List (Int × Int)} {k : Nat} (hl : l.length = r.length) (hk : k < l.length) (ht : l.take k = r.take k) (h : l.getD k (0, 0) = r.getD k (0, 0)) : l.take (k + 1) = r.take (k + 1) := by
  rw [List.take_succ_eq_append_getElem hk, List.take_succ_eq_append_getElem (by omega), ht]
  congr 2
  simpa [hk, show k < r.length by omega] using h
def PerEnd (n : Int) (l : List (Int × Int)) (w : World) (e : Ending) (w' : World) : Prop := e = .returned (.tuple #[.int .i64 (perP n l), .bool (triB n l)]) ∧ Below w.heap.size w w'
def SameEnd (l r : List (Int × Int)) (w : World) (e : Ending) (w' : World) : Prop := e = .returned (.bool (decide (l = r))) ∧ Below w.heap.size w w'

set_option maxRecDepth 100000 in
set_option maxHeartbeats 1600000 in
theorem spec_poSame (A A2 : Option Addr) (n n2 c c2 B B2 : Nat) (l r : List (Int × Int)) (w : World) (h : SlD w B A l) (h2 : SlD w B2 A2 r) (hl : l.length = n) (hr : r.length = n2) (hnn : n = n2) (hB : B ≤ w.heap.size) (hB2 : B2 ≤ w.heap.size) (hn : n ≤ 1000) :
    Calls Try.prog 61 #[.slice A n c, .slice A2 n2 c2] w (SameEnd l r w) := by
  subst hnn
  have Hl := Lib.hid hl
  have Hr := Lib.hid hr
  clear hl hr
  go_enter Try.func61, Try.ntmps61
  go_wp2
  go_loopw [5, 13] (fun _ i wr => ∃ k : Nat, k ≤ n ∧ i = .int .i64 k ∧ l.take k = r.take k ∧ Below w.heap.size w wr) (fun _ i _ => n - (intOf i).toNat)
  case atStart => exact ⟨0, Nat.zero_le _, rfl, rfl, Below.refl _ _⟩
  case round =>
    obtain ⟨k, hk, rfl, ht, hb⟩ := hrel
    have Ht := Lib.hid ht
    clear ht
    by_cases hlt : k < n
    · obtain ⟨b, off, rfl, hbB, hc⟩ := h.below (hb.mono hB) (by have := Hl.out; omega)
      obtain ⟨g0, g1⟩ := hc k (by rw [Hl.out]; exact hlt)
      obtain ⟨b2, off2, rfl, hbB2, hc2⟩ := h2.below (hb.mono hB2) (by have := Hr.out; omega)
      obtain ⟨q0, q1⟩ := hc2 k (by rw [Hr.out]; exact hlt)
      have i0 : (0 : Int) ≤ (k : Int) := by omega
      have i1 : (k : Int) < (n : Int) := by omega
      have hdiff := take_differ (l := l) (r := r) (k := k) (by rw [Hl.out, Hr.out]) (by rw [Hl.out]; exact hlt)
      have hsame := take_same (l := l) (r := r) (k := k) (by rw [Hl.out, Hr.out]) (by rw [Hl.out]; exact hlt) Ht.out
      generalize l.getD k (0, 0) = d at *
      generalize r.getD k (0, 0) = e at *
      obtain ⟨x, y⟩ := d
      obtain ⟨u, v⟩ := e
      dsimp only at g0 g1 q0 q1
      have Hdiff := Lib.hid hdiff
      have Hsame := Lib.hid hsame
      clear hc hc2 hdiff hsame
      by_cases hx : x = u
      · subst hx
        by_cases hy : y = v
        · subst hy
          go_wp2
          go_quiet (fail)
          go_wp2
          go_roundw
          case rel => exact ⟨k + 1, by omega, by go_num, Hsame.out (by first | trivial | rfl), below_drewN hb _⟩
          case measure => simp [intOf]; omega
        · have hy' : (y == v) = false := by simpa using hy
          go_wp2
          go_quiet (fail)
          go_wp2
          go_ret
          exact ⟨ret_bool (Hdiff.out (by intro e; injection e with e1 e2; exact hy e2)).symm, below_drewN hb _⟩
      · have hx' : (x == u) = false := by simpa using hx
        go_wp2
        go_quiet (fail)
        go_wp2
        go_ret
        exact ⟨ret_bool (Hdiff.out (by intro e; injection e with e1 e2; exact hx e1)).symm, below_drewN hb _⟩
    · obtain rfl : k = n := by omega
      have heq : decide (l = r) = true := by
        rw [decide_eq_true_eq]
        have h1 := List.take_of_length_le (l := l) (i := k) (by rw [Hl.out]; exact Nat.le_refl _)
        have h2 := List.take_of_length_le (l := r) (i := k) (by rw [Hr.out]; exact Nat.le_refl _)
        rw [← h1, ← h2]
        exact Ht.out
      have Heq := Lib.hid heq
      clear heq
      go_wp2
      go_ret
      exact ⟨ret_bool Heq.out.symm, hb⟩

set_option maxRecDepth 100000 in
set_option maxHeartbeats 1600000 in
theorem slices_Equal (A A2 : Option Addr) (n n2 c c2 B B2 : Nat) (l r : List (Int × Int)) (w : World) (h : SlD w B A l) (h2 : SlD w B2 A2 r) (hl : l.length = n) (hr : r.length = n2) (hnn : n = n2) (hB : B ≤ w.heap.size) (hB2 : B2 ≤ w.heap.size) (hn : n ≤ 1000) :
    Calls Try.prog 63 #[.slice A n c, .slice A2 n2 c2] w (SameEnd l r w) := by
  subst hnn
  have Hl := Lib.hid hl
  have Hr := Lib.hid hr
  clear hl hr
  go_enter Try.func63, Try.ntmps63
  go_wp2
  go_loopw [5, 13] (fun _ i wr => ∃ k : Nat, k ≤ n ∧ i = .int .i64 k ∧ l.take k = r.take k ∧ Below w.heap.size w wr) (fun _ i _ => n - (intOf i).toNat)
  case atStart => exact ⟨0, Nat.zero_le _, rfl, rfl, Below.refl _ _⟩
  case round =>
    obtain ⟨k, hk, rfl, ht, hb⟩ := hrel
    have Ht := Lib.hid ht
    clear ht
    by_cases hlt : k < n
    · obtain ⟨b, off, rfl, hbB, hc⟩ := h.below (hb.mono hB) (by have := Hl.out; omega)
      obtain ⟨g0, g1⟩ := hc k (by rw [Hl.out]; exact hlt)
      obtain ⟨b2, off2, rfl, hbB2, hc2⟩ := h2.below (hb.mono hB2) (by have := Hr.out; omega)
      obtain ⟨q0, q1⟩ := hc2 k (by rw [Hr.out]; exact hlt)
      have i0 : (0 : Int) ≤ (k : Int) := by omega
      have i1 : (k : Int) < (n : Int) := by omega
      have hdiff := take_differ (l := l) (r := r) (k := k) (by rw [Hl.out, Hr.out]) (by rw [Hl.out]; exact hlt)
      have hsame := take_same (l := l) (r := r) (k := k) (by rw [Hl.out, Hr.out]) (by rw [Hl.out]; exact hlt) Ht.out
      generalize l.getD k (0, 0) = d at *
      generalize r.getD k (0, 0) = e at *
      obtain ⟨x, y⟩ := d
      obtain ⟨u, v⟩ := e
      dsimp only at g0 g1 q0 q1
      have Hdiff := Lib.hid hdiff
      have Hsame := Lib.hid hsame
      clear hc hc2 hdiff hsame
      by_cases hx : x = u
      · subst hx
        by_cases hy : y = v
        · subst hy
          go_wp2
          go_quiet (fail)
          go_wp2
          go_roundw
          case rel => exact ⟨k + 1, by omega, by go_num, Hsame.out (by first | trivial | rfl), below_drewN hb _⟩
          case measure => simp [intOf]; omega
        · have hy' : (y == v) = false := by simpa using hy
          go_wp2
          go_quiet (fail)
          go_wp2
          go_ret
          exact ⟨ret_bool (Hdiff.out (by intro e; injection e with e1 e2; exact hy e2)).symm, below_drewN hb _⟩
      · have hx' : (x == u) = false := by simpa using hx
        go_wp2
        go_quiet (fail)
        go_wp2
        go_ret
        exact ⟨ret_bool (Hdiff.out (by intro e; injection e with e1 e2; exact hx e1)).symm, below_drewN hb _⟩
    · obtain rfl : k = n := by omega
      have heq : decide (l = r) = true := by
        rw [decide_eq_true_eq]
        have h1 := List.take_of_length_le (l := l) (i := k) (by rw [Hl.out]; exact Nat.le_refl _)
        have h2 := List.take_of_length_le (l := r) (i := k) (by rw [Hr.out]; exact Nat.le_refl _)
        rw [← h1, ← h2]
        exact Ht.out
      have Heq := Lib.hid heq
      clear heq
      go_wp2
      go_ret
      exact ⟨ret_bool Heq.out.symm, hb⟩

set_option maxRecDepth 100000 in
set_option maxHeartbeats 3200000 in
theorem spec_PeriodOfPolygon (n : Int) (A : Option Addr) (c B : Nat) (l : List (Int × Int)) (w : World) (h : SlD w B A l) (hB : B ≤ w.heap.size) (hl : l.length ≤ 1048576) (hlc : l.length ≤ c) :
    Calls Try.prog 26 #[.int .i64 n, .slice A l.length c] w (PerEnd n l w) := by
  go_enter Try.func26, Try.ntmps26
  go_wp2_with fail
  refine (spec_poGood n A c B l _ h hB hl hlc).mono ?_
  rintro e w1 ⟨rfl, hb1⟩
  cases ht : triB n l
  · have hres : PerEnd n l w (.returned (.tuple #[.int .i64 0, .bool false])) w1 := by
      have h0 : perP n l = 0 := by simp [perP, ht]
      exact ⟨by rw [h0, ht], hb1⟩
    have Hres := Lib.hid hres
    clear hres h hb1
    go_wp2
    go_ret2
    exact Hres.out
  · have hn := tri_n ht
    obtain ⟨m, rfl⟩ := Int.eq_ofNat_of_zero_le (show 0 ≤ n by omega)
    have hm3 : 3 ≤ m := by omega
    have hm12 : m ≤ 12 := by omega
    have hper : perP m l = (perG (turnB m l) (m - 1) 1 : Int) := by simp [perP, ht]
    have Hper := Lib.hid hper
    have hls : l.length ≤ 1000 := by omega
    clear hn hper
    go_wp2_with fail
    go_loopw [6] (fun i wr => ∃ k : Nat, 1 ≤ k ∧ k ≤ m ∧ i = .int .i64 k ∧ Hid (perG (turnB m l) (m - k) k = perG (turnB m l) (m - 1) 1) ∧ Below w.heap.size w wr) (fun i _ => m - (intOf i).toNat)
    case atStart => exact ⟨1, Nat.le_refl _, by omega, rfl, rfl, hb1⟩
    case round =>
      clear hb1
      obtain ⟨k, hk1, hk, rfl, hpk, hb⟩ := hrel
      by_cases hlt : k < m
      · have hi1 : (k : Int) < (m : Int) := by omega
        go_wp2_with fail
        refine (spec_poTurn m m k A c B l _ rfl hm12 (by omega) (by omega) ht (h.below (hb.mono hB)) (Nat.le_trans hB hb.size)).mono ?_
        rintro e w2 ⟨A9, c9, rfl, o9, b9⟩
        have hd9 := below_kept hb (Nat.le_refl _) b9
        have hsl := SlD.of_own o9
        have hlen : (sortD (mvL (turnF m k) l)).length = l.length := sort_mv_length _ _
        have hst : perG (turnB m l) (m - k) k = if turnB m l k = true then k else perG (turnB m l) (m - (k + 1)) (k + 1) := by
          rw [show m - k = (m - (k + 1)) + 1 by omega]
          rfl
        have Hst := Lib.hid hst
        have Hlen := Lib.hid hlen
        have hlx : l.length = (sortD (mvL (turnF m k) l)).length := hlen.symm
        have Hlx := Lib.hid hlx
        have hs9 : (sortD (mvL (turnF m k) l)).length ≤ 1000 := by rw [hlen]; exact hls
        have HT : Hid (turnB m l k = decide (sortD (mvL (turnF m k) l) = l)) := Lib.hid rfl
        clear hst hlen hlx o9 b9
        generalize sortD (mvL (turnF m k) l) = L at *
        have hA2 := h.below (hd9.mono hB)
        have hBz := Nat.le_trans hB hd9.size
        have HA2 := Lib.hid hA2
        clear hA2
        go_wp2_with fail
        refine (spec_poSame A9 A L.length l.length c9 c w2.heap.size B L l _ hsl HA2.out rfl rfl Hlen.out (Nat.le_refl _) hBz hs9).mono ?_
        rintro e w3 ⟨rfl, b3⟩
        have hd3 := below_kept hd9 (Nat.le_refl _) b3
        clear hsl b3 hd9 hb
        cases hdec : decide (L = l)
        · have hnx : perG (turnB m l) (m - (k + 1)) (k + 1) = perG (turnB m l) (m - 1) 1 := by rw [← hpk.out, Hst.out, if_neg (by rw [HT.out, hdec]; simp)]
          have Hnx := Lib.hid hnx
          clear hnx hpk
          go_wp2
          go_roundw
          case rel => exact ⟨k + 1, by omega, by omega, by go_num, Hnx, hd3⟩
          case measure => simp [intOf]; omega
        · have hfin : perP m l = (k : Int) := by rw [Hper.out, ← hpk.out, Hst.out, if_pos (by rw [HT.out, hdec])]
          have hres : PerEnd m l w (.returned (.tuple #[.int .i64 k, .bool true])) w3 := ⟨by rw [hfin, ht], hd3⟩
          have Hres := Lib.hid hres
          clear hfin hpk h hres hd3
          go_wp2
          go_ret2
          exact Hres.out
      · obtain rfl : k = m := by omega
        have hfin : perP k l = (k : Int) := by
          rw [Hper.out, ← hpk.out, Nat.sub_self]
          rfl
        have hres : PerEnd k l w (.returned (.tuple #[.int .i64 k, .bool true])) wr := ⟨by rw [hfin, ht], hb⟩
        have Hres := Lib.hid hres
        clear hfin hpk h hres hb
        go_wp2
        go_ret2
        exact Hres.out

set_option maxRecDepth 100000 in
set_option maxHeartbeats 3200000 in
theorem impl_PeriodOfPolygon (n : Int) (A : Option Addr) (c B : Nat) (l : List (Int × Int)) (w : World) (h : SlD w B A l) (hB : B ≤ w.heap.size) (hl : l.length ≤ 1048576) (hlc : l.length ≤ c) :
    Calls Try.prog 27 #[.int .i64 n, .slice A l.length c] w (PerEnd n l w) := by
  go_enter Try.func27, Try.ntmps27
  go_wp2_with fail
  refine (impl_IsTriangulation n A c B l _ h hB hl hlc).mono ?_
  rintro e w1 ⟨rfl, hb1⟩
  cases ht : triB n l
  · have hres : PerEnd n l w (.returned (.tuple #[.int .i64 0, .bool false])) w1 := by
      have h0 : perP n l = 0 := by simp [perP, ht]
      exact ⟨by rw [h0, ht], hb1⟩
    have Hres := Lib.hid hres
    clear hres h hb1
    go_wp2
    go_ret2
    exact Hres.out
  · have hn := tri_n ht
    obtain ⟨m, rfl⟩ := Int.eq_ofNat_of_zero_le (show 0 ≤ n by omega)
    have hm3 : 3 ≤ m := by omega
    have hm12 : m ≤ 12 := by omega
    have hper : perP m l = (perG (turnB m l) (m - 1) 1 : Int) := by simp [perP, ht]
    have Hper := Lib.hid hper
    have hls : l.length ≤ 1000 := by omega
    clear hn hper
    go_wp2_with fail
    go_loopw [6] (fun i wr => ∃ k : Nat, 1 ≤ k ∧ k ≤ m ∧ i = .int .i64 k ∧ Hid (perG (turnB m l) (m - k) k = perG (turnB m l) (m - 1) 1) ∧ Below w.heap.size w wr) (fun i _ => m - (intOf i).toNat)
    case atStart => exact ⟨1, Nat.le_refl _, by omega, rfl, rfl, hb1⟩
    case round =>
      clear hb1
      obtain ⟨k, hk1, hk, rfl, hpk, hb⟩ := hrel
      by_cases hlt : k < m
      · have hi1 : (k : Int) < (m : Int) := by omega
        go_wp2_with fail
        refine (impl_turned m k A c B l _ (by omega) hm12 (by omega) ht (h.below (hb.mono hB)) (Nat.le_trans hB hb.size)).mono ?_
        rintro e w2 ⟨A9, c9, rfl, o9, b9⟩
        have hd9 := below_kept hb (Nat.le_refl _) b9
        have hsl := SlD.of_own o9
        have hlen : (sortD (mvL (turnF m k) l)).length = l.length := sort_mv_length _ _
        have hst : perG (turnB m l) (m - k) k = if turnB m l k = true then k else perG (turnB m l) (m - (k + 1)) (k + 1) := by
          rw [show m - k = (m - (k + 1)) + 1 by omega]
          rfl
        have Hst := Lib.hid hst
        have Hlen := Lib.hid hlen
        have hlx : l.length = (sortD (mvL (turnF m k) l)).length := hlen.symm
        have Hlx := Lib.hid hlx
        have hs9 : (sortD (mvL (turnF m k) l)).length ≤ 1000 := by rw [hlen]; exact hls
        have HT : Hid (turnB m l k = decide (sortD (mvL (turnF m k) l) = l)) := Lib.hid rfl
        clear hst hlen hlx o9 b9
        generalize sortD (mvL (turnF m k) l) = L at *
        have hA2 := h.below (hd9.mono hB)
        have hBz := Nat.le_trans hB hd9.size
        have HA2 := Lib.hid hA2
        clear hA2
        go_wp2_with fail
        refine (slices_Equal A9 A L.length l.length c9 c w2.heap.size B L l _ hsl HA2.out rfl rfl Hlen.out (Nat.le_refl _) hBz hs9).mono ?_
        rintro e w3 ⟨rfl, b3⟩
        have hd3 := below_kept hd9 (Nat.le_refl _) b3
        clear hsl b3 hd9 hb
        cases hdec : decide (L = l)
        · have hnx : perG (turnB m l) (m - (k + 1)) (k + 1) = perG (turnB m l) (m - 1) 1 := by rw [← hpk.out, Hst.out, if_neg (by rw [HT.out, hdec]; simp)]
          have Hnx := Lib.hid hnx
          clear hnx hpk
          go_wp2
          go_roundw
          case rel => exact ⟨k + 1, by omega, by omega, by go_num, Hnx, hd3⟩
          case measure => simp [intOf]; omega
        · have hfin : perP m l = (k : Int) := by rw [Hper.out, ← hpk.out, Hst.out, if_pos (by rw [HT.out, hdec])]
          have hres : PerEnd m l w (.returned (.tuple #[.int .i64 k, .bool true])) w3 := ⟨by rw [hfin, ht], hd3⟩
          have Hres := Lib.hid hres
          clear hfin hpk h hres hd3
          go_wp2
          go_ret2
          exact Hres.out
      · obtain rfl : k = m := by omega
        have hfin : perP k l = (k : Int) := by
          rw [Hper.out, ← hpk.out, Nat.sub_self]
          rfl
        have hres : PerEnd k l w (.returned (.tuple #[.int .i64 k, .bool true])) wr := ⟨by rw [hfin, ht], hb⟩
        have Hres := Lib.hid hres
        clear hfin hpk h hres hb
        go_wp2
        go_ret2
        exact Hres.out

theorem WPeriodOfPolygon.walk (w : World) (n : Int) (wn : (Lit.int .i64 n).wf = true) (A : Option Addr) (c : Nat) (l : List (Int × Int)) (h : SlD w w.heap.size A l)
    (hj : l.length ≤ c ∧ c ≤ maxLen ∧ ∀ x ∈ l, (Lit.int .i64 x.1).wf = true ∧ (Lit.int .i64 x.2).wf = true) :
    Calls Try.prog 5 #[.int .i64 n, .slice A l.length c] w fun e w' => e = .returned (.bool true) ∧ Below w.heap.size w w' :=
  WPeriodOfPolygon.core w n A c l h hj.1 hj.2.1 (perP n l) (triB n l)
    (Lib.hid fun A c w h hl hlc => spec_PeriodOfPolygon n A c _ l w h (Nat.le_refl _) hl hlc)
    (Lib.hid fun A c w h hl hlc => impl_PeriodOfPolygon n A c _ l w h (Nat.le_refl _) hl hlc)

end Go.Proofs.Ytbpaaoeefcebeaa
