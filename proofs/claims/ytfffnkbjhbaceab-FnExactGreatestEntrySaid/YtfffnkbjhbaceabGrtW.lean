/- GreatestEntry: both contracts, and the law's walk. -/
import Derived.Test.YtfffnkbjhbaceabCntW
import Derived.Test.YtfffnkbjhbaceabGreatestEntryC
namespace Go.Proofs.Ytfffnkbjhbaceab
set_option linter.unusedVariables false
open Go.RowKit

/-- the greatest so far -/
def maxF (l : List Int) : Nat → Int
  | 0 => l.getD 0 0
  | k + 1 => max (maxF l k) (l.getD (k + 1) 0)
theorem fold_take (l : List Int) (s : Int) (t : Nat) (h : t < l.length) : (l.take (t + 1)).foldl max s = max ((l.take t).foldl max s) (l.getD t 0) := by
  rw [List.take_succ_eq_append_getElem h, List.foldl_append]
  have e : l.getD t 0 = l[t] := by simp [h]
  rw [e]
  rfl
theorem fold_max (l : List Int) (h0 : 0 ≤ l.getD 0 0) : ∀ k, k < l.length → (l.take (k + 1)).foldl max 0 = maxF l k := by
  intro k
  induction k with
  | zero =>
    intro hk
    rw [fold_take l 0 0 hk]
    show max 0 (l.getD 0 0) = l.getD 0 0
    omega
  | succ k ih =>
    intro hk
    rw [fold_take l 0 (k + 1) hk, ih (by omega)]
    rfl
theorem spec_l1Most_m (a b : Int) (w : World) : Calls Try.prog 61 #[.int .i64 a, .int .i64 b] w fun e w' => e = .returned (.int .i64 (max a b)) ∧ w = w' := by
  go_enter Try.func61, Try.ntmps61
  go_wp2
  all_goals go_ret
  all_goals exact ⟨ret_int (by omega), rfl⟩
set_option maxRecDepth 100000 in
theorem slices_Max (A : Option Addr) (n c B : Nat) (l : List Int) (w : World) (hn : l.length = n) (h0 : 0 < n) (hl : n ≤ 1000000) (h : SlI w B A l) :
    Calls Try.prog 62 #[.slice A n c] w fun e w' => e = .returned (.int .i64 (maxF l (n - 1))) ∧ w = w' := by
  subst hn
  obtain ⟨b', off, rfl, hbB, hc⟩ := h h0
  have g00 := hc 0 h0
  rw [Nat.add_zero] at g00
  have e0 : maxF l 0 = l.getD 0 0 := rfl
  rw [← e0] at g00
  have HC := Lib.hid hc
  have i00 : (1 : Int) ≤ (l.length : Int) := by omega
  clear hc h e0
  generalize hx0 : maxF l 0 = x0 at *
  have Hx0 := Lib.hid hx0
  clear hx0
  go_enter Try.func62, Try.ntmps62
  go_wp2
  go_loop [3, 4] (fun m i => ∃ k : Nat, k < l.length ∧ i = .int .i64 ((k : Int) + 1) ∧ m = .int .i64 (maxF l k)) (fun _ i => l.length - (intOf i).toNat)
  case atStart => exact ⟨0, h0, rfl, by rw [Hx0.out]⟩
  case round =>
    clear g00 Hx0
    obtain ⟨k, hk, rfl, rfl⟩ := hrel
    by_cases hlt : k + 1 < l.length
    · have g0 := HC.out (k + 1) hlt
      have i0 : (0 : Int) ≤ (k : Int) + 1 := by omega
      have i1 : (k : Int) + 1 < (l.length : Int) := by omega
      have hst : maxF l (k + 1) = max (maxF l k) (l.getD (k + 1) 0) := rfl
      have Hst := Lib.hid hst
      clear hst
      generalize maxF l k = m at *
      generalize l.getD (k + 1) 0 = x at *
      go_wp2
      go_round
      case rel => exact ⟨k + 1, hlt, by go_num, by rw [Hst.out]; congr 1; split <;> omega⟩
      case measure => simp [intOf]; omega
    · have hE : maxF l (l.length - 1) = maxF l k := by rw [show l.length - 1 = k by omega]
      have HE := Lib.hid hE
      clear hE
      go_wp2
      go_ret
      exact ⟨ret_int HE.out.symm, rfl⟩
/-- what comes back -/
def gR (q : List Int) : Int := if okF q = true then (catL (frL q) (frL q).length).foldl max 0 else 0
def GEnd (q : List Int) (w : World) (e : Ending) (w' : World) : Prop := e = .returned (.tuple #[.int .i64 (gR q), .bool (okF q)]) ∧ Below w.heap.size w w'
theorem gEnd_no {q : List Int} {w w' : World} (h : okF q = false) (hb : Below w.heap.size w w') : GEnd q w (.returned (.tuple #[.int .i64 0, .bool false])) w' := by
  unfold GEnd gR
  rw [h, if_neg (by simp)]
  exact ⟨rfl, hb⟩
theorem gEnd_yes {q : List Int} {w w' : World} {n : Int} (h : okF q = true) (hn : (catL (frL q) (frL q).length).foldl max 0 = n) (hb : Below w.heap.size w w') : GEnd q w (.returned (.tuple #[.int .i64 n, .bool true])) w' := by
  unfold GEnd gR
  rw [h, if_pos rfl, hn]
  exact ⟨rfl, hb⟩
theorem spec_GreatestEntry_no (A : Option Addr) (c B : Nat) (q : List Int) (w : World) (hg : okF q = false) (h : SlI w B A q) (hB : B ≤ w.heap.size) (hl : q.length ≤ 1048576) (hlc : q.length ≤ c) :
    Calls Try.prog 24 #[.slice A q.length c] w (GEnd q w) := by
  have hc := spec_frGood A c B q w h hB hl hlc
  have HE := Lib.hid (fun w' (hb : Below w.heap.size w w') => gEnd_no hg hb)
  rw [hg] at hc
  have Hc := Lib.hid hc
  clear hc hg h
  go_enter Try.func24, Try.ntmps24
  go_wp2_with fail
  refine Hc.out.mono ?_
  rintro e w1 ⟨rfl, hb1⟩
  have hE := Lib.hid (HE.out _ hb1)
  clear Hc HE hb1
  go_wp2
  go_ret2
  exact hE.out
theorem impl_GreatestEntry_no (A : Option Addr) (c B : Nat) (q : List Int) (w : World) (hg : okF q = false) (h : SlI w B A q) (hB : B ≤ w.heap.size) (hl : q.length ≤ 1048576) (hlc : q.length ≤ c) :
    Calls Try.prog 25 #[.slice A q.length c] w (GEnd q w) := by
  have hc := impl_FriezeOf A c B q w h hB hl hlc
  have HE := Lib.hid (fun w' (hb : Below w.heap.size w w') => gEnd_no hg hb)
  rw [hg] at hc
  have Hc := Lib.hid hc
  clear hc hg h
  go_enter Try.func25, Try.ntmps25
  go_wp2_with fail
  refine Hc.out.mono ?_
  rintro e w1 ⟨A1, c1, rs1, rfl, -, hb1⟩
  have hE := Lib.hid (HE.out _ hb1)
  clear Hc HE hb1
  go_wp2
  go_ret2
  exact hE.out
set_option maxRecDepth 100000 in
set_option maxHeartbeats 3200000 in
theorem spec_GreatestEntry_yes (A : Option Addr) (c B : Nat) (q : List Int) (w : World) (hg : okF q = true) (h : SlI w B A q) (hB : B ≤ w.heap.size) (hl : q.length ≤ 1048576) (hlc : q.length ≤ c) :
    Calls Try.prog 24 #[.slice A q.length c] w (GEnd q w) := by
  have hc := spec_frGood A c B q w h hB hl hlc
  rw [hg] at hc
  have Hc := Lib.hid hc
  obtain ⟨hlen, h4, h12, hrow⟩ := okF_rows hg
  obtain ⟨m, hm⟩ : ∃ m, q.length - 3 = m := ⟨_, rfl⟩
  have hof := fun w1 (hb : Below w.heap.size w w1) => spec_frOf A c B m q w1 hm (h.below (hb.mono hB)) (Nat.le_trans hB hb.size) h4 h12
  rw [← hm, ← frL_yes hg, hm] at hof
  have Hof := Lib.hid hof
  rw [hm] at hlen hrow
  have Hpre := Lib.hid (pre_rows hg)
  rw [hm] at Hpre
  have HE := Lib.hid (fun w' n (hn : (catL (frL q) m).foldl max 0 = n) (hb : Below w.heap.size w w') => gEnd_yes (q := q) (n := n) hg (by rw [hlen]; exact hn) hb)
  have m9 : (m : Int) ≤ 9 := by omega
  have Hr12 := Lib.hid (fun j (hj : j < m) => show (rowOf (frL q) j).length ≤ 12 by rw [hrow j hj]; exact h12)
  have Hlen := Lib.hid hlen
  generalize frL q = Ls at *
  clear hc hof hg hm hrow h4 h12
  go_enter Try.func24, Try.ntmps24
  go_wp2_with fail
  refine Hc.out.mono ?_
  rintro e w1 ⟨rfl, hb1⟩
  go_wp2_with fail
  refine (Hof.out _ hb1).mono ?_
  rintro e w3 ⟨A3, c3, rs, rfl, ho3, hb3⟩
  have hd := below_kept hb1 (Nat.le_refl _) hb3
  have hsl := ho3.sl
  have Hd := Lib.hid hd
  have Hsl := Lib.hid hsl
  clear Hc Hof hb1 hb3 ho3 hd hsl h
  go_wp2
  go_loopw [4, 6, 8, 15] (fun s _ _ i wr => ∃ k : Nat, k ≤ m ∧ i = .int .i64 k ∧ s = .int .i64 ((catL Ls k).foldl max 0) ∧ Below w3.heap.size w3 wr) (fun _ _ _ i _ => m - (intOf i).toNat)
  case atStart => exact ⟨0, Nat.zero_le _, rfl, by rw [catL_zero]; rfl, Below.refl _ _⟩
  case round =>
    obtain ⟨k, hk, rfl, rfl, hb⟩ := hrel
    obtain ⟨w0, hw0⟩ : ∃ w0, w0 = wr := ⟨_, rfl⟩
    subst hw0
    by_cases hlt : k < m
    · obtain ⟨b, off, rfl, hbB, hcell⟩ := Hsl.out (by rw [Hlen.out]; omega)
      obtain ⟨Aj, cj, hcj, hsj⟩ := hcell k (by rw [Hlen.out]; exact hlt)
      have k0 : (0 : Int) ≤ (k : Int) := by omega
      have k1 : (k : Int) < (m : Int) := by omega
      replace hcj : w0.cell? ⟨b, off + k, none⟩ = some (.slice Aj (rowOf Ls k).length cj) := (hb.cell (p := ⟨b, off + k, none⟩) hbB).trans hcj
      have yb : b < w0.heap.size := Nat.lt_of_lt_of_le hbB hb.size
      have hcat := catL_succ Ls k (by rw [Hlen.out]; exact hlt)
      have hr12 := Hr12.out k hlt
      have Hcat := Lib.hid hcat
      have Hb := Lib.hid hb
      have Hsj := Lib.hid hsj
      generalize rowOf Ls k = row at *
      obtain ⟨s0, hs0⟩ : ∃ s0, s0 = (catL Ls k).foldl max 0 := ⟨_, rfl⟩
      rw [← hs0]
      have Hs0 := Lib.hid hs0
      clear hcell hcat hb hsj hs0
      go_wp2
      go_loopw [4, 8, 21] (fun s _ i wr => ∃ t : Nat, t ≤ row.length ∧ i = .int .i64 t ∧ s = .int .i64 ((row.take t).foldl max s0) ∧ Below w3.heap.size w3 wr) (fun _ _ i _ => row.length - (intOf i).toNat)
      case atStart => exact ⟨0, Nat.zero_le _, rfl, by simp, Hb.out⟩
      case round =>
        clear Hb
        obtain ⟨t, ht, rfl, rfl, hb⟩ := hrel
        by_cases htl : t < row.length
        · obtain ⟨b', off', rfl, hbB', hcell'⟩ := Hsj.out (by omega)
          have x0 := (hb.cell (p := ⟨b', off' + t, none⟩) hbB').trans (hcell' t htl)
          have yb' : b' < wr.heap.size := Nat.lt_of_lt_of_le hbB' hb.size
          have t0 : (0 : Int) ≤ (t : Int) := by omega
          have t1 : (t : Int) < (row.length : Int) := by omega
          have r12 : (row.length : Int) ≤ 12 := by omega
          have hst := fold_take row s0 t htl
          have Hst := Lib.hid hst
          have Hb := Lib.hid hb
          clear hcell' hst hb
          generalize row.getD t 0 = x at *
          generalize (row.take t).foldl max s0 = S at *
          go_wp2_with fail
          refine (spec_l1Most_m S x _).mono ?_
          rintro e w9 ⟨rfl, rfl⟩
          rw [← Hst.out]
          have Hst2 := Lib.hid (show (row.take (t + 1)).foldl max s0 = (row.take (t + 1)).foldl max s0 from rfl)
          go_wp2
          go_roundw
          case rel => exact ⟨t + 1, by omega, by go_num, rfl, Hb.out⟩
          case measure => simp [intOf]; omega
        · obtain rfl : t = row.length := by omega
          rw [List.take_length]
          have hsum : row.foldl max s0 = (catL Ls (k + 1)).foldl max 0 := by rw [Hcat.out, List.foldl_append, ← Hs0.out]
          have Hsum := Lib.hid hsum
          have Hb := Lib.hid hb
          clear hsum hb
          generalize row.foldl max s0 = S at *
          go_wp2
          go_roundw
          case rel => exact ⟨k + 1, by omega, by go_num, by rw [Hsum.out], Hb.out⟩
          case measure => simp [intOf]; omega
    · obtain rfl : k = m := by omega
      have hE := Lib.hid (HE.out _ _ rfl (below_kept Hd.out (Nat.le_refl _) hb))
      generalize (catL Ls k).foldl max 0 = S at *
      clear hb HE
      go_wp2
      go_ret2
      exact hE.out
theorem first_entry {q : List Int} (h : okF q = true) : 0 ≤ (catL (frL q) (frL q).length).getD 0 0 := by
  obtain ⟨h1, h4⟩ := okF_iff.1 h
  obtain ⟨hlen, _, h12, hr⟩ := okF_rows h
  have hrow : rowOf (frL q) 0 = rowL q 1 q.length := by
    rw [frL_yes h, frP_row q _ 0 (by omega)]
    rfl
  have hcat : ∃ R, catL (frL q) (frL q).length = rowL q 1 q.length ++ R := by
    unfold catL
    rw [List.take_length]
    have hl : 0 < (frL q).length := by omega
    generalize frL q = Ls at *
    cases Ls with
    | nil => simp at hl
    | cons a t =>
      refine ⟨t.flatten, ?_⟩
      have e : a = rowL q 1 q.length := by simpa [rowOf] using hrow
      rw [List.flatten_cons, e]
  obtain ⟨R, hR⟩ := hcat
  rw [hR]
  have e0 : (rowL q 1 q.length ++ R).getD 0 0 = ent q 0 2 := by
    obtain ⟨n, hn⟩ : ∃ n, q.length = n + 1 := ⟨q.length - 1, by omega⟩
    rw [hn]
    unfold rowL
    rw [List.range_succ_eq_map]
    simp
  rw [e0]
  obtain ⟨b0, b1⟩ := mdI_bd (0 + ((1 : Nat) : Int)) (q.length : Int) (by omega)
  have hp := isQ_get h1 (mdI (0 + ((1 : Nat) : Int)) (q.length : Int)).toNat (by omega)
  have e1 : entS q 0 1 = (0, 1) := by
    show ((entS q 0 0).2, _) = _
    simp [entS, wrap64]
  have e2 : ent q 0 2 = wrap64 (wrap64 (q.getD (mdI (0 + ((1 : Nat) : Int)) q.length).toNat 0 * (entS q 0 1).2) - (entS q 0 1).1) := rfl
  rw [e2, e1]
  dsimp only
  generalize q.getD (mdI (0 + ((1 : Nat) : Int)) (q.length : Int)).toNat 0 = x at *
  have hw : wrap64 x = x := by unfold wrap64; omega
  rw [Int.mul_one, hw, Int.sub_zero, hw]
  omega
set_option maxRecDepth 100000 in
set_option maxHeartbeats 3200000 in
theorem impl_GreatestEntry_yes (A : Option Addr) (c B : Nat) (q : List Int) (w : World) (hg : okF q = true) (h : SlI w B A q) (hB : B ≤ w.heap.size) (hl : q.length ≤ 1048576) (hlc : q.length ≤ c) :
    Calls Try.prog 25 #[.slice A q.length c] w (GEnd q w) := by
  have hc := impl_FriezeOf A c B q w h hB hl hlc
  rw [hg] at hc
  have Hc := Lib.hid hc
  obtain ⟨hlen, h4, h12, hrow⟩ := okF_rows hg
  obtain ⟨m, hm⟩ : ∃ m, q.length - 3 = m := ⟨_, rfl⟩
  rw [hm] at hlen hrow
  have Hpre := Lib.hid (pre_rows hg)
  rw [hm] at Hpre
  have HE := Lib.hid (fun w' n (hn : (catL (frL q) m).foldl max 0 = n) (hb : Below w.heap.size w w') => gEnd_yes (q := q) (n := n) hg (by rw [hlen]; exact hn) hb)
  have H0 := first_entry hg
  rw [hlen] at H0
  have HF := Lib.hid (fold_max _ H0)
  clear H0
  have Hr12 := Lib.hid (fun j (hj : j < m) => show 1 ≤ (rowOf (frL q) j).length ∧ (rowOf (frL q) j).length ≤ 12 by rw [hrow j hj]; omega)
  have Hlen := Lib.hid hlen
  have hm1 : 1 ≤ m := by omega
  have hm9 : m ≤ 9 := by omega
  generalize frL q = Ls at *
  clear hc hg hm hrow h4 h12 h hlen
  go_enter Try.func25, Try.ntmps25
  go_wp2_with fail
  refine Hc.out.mono ?_
  rintro e w1 ⟨A1, c1, rs1, he1, ho1, hb1⟩
  rw [Hlen.out] at he1
  subst he1
  have hcat := slices_Concat A1 c1 _ m Ls w1 Hlen.out ho1.sl (Nat.le_refl _) hm9 hm1 Hr12.out
  have Hcat := Lib.hid hcat
  have Hb1 := Lib.hid hb1
  have hTL := catL_length Ls m (by rw [Hlen.out]; omega)
  have hT : (catL Ls m).length ≤ 108 := by
    have h3 := Hpre.out m (Nat.le_refl _)
    omega
  have hT1 : 1 ≤ (catL Ls m).length := by
    have h1 := pre_le Ls 1 (m - 1) (by rw [Hlen.out]; omega)
    rw [show 1 + (m - 1) = m by omega] at h1
    have h2 := pre_succ Ls 0 (by rw [Hlen.out]; omega)
    rw [pre_zero] at h2
    have h3 := (Hr12.out 0 (by omega)).1
    have h4 : pre Ls (0 + 1) = pre Ls 1 := rfl
    omega
  clear hcat hb1 ho1 Hc hTL
  generalize catL Ls m = T at *
  have hfin := HF.out (T.length - 1) (by omega)
  rw [show T.length - 1 + 1 = T.length by omega, List.take_length] at hfin
  go_wp2_with fail
  refine Hcat.out.mono ?_
  rintro e w2 ⟨A2, c2, rfl, ho2, hb2⟩
  have hd := below_kept Hb1.out (Nat.le_refl _) hb2
  have hE := Lib.hid (HE.out _ _ hfin hd)
  have hmax := slices_Max A2 T.length c2 _ T w2 rfl (by omega) (by omega) (SlI.of_own ho2)
  have Hmax := Lib.hid hmax
  clear hb2 ho2 hd Hcat Hb1 HE hfin hmax HF
  go_wp2_with fail
  refine Hmax.out.mono ?_
  rintro e w3 ⟨rfl, rfl⟩
  clear Hmax
  generalize maxF T (T.length - 1) = S at *
  go_wp2
  go_ret2
  exact hE.out
theorem WGreatestEntry.walk (w : World) (A : Option Addr) (c : Nat) (l : List Int) (h : SlI w w.heap.size A l)
    (hj : l.length ≤ c ∧ c ≤ maxLen ∧ ∀ x ∈ l, (Lit.int .i64 x).wf = true) :
    Calls Try.prog 7 #[.slice A l.length c] w fun e w' => e = .returned (.bool true) ∧ Below w.heap.size w w' := by
  cases hg : okF l
  · exact WGreatestEntry.core w A c l h hj.1 hj.2.1 _ _ (Lib.hid fun A c w h hl hlc => spec_GreatestEntry_no A c _ l w hg h (Nat.le_refl _) hl hlc) (Lib.hid fun A c w h hl hlc => impl_GreatestEntry_no A c _ l w hg h (Nat.le_refl _) hl hlc)
  · exact WGreatestEntry.core w A c l h hj.1 hj.2.1 _ _ (Lib.hid fun A c w h hl hlc => spec_GreatestEntry_yes A c _ l w hg h (Nat.le_refl _) hl hlc) (Lib.hid fun A c w h hl hlc => impl_GreatestEntry_yes A c _ l w hg h (Nat.le_refl _) hl hlc)
end Go.Proofs.Ytfffnkbjhbaceab
