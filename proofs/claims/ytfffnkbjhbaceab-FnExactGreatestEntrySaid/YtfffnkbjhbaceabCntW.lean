/- CountEntries: both contracts, and the law's walk. -/
import Derived.Test.YtfffnkbjhbaceabCatW
import Derived.Test.YtfffnkbjhbaceabFriezeOfW
import Derived.Test.YtfffnkbjhbaceabCountEntriesC
namespace Go.Proofs.Ytfffnkbjhbaceab
set_option linter.unusedVariables false
open Go.RowKit

/-- how often -/
def cv (v : Int) (l : List Int) : Nat := (l.filter fun x => x == v).length
theorem cv_append (v : Int) (a b : List Int) : cv v (a ++ b) = cv v a + cv v b := by simp [cv]
theorem cv_le (v : Int) (l : List Int) : cv v l ≤ l.length := List.length_filter_le _ _
theorem cv_take (v : Int) (l : List Int) (t : Nat) (h : t < l.length) : cv v (l.take (t + 1)) = cv v (l.take t) + (if (l.getD t 0 == v) = true then 1 else 0) := by
  rw [List.take_succ_eq_append_getElem h, cv_append]
  have e : l.getD t 0 = l[t] := by simp [h]
  rw [e]
  congr 1
  unfold cv
  cases hp : (l[t] == v) <;> simp [hp]
/-- what comes back -/
def okC (q : List Int) (v : Int) : Bool := okF q && decide (1 ≤ v)
def cR (q : List Int) (v : Int) : Int := if okC q v = true then (cv v (catL (frL q) (frL q).length) : Int) else 0
def CEnd (q : List Int) (v : Int) (w : World) (e : Ending) (w' : World) : Prop := e = .returned (.tuple #[.int .i64 (cR q v), .bool (okC q v)]) ∧ Below w.heap.size w w'
theorem cEnd_no {q : List Int} {v : Int} {w w' : World} (h : okC q v = false) (hb : Below w.heap.size w w') : CEnd q v w (.returned (.tuple #[.int .i64 0, .bool false])) w' := by
  unfold CEnd cR
  rw [h, if_neg (by simp)]
  exact ⟨rfl, hb⟩
theorem cEnd_yes {q : List Int} {v : Int} {w w' : World} {n : Nat} (h : okC q v = true) (hn : cv v (catL (frL q) (frL q).length) = n) (hb : Below w.heap.size w w') : CEnd q v w (.returned (.tuple #[.int .i64 (n : Int), .bool true])) w' := by
  unfold CEnd cR
  rw [h, if_pos rfl, hn]
  exact ⟨rfl, hb⟩
theorem okF_rows {q : List Int} (h : okF q = true) : (frL q).length = q.length - 3 ∧ 4 ≤ q.length ∧ q.length ≤ 12 ∧ ∀ j, j < q.length - 3 → (rowOf (frL q) j).length = q.length := by
  obtain ⟨h1, h4⟩ := okF_iff.1 h
  have h12 := (isQ_len h1).2
  refine ⟨by rw [frL_yes h, frP_length], h4, h12, fun j hj => ?_⟩
  rw [frL_yes h, frP_row q _ j hj, rowL_length]
theorem pre_rows {q : List Int} (h : okF q = true) : ∀ k, k ≤ q.length - 3 → pre (frL q) k ≤ 12 * k := by
  obtain ⟨h1, h4, h12, hr⟩ := okF_rows h
  intro k
  induction k with
  | zero => intro _; rw [pre_zero]; omega
  | succ k ih =>
    intro hk
    rw [pre_succ _ k (by omega), hr k (by omega)]
    have := ih (by omega)
    omega

theorem spec_CountEntries_no (A : Option Addr) (c B : Nat) (q : List Int) (v : Int) (w : World) (hno : okC q v = false) (h : SlI w B A q) (hB : B ≤ w.heap.size) (hl : q.length ≤ 1048576) (hlc : q.length ≤ c) :
    Calls Try.prog 22 #[.slice A q.length c, .int .i64 v] w (CEnd q v w) := by
  have hc := spec_frGood A c B q w h hB hl hlc
  have HE := Lib.hid (fun w' (hb : Below w.heap.size w w') => cEnd_no hno hb)
  cases hg : okF q
  · rw [hg] at hc
    have Hc := Lib.hid hc
    clear hc hg hno h
    go_enter Try.func22, Try.ntmps22
    go_wp2_with fail
    refine Hc.out.mono ?_
    rintro e w1 ⟨rfl, hb1⟩
    have hE := Lib.hid (HE.out _ hb1)
    clear Hc HE hb1
    go_wp2
    go_ret2
    exact hE.out
  · rw [hg] at hc
    have hv : v < 1 := by
      unfold okC at hno
      rw [hg] at hno
      simpa using hno
    have Hc := Lib.hid hc
    clear hc hg hno h
    go_enter Try.func22, Try.ntmps22
    go_wp2_with fail
    refine Hc.out.mono ?_
    rintro e w1 ⟨rfl, hb1⟩
    have hE := Lib.hid (HE.out _ hb1)
    clear Hc HE hb1
    go_wp2
    go_ret2
    exact hE.out
set_option maxRecDepth 100000 in
set_option maxHeartbeats 3200000 in
theorem spec_CountEntries_yes (A : Option Addr) (c B : Nat) (q : List Int) (v : Int) (w : World) (hok : okC q v = true) (h : SlI w B A q) (hB : B ≤ w.heap.size) (hl : q.length ≤ 1048576) (hlc : q.length ≤ c) :
    Calls Try.prog 22 #[.slice A q.length c, .int .i64 v] w (CEnd q v w) := by
  have hgv : okF q = true ∧ 1 ≤ v := by
    unfold okC at hok
    simpa using hok
  obtain ⟨hg, hv⟩ := hgv
  have hc := spec_frGood A c B q w h hB hl hlc
  rw [hg] at hc
  have Hc := Lib.hid hc
  obtain ⟨hlen, h4, h12, hrow⟩ := okF_rows hg
  obtain ⟨m, hm⟩ : ∃ m, q.length - 3 = m := ⟨_, rfl⟩
  have hof := fun w1 (hb : Below w.heap.size w w1) => spec_frOf A c B m q w1 hm (h.below (hb.mono hB)) (Nat.le_trans hB hb.size) h4 h12
  rw [← hm, ← frL_yes hg, hm] at hof
  have Hof := Lib.hid hof
  rw [hm] at hlen hrow
  have Hpre := Lib.hid (pre_rows hg)
  rw [hm] at Hpre
  have HE := Lib.hid (fun w' n (hn : cv v (catL (frL q) m) = n) (hb : Below w.heap.size w w') => cEnd_yes (q := q) (v := v) (n := n) hok (by rw [hlen]; exact hn) hb)
  have m9 : (m : Int) ≤ 9 := by omega
  have Hr12 := Lib.hid (fun j (hj : j < m) => show (rowOf (frL q) j).length ≤ 12 by rw [hrow j hj]; exact h12)
  have Hlen := Lib.hid hlen
  generalize frL q = Ls at *
  clear hc hof hok hg hm hrow h4 h12
  have hv2 : ¬ v < 1 := by omega
  go_enter Try.func22, Try.ntmps22
  go_wp2_with fail
  refine Hc.out.mono ?_
  rintro e w1 ⟨rfl, hb1⟩
  go_wp2_with fail
  refine (Hof.out _ hb1).mono ?_
  rintro e w3 ⟨A3, c3, rs, rfl, ho3, hb3⟩
  have hd := below_kept hb1 (Nat.le_refl _) hb3
  have hsl := ho3.sl
  have Hd := Lib.hid hd
  have Hsl := Lib.hid hsl
  clear Hc Hof hb1 hb3 ho3 hd hsl h
  go_wp2
  go_loopw [6, 8, 10, 21] (fun s _ _ i wr => ∃ k : Nat, k ≤ m ∧ i = .int .i64 k ∧ s = .int .i64 (cv v (catL Ls k) : Nat) ∧ Below w3.heap.size w3 wr) (fun _ _ _ i _ => m - (intOf i).toNat)
  case atStart => exact ⟨0, Nat.zero_le _, rfl, by rw [catL_zero]; rfl, Below.refl _ _⟩
  case round =>
    obtain ⟨k, hk, rfl, rfl, hb⟩ := hrel
    obtain ⟨w0, hw0⟩ : ∃ w0, w0 = wr := ⟨_, rfl⟩
    subst hw0
    by_cases hlt : k < m
    · obtain ⟨b, off, rfl, hbB, hcell⟩ := Hsl.out (by rw [Hlen.out]; omega)
      obtain ⟨Aj, cj, hcj, hsj⟩ := hcell k (by rw [Hlen.out]; exact hlt)
      have k0 : (0 : Int) ≤ (k : Int) := by omega
      have k1 : (k : Int) < (m : Int) := by omega
      replace hcj : w0.cell? ⟨b, off + k, none⟩ = some (.slice Aj (rowOf Ls k).length cj) := (hb.cell (p := ⟨b, off + k, none⟩) hbB).trans hcj
      have yb : b < w0.heap.size := Nat.lt_of_lt_of_le hbB hb.size
      have hcat := catL_succ Ls k (by rw [Hlen.out]; exact hlt)
      have hr12 := Hr12.out k hlt
      have hcl : cv v (catL Ls k) ≤ 108 := by
        have h1 := cv_le v (catL Ls k)
        have h2 := catL_length Ls k (by rw [Hlen.out]; omega)
        have h3 := Hpre.out k hk
        omega
      have Hcat := Lib.hid hcat
      have Hb := Lib.hid hb
      have Hsj := Lib.hid hsj
      generalize rowOf Ls k = row at *
      obtain ⟨s0, hs0⟩ : ∃ s0, s0 = cv v (catL Ls k) := ⟨_, rfl⟩
      rw [← hs0] at hcl ⊢
      have Hs0 := Lib.hid hs0
      clear hcell hcat hb hsj hs0
      go_wp2
      go_loopw [6, 10, 27] (fun s _ i wr => ∃ t : Nat, t ≤ row.length ∧ i = .int .i64 t ∧ s = .int .i64 ((s0 + cv v (row.take t) : Nat) : Int) ∧ Below w3.heap.size w3 wr) (fun _ _ i _ => row.length - (intOf i).toNat)
      case atStart => exact ⟨0, Nat.zero_le _, rfl, by simp [cv], Hb.out⟩
      case round =>
        clear Hb
        obtain ⟨t, ht, rfl, rfl, hb⟩ := hrel
        by_cases htl : t < row.length
        · obtain ⟨b', off', rfl, hbB', hcell'⟩ := Hsj.out (by omega)
          have x0 := (hb.cell (p := ⟨b', off' + t, none⟩) hbB').trans (hcell' t htl)
          have yb' : b' < wr.heap.size := Nat.lt_of_lt_of_le hbB' hb.size
          have t0 : (0 : Int) ≤ (t : Int) := by omega
          have t1 : (t : Int) < (row.length : Int) := by omega
          have r12 : (row.length : Int) ≤ 12 := by omega
          have hst := cv_take v row t htl
          have hcv : cv v (row.take t) ≤ 12 := by
            have h1 := cv_le v (row.take t)
            rw [List.length_take] at h1
            omega
          have Hst := Lib.hid hst
          have Hb := Lib.hid hb
          clear hcell' hst hb
          generalize row.getD t 0 = x at *
          obtain ⟨S, hS⟩ : ∃ S, s0 + cv v (row.take t) = S := ⟨_, rfl⟩
          have hS1 : (S : Int) ≤ 200 := by omega
          rw [hS]
          have HS := Lib.hid hS
          clear hS hcv
          cases hxv : (x == v)
          · have hst2 : s0 + cv v (row.take (t + 1)) = S := by rw [Hst.out, hxv, if_neg (by simp), Nat.add_zero]; exact HS.out
            have Hst2 := Lib.hid hst2
            clear hst2
            go_wp2
            go_roundw
            case rel => exact ⟨t + 1, by omega, by go_num, by rw [Hst2.out], Hb.out⟩
            case measure => simp [intOf]; omega
          · have hst2 : s0 + cv v (row.take (t + 1)) = S + 1 := by rw [Hst.out, hxv, if_pos rfl, ← HS.out]; omega
            have Hst2 := Lib.hid hst2
            have hxe : x = v := by simpa using hxv
            clear hst2 hxv
            subst hxe
            go_wp2
            go_roundw
            case rel => exact ⟨t + 1, by omega, by go_num, by rw [Hst2.out]; go_num, Hb.out⟩
            case measure => simp [intOf]; omega
        · obtain rfl : t = row.length := by omega
          rw [List.take_length]
          have hsum : s0 + cv v row = cv v (catL Ls (k + 1)) := by rw [Hcat.out, cv_append, ← Hs0.out]
          have Hsum := Lib.hid hsum
          have Hb := Lib.hid hb
          clear hsum hb
          generalize s0 + cv v row = S at *
          go_wp2
          go_roundw
          case rel => exact ⟨k + 1, by omega, by go_num, by rw [Hsum.out], Hb.out⟩
          case measure => simp [intOf]; omega
    · obtain rfl : k = m := by omega
      have hE := Lib.hid (HE.out _ _ rfl (below_kept Hd.out (Nat.le_refl _) hb))
      generalize cv v (catL Ls k) = S at *
      clear hb HE
      go_wp2
      go_ret2
      exact hE.out

theorem impl_CountEntries_no (A : Option Addr) (c B : Nat) (q : List Int) (v : Int) (w : World) (hno : okC q v = false) (h : SlI w B A q) (hB : B ≤ w.heap.size) (hl : q.length ≤ 1048576) (hlc : q.length ≤ c) :
    Calls Try.prog 23 #[.slice A q.length c, .int .i64 v] w (CEnd q v w) := by
  have hc := impl_FriezeOf A c B q w h hB hl hlc
  have HE := Lib.hid (fun w' (hb : Below w.heap.size w w') => cEnd_no hno hb)
  cases hg : okF q
  · rw [hg] at hc
    have Hc := Lib.hid hc
    clear hc hg hno h
    go_enter Try.func23, Try.ntmps23
    go_wp2_with fail
    refine Hc.out.mono ?_
    rintro e w1 ⟨A1, c1, rs1, rfl, -, hb1⟩
    have hE := Lib.hid (HE.out _ hb1)
    clear Hc HE hb1
    go_wp2
    go_ret2
    exact hE.out
  · rw [hg] at hc
    have hv : v < 1 := by
      unfold okC at hno
      rw [hg] at hno
      simpa using hno
    have Hc := Lib.hid hc
    clear hc hg hno h
    go_enter Try.func23, Try.ntmps23
    go_wp2_with fail
    refine Hc.out.mono ?_
    rintro e w1 ⟨A1, c1, rs1, rfl, -, hb1⟩
    have hE := Lib.hid (HE.out _ hb1)
    clear Hc HE hb1
    go_wp2
    go_ret2
    exact hE.out
set_option maxRecDepth 100000 in
set_option maxHeartbeats 3200000 in
theorem impl_CountEntries_yes (A : Option Addr) (c B : Nat) (q : List Int) (v : Int) (w : World) (hok : okC q v = true) (h : SlI w B A q) (hB : B ≤ w.heap.size) (hl : q.length ≤ 1048576) (hlc : q.length ≤ c) :
    Calls Try.prog 23 #[.slice A q.length c, .int .i64 v] w (CEnd q v w) := by
  have hgv : okF q = true ∧ 1 ≤ v := by
    unfold okC at hok
    simpa using hok
  obtain ⟨hg, hv⟩ := hgv
  have hc := impl_FriezeOf A c B q w h hB hl hlc
  rw [hg] at hc
  have Hc := Lib.hid hc
  obtain ⟨hlen, h4, h12, hrow⟩ := okF_rows hg
  obtain ⟨m, hm⟩ : ∃ m, q.length - 3 = m := ⟨_, rfl⟩
  rw [hm] at hlen hrow
  have Hpre := Lib.hid (pre_rows hg)
  rw [hm] at Hpre
  have HE := Lib.hid (fun w' n (hn : cv v (catL (frL q) m) = n) (hb : Below w.heap.size w w') => cEnd_yes (q := q) (v := v) (n := n) hok (by rw [hlen]; exact hn) hb)
  have Hr12 := Lib.hid (fun j (hj : j < m) => show 1 ≤ (rowOf (frL q) j).length ∧ (rowOf (frL q) j).length ≤ 12 by rw [hrow j hj]; omega)
  have Hlen := Lib.hid hlen
  have hm1 : 1 ≤ m := by omega
  have hm9 : m ≤ 9 := by omega
  generalize frL q = Ls at *
  clear hc hok hg hm hrow h4 h12 h hlen
  have hv2 : ¬ v < 1 := by omega
  go_enter Try.func23, Try.ntmps23
  go_wp2_with fail
  refine Hc.out.mono ?_
  rintro e w1 ⟨A1, c1, rs1, he1, ho1, hb1⟩
  rw [Hlen.out] at he1
  subst he1
  have hcat := slices_Concat A1 c1 _ m Ls w1 Hlen.out ho1.sl (Nat.le_refl _) hm9 hm1 Hr12.out
  have Hcat := Lib.hid hcat
  have Hb1 := Lib.hid hb1
  have hT : (catL Ls m).length ≤ 108 := by
    have h2 := catL_length Ls m (by rw [Hlen.out]; omega)
    have h3 := Hpre.out m (Nat.le_refl _)
    omega
  clear hcat hb1 ho1 Hc
  generalize catL Ls m = T at *
  go_wp2_with fail
  refine Hcat.out.mono ?_
  rintro e w2 ⟨A2, c2, rfl, ho2, hb2⟩
  have hd := below_kept Hb1.out (Nat.le_refl _) hb2
  have Hd := Lib.hid hd
  have Hs := Lib.hid (SlI.of_own ho2)
  have t12 : (T.length : Int) ≤ 108 := by omega
  clear hb2 ho2 hd Hcat Hb1
  go_wp2
  go_loopw [8, 10, 25] (fun s _ i wr => ∃ t : Nat, t ≤ T.length ∧ i = .int .i64 t ∧ s = .int .i64 ((cv v (T.take t) : Nat) : Int) ∧ Below w2.heap.size w2 wr) (fun _ _ i _ => T.length - (intOf i).toNat)
  case atStart => exact ⟨0, Nat.zero_le _, rfl, by simp [cv], Below.refl _ _⟩
  case round =>
    obtain ⟨t, ht, rfl, rfl, hb⟩ := hrel
    by_cases htl : t < T.length
    · obtain ⟨b', off', rfl, hbB', hcell'⟩ := Hs.out (by omega)
      have x0 := (hb.cell (p := ⟨b', off' + t, none⟩) hbB').trans (hcell' t htl)
      have yb' : b' < wr.heap.size := Nat.lt_of_lt_of_le hbB' hb.size
      have t0 : (0 : Int) ≤ (t : Int) := by omega
      have t1 : (t : Int) < (T.length : Int) := by omega
      have hst := cv_take v T t htl
      have hcv : cv v (T.take t) ≤ 108 := by
        have h1 := cv_le v (T.take t)
        rw [List.length_take] at h1
        omega
      have Hst := Lib.hid hst
      have Hb := Lib.hid hb
      clear hcell' hst hb
      generalize T.getD t 0 = x at *
      obtain ⟨S, hS⟩ : ∃ S, cv v (T.take t) = S := ⟨_, rfl⟩
      rw [hS] at hcv Hst ⊢
      have hS1 : (S : Int) ≤ 200 := by omega
      clear hS hcv
      cases hxv : (x == v)
      · have hst2 : cv v (T.take (t + 1)) = S := by rw [Hst.out, hxv, if_neg (by simp), Nat.add_zero]
        have Hst2 := Lib.hid hst2
        clear hst2
        go_wp2
        go_roundw
        case rel => exact ⟨t + 1, by omega, by go_num, by rw [Hst2.out], Hb.out⟩
        case measure => simp [intOf]; omega
      · have hst2 : cv v (T.take (t + 1)) = S + 1 := by rw [Hst.out, hxv, if_pos rfl]
        have Hst2 := Lib.hid hst2
        have hxe : x = v := by simpa using hxv
        clear hst2 hxv
        subst hxe
        go_wp2
        go_roundw
        case rel => exact ⟨t + 1, by omega, by go_num, by rw [Hst2.out]; go_num, Hb.out⟩
        case measure => simp [intOf]; omega
    · obtain rfl : t = T.length := by omega
      rw [List.take_length]
      have hE := Lib.hid (HE.out _ _ rfl (below_kept Hd.out (Nat.le_refl _) hb))
      generalize cv v T = S at *
      clear hb HE
      go_wp2
      go_ret2
      exact hE.out
theorem WCountEntries.walk (w : World) (A : Option Addr) (c : Nat) (l : List Int) (h : SlI w w.heap.size A l)
    (hj : l.length ≤ c ∧ c ≤ maxLen ∧ ∀ x ∈ l, (Lit.int .i64 x).wf = true) (v : Int) {p : Prop} (_ : p) :
    Calls Try.prog 6 #[.slice A l.length c, .int .i64 v] w fun e w' => e = .returned (.bool true) ∧ Below w.heap.size w w' := by
  cases hok : okC l v
  · exact WCountEntries.core w A c l v h hj.1 hj.2.1 _ _ (Lib.hid fun A c w h hl hlc => spec_CountEntries_no A c _ l v w hok h (Nat.le_refl _) hl hlc) (Lib.hid fun A c w h hl hlc => impl_CountEntries_no A c _ l v w hok h (Nat.le_refl _) hl hlc)
  · exact WCountEntries.core w A c l v h hj.1 hj.2.1 _ _ (Lib.hid fun A c w h hl hlc => spec_CountEntries_yes A c _ l v w hok h (Nat.le_refl _) hl hlc) (Lib.hid fun A c w h hl hlc => impl_CountEntries_yes A c _ l v w hok h (Nat.le_refl _) hl hlc)
end Go.Proofs.Ytfffnkbjhbaceab
