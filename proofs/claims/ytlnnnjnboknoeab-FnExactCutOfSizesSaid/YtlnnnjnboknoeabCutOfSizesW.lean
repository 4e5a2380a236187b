/- CutOfSizes: the model's and the program's contract, and the law's walk. -/
import Derived.Test.YtlnnnjnboknoeabCutOfSizesC
import Derived.Test.YtlnnnjnboknoeabCountEqualCutsW
import Derived.Test.YtlnnnjnboknoeabL1
import Derived.Test.YtlnnnjnboknoeabApp
import Derived.OwnWalk
namespace Go.Proofs.Ytlnnnjnboknoeab
set_option linter.unusedVariables false
open Go.RowKit

/-- the last corner behind k pieces -/
def smS (S : List Int) (k : Nat) : Int := 1 + ((S.take k).map fun x => x - 2).sum
theorem smS_zero (S : List Int) : smS S 0 = 1 := by simp [smS]
theorem smS_succ {S : List Int} {k : Nat} (h : k < S.length) : smS S (k + 1) = smS S k + (S.getD k 0 - 2) := by
  unfold smS
  rw [List.take_succ_eq_append_getElem h, List.map_append, List.sum_append]
  simp [h]
  omega
/-- the sizes make a cut -/
def okC (S : List Int) : Bool := decide (1 ≤ S.length) && S.all (fun x => decide (3 ≤ x)) && decide (smS S S.length ≤ 11)
theorem okC_iff {S : List Int} : okC S = true ↔ 1 ≤ S.length ∧ (∀ k, k < S.length → 3 ≤ S.getD k 0) ∧ smS S S.length ≤ 11 := by
  unfold okC
  simp only [Bool.and_eq_true, decide_eq_true_eq, List.all_eq_true, and_assoc]
  constructor
  · rintro ⟨h1, h2, h3⟩
    exact ⟨h1, fun k hk => by
      have := h2 S[k] (List.getElem_mem hk)
      simpa [hk] using this, h3⟩
  · rintro ⟨h1, h2, h3⟩
    exact ⟨h1, fun x hx => by
      obtain ⟨k, hk, rfl⟩ := List.getElem_of_mem hx
      have := h2 k hk
      simpa [hk] using this, h3⟩
theorem smS_mono {S : List Int} (h : ∀ k, k < S.length → 3 ≤ S.getD k 0) {a : Nat} : ∀ d, a + d ≤ S.length → smS S a + (d : Int) ≤ smS S (a + d)
  | 0, _ => by simp
  | d + 1, hd => by
    have h1 := smS_mono h (a := a) d (by omega)
    have h2 := smS_succ (S := S) (k := a + d) (by omega)
    have h3 := h (a + d) (by omega)
    rw [← Nat.add_assoc, h2]
    omega
theorem smS_ge {S : List Int} (h : ∀ k, k < S.length → 3 ≤ S.getD k 0) {k : Nat} (hk : k ≤ S.length) : 1 + (k : Int) ≤ smS S k := by
  have := smS_mono h (a := 0) k (by omega)
  rw [smS_zero, Nat.zero_add] at this
  exact this
theorem okC_bd {S : List Int} (h : okC S = true) : 1 ≤ S.length ∧ S.length ≤ 10 ∧ ∀ k, k < S.length → 3 ≤ S.getD k 0 ∧ S.getD k 0 ≤ 12 := by
  obtain ⟨h1, h2, h3⟩ := okC_iff.1 h
  have h4 := smS_ge h2 (Nat.le_refl _)
  refine ⟨h1, by omega, fun k hk => ⟨h2 k hk, ?_⟩⟩
  have h5 := smS_ge h2 (k := k) (by omega)
  have h6 := smS_succ hk
  have h7 := smS_mono h2 (a := k + 1) (S.length - (k + 1)) (by omega)
  rw [show k + 1 + (S.length - (k + 1)) = S.length by omega] at h7
  omega
theorem okC_no1 {S : List Int} {k : Nat} (hk : k < S.length) (h : S.getD k 0 < 3) : okC S = false := by
  cases hc : okC S
  · rfl
  · have := ((okC_bd hc).2.2 k hk).1; omega
theorem okC_no2 {S : List Int} {k : Nat} (hk : k < S.length) (h : 11 < smS S (k + 1)) : okC S = false := by
  cases hc : okC S
  · rfl
  · obtain ⟨h1, h2, h3⟩ := okC_iff.1 hc
    have h7 := smS_mono h2 (a := k + 1) (S.length - (k + 1)) (by omega)
    rw [show k + 1 + (S.length - (k + 1)) = S.length by omega] at h7
    omega
/-- the diagonals behind k pieces, k > 0 -/
def dgC (S : List Int) (k : Nat) : List (Int × Int) := (List.range (k - 1)).map fun j => ((0 : Int), smS S (j + 1))
theorem dgC_length (S : List Int) (k : Nat) : (dgC S k).length = k - 1 := by simp [dgC]
theorem dgC_succ (S : List Int) (k : Nat) : dgC S (k + 2) = dgC S (k + 1) ++ [((0 : Int), smS S (k + 1))] := by simp [dgC, List.range_succ]
def csN (S : List Int) : Int := if okC S = true then smS S S.length + 1 else 0
def csL (S : List Int) : List (Int × Int) := if okC S = true then dgC S S.length else []
theorem csE_no {S : List Int} {w w' : World} (h : okC S = false) (hb : Below w.heap.size w w') : RetND w (csN S) (csL S) (okC S) (.returned (.tuple #[.int .i64 0, .slice none 0 0, .bool false])) w' := by
  unfold csN csL
  rw [h]
  exact ⟨none, 0, rfl, World.ownsRow_nil _ _ _ _, hb⟩
theorem csE_yes {S : List Int} {w w' : World} {A : Option Addr} {c : Nat} (h : okC S = true) (ho : w'.ownsRow w.heap.size 59 2 (.slice A (dgC S S.length).length c) (dgC S S.length).length (dcs (dgC S S.length))) (hb : Below w.heap.size w w') :
    RetND w (csN S) (csL S) (okC S) (.returned (.tuple #[.int .i64 (smS S S.length + 1), .slice A (dgC S S.length).length c, .bool true])) w' := by
  unfold csN csL
  rw [h]
  exact ⟨A, c, rfl, ho, hb⟩
theorem csL_length (S : List Int) : (csL S).length ≤ 1000000000 := by
  unfold csL
  split
  · rename_i h
    have := okC_bd h
    rw [dgC_length]
    omega
  · simp

set_option maxRecDepth 100000 in
set_option maxHeartbeats 3200000 in
theorem impl_CutOfSizes (A : Option Addr) (c B : Nat) (S : List Int) (w : World) (hwf : ∀ x ∈ S, x ≤ 9223372036854775807) (h : SlI w B A S) (hB : B ≤ w.heap.size) (hl : S.length ≤ 1048576) :
    Calls Try.prog 23 #[.slice A S.length c] w (RetND w (csN S) (csL S) (okC S)) := by
  obtain ⟨n, hn⟩ : ∃ n, S.length = n := ⟨_, rfl⟩
  have Hn := Lib.hid hn
  have H := Lib.hid h
  have HW := Lib.hid hwf
  have HE := Lib.hid fun w' (hc : okC S = false) (hb : Below w.heap.size w w') => csE_no hc hb
  rw [hn] at hl ⊢
  clear h hn hwf
  by_cases h0 : n = 0
  · have hc : okC S = false := by
      cases hc : okC S
      · rfl
      · have := (okC_bd hc).1; rw [Hn.out] at this; omega
    have HF := Lib.hid (HE.out w hc (Below.refl _ _))
    subst h0
    clear hc
    go_enter Try.func23, Try.ntmps23
    go_wp2
    go_ret3
    exact HF.out
  · have hn0 : ((n : Int) == 0) = false := by simp; omega
    go_enter Try.func23, Try.ntmps23
    go_wp2
    go_loopw [5, 6, 7, 8, 14] (fun dv lv _ _ iv wr => ∃ (k : Nat) (A2 : Option Addr) (c2 : Nat), k ≤ n ∧ iv = .int .i64 k ∧ lv = .int .i64 (smS S k) ∧ dv = .slice A2 (k - 1) c2 ∧ wr.ownsRow w.heap.size 59 2 (.slice A2 (k - 1) c2) (k - 1) (dcs (dgC S k)) ∧ (∀ j, j < k → 3 ≤ S.getD j 0) ∧ smS S k ≤ 11 ∧ (k : Int) + 1 ≤ smS S k ∧ Below w.heap.size w wr) (fun _ _ _ _ iv _ => n - (intOf iv).toNat)
    case atStart => exact ⟨0, none, 0, Nat.zero_le _, rfl, by rw [smS_zero], rfl, World.ownsRow_nil _ _ _ _, fun j hj => by omega, by rw [smS_zero]; omega, by rw [smS_zero]; omega, Below.refl _ _⟩
    case round =>
      obtain ⟨k, A2, c2, hk, rfl, rfl, rfl, ho, h3, h11, h1, hb⟩ := hrel
      have H3 := Lib.hid h3
      clear h3
      by_cases hlt : k < n
      · obtain ⟨b, off, rfl, hbB, hc⟩ := H.out.below (hb.mono hB) (by rw [Hn.out]; omega)
        have g0 := hc k (by rw [Hn.out]; exact hlt)
        have hkl : k < S.length := by rw [Hn.out]; exact hlt
        have hsu := smS_succ hkl
        have hn1 := fun hh => okC_no1 hkl hh
        have hn2 := fun hh => okC_no2 hkl hh
        have i1 : (k : Int) < (n : Int) := by omega
        have Hn1 := Lib.hid hn1
        have Hn2 := Lib.hid hn2
        have Hb := Lib.hid hb
        have Ho := Lib.hid ho
        obtain ⟨x, hx⟩ : ∃ x, S.getD k 0 = x := ⟨_, rfl⟩
        have Hx := Lib.hid hx
        rw [hx] at g0 hsu Hn1
        have hxm : x ≤ 9223372036854775807 := by rw [← hx, show S.getD k 0 = S[k] by simp [hkl]]; exact HW.out _ (List.getElem_mem hkl)
        have Hsu := Lib.hid hsu
        clear hc hn1 hn2 hb ho hx hsu
        obtain ⟨s, hs⟩ : ∃ s, smS S k = s := ⟨_, rfl⟩
        have Hs := Lib.hid hs
        rw [hs] at h11 h1 Hsu ⊢
        clear hs
        by_cases hx3 : 3 ≤ x
        · by_cases hx11 : x - 2 ≤ 11 - s
          · have H3' : Hid (∀ j, j < k + 1 → 3 ≤ S.getD j 0) := Lib.hid (fun j hj => by
              by_cases e : j = k
              · rw [e, Hx.out]; exact hx3
              · exact H3.out j (by omega))
            have t1 : ¬ 11 - s < x - 2 := by omega
            have Hs2 : Hid (smS S (k + 1) = s + (x - 2)) := Hsu
            have t2 : s + (x - 2) ≤ 11 := by omega
            have t3 : ((k + 1 : Nat) : Int) + 1 ≤ s + (x - 2) := by omega
            cases k with
            | zero =>
              rw [Nat.add_zero] at g0
              go_wp2_with fail
              refine (impl_isSize x true _ (decide_eq_true hx3)).mono ?_
              rintro e w2 ⟨rfl, rfl⟩
              go_wp2
              go_roundw
              case rel => exact ⟨1, A2, c2, by omega, by go_num, by rw [Hs2.out], rfl, Ho.out, H3'.out, by rw [Hs2.out]; exact t2, by rw [Hs2.out]; exact t3, Hb.out⟩
              case measure => simp [intOf]; omega
            | succ k =>
              have Hd : Hid (dgC S (k + 1 + 1) = dgC S (k + 1) ++ [((0 : Int), s)]) := Lib.hid (by rw [dgC_succ, Hs.out])
              have Hdl : Hid ((dgC S (k + 1)).length = k) := Lib.hid (by rw [dgC_length]; rfl)
              have o0 : wr.ownsRow w.heap.size 59 2 (.slice A2 k c2) k (dcs (dgC S (k + 1))) := Ho.out
              have own5 := o0.alloc (.cells #[.int .i64 0, .int .i64 s] 59)
              have z5 : w.heap.size ≤ (wr.alloc (.cells #[.int .i64 0, .int .i64 s] 59)).heap.size := Nat.le_trans Hb.out.size (by simp)
              have k2 : (0 : Int) < (k : Int) + 1 := by omega
              have k9 : k ≤ 1000000 := by omega
              clear o0
              go_wp2_with (first
                | (go_at_call 58; refine (impl_isSize x true _ (decide_eq_true hx3)).mono ?_; rintro e w2 ⟨rfl, rfl⟩)
                | (at_builtin; refine append1Dn _ rfl _ _ rfl w.heap.size (.slice A2 k c2) k (dgC S (k + 1)) Hdl.out rfl own5 wr.heap.size 0 s rfl ?c1 ?c2 ?c3 z5 ?_; (case c1 => simp [go_sem]); (case c2 => simp [go_sem]); (case c3 => exact k9); intro A3 c3 w3 own3 hg3))
              have b3 := below_grown (Hb.out.alloc Hb.out.size (.cells #[.int .i64 0, .int .i64 s] 59)) hg3 (Nat.le_refl _) (fun j hj => (Ho.out.lt j hj).1)
              rw [← Hd.out] at own3
              have O3 := Lib.hid own3
              have B3 := Lib.hid b3
              clear own3 b3 hg3 own5
              go_wp2
              go_roundw
              case rel => exact ⟨k + 1 + 1, A3, c3, by omega, by go_num, by rw [Hs2.out], rfl, O3.out, H3'.out, by rw [Hs2.out]; exact t2, by rw [Hs2.out]; exact t3, B3.out⟩
              case measure => simp [intOf]; omega
          · have hf := HE.out wr (Hn2.out (by rw [Hsu.out]; omega)) Hb.out
            have HF := Lib.hid hf
            have t1 : 11 - s < x - 2 := by omega
            clear hf
            go_wp2_with fail
            refine (impl_isSize x true _ (decide_eq_true hx3)).mono ?_
            rintro e w2 ⟨rfl, rfl⟩
            go_wp2
            go_ret3
            exact HF.out
        · have hf := HE.out wr (Hn1.out (by omega)) Hb.out
          have HF := Lib.hid hf
          clear hf
          go_wp2_with fail
          refine (impl_isSize x false _ (decide_eq_false (by omega))).mono ?_
          rintro e w2 ⟨rfl, rfl⟩
          go_wp2
          go_ret3
          exact HF.out
      · obtain rfl : k = n := by omega
        have hc : okC S = true := okC_iff.2 ⟨by rw [Hn.out]; omega, by rw [Hn.out]; exact H3.out, by rw [Hn.out]; exact h11⟩
        have hf : RetND w (csN S) (csL S) (okC S) (.returned (.tuple #[.int .i64 (smS S k + 1), .slice A2 (k - 1) c2, .bool true])) wr := by
          have hdl : (dgC S S.length).length = k - 1 := by rw [dgC_length, Hn.out]
          have := csE_yes (A := A2) (c := c2) hc (by rw [hdl, Hn.out]; exact ho) hb
          rw [hdl, Hn.out] at this
          exact this
        have HF := Lib.hid hf
        clear hf ho hb hc
        generalize smS S k = s at *
        go_wp2
        go_ret3
        exact HF.out

theorem spec_l1All_n (A : Option Addr) (c B n : Nat) (l : List Int) (lo hi : Int) (w : World) (hn : l.length = n) (h : SlI w B A l) (hl : n ≤ 1000000000) :
    Calls Try.prog 60 #[.slice A n c, .int .i64 lo, .int .i64 hi] w fun e w' => e = .returned (.bool (l.all fun x => inB x lo hi)) ∧ w = w' := by
  subst hn
  exact spec_l1All A c B l lo hi w h hl
set_option maxRecDepth 100000 in
set_option maxHeartbeats 3200000 in
theorem spec_CutOfSizes (A : Option Addr) (c B : Nat) (S : List Int) (w : World) (h : SlI w B A S) (hB : B ≤ w.heap.size) (hl : S.length ≤ 1048576) :
    Calls Try.prog 21 #[.slice A S.length c] w (RetND w (csN S) (csL S) (okC S)) := by
  obtain ⟨n, hn⟩ : ∃ n, S.length = n := ⟨_, rfl⟩
  have Hn := Lib.hid hn
  have H := Lib.hid h
  have HE := Lib.hid fun w' (hc : okC S = false) (hb : Below w.heap.size w w') => csE_no hc hb
  have H1 := Lib.hid fun w => spec_l1In' (n : Int) 1 10 w
  have H2 := Lib.hid (spec_l1All_n A c B n S 3 12 w hn h (by omega))
  rw [hn] at hl ⊢
  clear h hn
  cases hi : inB (n : Int) 1 10
  · have hc : okC S = false := by
      cases hc : okC S
      · rfl
      · have := okC_bd hc
        rw [Hn.out] at this
        unfold inB at hi
        simp only [decide_eq_false_iff_not] at hi
        omega
    have HF := Lib.hid (HE.out w hc (Below.refl _ _))
    rw [hi] at H1
    clear hc hi
    go_enter Try.func21, Try.ntmps21
    go_wp2_with fail
    refine (H1.out _).mono ?_
    rintro e w2 ⟨rfl, rfl⟩
    go_wp2
    go_ret3
    exact HF.out
  · rw [hi] at H1
    have hn10 : 1 ≤ n ∧ n ≤ 10 := by
      unfold inB at hi
      simp only [decide_eq_true_eq] at hi
      omega
    obtain ⟨n1, n10⟩ := hn10
    cases ha : S.all fun x => inB x 3 12
    · have hc : okC S = false := by
        cases hc : okC S
        · rfl
        · have hb := okC_bd hc
          rw [List.all_eq_false] at ha
          obtain ⟨x, hx, hx2⟩ := ha
          obtain ⟨k, hk, rfl⟩ := List.getElem_of_mem hx
          have := hb.2.2 k hk
          have e : S.getD k 0 = S[k] := by simp [hk]
          rw [e] at this
          unfold inB at hx2
          simp at hx2
          omega
      have HF := Lib.hid (HE.out w hc (Below.refl _ _))
      rw [ha] at H2
      clear hc ha hi
      go_enter Try.func21, Try.ntmps21
      go_wp2_with fail
      refine (H1.out _).mono ?_
      rintro e w2 ⟨rfl, rfl⟩
      go_wp2_with fail
      refine H2.out.mono ?_
      rintro e w2 ⟨rfl, rfl⟩
      go_wp2
      go_ret3
      exact HF.out
    · have h3 : ∀ k, k < n → 3 ≤ S.getD k 0 ∧ S.getD k 0 ≤ 12 := fun k hk => by
        have hk' : k < S.length := by rw [Hn.out]; exact hk
        have := List.all_eq_true.1 ha S[k] (List.getElem_mem hk')
        unfold inB at this
        simp only [decide_eq_true_eq] at this
        have e : S.getD k 0 = S[k] := by simp [hk']
        rw [e]
        exact this
      have H3 := Lib.hid h3
      rw [ha] at H2
      clear h3 ha hi
      go_enter Try.func21, Try.ntmps21
      go_wp2_with fail
      refine (H1.out _).mono ?_
      rintro e w2 ⟨rfl, rfl⟩
      go_wp2_with fail
      refine H2.out.mono ?_
      rintro e w2 ⟨rfl, rfl⟩
      go_wp2
      go_loopw [5, 6, 7, 8, 20] (fun dv lv _ _ iv wr => ∃ (k q : Nat) (A2 : Option Addr) (c2 : Nat), k ≤ n ∧ q = min k (n - 1) ∧ iv = .int .i64 k ∧ lv = .int .i64 (smS S k) ∧ dv = .slice A2 q c2 ∧ wr.ownsRow w.heap.size 59 2 (.slice A2 q c2) q (dcs (dgC S (q + 1))) ∧ smS S k ≤ 1 + 10 * (k : Int) ∧ 1 ≤ smS S k ∧ Below w.heap.size w wr) (fun _ _ _ _ iv _ => n - (intOf iv).toNat)
      case atStart => exact ⟨0, 0, none, 0, Nat.zero_le _, by omega, rfl, by rw [smS_zero], rfl, World.ownsRow_nil _ _ _ _, by rw [smS_zero]; omega, by rw [smS_zero]; omega, Below.refl _ _⟩
      case round =>
        obtain ⟨k, q, A2, c2, hk, hq, rfl, rfl, rfl, ho, h11, h1, hb⟩ := hrel
        by_cases hlt : k < n
        · obtain rfl : q = k := by omega
          obtain ⟨b, off, rfl, hbB, hc⟩ := H.out.below (hb.mono hB) (by rw [Hn.out]; omega)
          have g0 := hc q (by rw [Hn.out]; exact hlt)
          have hkl : q < S.length := by rw [Hn.out]; exact hlt
          have hsu := smS_succ hkl
          have h3k := H3.out q hlt
          have i1 : (q : Int) < (n : Int) := by omega
          have Hb := Lib.hid hb
          have Ho := Lib.hid ho
          obtain ⟨x, hx⟩ : ∃ x, S.getD q 0 = x := ⟨_, rfl⟩
          rw [hx] at g0 hsu h3k
          have Hs2 := Lib.hid hsu
          clear hc hb ho hx hsu hq
          obtain ⟨s, hs⟩ : ∃ s, smS S q = s := ⟨_, rfl⟩
          rw [hs] at h11 h1 Hs2 ⊢
          have t2 : s + (x - 2) ≤ 1 + 10 * ((q : Int) + 1) := by omega
          have t3 : 1 ≤ s + (x - 2) := by omega
          have t4 : s ≤ 200 := by omega
          obtain ⟨_, _⟩ := h3k
          clear hs
          by_cases hq1 : q + 1 < n
          · have i2 : (q : Int) + 1 < (n : Int) := by omega
            have Hd : Hid (dgC S (q + 1 + 1) = dgC S (q + 1) ++ [((0 : Int), s + (x - 2))]) := Lib.hid (by rw [dgC_succ, Hs2.out])
            have Hdl : Hid ((dgC S (q + 1)).length = q) := Lib.hid (by rw [dgC_length]; rfl)
            have own5 := Ho.out.alloc (.cells #[.int .i64 0, .int .i64 (s + (x - 2))] 59)
            have z5 : w.heap.size ≤ (wr.alloc (.cells #[.int .i64 0, .int .i64 (s + (x - 2))] 59)).heap.size := Nat.le_trans Hb.out.size (by simp)
            have k9 : q ≤ 1000000 := by omega
            go_wp2_with (at_builtin; refine append1Dn _ rfl _ _ rfl w.heap.size (.slice A2 q c2) q (dgC S (q + 1)) Hdl.out rfl own5 wr.heap.size 0 (s + (x - 2)) rfl ?c1 ?c2 ?c3 z5 ?_; (case c1 => simp [go_sem]); (case c2 => simp [go_sem]); (case c3 => exact k9); intro A3 c3 w3 own3 hg3)
            have b3 := below_grown (Hb.out.alloc Hb.out.size (.cells #[.int .i64 0, .int .i64 (s + (x - 2))] 59)) hg3 (Nat.le_refl _) (fun j hj => (Ho.out.lt j hj).1)
            rw [← Hd.out] at own3
            have O3 := Lib.hid own3
            have B3 := Lib.hid b3
            clear own3 b3 hg3 own5
            go_wp2
            go_roundw
            case rel => exact ⟨q + 1, q + 1, A3, c3, by omega, by omega, by go_num, by rw [Hs2.out], rfl, O3.out, by rw [Hs2.out]; exact t2, by rw [Hs2.out]; exact t3, B3.out⟩
            case measure => simp [intOf]; omega
          · have i2 : ¬ (q : Int) + 1 < (n : Int) := by omega
            go_wp2
            go_roundw
            case rel => exact ⟨q + 1, q, A2, c2, by omega, by omega, by go_num, by rw [Hs2.out], rfl, Ho.out, by rw [Hs2.out]; exact t2, by rw [Hs2.out]; exact t3, Hb.out⟩
            case measure => simp [intOf]; omega
        · obtain rfl : k = n := by omega
          obtain rfl : q = k - 1 := by omega
          clear hq
          have hcc : okC S = true ↔ smS S k ≤ 11 := by
            rw [okC_iff, Hn.out]
            exact ⟨fun h => h.2.2, fun h => ⟨n1, fun j hj => (H3.out j hj).1, h⟩⟩
          by_cases hs : smS S k ≤ 11
          · have hc := hcc.2 hs
            have hf : RetND w (csN S) (csL S) (okC S) (.returned (.tuple #[.int .i64 (smS S k + 1), .slice A2 (k - 1) c2, .bool true])) wr := by
              have hdl : (dgC S S.length).length = k - 1 := by rw [dgC_length, Hn.out]
              have := csE_yes (A := A2) (c := c2) hc (by rw [hdl, Hn.out]; rw [show k - 1 + 1 = k by omega] at ho; exact ho) hb
              rw [hdl, Hn.out] at this
              exact this
            have HF := Lib.hid hf
            clear hf ho hb hc hcc
            generalize smS S k = s at *
            have t1 : ¬ 12 ≤ s := by omega
            go_wp2
            go_ret3
            exact HF.out
          · have hc : okC S = false := by
              cases hx : okC S
              · rfl
              · exact absurd (hcc.1 hx) hs
            have HF := Lib.hid (HE.out wr hc hb)
            clear ho hb hc hcc
            generalize smS S k = s at *
            have t1 : 12 ≤ s := by omega
            go_wp2
            go_ret3
            exact HF.out

theorem WCutOfSizes.walk (w : World) (A : Option Addr) (c : Nat) (l : List Int) (h : SlI w w.heap.size A l) (hj : l.length ≤ c ∧ c ≤ maxLen ∧ ∀ x ∈ l, (Lit.int .i64 x).wf = true) :
    Calls Try.prog 6 #[.slice A l.length c] w fun e w' => e = .returned (.bool true) ∧ Below w.heap.size w w' :=
  WCutOfSizes.core w A c l h hj.1 hj.2.1 (csN l) (csL l) (okC l) (csL_length l)
    (Lib.hid fun A c w h hl hlc => spec_CutOfSizes A c _ l w h (Nat.le_refl _) hl)
    (Lib.hid fun A c w h hl hlc => impl_CutOfSizes A c _ l w (fun x hx => (bounds_i64 (hj.2.2 x hx)).2) h (Nat.le_refl _) hl)
end Go.Proofs.Ytlnnnjnboknoeab
