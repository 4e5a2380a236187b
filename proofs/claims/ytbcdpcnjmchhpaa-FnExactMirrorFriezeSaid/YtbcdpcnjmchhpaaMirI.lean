/- slices.Reverse of numbers; MirrorFrieze: the model's and the program's contract. -/
import Derived.Test.YtbcdpcnjmchhpaaRevM
import Derived.Test.YtbcdpcnjmchhpaaQofI
import Derived.Test.YtbcdpcnjmchhpaaFriezeOfW
import Derived.BigRegion
namespace Go.Proofs.Ytbcdpcnjmchhpaa
set_option linter.unusedVariables false
open Go.RowKit

/-- k numbers from either end exchanged -/
def swL (L : List Int) (k : Nat) : List Int := (List.range L.length).map fun p => if p < k ∨ L.length - k ≤ p then L.getD (L.length - 1 - p) 0 else L.getD p 0
theorem swL_length (L : List Int) (k : Nat) : (swL L k).length = L.length := by simp [swL]
theorem swL_at {L : List Int} {k p : Nat} (hp : p < L.length) : (swL L k).getD p 0 = if p < k ∨ L.length - k ≤ p then L.getD (L.length - 1 - p) 0 else L.getD p 0 := by simp [swL, hp]
theorem swL_zero (L : List Int) : swL L 0 = L := by
  refine ext_getD (swL_length L 0) fun j hj => ?_
  rw [swL_length] at hj
  rw [swL_at hj, if_neg (by omega)]
theorem swL_all {L : List Int} {k m : Nat} (h : k + m + 1 = L.length) (hm : m ≤ k) : swL L k = L.reverse := by
  refine ext_getD (by rw [swL_length, List.length_reverse]) fun j hj => ?_
  rw [swL_length] at hj
  rw [swL_at hj, rev_getD L j hj]
  split
  · rfl
  · congr 1; omega
theorem swL_step {L : List Int} {k m : Nat} (h : k + m + 1 = L.length) (hm : k < m) : ((swL L k).set k (L.getD m 0)).set m (L.getD k 0) = swL L (k + 1) := by
  refine ext_getD (by simp [swL_length]) fun j hj => ?_
  have hj' : j < L.length := by simpa [swL_length] using hj
  rw [getD_set _ _ _ _ (by simp [swL_length]; exact hj'), getD_set _ _ _ _ (by rw [swL_length]; exact hj'), swL_at hj', swL_at hj']
  by_cases h1 : m = j
  · subst h1
    rw [if_pos rfl, if_pos (by omega)]
    congr 1; omega
  · rw [if_neg h1]
    by_cases h2 : k = j
    · subst h2
      rw [if_pos rfl, if_pos (by omega)]
      congr 1; omega
    · rw [if_neg h2]
      by_cases h3 : j < k ∨ L.length - k ≤ j
      · rw [if_pos h3, if_pos (by omega)]
      · rw [if_neg h3, if_neg (by omega)]

theorem stored1m {w : World} {base e g n cap : Nat} {L : List Int} (h : w.ownsRow base e 1 (.slice (some ⟨g, 0, none⟩) n cap) n (ics L)) (k : Nat) (v : Int) :
    (w.setCell ⟨g, k, none⟩ (.int .i64 v)).ownsRow base e 1 (.slice (some ⟨g, 0, none⟩) n cap) n (ics (L.set k v)) ∧ w.grownBy (w.setCell ⟨g, k, none⟩ (.int .i64 v)) (some g) := by
  have := h.stored k (.int .i64 v)
  rwa [ics_set] at this
theorem cellIm {w : World} {base e g n cap : Nat} {L : List Int} (h : w.ownsRow base e 1 (.slice (some ⟨g, 0, none⟩) n cap) n (ics L)) (k : Nat) (hk : k < n) : w.cell? ⟨g, k, none⟩ = some (.int .i64 (L.getD k 0)) := by
  have hn : n = L.length := by have := h.1; rw [ics_length] at this; omega
  rw [h.cellAt k (by omega), ics_get _ _ (by omega)]

set_option maxRecDepth 100000 in
set_option maxHeartbeats 3200000 in
theorem slices_ReverseI (g cap n base : Nat) (L : List Int) (w : World) (hn : L.length = n) (h : w.ownsRow base 3 1 (.slice (some ⟨g, 0, none⟩) n cap) n (ics L)) (h1 : 1 ≤ n) (h12 : n ≤ 12) :
    Calls Try.prog 98 #[.slice (some ⟨g, 0, none⟩) n cap] w fun e w' => e = .returned (.tuple #[]) ∧ w'.ownsRow base 3 1 (.slice (some ⟨g, 0, none⟩) n cap) n (ics L.reverse) ∧ w.grownBy w' (some g) := by
  have Hn := Lib.hid hn
  have H := Lib.hid h
  clear hn h
  go_enter Try.func98, Try.ntmps98
  go_wp2
  go_loopw [2, 3] (fun i j wr => ∃ k m : Nat, k + m + 1 = n ∧ k ≤ m + 1 ∧ i = .int .i64 k ∧ j = .int .i64 m ∧ wr.ownsRow base 3 1 (.slice (some ⟨g, 0, none⟩) n cap) n (ics (swL L k)) ∧ w.grownBy wr (some g)) (fun _ j _ => (intOf j).toNat)
  case atStart => exact ⟨0, n - 1, by omega, by omega, rfl, by congr 1; omega, by rw [swL_zero]; exact H.out, World.grownBy.refl _ _⟩
  case round =>
    obtain ⟨k, m, hkm, hle, rfl, rfl, ho, hg⟩ := hrel
    by_cases hlt : k < m
    · have c0 := cellIm ho k (by omega)
      have c1 := cellIm ho m (by omega)
      rw [swL_at (by rw [Hn.out]; omega), if_neg (by rw [Hn.out]; omega)] at c0 c1
      have f0 := ho.frozenAt k
      have f1 := ho.frozenAt m
      have i0 : (0 : Int) ≤ (k : Int) := by omega
      have i1 : (k : Int) < (n : Int) := by omega
      have j0 : (0 : Int) ≤ (m : Int) := by omega
      have j1 : (m : Int) < (n : Int) := by omega
      have nkm : ¬k = m := by omega
      have nmk : ¬m = k := by omega
      have hlt' : (k : Int) < (m : Int) := by omega
      obtain ⟨o4, hg4⟩ := stored1m ho k (L.getD m 0)
      obtain ⟨o5, hg5⟩ := stored1m o4 m (L.getD k 0)
      rw [swL_step (by rw [Hn.out]; exact hkm) hlt] at o5
      have hg45 := hg.trans (hg4.trans hg5)
      have O5 := Lib.hid o5
      have G5 := Lib.hid hg45
      clear o4 o5 hg4 hg5 hg45 ho hg
      generalize L.getD m 0 = y at *
      generalize L.getD k 0 = x at *
      go_wp2_with fail
      go_big_region
      go_wp2
      go_roundw
      case rel => exact ⟨k + 1, m - 1, by omega, by omega, by go_num, by congr 1; omega, O5.out.drew, grown_kept G5.out (Below.refl _ _).drew⟩
      case measure => simp [intOf]; omega
    · have hE := swL_all (L := L) (k := k) (m := m) (by rw [Hn.out]; exact hkm) (by omega)
      rw [hE] at ho
      have hlt' : ¬(k : Int) < (m : Int) := by omega
      have O5 := Lib.hid ho
      have G5 := Lib.hid hg
      clear ho hg hE
      go_wp2
      go_end0
      exact ⟨rfl, O5.out, G5.out⟩

theorem okF_mir (Ls : List (List Int)) : okF (friQ Ls).reverse = friB Ls := by
  cases h : friB Ls
  · rw [friQ_no h, Bool.eq_false_iff]
    intro e
    have := (okF_iff.1 e).2
    simp at this
  · rw [friQ_yes h]
    unfold friB at h
    simp only [Bool.and_eq_true, decide_eq_true_eq] at h
    obtain ⟨⟨⟨h1, h2, h3, h4⟩, h5⟩, _⟩ := h
    refine okF_iff.2 ⟨isQ_rev h5, ?_⟩
    rw [List.length_reverse, rotR_length (by omega)]
    exact h2
/-- a list's last t numbers, the last first -/
def revK (q : List Int) (t : Nat) : List Int := q.reverse.take t
theorem revK_length {q : List Int} {t : Nat} (h : t ≤ q.length) : (revK q t).length = t := by unfold revK; rw [List.length_take, List.length_reverse]; omega
theorem revK_succ {q : List Int} {s t : Nat} (h : s + 1 + t = q.length) : revK q (t + 1) = revK q t ++ [q.getD s 0] := by
  unfold revK
  rw [List.take_succ_eq_append_getElem (by rw [List.length_reverse]; omega)]
  congr 2
  rw [List.getElem_reverse]
  have e : q.length - 1 - t = s := by omega
  have hs : s < q.length := by omega
  simp [e, hs]
theorem revK_all (q : List Int) : revK q q.length = q.reverse := by unfold revK; rw [← List.length_reverse, List.take_length]

set_option maxRecDepth 100000 in
set_option maxHeartbeats 3200000 in
theorem spec_MirrorFrieze (A : Option Addr) (c B N : Nat) (Ls : List (List Int)) (w : World) (hN : Ls.length = N) (h : SlSS w B A Ls) (hcap : CapSS w A N) (hB : B ≤ w.heap.size) (hl : N ≤ 1048576) (hr : ∀ j, j < Ls.length → (rowOf Ls j).length ≤ 1048576) :
    Calls Try.prog 55 #[.slice A N c] w (RetSS w (frL (friQ Ls).reverse) (okF (friQ Ls).reverse)) := by
  have HC := Lib.hid (spec_frRead A c B N Ls w hN h hcap hB hl hr)
  have Hok := Lib.hid (okF_mir Ls)
  have Hq12 := Lib.hid (friQ_length Ls)
  clear h hr hcap
  go_enter Try.func55, Try.ntmps55
  go_wp2_with fail
  refine HC.out.mono ?_
  rintro e w1 ⟨A1, c1, rfl, ho, hb⟩
  clear HC
  cases hf : friB Ls
  · have HE := Lib.hid (retF_no (w := w) (q := (friQ Ls).reverse) (by rw [Hok.out, hf]) hb)
    clear ho hb
    go_wp2
    go_ret2
    exact HE.out
  · have hok := Hok.out
    rw [hf] at hok
    have Hok1 := Lib.hid hok
    have h4 := (okF_iff.1 hok).2
    rw [List.length_reverse] at h4
    obtain ⟨q, hq⟩ : ∃ q, friQ Ls = q := ⟨_, rfl⟩
    obtain ⟨n, hn⟩ : ∃ n, q.length = n := ⟨_, rfl⟩
    rw [hq, hn] at h4
    have h12 := Hq12.out
    rw [hq] at ho Hok1 Hq12 h12 ⊢
    rw [hn] at ho h12 ⊢
    have Hn := Lib.hid hn
    have Ho := Lib.hid ho
    have Hb := Lib.hid hb
    have Hq := Lib.hid hq
    clear hok hq hn ho hb hf Hok
    go_wp2
    go_loopw [6, 7] (fun v i wr => ∃ (s t : Nat) (A' : Option Addr) (c' : Nat) (z : Int), s + t = n ∧ z = (s : Int) - 1 ∧ i = .int .i64 z ∧ v = .slice A' t c' ∧ wr.ownsRow w1.heap.size 3 1 (.slice A' t c') t (ics (revK q t)) ∧ Below w1.heap.size w1 wr) (fun _ i _ => (intOf i + 1).toNat)
    case atStart => exact ⟨n, 0, none, 0, _, by omega, rfl, by congr 1, rfl, World.ownsRow_nil _ _ _ _, Below.refl _ _⟩
    case round =>
      obtain ⟨s, t, A', c', z, hst, hi, rfl, rfl, hoo, hbb⟩ := hrel
      have Hob := Lib.hid hoo.lt
      have hsz := hbb.size
      have Hbb := Lib.hid hbb
      have Hoo := Lib.hid hoo
      clear hoo hbb
      by_cases hs0 : s = 0
      · subst hs0
        obtain rfl : z = -1 := by omega
        obtain rfl : t = n := by omega
        have e := revK_all q
        rw [Hn.out] at e
        rw [e] at Hoo
        have hrl : q.reverse.length = t := by rw [List.length_reverse, Hn.out]
        obtain ⟨m, hm⟩ : ∃ m, q.reverse.length - 3 = m := ⟨_, rfl⟩
        have hF := spec_frOf A' c' wr.heap.size m q.reverse wr hm (SlI.of_own Hoo.out) (Nat.le_refl _) (by rw [hrl]; exact h4) (by rw [hrl]; exact h12)
        rw [hrl] at hF
        have HF := Lib.hid hF
        have Hm := Lib.hid hm
        clear hi e hrl hF hm
        go_wp2_with fail
        refine HF.out.mono ?_
        rintro e w3 ⟨A3, c3, rs3, rfl, o3, b3⟩
        have hd1 := below_kept Hb.out (Nat.le_refl _) (below_kept Hbb.out (Nat.le_refl _) b3)
        have hbs := Hb.out.size
        have hE := retF_yes Hok1.out Hm.out (o3.mono (Nat.le_trans hbs hsz)) hd1
        have hE2 : RetSS w (frL (friQ Ls).reverse) (okF (friQ Ls).reverse) (.returned (.tuple #[.slice A3 m c3, .bool true])) w3 := by rw [Hq.out]; exact hE
        have HE := Lib.hid hE2
        clear o3 b3 hd1 HF hE hE2
        go_wp2
        go_ret2
        exact HE.out
      · obtain ⟨s, rfl⟩ : ∃ z, s = z + 1 := ⟨s - 1, by omega⟩
        obtain rfl : z = (s : Int) := by omega
        obtain ⟨b1, off1, eA1, hb1, hc1⟩ := ((SlI.of_own Ho.out).below Hbb.out) (by rw [Hn.out]; omega)
        subst eA1
        have y0 := hc1 s (by rw [Hn.out]; omega)
        have hnx := revK_succ (q := q) (s := s) (t := t) (by rw [Hn.out]; omega)
        have HLl := Lib.hid (revK_length (q := q) (t := t) (by rw [Hn.out]; omega))
        have Hnx := Lib.hid hnx
        generalize q.getD s 0 = x at *
        generalize revK q t = L at *
        have s0 : (0 : Int) ≤ (s : Int) := by omega
        have s1 : (s : Int) < (n : Int) := by omega
        have t12 : t ≤ 12 := by omega
        have own2 := Hoo.out.alloc (.cells #[.int .i64 x] 3)
        have hb2 := Hbb.out.alloc hsz (.cells #[.int .i64 x] 3)
        have Hb2 := Lib.hid hb2
        clear hb2 hc1 hnx hi
        go_wp2_with (at_builtin; refine append1In _ rfl _ _ rfl w1.heap.size (.slice A' t c') t L HLl.out rfl own2 wr.heap.size x rfl ?c1 ?c2 Hb2.out.size ?_; (case c1 => simp [go_sem]); (case c2 => omega); intro A3 c3 w3 own3 hg3)
        have hb3 := below_grown Hb2.out hg3 (Nat.le_refl _) (fun j hj => (Hob.out j hj).1)
        rw [← Hnx.out] at own3
        clear hg3 own2
        go_wp2
        go_roundw
        case rel => exact ⟨s, t + 1, A3, c3, _, by omega, rfl, by go_num, rfl, own3, hb3⟩
        case measure => simp [intOf]

set_option maxRecDepth 100000 in
set_option maxHeartbeats 3200000 in
theorem impl_MirrorFrieze (A : Option Addr) (c B N : Nat) (Ls : List (List Int)) (w : World) (hN : Ls.length = N) (h : SlSS w B A Ls) (hB : B ≤ w.heap.size) (hl : N ≤ 1048576) (hr : ∀ j, j < Ls.length → (rowOf Ls j).length ≤ 1048576) :
    Calls Try.prog 56 #[.slice A N c] w (RetSS w (frL (friQ Ls).reverse) (okF (friQ Ls).reverse)) := by
  have HC := Lib.hid (impl_QuiddityOfFrieze A c B N Ls w hN h hB hl hr)
  have Hok := Lib.hid (okF_mir Ls)
  have Hq12 := Lib.hid (friQ_length Ls)
  clear h hr
  go_enter Try.func56, Try.ntmps56
  go_wp2_with fail
  refine HC.out.mono ?_
  rintro e w1 ⟨A1, c1, rfl, ho, hb⟩
  clear HC
  cases hf : friB Ls
  · have HE := Lib.hid (retF_no (w := w) (q := (friQ Ls).reverse) (by rw [Hok.out, hf]) hb)
    clear ho hb
    go_wp2
    go_ret2
    exact HE.out
  · have hok := Hok.out
    rw [hf] at hok
    have h4 := (okF_iff.1 hok).2
    rw [List.length_reverse] at h4
    obtain ⟨q, hq⟩ : ∃ q, friQ Ls = q := ⟨_, rfl⟩
    obtain ⟨n, hn⟩ : ∃ n, q.length = n := ⟨_, rfl⟩
    rw [hq, hn] at h4
    have h12 := Hq12.out
    rw [hq] at ho h12 ⊢
    rw [hn] at ho h12 ⊢
    obtain ⟨g1, cap1, hv1, hg1, hgs⟩ := ho.form (by omega)
    cases hv1
    have hrl : q.reverse.length = n := by rw [List.length_reverse, hn]
    have HR := Lib.hid (slices_ReverseI g1 c1 n w.heap.size q w1 hn ho (by omega) h12)
    have Hb := Lib.hid hb
    have Hrl := Lib.hid hrl
    have hcap := own_capI ho
    have Hq := Lib.hid hq
    clear hok hq hn ho hb hf Hok hrl
    go_wp2_with fail
    refine HR.out.mono ?_
    rintro e w2 ⟨rfl, ho2, hgr⟩
    have hd2 := below_grown Hb.out hgr (Nat.le_refl _) (fun k hk => by injection hk with hk; omega)
    have hF := impl_FriezeOf (some ⟨g1, 0, none⟩) c1 w2.heap.size q.reverse w2 (SlI.of_own ho2) (Nat.le_refl _) (by rw [Hrl.out]; omega) (by rw [Hrl.out]; exact hcap)
    rw [Hrl.out] at hF
    have HF := Lib.hid hF
    have Hd2 := Lib.hid hd2
    clear ho2 hgr hd2 hF HR
    go_wp2_with fail
    refine HF.out.mono ?_
    rintro e w3 ⟨A3, c3, rs3, rfl, o3, b3⟩
    have hres : RetSS w (frL q.reverse) (okF q.reverse) (.returned (.tuple #[.slice A3 (frL q.reverse).length c3, .bool (okF q.reverse)])) w3 := ⟨A3, c3, rs3, rfl, o3.mono Hd2.out.size, below_kept Hd2.out (Nat.le_refl _) b3⟩
    have hE : RetSS w (frL (friQ Ls).reverse) (okF (friQ Ls).reverse) (.returned (.tuple #[.slice A3 (frL q.reverse).length c3, .bool (okF q.reverse)])) w3 := by rw [Hq.out]; exact hres
    have HE := Lib.hid hE
    clear hE
    clear o3 b3 hres HF
    go_wp2
    go_ret2
    exact HE.out
end Go.Proofs.Ytbcdpcnjmchhpaa
