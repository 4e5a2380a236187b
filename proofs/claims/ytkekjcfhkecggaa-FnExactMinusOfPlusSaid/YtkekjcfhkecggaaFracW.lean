/- FractionOfMinus, FractionOfPlus: the model's and the program's contracts, and the laws' walks. -/
import Derived.Test.YtkekjcfhkecggaaFracS
import Derived.Test.YtkekjcfhkecggaaFractionOfMinusC
import Derived.Test.YtkekjcfhkecggaaFractionOfPlusC
namespace Go.Proofs.Ytkekjcfhkecggaa
set_option linter.unusedVariables false
open Go.RowKit

def fmR (l : List Int) : Int × Int × Bool := if good l = true ∧ 0 < l.length then frR (-1) l else (0, 0, false)
theorem fmR_no {l : List Int} (h : ¬ (good l = true ∧ 0 < l.length)) : fmR l = (0, 0, false) := if_neg h
theorem fmR_yes {l : List Int} (h1 : good l = true) (h2 : 0 < l.length) : fmR l = frR (-1) l := if_pos ⟨h1, h2⟩
def fpR (l : List Int) : Int × Int × Bool := if posB l = true then frR 1 l else (0, 0, false)
theorem fpR_no {l : List Int} (h : posB l = false) : fpR l = (0, 0, false) := if_neg (by rw [h]; simp)
theorem fpR_yes {l : List Int} (h1 : posB l = true) : fpR l = frR 1 l := if_pos h1

theorem spec_FractionOfMinus (A : Option Addr) (c B : Nat) (l : List Int) (w : World) (h : SlI w B A l) (hl : l.length ≤ 1048576) :
    Calls Try.prog 25 #[.slice A l.length c] w (FrEnd (fmR l) w) := by
  go_enter Try.func25, Try.ntmps25
  go_wp2_with fail
  refine (spec_ctGood A _ c B l _ rfl h hl).mono ?_
  rintro e w1 ⟨rfl, rfl⟩
  cases hg : good l
  · have Hres := Lib.hid (frEnd_mk (w := w) (w' := w) (fmR_no (l := l) (by rw [hg]; simp)) (Below.refl _ _))
    clear h
    go_wp2
    exact bodyPost_ret (v := .tuple #[.int .i64 0, .int .i64 0, .bool false]) (by simp [results, Try.results25, go_sem]) rfl Hres.out
  · have Hg := Lib.hid hg
    by_cases h0 : 0 < l.length
    · have n0 : (1 : Int) ≤ (l.length : Int) := by omega
      have n1 : ((l.length : Int) == 0) = false := by rw [beq_eq_false_iff_ne]; omega
      have Hy := Lib.hid (fmR_yes hg h0)
      clear hg
      obtain ⟨r1, r2, r3, hr⟩ : ∃ r1 r2 r3, frR (-1) l = (r1, r2, r3) := ⟨_, _, _, rfl⟩
      have hcall := spec_ctFraction A _ c B l (-1) w rfl (.inr rfl) h (good_small Hg.out) h0 (good_iff.1 Hg.out).1
      rw [hr] at hcall
      have Hcall := Lib.hid hcall
      have hy := Hy.out
      rw [hr] at hy
      have Hy2 := Lib.hid hy
      clear hcall hy hr Hy
      go_wp2_with fail
      refine Hcall.out.mono ?_
      rintro e w1 ⟨rfl, hb⟩
      have Hres := Lib.hid (frEnd_mk (w := w) Hy2.out hb)
      clear h hb
      go_wp2
      exact bodyPost_ret (v := .tuple #[.int .i64 r1, .int .i64 r2, .bool r3]) (by simp [results, Try.results25, go_sem]) rfl Hres.out
    · have Hres := Lib.hid (frEnd_mk (w := w) (w' := w) (fmR_no (l := l) (fun e => h0 e.2)) (Below.refl _ _))
      obtain rfl : l = [] := List.eq_nil_of_length_eq_zero (by omega)
      clear h hg
      go_wp2
      exact bodyPost_ret (v := .tuple #[.int .i64 0, .int .i64 0, .bool false]) (by simp [results, Try.results25, go_sem]) rfl Hres.out

theorem spec_ctPositive (A : Option Addr) (c B : Nat) (l : List Int) (w : World) (h : SlI w B A l) (hl : l.length ≤ 1048576) :
    Calls Try.prog 58 #[.slice A l.length c] w fun e w' => e = .returned (.bool (posB l)) ∧ w = w' := by
  have hp : posB l = (good l && decide (0 < l.length) && allB l 1 30) := rfl
  have Hp := Lib.hid hp
  clear hp
  go_enter Try.func58, Try.ntmps58
  go_wp2_with fail
  refine (spec_ctGood A _ c B l _ rfl h hl).mono ?_
  rintro e w1 ⟨rfl, rfl⟩
  cases hg : good l
  · have Hg := Lib.hid hg
    clear h hg
    go_wp2
    go_ret
    exact ⟨ret_bool (by rw [Hp.out, Hg.out]; rfl), rfl⟩
  · have Hg := Lib.hid hg
    by_cases h0 : 0 < l.length
    · have n0 : (0 : Int) < (l.length : Int) := by omega
      have H0 := Lib.hid (decide_eq_true h0)
      clear hg
      go_wp2_with fail
      refine (spec_l1All A c B l 1 30 _ h (by omega)).mono ?_
      rintro e w1 ⟨rfl, rfl⟩
      clear h
      go_wp2
      go_ret
      exact ⟨ret_bool (by rw [Hp.out, Hg.out, H0.out]; rfl), rfl⟩
    · have H0 := Lib.hid (decide_eq_false h0)
      obtain rfl : l = [] := List.eq_nil_of_length_eq_zero (by omega)
      clear h hg
      go_wp2
      go_ret
      exact ⟨ret_bool (by rw [Hp.out, Hg.out, H0.out]; rfl), rfl⟩

theorem impl_arePlusTerms (A : Option Addr) (c B : Nat) (l : List Int) (w : World) (h : SlI w B A l) (hl : l.length ≤ 1048576) :
    Calls Try.prog 59 #[.slice A l.length c] w fun e w' => e = .returned (.bool (posB l)) ∧ w = w' := by
  have hp : posB l = (good l && decide (0 < l.length) && allB l 1 30) := rfl
  have Hp := Lib.hid hp
  clear hp
  by_cases h0 : 0 < l.length
  · have n0 : (0 : Int) < (l.length : Int) := by omega
    have H0 := Lib.hid (decide_eq_true h0)
    go_enter Try.func59, Try.ntmps59
    go_wp2_with fail
    refine (impl_IsTermList A _ c B l _ rfl h hl).mono ?_
    rintro e w1 ⟨rfl, rfl⟩
    cases hg : good l
    · have Hg := Lib.hid hg
      clear h hg
      go_wp2
      go_ret
      exact ⟨ret_bool (by rw [Hp.out, Hg.out]; rfl), rfl⟩
    · have Hg := Lib.hid hg
      have Hm := Lib.hid (posB_min hg h0)
      clear hg
      go_wp2_with fail
      refine (slices_Min A _ c B l _ rfl h0 (by have := (good_iff.1 Hg.out).1; omega) h).mono ?_
      rintro e w1 ⟨rfl, rfl⟩
      generalize minF l (l.length - 1) = m at *
      clear h
      go_wp2
      go_ret
      exact ⟨ret_bool (by rw [Hp.out, Hg.out, H0.out, ← Hm.out]; rfl), rfl⟩
  · have H0 := Lib.hid (decide_eq_false h0)
    obtain rfl : l = [] := List.eq_nil_of_length_eq_zero (by omega)
    clear h
    go_enter Try.func59, Try.ntmps59
    go_wp2
    go_ret
    exact ⟨ret_bool (by rw [Hp.out, H0.out]; simp), rfl⟩

theorem spec_FractionOfPlus (A : Option Addr) (c B : Nat) (l : List Int) (w : World) (h : SlI w B A l) (hl : l.length ≤ 1048576) :
    Calls Try.prog 31 #[.slice A l.length c] w (FrEnd (fpR l) w) := by
  go_enter Try.func31, Try.ntmps31
  go_wp2_with fail
  refine (spec_ctPositive A c B l _ h hl).mono ?_
  rintro e w1 ⟨rfl, rfl⟩
  cases hg : posB l
  · have Hres := Lib.hid (frEnd_mk (w := w) (w' := w) (fpR_no hg) (Below.refl _ _))
    clear h
    go_wp2
    exact bodyPost_ret (v := .tuple #[.int .i64 0, .int .i64 0, .bool false]) (by simp [results, Try.results31, go_sem]) rfl Hres.out
  · have Hg := Lib.hid hg
    have Hy := Lib.hid (fpR_yes hg)
    clear hg
    obtain ⟨r1, r2, r3, hr⟩ : ∃ r1 r2 r3, frR 1 l = (r1, r2, r3) := ⟨_, _, _, rfl⟩
    have hcall := spec_ctFraction A _ c B l 1 w rfl (.inl rfl) h (good_small (posB_iff.1 Hg.out).1) (posB_iff.1 Hg.out).2.1 (good_iff.1 (posB_iff.1 Hg.out).1).1
    rw [hr] at hcall
    have Hcall := Lib.hid hcall
    have hy := Hy.out
    rw [hr] at hy
    have Hy2 := Lib.hid hy
    clear hcall hy hr Hy
    go_wp2_with fail
    refine Hcall.out.mono ?_
    rintro e w1 ⟨rfl, hb⟩
    have Hres := Lib.hid (frEnd_mk (w := w) Hy2.out hb)
    clear h hb
    go_wp2
    exact bodyPost_ret (v := .tuple #[.int .i64 r1, .int .i64 r2, .bool r3]) (by simp [results, Try.results31, go_sem]) rfl Hres.out

/-- the rest behind the first term, as the program cuts it -/
theorem tail_sl {w : World} {B b off c : Nat} {l : List Int} (h : SlI w B (some ⟨b, off, none⟩) l) (hlc : l.length ≤ c) (h1 : ¬ c = 1) : SlI w B (some ⟨b, off + 1, none⟩) (l.drop 1) := by
  have := SlI.cutIf (a0 := ⟨0, 0, none⟩) h 1 hlc
  rwa [if_neg h1] at this

set_option maxHeartbeats 800000 in
theorem impl_FractionOfPlus (A : Option Addr) (c B : Nat) (l : List Int) (w : World) (h : SlI w B A l) (hl : l.length ≤ 1048576) (hlc : l.length ≤ c) :
    Calls Try.prog 32 #[.slice A l.length c] w (FrEnd (fpR l) w) := by
  go_enter Try.func32, Try.ntmps32
  go_wp2_with fail
  refine (impl_arePlusTerms A c B l _ h hl).mono ?_
  rintro e w1 ⟨rfl, rfl⟩
  cases hg : posB l
  · have Hres := Lib.hid (frEnd_mk (w := w) (w' := w) (fpR_no hg) (Below.refl _ _))
    clear h
    go_wp2
    exact bodyPost_ret (v := .tuple #[.int .i64 0, .int .i64 0, .bool false]) (by simp [results, Try.results32, go_sem]) rfl Hres.out
  · obtain ⟨hgd, h0, hall⟩ := posB_iff.1 hg
    have hres := (fpR_yes hg).trans (frR_plus l h0 (posB_pos hg))
    have Hres := Lib.hid fun z => frEnd_mk (w := w) hres (below_drewN (Below.refl w.heap.size w) z)
    obtain ⟨b, off, rfl, hb, hc⟩ := h h0
    have h10 := (good_iff.1 hgd).1
    have hsm := good_small hgd
    have C1 : Hid (∀ w, SlI w B (some ⟨b, off, none⟩) l → Calls Try.prog 48 #[.slice (some ⟨b, off, none⟩) l.length c] w fun e w' => e = .returned (.int .i64 (ctv 1 l)) ∧ ∃ k, w' = w.drewN k) := Lib.hid fun w hw =>
      impl_plusContinuant _ _ _ B l w rfl h10 hlc hw hsm
    have H := Lib.hid h
    by_cases hc1 : c = 1
    · subst hc1
      have hl1 : l.length = 1 := by omega
      have C2 : Hid (∀ w, Calls Try.prog 48 #[.slice (some ⟨b, off, none⟩) 0 0] w fun e w' => e = .returned (.int .i64 (ctv 1 (l.drop 1))) ∧ ∃ k, w' = w.drewN k) := Lib.hid fun w =>
        impl_plusContinuant _ _ _ B (l.drop 1) w (by simp; omega) (by omega) (Nat.le_refl _) (by rw [List.drop_of_length_le (by omega)]; exact SlI.nil_) (hsm.drop 1)
      rw [hl1] at C1 ⊢
      generalize ctv 1 l = v1 at *
      generalize ctv 1 (l.drop 1) = v2 at *
      clear hres hg hgd hall hc h hsm hl1
      go_wp2
      go_quiet (first
        | (go_at_call 48; with_reducible exact Calls.quiet_of (C1.out _ (H.out.drewN _)))
        | (go_at_call 48; with_reducible exact Calls.quiet_of (C2.out _)))
      go_wp2
      exact bodyPost_ret (v := .tuple #[.int .i64 v1, .int .i64 v2, .bool true]) (by simp [results, Try.results32, go_sem]) rfl (Hres.out _)
    · have C2 : Hid (∀ w, SlI w B (some ⟨b, off, none⟩) l → Calls Try.prog 48 #[.slice (some ⟨b, off + 1, none⟩) (l.length - 1) (c - 1)] w fun e w' => e = .returned (.int .i64 (ctv 1 (l.drop 1))) ∧ ∃ k, w' = w.drewN k) := Lib.hid fun w hw =>
        impl_plusContinuant _ _ _ B (l.drop 1) w (by simp) (by omega) (by omega) (tail_sl hw hlc hc1) (hsm.drop 1)
      have n1 : (1 : Int) ≤ (l.length : Int) := by omega
      have n2 : (l.length : Int) ≤ (c : Int) := by omega
      generalize ctv 1 l = v1 at *
      generalize ctv 1 (l.drop 1) = v2 at *
      clear hres hg hgd hall hc h hsm
      go_wp2
      go_quiet (first
        | (go_at_call 48; with_reducible exact Calls.quiet_of (C1.out _ (H.out.drewN _)))
        | (go_at_call 48; with_reducible exact Calls.quiet_of (C2.out _ (H.out.drewN _))))
      go_wp2
      exact bodyPost_ret (v := .tuple #[.int .i64 v1, .int .i64 v2, .bool true]) (by simp [results, Try.results32, go_sem]) rfl (Hres.out _)

set_option maxHeartbeats 1600000 in
theorem impl_FractionOfMinus (A : Option Addr) (c B : Nat) (l : List Int) (w : World) (h : SlI w B A l) (hB : B ≤ w.heap.size) (hl : l.length ≤ 1048576) (hlc : l.length ≤ c) :
    Calls Try.prog 26 #[.slice A l.length c] w (FrEnd (fmR l) w) := by
  by_cases h0 : 0 < l.length
  · have n0 : (1 : Int) ≤ (l.length : Int) := by omega
    have n1 : ((l.length : Int) == 0) = false := by rw [beq_eq_false_iff_ne]; omega
    go_enter Try.func26, Try.ntmps26
    go_wp2_with fail
    refine (impl_IsTermList A _ c B l _ rfl h hl).mono ?_
    rintro e w1 ⟨rfl, rfl⟩
    cases hg : good l
    · have Hres := Lib.hid (frEnd_mk (w := w) (w' := w) (fmR_no (l := l) (by rw [hg]; simp)) (Below.refl _ _))
      clear h
      go_wp2
      exact bodyPost_ret (v := .tuple #[.int .i64 0, .int .i64 0, .bool false]) (by simp [results, Try.results26, go_sem]) rfl Hres.out
    · have h10 := (good_iff.1 hg).1
      have hsm := good_small hg
      have Hsm := Lib.hid hsm
      have Hy := Lib.hid ((fmR_yes hg h0).trans (frR_minus l h0))
      clear hg hsm
      go_wp2_with fail
      refine (impl_dividesByZero A _ c B l _ rfl h0 h10 hlc hB h Hsm.out).mono ?_
      rintro e w1 ⟨rfl, hb1⟩
      cases hz : divZ l
      · have hres := Hy.out
        rw [hz, if_neg (by simp)] at hres
        have hres2 := fun z => frEnd_mk (w := w) hres (below_drewN hb1 z)
        have hs1 := h.below (hb1.mono hB)
        obtain ⟨b, off, rfl, hb, hc⟩ := h h0
        have bd1 := ctv_bd (.inr rfl) l Hsm.out h10
        have bd2 := ctv_bd (.inr rfl) (l.drop 1) (Hsm.out.drop 1) (by simp; omega)
        have C1 : Hid (∀ w, SlI w B (some ⟨b, off, none⟩) l → Calls Try.prog 47 #[.slice (some ⟨b, off, none⟩) l.length c] w fun e w' => e = .returned (.int .i64 (ctv (-1) l)) ∧ ∃ k, w' = w.drewN k) := Lib.hid fun w hw =>
          impl_continuant _ _ _ B l w rfl h10 hlc hw Hsm.out
        have H := Lib.hid hs1
        unfold sgn at hres2
        by_cases hc1 : c = 1
        · subst hc1
          have hl1 : l.length = 1 := by omega
          have C2 : Hid (∀ w, Calls Try.prog 47 #[.slice (some ⟨b, off, none⟩) 0 0] w fun e w' => e = .returned (.int .i64 (ctv (-1) (l.drop 1))) ∧ ∃ k, w' = w.drewN k) := Lib.hid fun w =>
            impl_continuant _ _ _ B (l.drop 1) w (by simp; omega) (by omega) (Nat.le_refl _) (by rw [List.drop_of_length_le (by omega)]; exact SlI.nil_) (Hsm.out.drop 1)
          rw [hl1] at C1 ⊢
          generalize ctv (-1) l = v1 at *
          generalize ctv (-1) (l.drop 1) = v2 at *
          obtain ⟨p1, p2⟩ := bd1
          obtain ⟨q1, q2⟩ := bd2
          clear hres hc h hl1 Hy hs1 hb1 hz
          by_cases hneg : v2 < 0
          · simp only [if_pos hneg] at hres2
            have Hres := Lib.hid hres2
            clear hres2
            go_wp2
            go_quiet (first
              | (go_at_call 47; with_reducible exact Calls.quiet_of (C1.out _ (H.out.drewN _)))
              | (go_at_call 47; with_reducible exact Calls.quiet_of (C2.out _)))
            go_wp2
            exact bodyPost_ret (v := .tuple #[.int .i64 (-v1), .int .i64 (-v2), .bool true]) (by simp [results, Try.results26, go_sem]) rfl (Hres.out _)
          · simp only [if_neg hneg] at hres2
            have Hres := Lib.hid hres2
            clear hres2
            go_wp2
            go_quiet (first
              | (go_at_call 47; with_reducible exact Calls.quiet_of (C1.out _ (H.out.drewN _)))
              | (go_at_call 47; with_reducible exact Calls.quiet_of (C2.out _)))
            go_wp2
            exact bodyPost_ret (v := .tuple #[.int .i64 v1, .int .i64 v2, .bool true]) (by simp [results, Try.results26, go_sem]) rfl (Hres.out _)
        · have C2 : Hid (∀ w, SlI w B (some ⟨b, off, none⟩) l → Calls Try.prog 47 #[.slice (some ⟨b, off + 1, none⟩) (l.length - 1) (c - 1)] w fun e w' => e = .returned (.int .i64 (ctv (-1) (l.drop 1))) ∧ ∃ k, w' = w.drewN k) := Lib.hid fun w hw =>
            impl_continuant _ _ _ B (l.drop 1) w (by simp) (by omega) (by omega) (tail_sl hw hlc hc1) (Hsm.out.drop 1)
          have n2 : (l.length : Int) ≤ (c : Int) := by omega
          generalize ctv (-1) l = v1 at *
          generalize ctv (-1) (l.drop 1) = v2 at *
          obtain ⟨p1, p2⟩ := bd1
          obtain ⟨q1, q2⟩ := bd2
          clear hres hc h Hy hs1 hb1 hz
          by_cases hneg : v2 < 0
          · simp only [if_pos hneg] at hres2
            have Hres := Lib.hid hres2
            clear hres2
            go_wp2
            go_quiet (first
              | (go_at_call 47; with_reducible exact Calls.quiet_of (C1.out _ (H.out.drewN _)))
              | (go_at_call 47; with_reducible exact Calls.quiet_of (C2.out _ (H.out.drewN _))))
            go_wp2
            exact bodyPost_ret (v := .tuple #[.int .i64 (-v1), .int .i64 (-v2), .bool true]) (by simp [results, Try.results26, go_sem]) rfl (Hres.out _)
          · simp only [if_neg hneg] at hres2
            have Hres := Lib.hid hres2
            clear hres2
            go_wp2
            go_quiet (first
              | (go_at_call 47; with_reducible exact Calls.quiet_of (C1.out _ (H.out.drewN _)))
              | (go_at_call 47; with_reducible exact Calls.quiet_of (C2.out _ (H.out.drewN _))))
            go_wp2
            exact bodyPost_ret (v := .tuple #[.int .i64 v1, .int .i64 v2, .bool true]) (by simp [results, Try.results26, go_sem]) rfl (Hres.out _)
      · have hres := Hy.out
        rw [hz, if_pos rfl] at hres
        have Hres := Lib.hid (frEnd_mk (w := w) hres hb1)
        clear hres h hb1 Hy hz
        go_wp2
        exact bodyPost_ret (v := .tuple #[.int .i64 0, .int .i64 0, .bool false]) (by simp [results, Try.results26, go_sem]) rfl Hres.out
  · have Hres := Lib.hid (frEnd_mk (w := w) (w' := w) (fmR_no (l := l) (fun e => h0 e.2)) (Below.refl _ _))
    obtain rfl : l = [] := List.eq_nil_of_length_eq_zero (by omega)
    clear h
    go_enter Try.func26, Try.ntmps26
    go_wp2
    exact bodyPost_ret (v := .tuple #[.int .i64 0, .int .i64 0, .bool false]) (by simp [results, Try.results26, go_sem]) rfl Hres.out

theorem WFractionOfMinus.walk (w : World) (A : Option Addr) (c : Nat) (l : List Int) (h : SlI w w.heap.size A l)
    (hj : l.length ≤ c ∧ c ≤ maxLen ∧ ∀ x ∈ l, (Lit.int .i64 x).wf = true) :
    Calls Try.prog 7 #[.slice A l.length c] w fun e w' => e = .returned (.bool true) ∧ Below w.heap.size w w' :=
  WFractionOfMinus.core w A c l h hj.1 hj.2.1 (fmR l).1 (fmR l).2.1 (fmR l).2.2
    (Lib.hid fun A c w h hl hlc => spec_FractionOfMinus A c _ l w h hl)
    (Lib.hid fun A c w h hl hlc => impl_FractionOfMinus A c _ l w h (Nat.le_refl _) hl hlc)
theorem WFractionOfPlus.walk (w : World) (A : Option Addr) (c : Nat) (l : List Int) (h : SlI w w.heap.size A l)
    (hj : l.length ≤ c ∧ c ≤ maxLen ∧ ∀ x ∈ l, (Lit.int .i64 x).wf = true) :
    Calls Try.prog 9 #[.slice A l.length c] w fun e w' => e = .returned (.bool true) ∧ Below w.heap.size w w' :=
  WFractionOfPlus.core w A c l h hj.1 hj.2.1 (fpR l).1 (fpR l).2.1 (fpR l).2.2
    (Lib.hid fun A c w h hl hlc => spec_FractionOfPlus A c _ l w h hl)
    (Lib.hid fun A c w h hl hlc => impl_FractionOfPlus A c _ l w h hl hlc)
end Go.Proofs.Ytkekjcfhkecggaa
