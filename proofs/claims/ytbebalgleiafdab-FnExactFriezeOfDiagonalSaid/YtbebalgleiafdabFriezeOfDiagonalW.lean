/- FriezeOfDiagonal: the program's contract, and the law's walk. -/
import Derived.Test.YtbebalgleiafdabFodT
import Derived.Test.YtbebalgleiafdabFodL
import Derived.Test.YtbebalgleiafdabEqlI
import Derived.Test.YtbebalgleiafdabFriezeOfDiagonalC
namespace Go.Proofs.Ytbebalgleiafdab
set_option linter.unusedVariables false
open Go.RowKit

theorem fdR_length (l : List Int) : (fdR l).length ≤ 1000000000 := by
  unfold fdR
  split
  · rename_i h
    have h1 := h
    unfold fdB at h1
    simp only [Bool.and_eq_true] at h1
    have := inB_iff'.1 h1.1.1.1.1
    rw [fdL_length]
    omega
  · simp

set_option maxRecDepth 100000 in
set_option maxHeartbeats 3200000 in
theorem impl_FriezeOfDiagonal (A : Option Addr) (c B : Nat) (l : List Int) (w : World) (h : SlI w B A l) (hB : B ≤ w.heap.size) (hl : l.length ≤ 1048576) (hlc : l.length ≤ c) :
    Calls Try.prog 38 #[.slice A l.length c] w (RetI w (fdR l) (fdB l)) := by
  by_cases h3 : l.length < 3
  · have hno : fdB l = false := fdB_len (by rw [show inB (l.length : Int) 3 11 = false by unfold inB; simp; omega]; rfl)
    have HE := Lib.hid (fdI_none (w := w) hno (Below.refl _ _))
    clear h hno
    generalize l.length = n at *
    go_enter Try.func38, Try.ntmps38
    go_wp2
    go_ret2
    exact HE.out
  · by_cases h11 : 11 < l.length
    · have hno : fdB l = false := fdB_len (by rw [show inB (l.length : Int) 3 11 = false by unfold inB; simp; omega]; rfl)
      have HE := Lib.hid (fdI_none (w := w) hno (Below.refl _ _))
      clear h hno
      generalize l.length = n at *
      go_enter Try.func38, Try.ntmps38
      go_wp2
      go_ret2
      exact HE.out
    · obtain ⟨n, hn⟩ : ∃ n, l.length = n := ⟨_, rfl⟩
      have Hc := Lib.hid (containsFunc_one A c B l w h (by omega))
      rw [hn] at Hc h3 h11 hlc ⊢
      have hin : inB (l.length : Int) 3 11 = true := inB_iff'.2 (by omega)
      go_enter Try.func38, Try.ntmps38
      go_wp2_with fail
      refine Hc.out.mono ?_
      rintro e w1 ⟨rfl, rfl⟩
      rw [oneAny_eq]
      clear Hc
      cases hp : posB l
      · have hno : fdB l = false := by rw [← pB_eq]; unfold pB; rw [hp]; simp
        have HE := Lib.hid (fdI_none (w := w) hno (Below.refl _ _))
        clear h hno hn hin hp
        go_wp2
        go_ret2
        exact HE.out
      · have hpl := pP_length l n
        rw [hn] at hpl
        have hpb : pB l = (isQ (pP l n) && decide (diL (pP l n) 0 n = l)) := by unfold pB; rw [hin, hp, hn]; rfl
        rw [pB_eq] at hpb
        have hyes : fdB l = true → pP l n = fdL l := fun h => by rw [← pB_eq] at h; rw [← hn]; exact pB_fd h
        have Hyes := Lib.hid hyes
        have HL := Lib.hid (impl_likelyQuiddity A c B n l w hn h hB (by omega) (by omega) hp)
        have H := Lib.hid h
        have Hpb := Lib.hid hpb
        have Hpl := Lib.hid hpl
        have Hn := Lib.hid hn
        clear h hpb hpl hyes hn hin hp
        go_wp2_with fail
        refine HL.out.mono ?_
        rintro e w1 ⟨A1, c1, rfl, ho1, hb1⟩
        have HD := Lib.hid (impl_DiagonalOfFrieze A1 c1 w1.heap.size (pP l n) 0 w1 (SlI.of_own ho1) (Nat.le_refl _) (by rw [Hpl.out]; omega) (own_capI ho1))
        have H1 := Lib.hid (H.out.below (hb1.mono hB))
        have O1 := Lib.hid ho1
        have B1 := Lib.hid hb1
        have z1 := hb1.size
        clear ho1 hb1 HL H
        rw [Hpl.out] at HD O1 ⊢
        go_wp2_with fail
        refine HD.out.mono ?_
        have hok : okD (pP l n) 0 = isQ (pP l n) := by unfold okD; rw [show inB 0 (-1000) 1000 = true from rfl, Bool.and_true]
        unfold RetI
        rintro e w2 ⟨A2, c2, rfl, ho2, hb2⟩
        have B2 := Lib.hid (below_kept B1.out (Nat.le_refl _) hb2)
        have O2 := Lib.hid (own_kept O1.out hb2)
        have H2 := Lib.hid (H1.out.below (hb2.mono (Nat.le_trans hB z1)))
        have z2 := hb2.size
        cases hq : isQ (pP l n)
        · have hno : fdB l = false := by rw [Hpb.out, hq]; rfl
          have HE := Lib.hid (fdI_none (w := w) hno B2.out)
          rw [hok, hq]
          clear hok hno ho2 hb2 HD O1 H1 B1 hq
          generalize (diR (pP l n) 0).length = r at *
          go_wp2
          go_ret2
          exact HE.out
        · have hdi : diR (pP l n) 0 = diL (pP l n) 0 n := by
            unfold diR
            rw [if_pos (hok.trans hq), Hpl.out, Nat.add_sub_cancel]
          rw [hok, hq]
          rw [hdi] at ho2 ⊢
          have hdl := diL_length (pP l n) 0 n
          rw [hdl] at ho2 ⊢
          have HEq := Lib.hid (slices_EqualI A2 A n n c2 c w2.heap.size B (diL (pP l n) 0 n) l w2 (SlI.of_own ho2) H2.out hdl Hn.out rfl (Nat.le_refl _) (Nat.le_trans hB (Nat.le_trans z1 z2)) (by omega))
          have hfd : fdB l = decide (diL (pP l n) 0 n = l) := by rw [Hpb.out, hq]; rfl
          clear hok hdi hdl ho2 hb2 HD O1 H1 B1 hq
          go_wp2_with fail
          refine HEq.out.mono ?_
          rintro e w3 ⟨rfl, hb3⟩
          rw [← hfd]
          have B3 := Lib.hid (below_kept B2.out (Nat.le_refl _) hb3)
          have O3 := Lib.hid (own_kept O2.out hb3)
          clear HEq hfd hb3 O2 B2 H2
          cases hf : fdB l
          · have HE := Lib.hid (fdI_none (w := w) hf B3.out)
            clear hf
            go_wp2
            go_ret2
            exact HE.out
          · have hy := Hyes.out hf
            have HE := Lib.hid (show RetI w (fdR l) (fdB l) (.returned (.tuple #[.slice A1 (n + 1) c1, .bool true])) w3 by
              rw [fdR_yes hf, hf]
              refine ⟨A1, c1, by rw [fdL_length, Hn.out], ?_, B3.out⟩
              have h9 := O3.out
              rw [hy] at h9
              rw [fdL_length, Hn.out]
              exact h9)
            clear hf hy O3 B3
            go_wp2
            go_ret2
            exact HE.out

theorem WFriezeOfDiagonal.walk (w : World) (A : Option Addr) (c : Nat) (l : List Int) (h : SlI w w.heap.size A l)
    (hj : l.length ≤ c ∧ c ≤ maxLen ∧ ∀ x ∈ l, (Lit.int .i64 x).wf = true) :
    Calls Try.prog 10 #[.slice A l.length c] w fun e w' => e = .returned (.bool true) ∧ Below w.heap.size w w' :=
  WFriezeOfDiagonal.core w A c l h hj.1 hj.2.1 (fdR l) (fdB l) (fdR_length l)
    (Lib.hid fun A c w h hl hlc => spec_FriezeOfDiagonal A c _ l w h (Nat.le_refl _) hl)
    (Lib.hid fun A c w h hl hlc => impl_FriezeOfDiagonal A c _ l w h (Nat.le_refl _) hl hlc)
end Go.Proofs.Ytbebalgleiafdab
