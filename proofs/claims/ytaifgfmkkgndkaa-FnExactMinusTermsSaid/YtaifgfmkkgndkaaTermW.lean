/- MinusTerms, PlusTerms, MinusOfPlus: the model's and the program's contracts, and the laws' walks. -/
import Derived.Test.YtaifgfmkkgndkaaTermS
import Derived.Test.YtaifgfmkkgndkaaMinusTermsC
import Derived.Test.YtaifgfmkkgndkaaPlusTermsC
namespace Go.Proofs.Ytaifgfmkkgndkaa
set_option linter.unusedVariables false
open Go.RowKit

def mtR (a b : Int) : Option (List Int) := if coB a b = true then tmF upI 12 a b [] else none
def ptR (a b : Int) : Option (List Int) := if coB a b = true ∧ b ≤ a then tmF dnI 12 a b [] else none
def mpR (l : List Int) : Option (List Int) := if posB l = true then tmF upI 12 (ctv 1 l) (ctv 1 (l.drop 1)) [] else none
theorem tmR_length {R : Option (List Int)} (h : ∀ r, R = some r → r.length ≤ 10) : (tmR R).length ≤ 1000000000 := by
  unfold tmR
  cases R with
  | none => simp
  | some r =>
    have := h r rfl
    simp only [Option.getD_some]
    omega
theorem mtR_length (a b : Int) : (tmR (mtR a b)).length ≤ 1000000000 := tmR_length fun r h => by
  unfold mtR at h
  split at h
  · exact tmF_len _ _ _ _ [] _ (by simp) h
  · cases h
theorem ptR_length (a b : Int) : (tmR (ptR a b)).length ≤ 1000000000 := tmR_length fun r h => by
  unfold ptR at h
  split at h
  · exact tmF_len _ _ _ _ [] _ (by simp) h
  · cases h
theorem mpR_length (l : List Int) : (tmR (mpR l)).length ≤ 1000000000 := tmR_length fun r h => by
  unfold mpR at h
  split at h
  · exact tmF_len _ _ _ _ [] _ (by simp) h
  · cases h

set_option maxHeartbeats 800000 in
theorem spec_MinusTerms (a b : Int) (w : World) : Calls Try.prog 30 #[.int .i64 a, .int .i64 b] w (RetI w (tmR (mtR a b)) (mtR a b).isSome) := by
  go_enter Try.func30, Try.ntmps30
  go_wp2_with fail
  refine (spec_ctPair a b _).mono ?_
  rintro e w1 ⟨rfl, hb1⟩
  cases hc : coB a b
  · have hE := retT_no (R := mtR a b) (w := w) (by unfold mtR; rw [hc]; simp) hb1
    have HE := Lib.hid hE
    clear hE hb1
    go_wp2
    go_ret2
    exact HE.out
  · obtain ⟨⟨a1, a2⟩, ⟨b1, b2⟩, _⟩ := coB_iff.1 hc
    have hR : mtR a b = tmF upI 12 a b [] := by unfold mtR; rw [hc]; simp
    have HR := Lib.hid hR
    have Hb1 := Lib.hid hb1
    clear hR hb1 hc
    go_wp2_with fail
    refine (spec_ctMinus a b _ ⟨by omega, by omega⟩ ⟨by omega, by omega⟩).mono ?_
    rintro e w2 ⟨A2, c2, rfl, o2, b2⟩
    rw [← HR.out] at o2 ⊢
    generalize mtR a b = R at *
    have hE : RetI w (tmR R) R.isSome (.returned (.tuple #[.slice A2 (tmR R).length c2, .bool R.isSome])) w2 := ⟨A2, c2, rfl, o2.mono Hb1.out.size, below_kept Hb1.out (Nat.le_refl _) b2⟩
    have HE := Lib.hid hE
    clear hE o2 b2
    generalize (tmR R).length = z at *
    go_wp2
    go_ret2
    exact HE.out

set_option maxHeartbeats 800000 in
theorem impl_MinusTerms (a b : Int) (w : World) : Calls Try.prog 31 #[.int .i64 a, .int .i64 b] w (RetI w (tmR (mtR a b)) (mtR a b).isSome) := by
  go_enter Try.func31, Try.ntmps31
  go_wp2_with fail
  refine (impl_isRatio a b _).mono ?_
  rintro e w1 ⟨rfl, hb1⟩
  cases hc : coB a b
  · have hE := retT_no (R := mtR a b) (w := w) (by unfold mtR; rw [hc]; simp) hb1
    have HE := Lib.hid hE
    clear hE hb1
    go_wp2
    go_ret2
    exact HE.out
  · obtain ⟨⟨a1, a2⟩, ⟨b1, b2⟩, _⟩ := coB_iff.1 hc
    have hR : mtR a b = tmF upI 12 a b [] := by unfold mtR; rw [hc]; simp
    have HR := Lib.hid hR
    have Hb1 := Lib.hid hb1
    clear hR hb1 hc
    go_wp2_with fail
    refine (impl_terms_up a b _ ⟨by omega, by omega⟩ ⟨by omega, by omega⟩).mono ?_
    rintro e w2 ⟨A2, c2, rfl, o2, b2⟩
    rw [← HR.out] at o2 ⊢
    generalize mtR a b = R at *
    have hE : RetI w (tmR R) R.isSome (.returned (.tuple #[.slice A2 (tmR R).length c2, .bool R.isSome])) w2 := ⟨A2, c2, rfl, o2.mono Hb1.out.size, below_kept Hb1.out (Nat.le_refl _) b2⟩
    have HE := Lib.hid hE
    clear hE o2 b2
    generalize (tmR R).length = z at *
    go_wp2
    go_ret2
    exact HE.out

set_option maxHeartbeats 800000 in
theorem spec_PlusTerms (a b : Int) (w : World) : Calls Try.prog 35 #[.int .i64 a, .int .i64 b] w (RetI w (tmR (ptR a b)) (ptR a b).isSome) := by
  go_enter Try.func35, Try.ntmps35
  go_wp2_with fail
  refine (spec_ctPair a b _).mono ?_
  rintro e w1 ⟨rfl, hb1⟩
  cases hc : coB a b
  · have hE := retT_no (R := ptR a b) (w := w) (by unfold ptR; rw [hc]; simp) hb1
    have HE := Lib.hid hE
    clear hE hb1
    go_wp2
    go_ret2
    exact HE.out
  · obtain ⟨⟨a1, a2⟩, ⟨b1, b2⟩, _⟩ := coB_iff.1 hc
    by_cases hlt : a < b
    · have hE := retT_no (R := ptR a b) (w := w) (if_neg (fun e => by omega)) hb1
      have HE := Lib.hid hE
      clear hE hb1
      go_wp2
      go_ret2
      exact HE.out
    · have hR : ptR a b = tmF dnI 12 a b [] := if_pos ⟨hc, by omega⟩
      have HR := Lib.hid hR
      have Hb1 := Lib.hid hb1
      clear hR hb1 hc
      generalize ptR a b = R at *
      go_wp2
      go_loopw [0, 1, 6] (fun p q v wr => ∃ (f n : Nat) (nu de : Int) (out : List Int) (A' : Option Addr) (c' : Nat), n ≤ 10 ∧ n + f = 12 ∧ out.length = n ∧ (0 ≤ nu ∧ nu ≤ 1000000) ∧ (0 ≤ de ∧ de ≤ 1000000) ∧ p = .int .i64 nu ∧ q = .int .i64 de ∧ v = .slice A' n c' ∧
          wr.ownsRow w.heap.size 3 1 (.slice A' n c') n (ics out) ∧ Below w.heap.size w wr ∧ R = tmF dnI f nu de out) (fun _ _ v _ => 12 - lenS v)
      case atStart => exact ⟨12, 0, a, b, [], none, 0, by omega, rfl, rfl, ⟨by omega, a2⟩, ⟨by omega, b2⟩, rfl, rfl, rfl, World.ownsRow_nil _ _ _ _, Hb1.out, HR.out⟩
      case round =>
        clear HR Hb1 a1 a2 b1 b2 hlt
        obtain ⟨f, n, nu, de, out, A', c', hn10, hf, hol, ⟨nu1, nu2⟩, ⟨de1, de2⟩, rfl, rfl, rfl, ho, hb, hR⟩ := hrel
        obtain ⟨f', rfl⟩ : ∃ f', f = f' + 1 := ⟨f - 1, by omega⟩
        have hob := ho.lt
        have Hob := Lib.hid hob
        have hsz := hb.size
        clear hob
        by_cases h0 : de = 0
        · subst h0
          have hE := retT_yes (w := w) (w' := wr) (hR.trans (tmF_zero dnI f' nu out)) hol ho hb
          have HE := Lib.hid hE
          clear hE ho hb hR hol
          go_wp2
          go_ret2
          exact HE.out
        · have hbad := tmF_bad dnI f' nu de out h0
          have hmore := tmF_more dnI f' nu de out h0
          rw [← hR] at hbad hmore
          have d1 : 0 < de := by omega
          have e1 : (dnI nu de).1 = nu / de := rfl
          have e2 : (dnI nu de).2 = nu % de := rfl
          rw [e1] at hbad hmore
          rw [e2] at hmore
          obtain ⟨u1, u2, u3, u4⟩ := dn_bd ⟨nu1, nu2⟩ (show 1 ≤ de ∧ de ≤ 1000000 by omega)
          have Hbad := Lib.hid hbad
          have Hmore := Lib.hid hmore
          have Ho := Lib.hid ho
          have Hb := Lib.hid hb
          have Hol := Lib.hid hol
          have Hol1 : Hid ((out ++ [nu / de]).length = n + 1) := Lib.hid (by rw [List.length_append, hol]; rfl)
          clear hbad hmore e1 e2 hR ho hb hol
          have own2 := Ho.out.alloc (.cells #[.int .i64 (nu / de)] 3)
          have hb2 := Hb.out.alloc hsz (.cells #[.int .i64 (nu / de)] 3)
          have Hb2 := Lib.hid hb2
          clear hb2
          go_wp2_with (at_builtin; refine append1In _ rfl _ _ rfl w.heap.size (.slice A' n c') n out Hol.out rfl own2 wr.heap.size (nu / de) rfl ?c1 ?c2 Hb2.out.size ?_; (case c1 => simp [go_sem]); (case c2 => omega); intro A3 c3 w3 own3 hg3)
          have hb3 := below_grown Hb2.out hg3 (Nat.le_refl _) (fun j hj => (Hob.out j hj).1)
          have hs3 := SlI.of_own (l := out ++ [nu / de]) own3
          have Hb3 := Lib.hid hb3
          clear hg3 own2 hb3
          refine (spec_ctGood _ (n + 1) c3 _ (out ++ [nu / de]) _ Hol1.out hs3 (by omega)).mono ?_
          rintro e w4 ⟨rfl, rfl⟩
          cases hg : good (out ++ [nu / de])
          · have hE := retT_no (w := w) (Hbad.out hg) Hb3.out
            have HE := Lib.hid hE
            clear hE hg hs3 own3
            go_wp2
            go_ret2
            exact HE.out
          · have hn9 : n ≤ 9 := by have := (good_iff.1 hg).1; have := Hol1.out; omega
            have HE := Lib.hid (Hmore.out hg)
            clear hg hs3
            have t2 : nu.tmod de = nu % de := Int.tmod_eq_emod_of_nonneg nu1
            have w2 : IntKind.i64.wrap (nu % de) = nu % de := IntWalk.i64_in _ (by omega)
            go_wp2
            go_quiet (fail)
            clear t2 w2
            go_wp2
            go_roundw
            case rel => exact ⟨f', n + 1, de, _, _, A3, c3, by omega, by omega, Hol1.out, ⟨by omega, de2⟩, ⟨u3, by omega⟩, rfl, rfl, rfl, own_drewN own3 _, below_drewN Hb3.out _, HE.out⟩
            case measure => simp [lenS]; omega

set_option maxHeartbeats 800000 in
theorem impl_PlusTerms (a b : Int) (w : World) : Calls Try.prog 36 #[.int .i64 a, .int .i64 b] w (RetI w (tmR (ptR a b)) (ptR a b).isSome) := by
  go_enter Try.func36, Try.ntmps36
  go_wp2_with fail
  refine (impl_isRatio a b _).mono ?_
  rintro e w1 ⟨rfl, hb1⟩
  cases hc : coB a b
  · have hE := retT_no (R := ptR a b) (w := w) (by unfold ptR; rw [hc]; simp) hb1
    have HE := Lib.hid hE
    clear hE hb1
    go_wp2
    go_ret2
    exact HE.out
  · obtain ⟨⟨a1, a2⟩, ⟨b1, b2⟩, _⟩ := coB_iff.1 hc
    by_cases hlt : a < b
    · have hE := retT_no (R := ptR a b) (w := w) (if_neg (fun e => by omega)) hb1
      have HE := Lib.hid hE
      clear hE hb1
      go_wp2
      go_ret2
      exact HE.out
    · have hR : ptR a b = tmF dnI 12 a b [] := if_pos ⟨hc, by omega⟩
      have HR := Lib.hid hR
      have Hb1 := Lib.hid hb1
      clear hR hb1 hc
      go_wp2_with fail
      refine (impl_terms_dn a b _ ⟨by omega, by omega⟩ ⟨by omega, by omega⟩).mono ?_
      rintro e w2 ⟨A2, c2, rfl, o2, b2⟩
      rw [← HR.out] at o2 ⊢
      generalize ptR a b = R at *
      have hE : RetI w (tmR R) R.isSome (.returned (.tuple #[.slice A2 (tmR R).length c2, .bool R.isSome])) w2 := ⟨A2, c2, rfl, o2.mono Hb1.out.size, below_kept Hb1.out (Nat.le_refl _) b2⟩
      have HE := Lib.hid hE
      clear hE o2 b2
      generalize (tmR R).length = z at *
      go_wp2
      go_ret2
      exact HE.out

theorem pos_bd {l : List Int} (h : posB l = true) : (0 ≤ ctv 1 l ∧ ctv 1 l ≤ 819628286980801) ∧ (1 ≤ ctv 1 (l.drop 1) ∧ ctv 1 (l.drop 1) ≤ 819628286980801) := by
  obtain ⟨hg, h0, _⟩ := posB_iff.1 h
  have hsm := good_small hg
  have h10 := (good_iff.1 hg).1
  have b1 := ctv_bd (.inl rfl) l hsm h10
  have b2 := ctv_bd (.inl rfl) (l.drop 1) (hsm.drop 1) (by simp; omega)
  have hp := posB_pos h
  have p1 := (ctv_pos l hp).1
  have p2 := (ctv_pos (l.drop 1) (fun x hx => hp x (List.mem_of_mem_drop hx))).1
  omega

theorem WMinusTerms.walk (w : World) (a : Int) (wa : (Lit.int .i64 a).wf = true) (b : Int) (wb : (Lit.int .i64 b).wf = true) :
    Calls Try.prog 9 #[.int .i64 a, .int .i64 b] w fun e w' => e = .returned (.bool true) ∧ Below w.heap.size w w' :=
  WMinusTerms.core w a b (tmR (mtR a b)) (mtR a b).isSome (mtR_length a b)
    (Lib.hid fun w => spec_MinusTerms a b w)
    (Lib.hid fun w => impl_MinusTerms a b w)

theorem WPlusTerms.walk (w : World) (a : Int) (wa : (Lit.int .i64 a).wf = true) (b : Int) (wb : (Lit.int .i64 b).wf = true) :
    Calls Try.prog 10 #[.int .i64 a, .int .i64 b] w fun e w' => e = .returned (.bool true) ∧ Below w.heap.size w w' :=
  WPlusTerms.core w a b (tmR (ptR a b)) (ptR a b).isSome (ptR_length a b)
    (Lib.hid fun w => spec_PlusTerms a b w)
    (Lib.hid fun w => impl_PlusTerms a b w)

end Go.Proofs.Ytaifgfmkkgndkaa
