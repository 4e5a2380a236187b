/- Terms of fractions: the model's and the program's loops. -/
import Derived.Test.YtaifgfmkkgndkaaFracS
import Derived.Test.YtaifgfmkkgndkaaNbB
namespace Go.Proofs.Ytaifgfmkkgndkaa
set_option linter.unusedVariables false
open Go.RowKit

/-- where the terms of a fraction are none or a list -/
def tmR (R : Option (List Int)) : List Int := R.getD []
theorem retT_no {R : Option (List Int)} {w w' : World} (h : R = none) (hb : Below w.heap.size w w') : RetI w (tmR R) R.isSome (.returned (.tuple #[.slice none 0 0, .bool false])) w' := by
  subst h
  exact ⟨none, 0, rfl, World.ownsRow_nil _ _ _ _, hb⟩
theorem retT_yes {R : Option (List Int)} {out : List Int} {n : Nat} {w w' : World} {A : Option Addr} {c : Nat} (h : R = some out) (hn : out.length = n) (ho : w'.ownsRow w.heap.size 3 1 (.slice A n c) n (ics out)) (hb : Below w.heap.size w w') :
    RetI w (tmR R) R.isSome (.returned (.tuple #[.slice A n c, .bool true])) w' := by
  subst h
  subst hn
  exact ⟨A, c, rfl, ho, hb⟩
theorem tmF_zero (rd : Int → Int → Int × Int) (f : Nat) (num : Int) (out : List Int) : tmF rd (f + 1) num 0 out = some out := by
  unfold tmF
  rw [if_pos rfl]
theorem tmF_bad (rd : Int → Int → Int × Int) (f : Nat) (num den : Int) (out : List Int) (h : den ≠ 0) (hg : good (out ++ [(rd num den).1]) = false) : tmF rd (f + 1) num den out = none := by
  conv => lhs; unfold tmF
  rw [if_neg h, if_neg (by rw [hg]; simp)]
theorem tmF_more (rd : Int → Int → Int × Int) (f : Nat) (num den : Int) (out : List Int) (h : den ≠ 0) (hg : good (out ++ [(rd num den).1]) = true) : tmF rd (f + 1) num den out = tmF rd f den (rd num den).2 (out ++ [(rd num den).1]) := by
  conv => lhs; unfold tmF
  rw [if_neg h, if_pos hg]

/-- how long a slice is -/
def lenS : Value → Nat
  | .slice _ n _ => n
  | _ => 0

theorem coB_iff {a b : Int} : coB a b = true ↔ (1 ≤ a ∧ a ≤ 1000000) ∧ (1 ≤ b ∧ b ≤ 1000000) ∧ Nat.gcd a.toNat b.toNat = 1 := by
  unfold coB
  rw [Bool.and_eq_true, Bool.and_eq_true, decide_eq_true_eq, decide_eq_true_eq, decide_eq_true_eq, and_assoc]

set_option maxHeartbeats 800000 in
theorem impl_isRatio (a b : Int) (w : World) :
    Calls Try.prog 66 #[.int .i64 a, .int .i64 b] w fun e w' => e = .returned (.bool (coB a b)) ∧ Below w.heap.size w w' := by
  by_cases a1 : 1 ≤ a
  · by_cases b1 : 1 ≤ b
    · have hE : coB a b = nbB a b := by
        rw [Bool.eq_iff_iff, coB_iff, nbB_iff]
        omega
      have HE := Lib.hid hE
      have hn := impl_IsFraction a b
      have Hn := Lib.hid hn
      clear hE hn
      generalize nbB a b = r at *
      go_enter Try.func66, Try.ntmps66
      go_wp2_with fail
      refine (Hn.out _).mono ?_
      rintro e w1 ⟨rfl, hb⟩
      have HD := Lib.hid hb
      clear hb
      go_wp2
      go_ret
      exact ⟨ret_bool HE.out.symm, (by first | exact HD.out | exact (below_one _ _).trans (HD.out.mono (by simp)))⟩
    · have HE := Lib.hid (show coB a b = false by rw [Bool.eq_false_iff]; intro e; exact b1 (coB_iff.1 e).2.1.1)
      go_enter Try.func66, Try.ntmps66
      go_wp2
      go_ret
      exact ⟨ret_bool HE.out.symm, Below.refl _ _⟩
  · have HE := Lib.hid (show coB a b = false by rw [Bool.eq_false_iff]; intro e; exact a1 (coB_iff.1 e).1.1)
    go_enter Try.func66, Try.ntmps66
    go_wp2
    go_ret
    exact ⟨ret_bool HE.out.symm, Below.refl _ _⟩

theorem inB_iff1 {n lo hi : Int} : inB n lo hi = true ↔ lo ≤ n ∧ n ≤ hi := by unfold inB; simp
set_option maxHeartbeats 800000 in
theorem spec_ctPair (a b : Int) (w : World) :
    Calls Try.prog 64 #[.int .i64 a, .int .i64 b] w fun e w' => e = .returned (.bool (coB a b)) ∧ Below w.heap.size w w' := by
  go_enter Try.func64, Try.ntmps64
  go_wp2_with fail
  refine (spec_l1In' _ _ _ _).mono ?_
  rintro e w1 ⟨rfl, rfl⟩
  cases ha : inB a 1 1000000
  · have HE := Lib.hid (show coB a b = false by rw [Bool.eq_false_iff]; intro e; rw [inB_iff1.2 (coB_iff.1 e).1] at ha; cases ha)
    clear ha
    go_wp2
    go_ret
    exact ⟨ret_bool HE.out.symm, Below.refl _ _⟩
  · go_wp2_with fail
    refine (spec_l1In' _ _ _ _).mono ?_
    rintro e w1 ⟨rfl, rfl⟩
    cases hbb : inB b 1 1000000
    · have HE := Lib.hid (show coB a b = false by rw [Bool.eq_false_iff]; intro e; rw [inB_iff1.2 (coB_iff.1 e).2.1] at hbb; cases hbb)
      clear ha hbb
      go_wp2
      go_ret
      exact ⟨ret_bool HE.out.symm, Below.refl _ _⟩
    · obtain ⟨a1, a2⟩ := inB_iff1.1 ha
      obtain ⟨b1, b2⟩ := inB_iff1.1 hbb
      obtain ⟨x0, rfl⟩ := Int.eq_ofNat_of_zero_le (show 0 ≤ a by omega)
      obtain ⟨y0, rfl⟩ := Int.eq_ofNat_of_zero_le (show 0 ≤ b by omega)
      have hE : coB (x0 : Int) (y0 : Int) = decide (((Nat.gcd x0 y0 : Nat) : Int) = 1) := by
        rw [Bool.eq_iff_iff, coB_iff, decide_eq_true_eq]
        simp only [Int.toNat_natCast]
        omega
      have HE := Lib.hid hE
      clear hE ha hbb
      have x6 : x0 ≤ 1000000 := by omega
      have y6 : y0 ≤ 1000000 := by omega
      go_wp2
      go_loopw [0, 1] (fun p q wr => ∃ x y : Nat, x ≤ 1000000 ∧ y ≤ 1000000 ∧ p = .int .i64 x ∧ q = .int .i64 y ∧ Nat.gcd x y = Nat.gcd x0 y0 ∧ Below w.heap.size w wr) (fun _ q _ => (intOf q).toNat)
      case atStart => exact ⟨x0, y0, x6, y6, rfl, rfl, rfl, Below.refl _ _⟩
      case round =>
        clear a1 a2 b1 b2
        obtain ⟨x, y, hx, hy, rfl, rfl, hg, hb⟩ := hrel
        by_cases h0 : 0 < y
        · have hst := gcd_step x y h0
          have hlt := Nat.mod_lt x h0
          have hE : Nat.gcd y (x % y) = Nat.gcd x0 y0 := hst.trans hg
          have HE1 := Lib.hid hE
          have y1 : (0 : Int) < (y : Int) := by omega
          have y2 : ¬ y = 0 := by omega
          have x1 : (0 : Int) ≤ (x : Int) := by omega
          have Hlt := Lib.hid hlt
          have hm1 : (x : Int).tmod (y : Int) = ((x % y : Nat) : Int) := rfl
          have hm2 : (x : Int) % (y : Int) = ((x % y : Nat) : Int) := rfl
          clear hst hg hlt hE
          generalize x % y = r at *
          go_wp2
          go_quiet (fail)
          clear hm1 hm2
          go_wp2
          go_roundw
          case rel => exact ⟨y, r, hy, by have := Hlt.out; omega, rfl, rfl, HE1.out, below_drewN hb _⟩
          case measure => have := Hlt.out; simp [intOf]; omega
        · obtain rfl : y = 0 := by omega
          have hE : Nat.gcd x0 y0 = x := by rw [← hg, Nat.gcd_zero_right]
          have HE2 := Lib.hid (HE.out.trans (by rw [hE]))
          clear hE hg HE
          go_wp2
          go_ret
          exact ⟨ret_bool (by rw [HE2.out]; rw [Bool.eq_iff_iff]; simp), hb⟩

set_option maxHeartbeats 800000 in
theorem impl_roundUp (num den : Int) (w : World) (hn : 0 ≤ num ∧ num ≤ 819628286980801) (hd : 1 ≤ den ∧ den ≤ 819628286980801) :
    Calls Try.prog 68 #[.int .i64 num, .int .i64 den] w fun e w' => e = .returned (.tuple #[.int .i64 (upI num den).1, .int .i64 (upI num den).2]) ∧ w = w' := by
  obtain ⟨u1, u2, u3, u4, u5⟩ := up_bd hn hd
  obtain ⟨n1, n2⟩ := hn
  obtain ⟨d1, d2⟩ := hd
  have s1 : 0 ≤ num + den - 1 := by omega
  have d3 : ¬ den = 0 := by omega
  have d4 : (den == 0) = false := by rw [beq_eq_false_iff_ne]; omega
  go_enter Try.func68, Try.ntmps68
  go_wp2
  go_ret2
  exact ⟨rfl, rfl⟩

theorem impl_roundDown (num den : Int) (w : World) (hn : 0 ≤ num ∧ num ≤ 819628286980801) (hd : 1 ≤ den ∧ den ≤ 819628286980801) :
    Calls Try.prog 70 #[.int .i64 num, .int .i64 den] w fun e w' => e = .returned (.tuple #[.int .i64 (dnI num den).1, .int .i64 (dnI num den).2]) ∧ ∃ k, w' = w.drewN k := by
  obtain ⟨u1, u2, u3, u4⟩ := dn_bd hn hd
  obtain ⟨n1, n2⟩ := hn
  obtain ⟨d1, d2⟩ := hd
  have d3 : ¬ den = 0 := by omega
  have d4 : (den == 0) = false := by rw [beq_eq_false_iff_ne]; omega
  have dd : dnI num den = (num / den, num % den) := rfl
  have t1 : num.tdiv den = num / den := Int.tdiv_eq_ediv_of_nonneg n1
  have t2 : num.tmod den = num % den := Int.tmod_eq_emod_of_nonneg n1
  have w1 : IntKind.i64.wrap (num / den) = num / den := IntWalk.i64_in _ (by omega)
  have w2 : IntKind.i64.wrap (num % den) = num % den := IntWalk.i64_in _ (by omega)
  have Dd := Lib.hid dd
  clear dd
  go_enter Try.func70, Try.ntmps70
  go_wp2
  go_quiet (fail)
  clear t1 t2 w1 w2
  go_wp2
  go_ret2
  refine ⟨?_, _, rfl⟩
  rw [Dd.out]
  rfl

set_option maxRecDepth 100000 in
set_option maxHeartbeats 3200000 in
theorem impl_terms_up (num den : Int) (w : World) (hn : 0 ≤ num ∧ num ≤ 819628286980801) (hd : 0 ≤ den ∧ den ≤ 819628286980801) :
    Calls Try.prog 67 #[.int .i64 num, .int .i64 den, .func (.func 68) #[] #[]] w (RetI w (tmR (tmF upI 12 num den [])) (tmF upI 12 num den []).isSome) := by
  obtain ⟨R, hR⟩ : ∃ R, tmF upI 12 num den [] = R := ⟨_, rfl⟩
  rw [hR]
  have HR := Lib.hid hR
  have Hn := Lib.hid hn
  have Hd := Lib.hid hd
  clear hR hn hd
  go_enter Try.func67, Try.ntmps67
  go_wp2
  go_loopw [0, 1, 8, 9, 10] (fun p q v _ _ wr => ∃ (f n : Nat) (nu de : Int) (out : List Int) (A' : Option Addr) (c' : Nat), n ≤ 10 ∧ n + f = 12 ∧ out.length = n ∧ (0 ≤ nu ∧ nu ≤ 819628286980801) ∧ (0 ≤ de ∧ de ≤ 819628286980801) ∧ p = .int .i64 nu ∧ q = .int .i64 de ∧ v = .slice A' n c' ∧
      wr.ownsRow w.heap.size 3 1 (.slice A' n c') n (ics out) ∧ Below w.heap.size w wr ∧ tmF upI f nu de out = R) (fun _ _ v _ _ _ => 12 - lenS v)
  case atStart => exact ⟨12, 0, num, den, [], none, 0, by omega, rfl, rfl, Hn.out, Hd.out, rfl, rfl, rfl, World.ownsRow_nil _ _ _ _, Below.refl _ _, HR.out⟩
  case round =>
    clear HR Hn Hd
    obtain ⟨f, n, nu, de, out, A', c', hn10, hf, hol, ⟨nu1, nu2⟩, ⟨de1, de2⟩, rfl, rfl, rfl, ho, hb, hR⟩ := hrel
    obtain ⟨f', rfl⟩ : ∃ f', f = f' + 1 := ⟨f - 1, by omega⟩
    have hob := ho.lt
    have Hob := Lib.hid hob
    have hsz := hb.size
    clear hob
    by_cases h0 : de = 0
    · subst h0
      have hE := retT_yes (w := w) (w' := wr) (hR.symm.trans (tmF_zero upI f' nu out)) hol ho hb
      have HE := Lib.hid hE
      clear hE ho hb hR hol
      go_wp2
      go_ret2
      exact HE.out
    · have hbad := tmF_bad upI f' nu de out h0
      have hmore := tmF_more upI f' nu de out h0
      rw [hR] at hbad hmore
      have ub := up_bd ⟨nu1, nu2⟩ (show 1 ≤ de ∧ de ≤ 819628286980801 by omega)
      have hr2 : 0 ≤ (upI nu de).2 ∧ (upI nu de).2 < de := by unfold upI; dsimp only; omega
      have d0 : (de != 0) = true := by rw [bne_iff_ne]; exact h0
      have d1 : 1 ≤ de := by omega
      obtain ⟨t, r, htr⟩ : ∃ t r, upI nu de = (t, r) := ⟨_, _, rfl⟩
      have hcall := fun w => impl_roundUp nu de w ⟨nu1, nu2⟩ ⟨d1, de2⟩
      rw [htr] at hbad hmore hr2 hcall
      have Hbad := Lib.hid hbad
      have Hmore := Lib.hid hmore
      have Hr2 := Lib.hid hr2
      have Hcall := Lib.hid hcall
      have Ho := Lib.hid ho
      have Hb := Lib.hid hb
      have Hol := Lib.hid hol
      have Hol1 : Hid ((out ++ [t]).length = n + 1) := Lib.hid (by rw [List.length_append, hol]; rfl)
      clear hbad hmore hr2 hcall htr ub hR ho hb hol
      go_wp2_with fail
      refine (Hcall.out _).mono ?_
      rintro e w2 ⟨rfl, rfl⟩
      have own2 := Ho.out.alloc (.cells #[.int .i64 t] 3)
      have hb2 := Hb.out.alloc hsz (.cells #[.int .i64 t] 3)
      have Hb2 := Lib.hid hb2
      clear hb2
      go_wp2_with (at_builtin; refine append1In _ rfl _ _ rfl w.heap.size (.slice A' n c') n out Hol.out rfl own2 wr.heap.size t rfl ?c1 ?c2 Hb2.out.size ?_; (case c1 => simp [go_sem]); (case c2 => omega); intro A3 c3 w3 own3 hg3)
      have hb3 := below_grown Hb2.out hg3 (Nat.le_refl _) (fun j hj => (Hob.out j hj).1)
      have hs3 := SlI.of_own (l := out ++ [t]) own3
      have Hb3 := Lib.hid hb3
      clear hg3 own2 hb3
      refine (impl_IsTermList _ (n + 1) c3 _ (out ++ [t]) _ Hol1.out hs3 (by omega)).mono ?_
      rintro e w4 ⟨rfl, rfl⟩
      cases hg : good (out ++ [t])
      · have hE := retT_no (w := w) (Hbad.out hg) Hb3.out
        have HE := Lib.hid hE
        clear hE hg hs3 own3
        go_wp2
        go_ret2
        exact HE.out
      · have hn9 : n ≤ 9 := by have := (good_iff.1 hg).1; have := Hol1.out; omega
        have HE := Lib.hid (Hmore.out hg)
        clear hg hs3
        go_wp2
        go_roundw
        case rel => exact ⟨f', n + 1, de, r, out ++ [t], A3, c3, by omega, by omega, Hol1.out, ⟨by omega, de2⟩, ⟨Hr2.out.1, by have := Hr2.out.2; omega⟩, rfl, rfl, rfl, own3, Hb3.out, HE.out.symm⟩
        case measure => simp [lenS]; omega

set_option maxRecDepth 100000 in
set_option maxHeartbeats 3200000 in
theorem impl_terms_dn (num den : Int) (w : World) (hn : 0 ≤ num ∧ num ≤ 819628286980801) (hd : 0 ≤ den ∧ den ≤ 819628286980801) :
    Calls Try.prog 67 #[.int .i64 num, .int .i64 den, .func (.func 70) #[] #[]] w (RetI w (tmR (tmF dnI 12 num den [])) (tmF dnI 12 num den []).isSome) := by
  obtain ⟨R, hR⟩ : ∃ R, tmF dnI 12 num den [] = R := ⟨_, rfl⟩
  rw [hR]
  have HR := Lib.hid hR
  have Hn := Lib.hid hn
  have Hd := Lib.hid hd
  clear hR hn hd
  go_enter Try.func67, Try.ntmps67
  go_wp2
  go_loopw [0, 1, 8, 9, 10] (fun p q v _ _ wr => ∃ (f n : Nat) (nu de : Int) (out : List Int) (A' : Option Addr) (c' : Nat), n ≤ 10 ∧ n + f = 12 ∧ out.length = n ∧ (0 ≤ nu ∧ nu ≤ 819628286980801) ∧ (0 ≤ de ∧ de ≤ 819628286980801) ∧ p = .int .i64 nu ∧ q = .int .i64 de ∧ v = .slice A' n c' ∧
      wr.ownsRow w.heap.size 3 1 (.slice A' n c') n (ics out) ∧ Below w.heap.size w wr ∧ tmF dnI f nu de out = R) (fun _ _ v _ _ _ => 12 - lenS v)
  case atStart => exact ⟨12, 0, num, den, [], none, 0, by omega, rfl, rfl, Hn.out, Hd.out, rfl, rfl, rfl, World.ownsRow_nil _ _ _ _, Below.refl _ _, HR.out⟩
  case round =>
    clear HR Hn Hd
    obtain ⟨f, n, nu, de, out, A', c', hn10, hf, hol, ⟨nu1, nu2⟩, ⟨de1, de2⟩, rfl, rfl, rfl, ho, hb, hR⟩ := hrel
    obtain ⟨f', rfl⟩ : ∃ f', f = f' + 1 := ⟨f - 1, by omega⟩
    have hob := ho.lt
    have Hob := Lib.hid hob
    have hsz := hb.size
    clear hob
    by_cases h0 : de = 0
    · subst h0
      have hE := retT_yes (w := w) (w' := wr) (hR.symm.trans (tmF_zero dnI f' nu out)) hol ho hb
      have HE := Lib.hid hE
      clear hE ho hb hR hol
      go_wp2
      go_ret2
      exact HE.out
    · have hbad := tmF_bad dnI f' nu de out h0
      have hmore := tmF_more dnI f' nu de out h0
      rw [hR] at hbad hmore
      have ub := dn_bd ⟨nu1, nu2⟩ (show 1 ≤ de ∧ de ≤ 819628286980801 by omega)
      have hr2 : 0 ≤ (dnI nu de).2 ∧ (dnI nu de).2 < de := by unfold dnI; dsimp only; omega
      have d0 : (de != 0) = true := by rw [bne_iff_ne]; exact h0
      have d1 : 1 ≤ de := by omega
      obtain ⟨t, r, htr⟩ : ∃ t r, dnI nu de = (t, r) := ⟨_, _, rfl⟩
      have hcall := fun w => impl_roundDown nu de w ⟨nu1, nu2⟩ ⟨d1, de2⟩
      rw [htr] at hbad hmore hr2 hcall
      have Hbad := Lib.hid hbad
      have Hmore := Lib.hid hmore
      have Hr2 := Lib.hid hr2
      have Hcall := Lib.hid hcall
      have Ho := Lib.hid ho
      have Hb := Lib.hid hb
      have Hol := Lib.hid hol
      have Hol1 : Hid ((out ++ [t]).length = n + 1) := Lib.hid (by rw [List.length_append, hol]; rfl)
      clear hbad hmore hr2 hcall htr ub hR ho hb hol
      go_wp2_with fail
      refine (Hcall.out _).mono ?_
      rintro e w2 ⟨rfl, z, hz⟩
      have own1 := own_drewN Ho.out z
      have hb1 := below_drewN Hb.out z
      rw [← hz] at own1 hb1
      have own2 := own1.alloc (.cells #[.int .i64 t] 3)
      have hb2 := hb1.alloc hb1.size (.cells #[.int .i64 t] 3)
      clear hz own1 hb1
      have Hb2 := Lib.hid hb2
      clear hb2
      go_wp2_with (at_builtin; refine append1In _ rfl _ _ rfl w.heap.size (.slice A' n c') n out Hol.out rfl own2 w2.heap.size t rfl ?c1 ?c2 Hb2.out.size ?_; (case c1 => simp [go_sem]); (case c2 => omega); intro A3 c3 w3 own3 hg3)
      have hb3 := below_grown Hb2.out hg3 (Nat.le_refl _) (fun j hj => (Hob.out j hj).1)
      have hs3 := SlI.of_own (l := out ++ [t]) own3
      have Hb3 := Lib.hid hb3
      clear hg3 own2 hb3
      refine (impl_IsTermList _ (n + 1) c3 _ (out ++ [t]) _ Hol1.out hs3 (by omega)).mono ?_
      rintro e w4 ⟨rfl, rfl⟩
      cases hg : good (out ++ [t])
      · have hE := retT_no (w := w) (Hbad.out hg) Hb3.out
        have HE := Lib.hid hE
        clear hE hg hs3 own3
        go_wp2
        go_ret2
        exact HE.out
      · have hn9 : n ≤ 9 := by have := (good_iff.1 hg).1; have := Hol1.out; omega
        have HE := Lib.hid (Hmore.out hg)
        clear hg hs3
        go_wp2
        go_roundw
        case rel => exact ⟨f', n + 1, de, r, out ++ [t], A3, c3, by omega, by omega, Hol1.out, ⟨by omega, de2⟩, ⟨Hr2.out.1, by have := Hr2.out.2; omega⟩, rfl, rfl, rfl, own3, Hb3.out, HE.out.symm⟩
        case measure => simp [lenS]; omega

set_option maxRecDepth 100000 in
set_option maxHeartbeats 3200000 in
theorem spec_ctMinus (num den : Int) (w : World) (hn : 0 ≤ num ∧ num ≤ 819628286980801) (hd : 1 ≤ den ∧ den ≤ 819628286980801) :
    Calls Try.prog 65 #[.int .i64 num, .int .i64 den] w (RetI w (tmR (tmF upI 12 num den [])) (tmF upI 12 num den []).isSome) := by
  obtain ⟨R, hR⟩ : ∃ R, tmF upI 12 num den [] = R := ⟨_, rfl⟩
  rw [hR]
  have HR := Lib.hid hR
  have Hn := Lib.hid hn
  have Hd := Lib.hid hd
  clear hR hn hd
  go_enter Try.func65, Try.ntmps65
  go_wp2
  go_loopw [0, 1, 6, 7, 8] (fun p q v _ _ wr => ∃ (f n : Nat) (nu de : Int) (out : List Int) (A' : Option Addr) (c' : Nat), n ≤ 10 ∧ n + f = 12 ∧ out.length = n ∧ (0 ≤ nu ∧ nu ≤ 819628286980801) ∧ (1 ≤ de ∧ de ≤ 819628286980801) ∧ p = .int .i64 nu ∧ q = .int .i64 de ∧ v = .slice A' n c' ∧
      wr.ownsRow w.heap.size 3 1 (.slice A' n c') n (ics out) ∧ Below w.heap.size w wr ∧ tmF upI f nu de out = R) (fun _ _ v _ _ _ => 12 - lenS v)
  case atStart => exact ⟨12, 0, num, den, [], none, 0, by omega, rfl, rfl, Hn.out, Hd.out, rfl, rfl, rfl, World.ownsRow_nil _ _ _ _, Below.refl _ _, HR.out⟩
  case round =>
    clear HR Hn Hd
    obtain ⟨f, n, nu, de, out, A', c', hn10, hf, hol, ⟨nu1, nu2⟩, ⟨de1, de2⟩, rfl, rfl, rfl, ho, hb, hR⟩ := hrel
    obtain ⟨f', rfl⟩ : ∃ f', f = f' + 1 := ⟨f - 1, by omega⟩
    have hob := ho.lt
    have Hob := Lib.hid hob
    have hsz := hb.size
    clear hob
    have hbad := tmF_bad upI f' nu de out (by omega)
    have hmore := tmF_more upI f' nu de out (by omega)
    rw [hR] at hbad hmore
    obtain ⟨u1, u2, u3, u4, u5⟩ := up_bd ⟨nu1, nu2⟩ (show 1 ≤ de ∧ de ≤ 819628286980801 by omega)
    have d3 : ¬ de = 0 := by omega
    have d4 : (de == 0) = false := by rw [beq_eq_false_iff_ne]; omega
    have s1 : 0 ≤ nu + de - 1 := by omega
    have e1 : (upI nu de).1 = (nu + de - 1) / de := rfl
    have e2 : (upI nu de).2 = (nu + de - 1) / de * de - nu := rfl
    rw [e1] at hbad hmore
    rw [e2] at hmore
    have Hbad := Lib.hid hbad
    have Hmore := Lib.hid hmore
    have Ho := Lib.hid ho
    have Hb := Lib.hid hb
    have Hol := Lib.hid hol
    have Hol1 : Hid ((out ++ [(nu + de - 1) / de]).length = n + 1) := Lib.hid (by rw [List.length_append, hol]; rfl)
    clear hbad hmore e1 e2 hR ho hb hol
    have own2 := Ho.out.alloc (.cells #[.int .i64 ((nu + de - 1) / de)] 3)
    have hb2 := Hb.out.alloc hsz (.cells #[.int .i64 ((nu + de - 1) / de)] 3)
    have Hb2 := Lib.hid hb2
    clear hb2
    go_wp2_with (at_builtin; refine append1In _ rfl _ _ rfl w.heap.size (.slice A' n c') n out Hol.out rfl own2 wr.heap.size ((nu + de - 1) / de) rfl ?c1 ?c2 Hb2.out.size ?_; (case c1 => simp [go_sem]); (case c2 => omega); intro A3 c3 w3 own3 hg3)
    have hb3 := below_grown Hb2.out hg3 (Nat.le_refl _) (fun j hj => (Hob.out j hj).1)
    have hs3 := SlI.of_own (l := out ++ [(nu + de - 1) / de]) own3
    have Hb3 := Lib.hid hb3
    clear hg3 own2 hb3
    refine (spec_ctGood _ (n + 1) c3 _ (out ++ [(nu + de - 1) / de]) _ Hol1.out hs3 (by omega)).mono ?_
    rintro e w4 ⟨rfl, rfl⟩
    cases hg : good (out ++ [(nu + de - 1) / de])
    · have hE := retT_no (w := w) (Hbad.out hg) Hb3.out
      have HE := Lib.hid hE
      clear hE hg hs3 own3
      go_wp2
      go_ret2
      exact HE.out
    · have hn9 : n ≤ 9 := by have := (good_iff.1 hg).1; have := Hol1.out; omega
      have hE := Hmore.out hg
      clear hg hs3
      by_cases h0 : (nu + de - 1) / de * de - nu = 0
      · obtain ⟨f2, rfl⟩ : ∃ f2, f' = f2 + 1 := ⟨f' - 1, by omega⟩
        rw [h0, tmF_zero] at hE
        have hF := retT_yes (w := w) hE Hol1.out own3 Hb3.out
        have HF := Lib.hid hF
        have h0b : ((nu + de - 1) / de * de - nu == 0) = true := by rw [h0]; rfl
        clear hE hF own3 h0
        go_wp2
        go_ret2
        exact HF.out
      · have h0b : ((nu + de - 1) / de * de - nu == 0) = false := by rw [beq_eq_false_iff_ne]; exact h0
        have HE := Lib.hid hE
        have r1 : 1 ≤ (nu + de - 1) / de * de - nu := by omega
        clear hE
        go_wp2
        go_roundw
        case rel => exact ⟨f', n + 1, de, _, _, A3, c3, by omega, by omega, Hol1.out, ⟨by omega, de2⟩, ⟨r1, by omega⟩, rfl, rfl, rfl, own3, Hb3.out, HE.out.symm⟩
        case measure => simp [lenS]; omega
end Go.Proofs.Ytaifgfmkkgndkaa
