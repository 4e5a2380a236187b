/- ReduceOnes: the model's and the program's contract, and the law's walk. -/
import Derived.Test.YtkekjcfhkecggabPutT
import Derived.Test.YtkekjcfhkecggabPutU
import Derived.Test.YtkekjcfhkecggabRedM
import Derived.Test.YtkekjcfhkecggabReduceOnesC
import Derived.WalkSpells
import Derived.Lib.LazyBuf
namespace Go.Proofs.Ytkekjcfhkecggab
set_option linter.unusedVariables false
open Go.RowKit

def lenV : Value → Nat
  | .slice _ n _ => n
  | _ => 0
theorem slices_Clone_at (A : Option Addr) (n c B : Nat) (l : List Int) (w : World) (hn : l.length = n) (h : SlI w B A l) (hB : B ≤ w.heap.size) (hl : n ≤ 1000000) :
    Calls Try.prog 38 #[.slice A n c] w fun e w' => ∃ A' c', e = .returned (.slice A' n c') ∧ w'.ownsRow w.heap.size 3 1 (.slice A' n c') n (ics l) ∧ Below w.heap.size w w' := by
  cases A with
  | none =>
    have h0 : n = 0 := by
      rcases Nat.eq_zero_or_pos n with e | e
      · exact e
      · obtain ⟨b, off, he, _⟩ := h (by omega)
        cases he
    subst h0
    obtain rfl : l = [] := List.eq_nil_of_length_eq_zero hn
    have he : ∀ w : World, (binOp .eql 22 (.slice none 0 c) (.slice none 0 0)).run Try.prog w = .ok (.bool true) w := fun w => Lib.run_eql_slice_nil w 22 3 none 0 c 0 0 Try.underlying22
    have hE : ∃ A' c', Ending.returned (.slice none 0 0) = .returned (.slice A' 0 c') ∧ w.ownsRow w.heap.size 3 1 (.slice A' 0 c') 0 (ics []) ∧ Below w.heap.size w w := ⟨none, 0, rfl, World.ownsRow_nil _ _ _ _, Below.refl _ _⟩
    have HE := Lib.hid hE
    clear hE h hn
    go_enter Try.func38, Try.ntmps38
    go_wp2
    go_ret
    exact HE.out
  | some ad =>
    have he : ∀ w : World, (binOp .eql 22 (.slice (some ad) n c) (.slice none 0 0)).run Try.prog w = .ok (.bool false) w := fun w => Lib.run_eql_slice_nil w 22 3 (some ad) n c 0 0 Try.underlying22
    have own0 := own_madeI w (B := w.heap.size) (Nat.le_refl _)
    have hb0 : Below w.heap.size w (w.alloc (.cells #[] 3)) := (Below.refl w.heap.size w).alloc (Nat.le_refl _) _
    have Hs := Lib.hid (h.below (hb0.mono hB))
    have Hn := Lib.hid hn
    have Hb0 := Lib.hid hb0
    clear hn h hb0
    go_enter Try.func38, Try.ntmps38
    go_wp2_with (at_builtin; refine wpList_appendNI _ rfl _ _ rfl w.heap.size (.slice (some ⟨w.heap.size, 0, none⟩) 0 0) 0 [] rfl rfl own0 (some ad) n c l B n (Nat.zero_add n).symm rfl Hn.out Hs.out (by omega) hl Hb0.out.size ?_; intro A3 c3 w3 own3 hg3)
    have hb3 := Hb0.out.grown hg3 Hb0.out.size (above_blk (Nat.le_refl _))
    have hE : ∃ A' c', Ending.returned (.slice A3 n c3) = .returned (.slice A' n c') ∧ w3.ownsRow w.heap.size 3 1 (.slice A' n c') n (ics l) ∧ Below w.heap.size w w3 := ⟨A3, c3, rfl, own3, hb3⟩
    have HE := Lib.hid hE
    clear hE own3 hg3 hb3 own0 he
    go_wp2
    go_ret
    exact HE.out

def FoEnd (l : List Int) (w : World) (e : Ending) (w' : World) : Prop := e = .returned (.tuple #[.int .i64 (f1I l), .bool (f1B l)]) ∧ w = w'
set_option maxHeartbeats 800000 in
theorem impl_firstInnerOne (A : Option Addr) (n c B : Nat) (l : List Int) (w : World) (hn : l.length = n) (hl : n ≤ 1000) (h : SlI w B A l) :
    Calls Try.prog 39 #[.slice A n c] w (FoEnd l w) := by
  have Hn := Lib.hid hn
  have hyes : ∀ k : Nat, first1 l = some k → FoEnd l w (.returned (.tuple #[.int .i64 k, .bool true])) w := fun k e => by unfold FoEnd f1I f1B; rw [e]; exact ⟨rfl, rfl⟩
  have hno : first1 l = none → FoEnd l w (.returned (.tuple #[.int .i64 0, .bool false])) w := fun e => by unfold FoEnd f1I f1B; rw [e]; exact ⟨rfl, rfl⟩
  have Hyes := Lib.hid hyes
  have Hno := Lib.hid hno
  have H := Lib.hid h
  clear hyes hno hn h
  go_enter Try.func39, Try.ntmps39
  go_wp2
  go_loop [4] (fun i => ∃ k : Nat, 1 ≤ k ∧ (k ≤ n ∨ k = 1) ∧ i = .int .i64 k ∧ f1 l k (n - 1 - k) = first1 l) (fun i => n + 2 - (intOf i).toNat)
  case atStart => exact ⟨1, Nat.le_refl _, .inr rfl, rfl, f1_start Hn.out⟩
  case round =>
    obtain ⟨k, hk1, hkn, rfl, hf⟩ := hrel
    by_cases hlt : k + 1 < n
    · obtain ⟨b, off, rfl, hb, hc⟩ := H.out (by have := Hn.out; omega)
      have g0 := hc k (by have := Hn.out; omega)
      have i0 : (0 : Int) ≤ (k : Int) := by omega
      have i1 : (k : Int) < (n : Int) := by omega
      have i2 : (k : Int) + 1 < (n : Int) := by omega
      by_cases hx : l.getD k 0 = 1
      · have hE := Hyes.out k (by rw [← hf]; exact f1_hit hlt hx)
        have HE := Lib.hid hE
        rw [hx] at g0
        clear hE hf hx hc
        go_wp2
        go_ret2
        exact HE.out
      · have hst : f1 l (k + 1) (n - 1 - (k + 1)) = first1 l := by rw [← f1_miss hlt hx]; exact hf
        have Hst := Lib.hid hst
        have hx' : (l.getD k 0 == 1) = false := by rw [beq_eq_false_iff_ne]; exact hx
        generalize l.getD k 0 = x at *
        clear hst hf hx hc
        go_wp2
        go_round
        case rel => exact ⟨k + 1, by omega, .inl (by omega), by go_num, Hst.out⟩
        case measure => simp [intOf]; omega
    · have hE := Hno.out (by rw [← hf]; exact f1_end (by omega))
      have HE := Lib.hid hE
      have i2 : ¬ (k : Int) + 1 < (n : Int) := by omega
      clear hE hf
      go_wp2
      go_ret2
      exact HE.out

theorem roR_no {l : List Int} (h : good l = false) : roR l = none := if_neg (by rw [h]; simp)
theorem roR_yes {l : List Int} (h : good l = true) : roR l = rdG (l.length + 1) l := if_pos h

set_option maxRecDepth 100000 in
set_option maxHeartbeats 3200000 in
theorem spec_ReduceOnes (A : Option Addr) (c B : Nat) (l0 : List Int) (w : World) (h : SlI w B A l0) (hB : B ≤ w.heap.size) (hl : l0.length ≤ 1048576) :
    Calls Try.prog 11 #[.slice A l0.length c] w (RetI w (optL (roR l0)) (roR l0).isSome) := by
  obtain ⟨n0, hn0⟩ : ∃ n, l0.length = n := ⟨_, rfl⟩
  rw [hn0] at hl ⊢
  have Hn0 := Lib.hid hn0
  go_enter Try.func11, Try.ntmps11
  go_wp2_with fail
  refine (spec_ctGood A _ c B l0 _ Hn0.out h hl).mono ?_
  rintro e w1 ⟨rfl, rfl⟩
  cases hg : good l0
  · have HE := Lib.hid (retO_no (R := roR l0) (w := w) (roR_no hg) (Below.refl _ _))
    clear h hn0 hg
    go_wp2
    go_ret2
    exact HE.out
  · have h10 := (good_iff.1 hg).1
    have HR := Lib.hid (roR_yes hg)
    have Hg := Lib.hid hg
    have hn10 : n0 ≤ 10 := by omega
    clear hn0 hg h10
    go_wp2_with fail
    refine (spec_l1Own_at A n0 c B l0 _ Hn0.out h hB (by omega)).mono ?_
    rintro e w2 ⟨A2, c2, rfl, o2, b2⟩
    have O2 := Lib.hid o2
    have B2 := Lib.hid b2
    generalize roR l0 = R at *
    have HR2 : Hid (R = rdG (n0 + 1) l0) := Lib.hid (by rw [HR.out, Hn0.out])
    clear h o2 b2 HR
    go_wp2
    go_loopw [4, 5, 6, 7] (fun v i _ _ wr => ∃ (k n f : Nat) (l : List Int) (A' : Option Addr) (c' : Nat), l.length = n ∧ n ≤ 10 ∧ Small l ∧ n + 1 ≤ f ∧ 1 ≤ k ∧ (k ≤ n ∨ k = 1) ∧ v = .slice A' n c' ∧ i = .int .i64 k ∧ f1 l k (n - 1 - k) = first1 l ∧ R = rdG f l ∧ wr.ownsRow w.heap.size 3 1 (.slice A' n c') n (ics l) ∧ Below w.heap.size w wr) (fun v i _ _ _ => lenV v * 20 + (20 - (intOf i).toNat))
    case atStart => exact ⟨1, n0, n0 + 1, l0, A2, c2, Hn0.out, hn10, good_small Hg.out, Nat.le_refl _, Nat.le_refl _, .inr rfl, rfl, rfl, f1_start Hn0.out, HR2.out, O2.out, B2.out⟩
    case round =>
      clear HR2 O2 B2
      obtain ⟨k, n, f, l, A', c', hln, hn10, hsm, hnf, hk1, hkn, rfl, rfl, hf1, hR, ho, hb⟩ := hrel
      obtain ⟨f', rfl⟩ : ∃ f', f = f' + 1 := ⟨f - 1, by omega⟩
      have Hln := Lib.hid hln
      have hs := SlI.of_own (l := l) (by exact ho)
      have hcap := own_capI ho
      by_cases hlt : k + 1 < n
      · obtain ⟨b', off, rfl, hbB, hc⟩ := hs (by omega)
        have g0 := hc k (by omega)
        have i0 : (0 : Int) ≤ (k : Int) := by omega
        have i1 : (k : Int) < (n : Int) := by omega
        have i2 : (k : Int) + 1 < (n : Int) := by omega
        have k10 : (k : Int) ≤ 20 := by omega
        by_cases hx : l.getD k 0 = 1
        · have hfs : first1 l = some k := by rw [← hf1]; exact f1_hit hlt hx
          have hR2 := hR.trans (rdG_some hfs)
          have HR2 := Lib.hid hR2
          have Hcall := Lib.hid (spec_ctTake (some ⟨b', off, none⟩) n c' wr.heap.size l k wr hln (SlI.of_own (l := l) ho) (Nat.le_refl _) hsm hn10 hcap hk1 hlt)
          have hlen2 : (takL l k).length = n - 1 := by rw [takL_length l k (by omega), hln]
          have Hlen2 := Lib.hid hlen2
          have hsz := hb.size
          have Hb := Lib.hid hb
          rw [hx] at g0
          clear hR hR2 hfs hx hc hs ho hln hsm hf1 hlen2 hb
          go_wp2_with fail
          refine Hcall.out.mono ?_
          rintro e w3 ⟨A3, c3, rfl, o3, b3⟩
          rw [Hlen2.out] at o3 ⊢
          have Hb3 := Lib.hid (below_kept Hb.out (Nat.le_refl _) b3)
          have Ho3 := Lib.hid (o3.mono hsz)
          clear o3 b3 g0
          cases hgd : good (takL l k)
          · have hE := retO_no (w := w) (HR2.out.trans (if_neg (by rw [hgd]; simp))) Hb3.out
            have HE := Lib.hid hE
            clear hE hgd
            go_wp2
            go_ret2
            exact HE.out
          · have HR3 := Lib.hid (HR2.out.trans (if_pos hgd))
            have Hsm3 := Lib.hid (good_small hgd)
            clear hgd
            go_wp2
            go_roundw
            case rel => exact ⟨1, n - 1, f', takL l k, A3, c3, Hlen2.out, by omega, Hsm3.out, by omega, Nat.le_refl _, .inr rfl, rfl, rfl, f1_start Hlen2.out, HR3.out, Ho3.out, Hb3.out⟩
            case measure => simp [intOf, lenV]; omega
        · have hst : f1 l (k + 1) (n - 1 - (k + 1)) = first1 l := by rw [← f1_miss hlt hx]; exact hf1
          have Hst := Lib.hid hst
          have hx' : (l.getD k 0 != 1) = true := by simpa using hx
          have HR1 := Lib.hid hR
          have Ho := Lib.hid ho
          have Hb := Lib.hid hb
          have Hsm := Lib.hid hsm
          generalize l.getD k 0 = x at *
          clear hst hf1 hx hc hs hR ho hb hsm hln
          go_wp2
          go_roundw
          case rel => exact ⟨k + 1, n, f' + 1, l, _, c', Hln.out, hn10, Hsm.out, hnf, by omega, .inl (by omega), rfl, by go_num, Hst.out, HR1.out, Ho.out, Hb.out⟩
          case measure => simp [intOf, lenV]; omega
      · have hfs : first1 l = none := by rw [← hf1]; exact f1_end (by omega)
        have hE := retO_yes (w := w) (hR.trans (rdG_none hfs)) hln ho hb
        have HE := Lib.hid hE
        have i2 : ¬ (k : Int) + 1 < (n : Int) := by omega
        have k10 : (k : Int) ≤ 20 := by omega
        clear hE hR hfs hf1 hs ho hb hln hsm
        go_wp2
        go_ret2
        exact HE.out

set_option maxRecDepth 100000 in
set_option maxHeartbeats 3200000 in
theorem impl_ReduceOnes (A : Option Addr) (c B : Nat) (l0 : List Int) (w : World) (h : SlI w B A l0) (hB : B ≤ w.heap.size) (hl : l0.length ≤ 1048576) :
    Calls Try.prog 13 #[.slice A l0.length c] w (RetI w (optL (roR l0)) (roR l0).isSome) := by
  obtain ⟨n0, hn0⟩ : ∃ n, l0.length = n := ⟨_, rfl⟩
  rw [hn0] at hl ⊢
  have Hn0 := Lib.hid hn0
  go_enter Try.func13, Try.ntmps13
  go_wp2_with fail
  refine (impl_IsTermList A _ c B l0 _ Hn0.out h hl).mono ?_
  rintro e w1 ⟨rfl, rfl⟩
  cases hg : good l0
  · have HE := Lib.hid (retO_no (R := roR l0) (w := w) (roR_no hg) (Below.refl _ _))
    clear h hn0 hg
    go_wp2
    go_ret2
    exact HE.out
  · have h10 := (good_iff.1 hg).1
    have HR := Lib.hid (roR_yes hg)
    have Hg := Lib.hid hg
    have hn10 : n0 ≤ 10 := by omega
    clear hn0 hg h10
    go_wp2_with fail
    refine (slices_Clone_at A n0 c B l0 _ Hn0.out h hB (by omega)).mono ?_
    rintro e w2 ⟨A2, c2, rfl, o2, b2⟩
    have Hs2 := Lib.hid (SlI.of_own (l := l0) o2)
    have O2 := Lib.hid o2
    have B2 := Lib.hid b2
    generalize roR l0 = R at *
    have HR2 : Hid (R = rdG (n0 + 1) l0) := Lib.hid (by rw [HR.out, Hn0.out])
    clear h o2 b2 HR
    go_wp2_with fail
    refine (impl_firstInnerOne A2 n0 c2 _ l0 _ Hn0.out (by omega) Hs2.out).mono ?_
    rintro e w3 ⟨rfl, rfl⟩
    obtain ⟨x0, hx0⟩ : ∃ x, f1I l0 = x := ⟨_, rfl⟩
    obtain ⟨y0, hy0⟩ : ∃ y, f1B l0 = y := ⟨_, rfl⟩
    rw [hx0, hy0]
    have Hx0 := Lib.hid hx0
    have Hy0 := Lib.hid hy0
    clear hx0 hy0
    go_wp2
    go_loopw [4, 5, 6, 7, 8] (fun v i fd _ _ wr => ∃ (n f : Nat) (x : Int) (y : Bool) (l : List Int) (A' : Option Addr) (c' : Nat), l.length = n ∧ n ≤ 10 ∧ Small l ∧ n + 1 ≤ f ∧ f1I l = x ∧ f1B l = y ∧ v = .slice A' n c' ∧ i = .int .i64 x ∧ fd = .bool y ∧ R = rdG f l ∧ wr.ownsRow w.heap.size 3 1 (.slice A' n c') n (ics l) ∧ Below w.heap.size w wr) (fun v _ _ _ _ _ => lenV v)
    case atStart => exact ⟨n0, n0 + 1, x0, y0, l0, A2, c2, Hn0.out, hn10, good_small Hg.out, Nat.le_refl _, Hx0.out, Hy0.out, rfl, rfl, rfl, HR2.out, O2.out, B2.out⟩
    case round =>
      clear HR2 O2 B2 Hx0 Hy0 Hs2
      obtain ⟨n, f, x, y, l, A', c', hln, hn10, hsm, hnf, hx, hy, rfl, rfl, rfl, hR, ho, hb⟩ := hrel
      obtain ⟨f', rfl⟩ : ∃ f', f = f' + 1 := ⟨f - 1, by omega⟩
      have hcap := own_capI ho
      have hsz := hb.size
      cases hf : first1 l with
      | none =>
        have hy1 : y = false := by rw [← hy]; unfold f1B; rw [hf]; rfl
        have hE := retO_yes (w := w) (hR.trans (rdG_none hf)) hln ho hb
        have HE := Lib.hid hE
        subst hy1
        clear hE hR hf hx hy ho hb hln hsm
        go_wp2
        go_ret2
        exact HE.out
      | some k =>
        have hy1 : y = true := by rw [← hy]; unfold f1B; rw [hf]; rfl
        have hx1 : x = (k : Int) := by rw [← hx]; unfold f1I; rw [hf]
        obtain ⟨hk1, hk2, hk3⟩ := first1_bd hf
        have hR2 := hR.trans (rdG_some hf)
        have hgl : good l = true := by
          unfold good
          rw [Bool.and_eq_true, decide_eq_true_eq, allB_iff]
          exact ⟨by omega, fun i hi => hsm.get i hi⟩
        have hto := toR_at hgl hk1 (by omega) hk3
        have HR2 := Lib.hid (hR2)
        have Hto := Lib.hid hto
        have Hcall := Lib.hid (impl_TakeOne A' n c' wr.heap.size l (k : Int) wr hln (SlI.of_own (l := l) (by exact ho)) (Nat.le_refl _) (by omega) hcap)
        have Hlen2 : Hid ((takL l k).length = n - 1) := Lib.hid (by rw [takL_length l k (by omega), hln])
        have Hb := Lib.hid hb
        have hn2 : 2 ≤ n := by omega
        subst hy1
        subst hx1
        clear hx hy hR hR2 hf ho hb hln hsm hk3 hgl hto
        go_wp2_with fail
        refine Hcall.out.mono ?_
        rintro e w3 ⟨A3, c3, rfl, o3, b3⟩
        cases hgd : good (takL l k)
        · have ht : toR l (k : Int) = none := Hto.out.trans (if_neg (by rw [hgd]; simp))
          rw [ht]
          have hE := retO_no (w := w) (HR2.out.trans (if_neg (by rw [hgd]; simp))) (below_kept Hb.out (Nat.le_refl _) b3)
          have HE := Lib.hid hE
          clear hE hgd ht o3 b3
          go_wp2
          go_ret2
          exact HE.out
        · have ht : toR l (k : Int) = some (takL l k) := Hto.out.trans (if_pos hgd)
          rw [ht] at o3 ⊢
          have hol : (optL (some (takL l k))).length = n - 1 := Hlen2.out
          rw [hol] at o3 ⊢
          have o4 : w3.ownsRow wr.heap.size 3 1 (.slice A3 (n - 1) c3) (n - 1) (ics (takL l k)) := o3
          have HR3 := Lib.hid (HR2.out.trans (if_pos hgd))
          have Hsm3 := Lib.hid (good_small hgd)
          have Hs3 := Lib.hid (SlI.of_own (l := takL l k) o4)
          have Ho3 := Lib.hid (o4.mono hsz)
          have Hb3 := Lib.hid (below_kept Hb.out (Nat.le_refl _) b3)
          clear hgd ht hol o3 o4 b3
          go_wp2_with fail
          refine (impl_firstInnerOne A3 (n - 1) c3 _ (takL l k) _ Hlen2.out (by omega) Hs3.out).mono ?_
          rintro e w4 ⟨rfl, rfl⟩
          obtain ⟨x1, hx1⟩ : ∃ x, f1I (takL l k) = x := ⟨_, rfl⟩
          obtain ⟨y1, hy1⟩ : ∃ y, f1B (takL l k) = y := ⟨_, rfl⟩
          rw [hx1, hy1]
          have Hx1 := Lib.hid hx1
          have Hy1 := Lib.hid hy1
          clear hx1 hy1
          go_wp2
          go_roundw
          case rel => exact ⟨n - 1, f', x1, y1, takL l k, A3, c3, Hlen2.out, by omega, Hsm3.out, by omega, Hx1.out, Hy1.out, rfl, rfl, rfl, HR3.out, Ho3.out, Hb3.out⟩
          case measure => simp [lenV]; omega

theorem WReduceOnes.walk (w : World) (A : Option Addr) (c : Nat) (l : List Int) (h : SlI w w.heap.size A l)
    (hj : l.length ≤ c ∧ c ≤ maxLen ∧ ∀ x ∈ l, (Lit.int .i64 x).wf = true) :
    Calls Try.prog 3 #[.slice A l.length c] w fun e w' => e = .returned (.bool true) ∧ Below w.heap.size w w' :=
  WReduceOnes.core w A c l h hj.1 hj.2.1 (optL (roR l)) (roR l).isSome (roR_length l)
    (Lib.hid fun A c w h hl hlc => spec_ReduceOnes A c _ l w h (Nat.le_refl _) hl)
    (Lib.hid fun A c w h hl hlc => impl_ReduceOnes A c _ l w h (Nat.le_refl _) hl)
end Go.Proofs.Ytkekjcfhkecggab
