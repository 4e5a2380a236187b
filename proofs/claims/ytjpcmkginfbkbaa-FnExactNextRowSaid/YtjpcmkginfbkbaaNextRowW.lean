/- NextRow: the model's and the program's contract, and the law's walk. -/
import Derived.Test.YtjpcmkginfbkbaaBandB
import Derived.Test.YtjpcmkginfbkbaaNextRowC
namespace Go.Proofs.Ytjpcmkginfbkbaa
set_option linter.unusedVariables false
open Go.RowKit

def preN (a r : List Int) : Bool := poB r.length && decide (a.length = r.length) && allB a 1 10000 && allB r 1 10000
def okX (a r : List Int) : Bool := preN a r && nextOk a r
def nxR (a r : List Int) : List Int := if preN a r = true then nextL a r else []
theorem poB_iff {n : Nat} : poB n = true ↔ 3 ≤ n ∧ n ≤ 12 := by unfold poB; simp; omega
theorem preN_iff {a r : List Int} : preN a r = true ↔ (3 ≤ r.length ∧ r.length ≤ 12) ∧ a.length = r.length ∧ allB a 1 10000 = true ∧ allB r 1 10000 = true := by
  unfold preN
  rw [Bool.and_eq_true, Bool.and_eq_true, Bool.and_eq_true, poB_iff, decide_eq_true_eq, and_assoc, and_assoc]
theorem nxR_length (a r : List Int) : (nxR a r).length ≤ 1000000000 := by
  unfold nxR nextL
  split
  · rename_i h
    have := (preN_iff.1 h).1
    split
    · rw [xsN_length]; omega
    · simp
  · simp
theorem retX_no {a r : List Int} {w w' : World} (h : preN a r = false) (hb : Below w.heap.size w w') : RetI w (nxR a r) (okX a r) (.returned (.tuple #[.slice none 0 0, .bool false])) w' := by
  unfold nxR okX
  rw [h]
  exact ⟨none, 0, rfl, World.ownsRow_nil _ _ _ _, hb⟩
theorem retX_yes {a r : List Int} {w w' : World} {e : Ending} (h : preN a r = true) (hr : RetI w (nextL a r) (nextOk a r) e w') : RetI w (nxR a r) (okX a r) e w' := by
  unfold nxR okX
  rw [h]
  exact hr
theorem retI_below {w w1 w' : World} {L : List Int} {ok : Bool} {e : Ending} (hb : Below w.heap.size w w1) (h : RetI w1 L ok e w') : RetI w L ok e w' := by
  obtain ⟨A, c, e1, o, b⟩ := h
  exact ⟨A, c, e1, o.mono hb.size, below_kept hb (Nat.le_refl _) b⟩

set_option maxRecDepth 100000 in
set_option maxHeartbeats 1600000 in
theorem spec_NextRow (A0 : Option Addr) (c0 : Nat) (A1 : Option Addr) (c1 B : Nat) (a r : List Int) (w : World) (h0 : SlI w B A0 a) (hl0 : a.length ≤ 1048576) (h1 : SlI w B A1 r) (hl1 : r.length ≤ 1048576) (hB : B ≤ w.heap.size) :
    Calls Try.prog 43 #[.slice A0 a.length c0, .slice A1 r.length c1] w (RetI w (nxR a r) (okX a r)) := by
  have hzero := Below.refl w.heap.size w
  by_cases hl : a.length = r.length
  · obtain ⟨n, hn⟩ : ∃ n, n = r.length := ⟨_, rfl⟩
    have hna : a.length = n := by omega
    have hnr : r.length = n := hn.symm
    have C1 : Hid (∀ w, SlI w B A0 a → Calls Try.prog 70 #[.slice A0 n c0, .int .i64 1, .int .i64 10000] w fun e w' => e = .returned (.bool (allB a 1 10000)) ∧ w = w') := Lib.hid fun w h => by
      have := spec_l1All A0 c0 B a 1 10000 w h (by omega)
      rwa [hna] at this
    have C2 : Hid (∀ w, SlI w B A1 r → Calls Try.prog 70 #[.slice A1 n c1, .int .i64 1, .int .i64 10000] w fun e w' => e = .returned (.bool (allB r 1 10000)) ∧ w = w') := Lib.hid fun w h => by
      have := spec_l1All A1 c1 B r 1 10000 w h (by omega)
      rwa [hnr] at this
    have C3 : Hid (3 ≤ n → n ≤ 12 → rowB a → rowB r → Calls Try.prog 71 #[.slice A0 n c0, .slice A1 n c1] w (RetI w (nextL a r) (nextOk a r))) := Lib.hid fun k1 k2 k3 k4 => by
      have := spec_frNext A0 c0 A1 c1 B a r w h0 h1 hB hl (by omega) (by omega) k3 k4
      rwa [hna, hnr] at this
    have P : Hid (preN a r = true ↔ (3 ≤ n ∧ n ≤ 12) ∧ a.length = r.length ∧ allB a 1 10000 = true ∧ allB r 1 10000 = true) := Lib.hid (by rw [preN_iff, hnr])
    have HL := Lib.hid hl
    have H0 := Lib.hid h0
    have H1 := Lib.hid h1
    rw [hna, hnr]
    have hn20 : n ≤ 1048576 := by omega
    clear hna hnr hn hl hl0 hl1 h0 h1
    go_enter Try.func43, Try.ntmps43
    go_wp2_with fail
    refine (spec_l1In' _ _ _ _).mono ?_
    rintro e w1 ⟨rfl, rfl⟩
    cases hp : inB n 3 12
    · have hres := retX_no (a := a) (r := r) (by rw [Bool.eq_false_iff]; intro e; have := (P.out.1 e).1; rw [inB_iff'.2 ⟨by omega, by omega⟩] at hp; cases hp) hzero
      have Hres := Lib.hid hres
      clear hres hzero
      go_wp2
      go_ret2
      exact Hres.out
    · obtain ⟨n3, n12⟩ := inB_iff'.1 hp
      go_wp2_with fail
      refine (C1.out _ H0.out).mono ?_
      rintro e w1 ⟨rfl, rfl⟩
      cases ha : allB a 1 10000
      · have hres := retX_no (a := a) (r := r) (by rw [Bool.eq_false_iff]; intro e; have := (P.out.1 e).2.2.1; rw [ha] at this; cases this) hzero
        have Hres := Lib.hid hres
        clear hres hzero
        go_wp2
        go_ret2
        exact Hres.out
      · go_wp2_with fail
        refine (C2.out _ H1.out).mono ?_
        rintro e w1 ⟨rfl, rfl⟩
        cases hr : allB r 1 10000
        · have hres := retX_no (a := a) (r := r) (by rw [Bool.eq_false_iff]; intro e; have := (P.out.1 e).2.2.2; rw [hr] at this; cases this) hzero
          have Hres := Lib.hid hres
          clear hres hzero
          go_wp2
          go_ret2
          exact Hres.out
        · have hpre := P.out.2 ⟨⟨by omega, by omega⟩, HL.out, ha, hr⟩
          have Hpre := Lib.hid hpre
          have Ra := Lib.hid (rowB_of ha (by omega))
          have Rr := Lib.hid (rowB_of hr (by omega))
          clear hpre P ha hr hp
          go_wp2_with fail
          refine (C3.out (by omega) (by omega) Ra.out Rr.out).mono ?_
          rintro e w2 hret
          have hx := retX_yes Hpre.out hret
          obtain ⟨A2, c2, rfl, o2, b2⟩ := hret
          have Hx := Lib.hid hx
          clear hx o2
          cases hok : nextOk a r
          · rw [hok] at Hx
            have he : nextL a r = [] := by unfold nextL; rw [hok]; rfl
            have Hno : Hid (RetI w (nxR a r) (okX a r) (.returned (.tuple #[.slice none 0 0, .bool false])) w2) := Lib.hid (by
              have h1 : okX a r = false := by unfold okX; rw [hok, Bool.and_false]
              have h2 : nxR a r = [] := by unfold nxR; rw [if_pos Hpre.out, he]
              rw [h1, h2]
              exact ⟨none, 0, rfl, World.ownsRow_nil _ _ _ _, b2⟩)
            clear Hx he b2
            generalize (nextL a r).length = z at *
            go_wp2
            go_ret2
            exact Hno.out
          · rw [hok] at Hx
            clear b2
            generalize (nextL a r).length = z at *
            go_wp2
            go_ret2
            exact Hx.out
  · have hres := retX_no (a := a) (r := r) (by rw [Bool.eq_false_iff]; intro e; exact hl (preN_iff.1 e).2.1) hzero
    have Hres := Lib.hid hres
    have hne : ¬ ((a.length : Int) = (r.length : Int)) := by omega
    clear hres hzero hl h0 h1
    go_enter Try.func43, Try.ntmps43
    go_wp2_with fail
    refine (spec_l1In' _ _ _ _).mono ?_
    rintro e w1 ⟨rfl, rfl⟩
    cases hp : inB r.length 3 12
    · go_wp2
      go_ret2
      exact Hres.out
    · go_wp2
      go_ret2
      exact Hres.out

set_option maxRecDepth 100000 in
set_option maxHeartbeats 3200000 in
theorem impl_NextRow (A0 : Option Addr) (c0 : Nat) (A1 : Option Addr) (c1 B : Nat) (a r : List Int) (w : World) (h0 : SlI w B A0 a) (hl0 : a.length ≤ 1048576) (h1 : SlI w B A1 r) (hl1 : r.length ≤ 1048576) (hB : B ≤ w.heap.size) :
    Calls Try.prog 44 #[.slice A0 a.length c0, .slice A1 r.length c1] w (RetI w (nxR a r) (okX a r)) := by
  have hzero := Below.refl w.heap.size w
  by_cases hl : a.length = r.length
  · obtain ⟨n, hn⟩ : ∃ n, n = r.length := ⟨_, rfl⟩
    have hna : a.length = n := by omega
    have hnr : r.length = n := hn.symm
    have C1 : Hid (∀ w, SlI w B A0 a → B ≤ w.heap.size → Calls Try.prog 72 #[.slice A0 n c0, .int .i64 10000] w fun e w' => e = .returned (.bool (isRowB a 10000)) ∧ Below w.heap.size w w') := Lib.hid fun w h hB => by
      have := impl_isRow A0 c0 B a 10000 w h hB hl0
      rwa [hna] at this
    have C2 : Hid (∀ w, SlI w B A1 r → B ≤ w.heap.size → Calls Try.prog 72 #[.slice A1 n c1, .int .i64 10000] w fun e w' => e = .returned (.bool (isRowB r 10000)) ∧ Below w.heap.size w w') := Lib.hid fun w h hB => by
      have := impl_isRow A1 c1 B r 10000 w h hB hl1
      rwa [hnr] at this
    have C3 : Hid (∀ w, SlI w B A0 a → B ≤ w.heap.size → n ≤ 12 → Calls Try.prog 74 #[.slice A0 n c0] w fun e w' => e = .returned (.agg (ics (pad a)).toArray) ∧ Below w.heap.size w w') := Lib.hid fun w h hB k => by
      have := impl_bandOf A0 c0 B a w h hB (by omega)
      rwa [hna] at this
    have C4 : Hid (∀ w, SlI w B A1 r → B ≤ w.heap.size → n ≤ 12 → Calls Try.prog 74 #[.slice A1 n c1] w fun e w' => e = .returned (.agg (ics (pad r)).toArray) ∧ Below w.heap.size w w') := Lib.hid fun w h hB k => by
      have := impl_bandOf A1 c1 B r w h hB (by omega)
      rwa [hnr] at this
    have C5 : Hid (∀ w, 3 ≤ n → n ≤ 12 → rowB a → rowB r → Calls Try.prog 73 #[.int .i64 n, .agg (ics (pad a)).toArray, .agg (ics (pad r)).toArray] w (BelowEnd a r w)) := Lib.hid fun w k1 k2 k3 k4 => by
      have := impl_bandBelow a r w hl (by omega) (by omega) k3 k4
      rwa [hnr] at this
    have Pa : Hid (isRowB a 10000 = (poB n && allB a 1 10000)) := Lib.hid (by unfold isRowB; rw [hna])
    have Pr : Hid (isRowB r 10000 = (poB n && allB r 1 10000)) := Lib.hid (by unfold isRowB; rw [hnr])
    have P : Hid (preN a r = (poB n && allB a 1 10000 && allB r 1 10000)) := Lib.hid (by unfold preN; rw [hnr, decide_eq_true hna, Bool.and_true])
    have Hout : Hid (nextOk a r = true → (outN a r).take n = xsN a r n ∧ nextL a r = xsN a r n) := Lib.hid fun h => by
      unfold outN nextL
      rw [h, if_pos rfl, if_pos rfl, hnr]
      have := pad_take (xsN a r n)
      rw [xsN_length] at this
      exact ⟨this, rfl⟩
    have Hol : Hid (n ≤ 12 → (outN a r).length = 12) := Lib.hid fun k => by
      unfold outN
      split
      · rw [hnr]
        exact pad_length _ (by rw [xsN_length]; exact k)
      · rfl
    have H0 := Lib.hid h0
    have H1 := Lib.hid h1
    rw [hna, hnr]
    have hn20 : n ≤ 1048576 := by omega
    clear hna hnr hn hl hl0 hl1 h0 h1
    go_enter Try.func44, Try.ntmps44
    go_wp2_with fail
    refine (C1.out _ H0.out hB).mono ?_
    rintro e w1 ⟨rfl, hb1⟩
    cases ha : isRowB a 10000
    · have hres := retX_no (a := a) (r := r) (by rw [Pa.out] at ha; rw [P.out, ha, Bool.false_and]) hb1
      have Hres := Lib.hid hres
      clear hres hzero hb1
      go_wp2
      go_ret2
      exact Hres.out
    · have Hb1 := Lib.hid hb1
      clear hb1 hzero
      go_wp2_with fail
      refine (C2.out _ (H1.out.below (Hb1.out.mono hB)) (Nat.le_trans hB Hb1.out.size)).mono ?_
      rintro e w2 ⟨rfl, hb2⟩
      have hd2 := below_kept Hb1.out (Nat.le_refl _) hb2
      clear hb2
      cases hr : isRowB r 10000
      · have hres := retX_no (a := a) (r := r) (by
          rw [Pa.out, Bool.and_eq_true] at ha
          rw [Pr.out, ha.1, Bool.true_and] at hr
          rw [P.out, hr, Bool.and_false]) hd2
        have Hres := Lib.hid hres
        clear hres hd2
        go_wp2
        go_ret2
        exact Hres.out
      · have ha' := ha
        have hr' := hr
        rw [Pa.out, Bool.and_eq_true] at ha'
        rw [Pr.out, Bool.and_eq_true] at hr'
        obtain ⟨hp, ha'⟩ := ha'
        have hr' := hr'.2
        have hpre : preN a r = true := by rw [P.out, hp, ha', hr']; rfl
        obtain ⟨n3, n12⟩ := poB_iff.1 hp
        have Hpre := Lib.hid hpre
        have Ra := Lib.hid (rowB_of ha' (by omega))
        have Rr := Lib.hid (rowB_of hr' (by omega))
        have Hd2 := Lib.hid hd2
        clear hpre hp ha' hr' ha hr hd2 P Pa Pr C1 C2
        go_wp2_with fail
        refine (C3.out _ (H0.out.below (Hd2.out.mono hB)) (Nat.le_trans hB Hd2.out.size) n12).mono ?_
        rintro e w3 ⟨rfl, hb3⟩
        have Hd3 := Lib.hid (below_kept Hd2.out (Nat.le_refl _) hb3)
        clear hb3
        go_wp2_with fail
        refine (C4.out _ (H1.out.below (Hd3.out.mono hB)) (Nat.le_trans hB Hd3.out.size) n12).mono ?_
        rintro e w4 ⟨rfl, hb4⟩
        have Hd4 := Lib.hid (below_kept Hd3.out (Nat.le_refl _) hb4)
        clear hb4
        go_wp2_with fail
        refine (C5.out _ n3 n12 Ra.out Rr.out).mono ?_
        rintro e w5 ⟨rfl, hb5⟩
        have hd5 := below_kept Hd4.out (Nat.le_refl _) hb5
        have hwn : w.heap.size ≤ w5.heap.size := hd5.size
        have HZ : Hid (Blk (w5.alloc (.cells (ics (List.replicate 12 0)).toArray 62)) w5.heap.size 62 (List.replicate 12 0)) := Lib.hid (Blk.new _ _ _)
        have HB : Hid (Below w.heap.size w (w5.alloc (.cells (ics (List.replicate 12 0)).toArray 62))) := Lib.hid (hd5.alloc hwn _)
        clear hb5 hd5 Hd2 Hd3 Hd4
        cases hok : nextOk a r
        · have Hno : ∀ w', Below w.heap.size w w' → RetI w (nxR a r) (okX a r) (.returned (.tuple #[.slice none 0 0, .bool false])) w' := fun w' b => by
            have h1 : okX a r = false := by unfold okX; rw [hok, Bool.and_false]
            have h2 : nxR a r = [] := by unfold nxR nextL; rw [hok]; simp
            rw [h1, h2]
            exact ⟨none, 0, rfl, World.ownsRow_nil _ _ _ _, b⟩
          have HNo := Lib.hid Hno
          clear Hno
          go_wp2_with (first
            | (refine wpList_store_band rfl (.tmp 7) (.tmp 32) rfl rfl w5.heap.size (outN a r) rfl rfl 62 (List.replicate 12 0) HZ.out rfl (Hol.out n12) ?_
               intro w6 h6 g6
               have Hb6 := Lib.hid (below_grown HB.out g6 (Nat.le_refl _) (fun k hk => by injection hk with hk; omega))
               clear g6 HZ HB h6))
          go_ret2
          exact HNo.out _ Hb6.out
        · obtain ⟨ht, hL⟩ := Hout.out hok
          have Ht := Lib.hid ht
          have Hyes : Hid (∀ e w', RetI w (xsN a r n) true e w' → RetI w (nxR a r) (okX a r) e w') := Lib.hid fun e w' hh => by
            refine retX_yes Hpre.out ?_
            rw [hok, hL]
            exact hh
          clear ht hL Hout
          have n1 : (n : Int) ≤ 12 := by omega
          have n0 : (0 : Int) ≤ (n : Int) := by omega
          go_wp2_with (first
            | (refine wpList_store_band rfl (.tmp 7) (.tmp 32) rfl rfl w5.heap.size (outN a r) rfl rfl 62 (List.replicate 12 0) HZ.out rfl (Hol.out n12) ?_
               intro w6 h6 g6
               have Hb6 := Lib.hid (below_grown HB.out g6 (Nat.le_refl _) (fun k hk => by injection hk with hk; omega))
               have H6 := Lib.hid (Band.of_heap (base := w.heap.size) h6 (Hol.out n12) hwn)
               clear g6 HZ HB h6))
          have hsl := H6.out.sl n n12
          rw [Ht.out] at hsl
          refine (slices_Clone_n (some ⟨w5.heap.size, 0, none⟩) n 12 w6.heap.size (xsN a r n) _ (xsN_length a r n) hsl (Nat.le_refl _) (by omega) (by omega)).mono ?_
          rintro e w7 ⟨A7, c7, rfl, o7, b7⟩
          have hE := Hyes.out (.returned (.tuple #[.slice A7 (xsN a r n).length c7, .bool true])) w7 ⟨A7, c7, rfl, o7.mono Hb6.out.size, below_kept Hb6.out (Nat.le_refl _) b7⟩
          have HE := Lib.hid hE
          clear hE o7 b7 hsl
          generalize (xsN a r n).length = z at *
          go_wp2
          go_ret2
          exact HE.out
  · have hres := retX_no (a := a) (r := r) (by rw [Bool.eq_false_iff]; intro e; exact hl (preN_iff.1 e).2.1) hzero
    have Hres := Lib.hid hres
    have hne : ¬ ((a.length : Int) = (r.length : Int)) := by omega
    clear hres hzero hl h0 h1
    go_enter Try.func44, Try.ntmps44
    go_wp2
    go_ret2
    exact Hres.out

theorem WNextRow.walk (w : World) (A0 : Option Addr) (c0 : Nat) (l0 : List Int) (h0 : SlI w w.heap.size A0 l0) (hj0 : l0.length ≤ c0 ∧ c0 ≤ maxLen ∧ ∀ x ∈ l0, (Lit.int .i64 x).wf = true)
    (A1 : Option Addr) (c1 : Nat) (l1 : List Int) (h1 : SlI w w.heap.size A1 l1) (hj1 : l1.length ≤ c1 ∧ c1 ≤ maxLen ∧ ∀ x ∈ l1, (Lit.int .i64 x).wf = true) :
    Calls Try.prog 12 #[.slice A0 l0.length c0, .slice A1 l1.length c1] w fun e w' => e = .returned (.bool true) ∧ Below w.heap.size w w' :=
  WNextRow.core w A0 c0 l0 A1 c1 l1 h0 hj0.1 hj0.2.1 h1 hj1.1 hj1.2.1 (nxR l0 l1) (okX l0 l1) (nxR_length l0 l1)
    (Lib.hid fun A0 c0 A1 c1 w h0 hl0 _ h1 hl1 _ => spec_NextRow A0 c0 A1 c1 _ l0 l1 w h0 hl0 h1 hl1 (Nat.le_refl _))
    (Lib.hid fun A0 c0 A1 c1 w h0 hl0 _ h1 hl1 _ => impl_NextRow A0 c0 A1 c1 _ l0 l1 w h0 hl0 h1 hl1 (Nat.le_refl _))
end Go.Proofs.Ytjpcmkginfbkbaa
