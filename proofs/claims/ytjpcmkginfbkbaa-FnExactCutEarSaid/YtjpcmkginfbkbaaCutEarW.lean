/- CutEar: the model's and the program's contract, and the law's walk. -/
import Derived.Test.YtjpcmkginfbkbaaIsQuiddityW
import Derived.Test.YtjpcmkginfbkbaaCutEarC
import Derived.Test.YtjpcmkginfbkbaaClone
namespace Go.Proofs.Ytjpcmkginfbkbaa
set_option linter.unusedVariables false
open Go.RowKit

/-- there is an ear at this place of a quiddity of at least four numbers -/
def okC (q : List Int) (k : Int) : Bool := isQ q && decide (4 ≤ q.length) && inB k 0 ((q.length : Int) - 1) && decide (q.getD k.toNat 0 = 1)
theorem inBc_iff {n lo hi : Int} : inB n lo hi = true ↔ lo ≤ n ∧ n ≤ hi := by unfold inB; simp
theorem okC_iff {q : List Int} {k : Int} : okC q k = true ↔ isQ q = true ∧ 4 ≤ q.length ∧ (0 ≤ k ∧ k ≤ (q.length : Int) - 1) ∧ q.getD k.toNat 0 = 1 := by
  unfold okC
  rw [Bool.and_eq_true, Bool.and_eq_true, Bool.and_eq_true, inBc_iff, decide_eq_true_eq, decide_eq_true_eq, and_assoc, and_assoc]
def cutR (q : List Int) (k : Int) : List Int := if okC q k = true then cutL q k.toNat else []
theorem cutR_length (q : List Int) (k : Int) : (cutR q k).length ≤ 1000000000 := by
  unfold cutR
  split
  · rename_i h
    obtain ⟨hq, h4, ⟨h0, h1⟩, _⟩ := okC_iff.1 h
    have := isQ_len hq
    rw [cutL_length q k.toNat (by omega)]
    omega
  · simp
theorem retC_no {q : List Int} {k : Int} {w w' : World} (h : okC q k = false) (hb : Below w.heap.size w w') : RetI w (cutR q k) (okC q k) (.returned (.tuple #[.slice none 0 0, .bool false])) w' := by
  unfold cutR
  rw [h]
  exact ⟨none, 0, rfl, World.ownsRow_nil _ _ _ _, hb⟩

set_option maxRecDepth 100000 in
set_option maxHeartbeats 6400000 in
theorem spec_CutEar (A : Option Addr) (c B : Nat) (q : List Int) (i : Int) (w : World) (h : SlI w B A q) (hB : B ≤ w.heap.size) (hl : q.length ≤ 1048576) (hlc : q.length ≤ c) :
    Calls Try.prog 25 #[.slice A q.length c, .int .i64 i] w (RetI w (cutR q i) (okC q i)) := by
  go_enter Try.func25, Try.ntmps25
  go_wp2_with fail
  refine (spec_IsQuiddity A c B q _ h hB hl hlc).mono ?_
  rintro e w1 ⟨rfl, hb1⟩
  cases hq : isQ q
  · have hres := retC_no (q := q) (k := i) (by rw [Bool.eq_false_iff]; intro e; rw [(okC_iff.1 e).1] at hq; cases hq) hb1
    have Hres := Lib.hid hres
    clear hres h hb1
    go_wp2
    go_ret2
    exact Hres.out
  · obtain ⟨hn3, hn12⟩ := isQ_len hq
    by_cases h4 : (q.length : Int) < 4
    · have hres := retC_no (q := q) (k := i) (by rw [Bool.eq_false_iff]; intro e; have := (okC_iff.1 e).2.1; omega) hb1
      have Hres := Lib.hid hres
      clear hres h hb1
      go_wp2
      go_ret2
      exact Hres.out
    · have n0 : (4 : Int) ≤ (q.length : Int) := by omega
      have n1 : (q.length : Int) ≤ 12 := by omega
      go_wp2_with fail
      refine (spec_l1In' _ _ _ _).mono ?_
      rintro e w2 ⟨rfl, rfl⟩
      cases hi : inB i 0 ((q.length : Int) - 1)
      · have hres := retC_no (q := q) (k := i) (by rw [Bool.eq_false_iff]; intro e; have := (okC_iff.1 e).2.2.1; rw [inBc_iff.2 this] at hi; cases hi) hb1
        have Hres := Lib.hid hres
        clear hres h hb1
        go_wp2
        go_ret2
        exact Hres.out
      · obtain ⟨i0, i1⟩ := inBc_iff.1 hi
        obtain ⟨p, rfl⟩ := Int.eq_ofNat_of_zero_le i0
        have hs := h.below (hb1.mono hB)
        obtain ⟨b', off, rfl, hbB, hc⟩ := hs (by omega)
        have g0 := hc p (by omega)
        have p1 : (p : Int) < (q.length : Int) := by omega
        have hov : okC q (p : Int) = true ↔ isQ q = true ∧ 4 ≤ q.length ∧ (0 ≤ (p : Int) ∧ (p : Int) ≤ (q.length : Int) - 1) ∧ q.getD p 0 = 1 := okC_iff
        by_cases hx : q.getD p 0 = 1
        · have hok : okC q (p : Int) = true := hov.2 ⟨hq, by omega, ⟨i0, i1⟩, hx⟩
          have hfin : ∀ e w', RetI w (cutL q p) true e w' → RetI w (cutR q (p : Int)) (okC q (p : Int)) e w' := fun e w' hh => by
            unfold cutR
            rw [hok]
            exact hh
          have Hfin := Lib.hid hfin
          have Hget := Lib.hid (isQ_get hq)
          rw [hx] at g0
          have Hs := Lib.hid hs
          have Hb1 := Lib.hid hb1
          clear hfin hok hov hx hc hs h hb1 hq hi
          go_wp2_with fail
          refine (spec_l1Own_n (some ⟨b', off, none⟩) q.length c B q _ rfl Hs.out (Nat.le_trans hB Hb1.out.size) (by omega)).mono ?_
          rintro e w2 ⟨A2, c2, rfl, o2, b2⟩
          obtain ⟨gl, cap0, hv, hgl, _⟩ := o2.form (by omega)
          cases hv
          have hb2 := below_kept Hb1.out (Nat.le_refl _) b2
          obtain ⟨k, hk⟩ : ∃ k, k = q.length := ⟨_, rfl⟩
          rw [← hk] at o2 n0 n1 p1 hn12 ⊢
          have m4 : 4 ≤ k := by omega
          have hlt2 : p < k := by omega
          have HL : Hid (q.length = k) := Lib.hid hk.symm
          have hw0 : w.heap.size ≤ w1.heap.size := Hb1.out.size
          have ho2 := o2.mono hw0
          clear hk o2 b2 g0 Hs i1 hbB
          obtain ⟨a1, a2, a3, a4, a5⟩ := around p k m4 hlt2
          have hdec : dec2 q p = decr (decr q ((p + k - 1) % k)) ((p + 1) % k) := by unfold dec2; rw [HL.out]
          have ha0 : ((p : Int) + (k : Int) - 1) % (k : Int) = (((p + k - 1) % k : Nat) : Int) := by
            rw [show (p : Int) + (k : Int) - 1 = ((p + k - 1 : Nat) : Int) by omega]
            rfl
          have hb0 : ((p : Int) + 1) % (k : Int) = (((p + 1) % k : Nat) : Int) := by
            rw [show (p : Int) + 1 = ((p + 1 : Nat) : Int) by omega]
            rfl
          have hxa := Hget.out ((p + k - 1) % k) (by rw [HL.out]; exact a1)
          have hxb := Hget.out ((p + 1) % k) (by rw [HL.out]; exact a2)
          rw [HL.out] at hxa hxb
          generalize (p + k - 1) % k = a at *
          generalize (p + 1) % k = b at *
          have Hdec := Lib.hid hdec
          have ca : w2.cell? ⟨gl, a, none⟩ = some (.int .i64 (q.getD a 0)) := by rw [ho2.cellAt a (by omega), ics_get _ _ (by rw [HL.out]; exact a1)]
          have fa := ho2.frozenAt a
          obtain ⟨hol2, hg2⟩ := ho2.stored a (.int .i64 (q.getD a 0 - 1))
          rw [ics_set, show q.set a (q.getD a 0 - 1) = decr q a from rfl] at hol2
          have hgw : w.heap.size ≤ gl := by omega
          have hb3 := below_grown hb2 hg2 (Nat.le_refl _) (fun k hk => by injection hk with hk; omega)
          have cb : (w2.setCell ⟨gl, a, none⟩ (.int .i64 (q.getD a 0 - 1))).cell? ⟨gl, b, none⟩ = some (.int .i64 ((decr q a).getD b 0)) := by rw [hol2.cellAt b (by omega), ics_get _ _ (by rw [decr_length, HL.out]; exact a2)]
          have fb := hol2.frozenAt b
          have hyb : 1 ≤ (decr q a).getD b 0 ∧ (decr q a).getD b 0 ≤ 12 := by
            rw [decr_get q a b (by rw [HL.out]; exact a2), if_neg (by omega)]
            omega
          obtain ⟨hol3, hg3⟩ := hol2.stored b (.int .i64 ((decr q a).getD b 0 - 1))
          rw [ics_set, show (decr q a).set b ((decr q a).getD b 0 - 1) = decr (decr q a) b from rfl, ← Hdec.out] at hol3
          have hb4 := below_grown hb3 hg3 (Nat.le_refl _) (fun k hk => by injection hk with hk; omega)
          have HDl : Hid ((dec2 q p).length = k) := Lib.hid (by rw [dec2_length]; exact HL.out)
          obtain ⟨W3, hW3⟩ : ∃ W3, W3 = (w2.setCell ⟨gl, a, none⟩ (.int .i64 (q.getD a 0 - 1))).setCell ⟨gl, b, none⟩ (.int .i64 ((decr q a).getD b 0 - 1)) := ⟨_, rfl⟩
          rw [← hW3] at hol3 hb4
          have HW3 := Lib.hid hW3
          have Hol5 := Lib.hid hol3
          have Hb5 := Lib.hid hb4
          obtain ⟨_, _⟩ := hxa
          obtain ⟨_, _⟩ := hyb
          clear ho2 hol2 hol3 hg2 hg3 hb2 hb3 hb4 hW3 hxb hdec hgl
          generalize q.getD a 0 = x at *
          generalize (decr q a).getD b 0 = y at *
          have b0 : (0 : Int) ≤ (a : Int) := by omega
          have b1 : (a : Int) < (k : Int) := by omega
          have b2 : (0 : Int) ≤ (b : Int) := by omega
          have b3 : (b : Int) < (k : Int) := by omega
          have hcl : k ≤ c2 := own_capI Hol5.out
          have HDlT : Hid (((dec2 q p).take p).length = p) := Lib.hid (by rw [List.length_take, HDl.out]; omega)
          have HDlD : Hid (((dec2 q p).drop (p + 1)).length = k - (p + 1)) := Lib.hid (by rw [List.length_drop, HDl.out])
          have HDlC : Hid ((dec2 q p).length ≤ c2) := Lib.hid (by rw [HDl.out]; exact hcl)
          have q1 : (p : Int) ≤ (c2 : Int) := by omega
          have q2 : (0 : Int) ≤ (p : Int) + 1 := by omega
          have q3 : (p : Int) + 1 ≤ (k : Int) := by omega
          have q4 : (k : Int) ≤ (c2 : Int) := by omega
          have hp6 : p ≤ 1000000 := by omega
          have hk6 : k - (p + 1) ≤ 1000000 := by omega
          have HN26 : Hid (k - 1 = p + (k - (p + 1))) := Lib.hid (by omega)
          go_wp2_with fail
          rw [← HW3.out]
          clear HW3 ca cb fa fb ha0 hb0
          have hpw : IntKind.i64.wrap ((p : Int) + 1) = (p : Int) + 1 := IntWalk.i64_in _ (by omega)
          have hpn : ((p : Int) + 1).toNat = p + 1 := by omega
          go_region_held3 (fun w' => Below W3.heap.size W3 w')
            (first
              | assumption
              | exact (Below.refl _ _).drew
              | exact b6
              | exact below_kept (Below.refl _ _).drew (Nat.le_refl _) b6
              | (refine below_grown ?_ g7 (Nat.le_refl _) (fun j hj => (o6.lt j hj).1); assumption))
            (first
              | (refine step_own W3.drew rfl _ rfl (some ⟨gl, 0, none⟩) p _ W3.heap.size ((dec2 q p).take p) rfl HDlT.out ((SlI.of_own Hol5.out).take p).dr (Nat.le_refl _) hp6 ?_; intro A6 c6 w6 o6 b6)
              | (refine step_appendNI _ rfl _ _ rfl W3.heap.size (.slice A6 p c6) p ((dec2 q p).take p) HDlT.out rfl o6 _ (k - (p + 1)) _ ((dec2 q p).drop (p + 1)) W3.heap.size (k - 1) ?_ rfl HDlD.out ?_ ?_ ?_ b6.size ?_
                 · exact HN26.out
                 · first
                   | exact (SlI.cutIf1 (SlI.of_own Hol5.out) (p + 1) HDlC.out).dr.below b6
                 · exact hp6
                 · exact hk6
                 intro A7 c7 w7 o7 g7))
          generalize (if c2 = p + 1 then some (⟨gl, 0, none⟩ : Addr) else some ⟨gl, p + 1, none⟩) = u121
          rename_i hS7
          have hE := Hfin.out (.returned (.tuple #[.slice A7 (k - 1) c7, .bool true])) w7 (by
            have e : (cutL q p).length = k - 1 := by rw [cutL_length q p (by rw [HL.out]; exact hlt2), HL.out]
            refine ⟨A7, c7, by rw [e], ?_, below_kept Hb5.out (Nat.le_refl _) hS7⟩
            rw [e]
            unfold cutL
            rw [List.eraseIdx_eq_take_drop_succ]
            exact o7.mono Hb5.out.size)
          have HE := Lib.hid hE
          clear hE hS7 o7 g7 o6 b6 Hol5 Hb5 hpw hpn
          go_wp2
          go_ret2
          exact HE.out
        · have hres := retC_no (q := q) (k := (p : Int)) (by rw [Bool.eq_false_iff]; intro e; exact hx (hov.1 e).2.2.2) hb1
          have Hres := Lib.hid hres
          have hx' : (q.getD p 0 != 1) = true := by simpa using hx
          generalize q.getD p 0 = x at *
          clear hres h hb1 hov hs hc hx
          go_wp2
          go_ret2
          exact Hres.out

theorem near_pad {q : List Int} (hq : isQ q = true) : Near 100 (pad q) := by
  obtain ⟨_, h12⟩ := isQ_len hq
  intro i
  by_cases hi : i < q.length
  · have := isQ_get hq i hi
    have e : (pad q).getD i 0 = q.getD i 0 := by
      unfold pad
      simp only [List.getD_eq_getElem?_getD]
      rw [List.getElem?_append_left hi]
    rw [e]; omega
  · have e : (pad q).getD i 0 = 0 := by
      unfold pad
      simp only [List.getD_eq_getElem?_getD]
      rw [List.getElem?_append_right (by omega), List.getElem?_replicate]
      split <;> rfl
    rw [e]; omega
theorem Ring.sl {w : World} {base g m : Nat} {M : Int} {N C : List Int} (h : Ring w base g M N C) (hN : N.length = 12) (hm : m ≤ 12) : SlI w w.heap.size (some ⟨g, 1, none⟩) (N.take m) := fun _ =>
  ⟨g, 1, rfl, (World.ownsRow.lt h.own g rfl).2, fun j hj => by
    have hj2 : j < m := by simp at hj; omega
    rw [take_getD N m j hj2]
    exact h.cN hN j (by omega)⟩

set_option maxRecDepth 100000 in
set_option maxHeartbeats 6400000 in
theorem impl_CutEar (A : Option Addr) (c B : Nat) (q : List Int) (i : Int) (w : World) (h : SlI w B A q) (hB : B ≤ w.heap.size) (hl : q.length ≤ 1048576) (hlc : q.length ≤ c) :
    Calls Try.prog 26 #[.slice A q.length c, .int .i64 i] w (RetI w (cutR q i) (okC q i)) := by
  by_cases h4 : (q.length : Int) < 4
  · have hres := retC_no (q := q) (k := i) (by rw [Bool.eq_false_iff]; intro e; have := (okC_iff.1 e).2.1; omega) (Below.refl w.heap.size w)
    have Hres := Lib.hid hres
    clear hres h
    go_enter Try.func26, Try.ntmps26
    go_wp2
    go_ret2
    exact Hres.out
  · go_enter Try.func26, Try.ntmps26
    go_wp2_with fail
    refine (impl_IsQuiddity A c B q _ h hB hl hlc).mono ?_
    rintro e w1 ⟨rfl, hb1⟩
    cases hq : isQ q
    · have hres := retC_no (q := q) (k := i) (by rw [Bool.eq_false_iff]; intro e; rw [(okC_iff.1 e).1] at hq; cases hq) hb1
      have Hres := Lib.hid hres
      clear hres h hb1
      go_wp2
      go_ret2
      exact Hres.out
    · obtain ⟨hn3, hn12⟩ := isQ_len hq
      have n0 : (4 : Int) ≤ (q.length : Int) := by omega
      have n1 : (q.length : Int) ≤ 12 := by omega
      cases hi : inB i 0 ((q.length : Int) - 1)
      · have hres := retC_no (q := q) (k := i) (by rw [Bool.eq_false_iff]; intro e; have := (okC_iff.1 e).2.2.1; rw [inBc_iff.2 this] at hi; cases hi) hb1
        have Hres := Lib.hid hres
        clear hres h hb1
        go_wp2_with fail
        refine (impl_isCorner _ _ _ _ hi).mono ?_
        rintro e w2 ⟨rfl, rfl⟩
        go_wp2
        go_ret2
        exact Hres.out
      · obtain ⟨i0, i1⟩ := inBc_iff.1 hi
        obtain ⟨p, rfl⟩ := Int.eq_ofNat_of_zero_le i0
        have hs := h.below (hb1.mono hB)
        obtain ⟨b', off, rfl, hbB, hc⟩ := hs (by omega)
        have g0 := hc p (by omega)
        have p1 : (p : Int) < (q.length : Int) := by omega
        have hov : okC q (p : Int) = true ↔ isQ q = true ∧ 4 ≤ q.length ∧ (0 ≤ (p : Int) ∧ (p : Int) ≤ (q.length : Int) - 1) ∧ q.getD p 0 = 1 := okC_iff
        by_cases hx : q.getD p 0 = 1
        · have hok : okC q (p : Int) = true := hov.2 ⟨hq, by omega, ⟨i0, i1⟩, hx⟩
          have hfin : ∀ e w', RetI w (cutL q p) true e w' → RetI w (cutR q (p : Int)) (okC q (p : Int)) e w' := fun e w' hh => by
            unfold cutR
            rw [hok]
            exact hh
          have Hfin := Lib.hid hfin
          have Hnear := Lib.hid (near_pad hq)
          rw [hx] at g0
          have Hs := Lib.hid hs
          have Hb1 := Lib.hid hb1
          clear hfin hok hov hx hc hs h hb1 hq
          go_wp2_with fail
          refine (impl_isCorner _ _ _ _ hi).mono ?_
          rintro e w2 ⟨rfl, rfl⟩
          go_wp2_with fail
          refine (impl_ringOf (some ⟨b', off, none⟩) c B q _ Hs.out (Nat.le_trans hB Hb1.out.size) hn3 hn12).mono ?_
          rintro e w2 ⟨rfl, hb2⟩
          have hd2 := below_kept Hb1.out (Nat.le_refl _) hb2
          have HZ : Hid (Blk (w2.alloc (.cells (ics (List.replicate 25 0)).toArray 49)) w2.heap.size 49 (List.replicate 25 0)) := Lib.hid (Blk.new _ _ _)
          have HB : Hid (Below w.heap.size w (w2.alloc (.cells (ics (List.replicate 25 0)).toArray 49))) := Lib.hid (hd2.alloc hd2.size _)
          have Hp := Lib.hid (pad_length q hn12)
          have Hsz := hd2.size
          have hlt2 : p < q.length := by omega
          have h44 : 4 ≤ q.length := by omega
          clear hb2 hd2 g0 Hs hi
          go_wp2_with (first
            | (refine wpList_store_ring rfl (.tmp 7) (.tmp 31) rfl rfl w2.heap.size (ringL q.length (pad q) (iota 12)) rfl rfl 49 (List.replicate 25 0) HZ.out rfl (ringL_length Hp.out (iota_length 12)) ?_
               intro w3 h3 g3
               have hr3 := Ring.of_heap (base := w.heap.size) (N := pad q) (C := iota 12) h3 Hp.out (iota_length 12) (by omega)
               have hb3 := below_grown HB.out g3 (Nat.le_refl _) (fun k hk => by injection hk with hk; omega)
               have Hr3 := Lib.hid hr3
               have Hb3 := Lib.hid hb3
               clear g3 HZ HB h3 hr3 hb3))
          refine (impl_cut w.heap.size w2.heap.size q.length p (pad q) (iota 12) _ Hr3.out Hp.out (iota_length 12) Hnear.out h44 hn12 hlt2).mono ?_
          rintro e w5 ⟨rfl, hr5, g5⟩
          have hb5 := below_grown Hb3.out g5 (Nat.le_refl _) (fun k hk => by injection hk with hk; omega)
          obtain ⟨m, hm⟩ : ∃ m, m = q.length - 1 := ⟨_, rfl⟩
          have hmm : (q.length : Int) - 1 = (m : Int) := by omega
          rw [hmm] at hr5
          have hN5 : (cutN (pad q) q.length p).length = 12 := by rw [cutN_length _ _ _ hlt2 (by rw [Hp.out]; exact hn12)]; exact Hp.out
          have hcut : (cutN (pad q) q.length p).take m = cutL q p := by
            rw [hm, cutN_take _ _ _ h44 hlt2 (by rw [Hp.out]; exact hn12), pad_take]
          have hsl := hr5.sl (m := m) hN5 (by omega)
          rw [hcut] at hsl
          have c0 := hr5.c0
          have m0 : (0 : Int) ≤ (m : Int) := by omega
          have m1 : (m : Int) ≤ 12 := by omega
          have m2 : 0 < m := by omega
          have m3 : m ≤ 1000000 := by omega
          have Hcl : Hid ((cutL q p).length = m) := Lib.hid (by rw [cutL_length q p hlt2, hm])
          have Hsl := Lib.hid hsl
          have Hb5 := Lib.hid hb5
          generalize earD ((iota 12).take q.length) q.length p = D at *
          clear g5 hb5 hr5 hsl hcut hN5 hm hmm Hr3 Hb3 Hnear
          go_wp2_with fail
          refine (slices_Clone_n (some ⟨w2.heap.size, 1, none⟩) m 12 w5.heap.size (cutL q p) _ Hcl.out Hsl.out (Nat.le_refl _) m2 m3).mono ?_
          rintro e w7 ⟨A7, c7, rfl, o7, b7⟩
          have hE := Hfin.out (.returned (.tuple #[.slice A7 (cutL q p).length c7, .bool true])) w7 ⟨A7, c7, rfl, o7.mono Hb5.out.size, below_kept Hb5.out (Nat.le_refl _) b7⟩
          have HE := Lib.hid hE
          clear hE o7 b7 Hsl c0
          go_wp2
          go_ret2
          exact HE.out
        · have hres := retC_no (q := q) (k := (p : Int)) (by rw [Bool.eq_false_iff]; intro e; exact hx (hov.1 e).2.2.2) hb1
          have Hres := Lib.hid hres
          have hx' : (q.getD p 0 != 1) = true := by simpa using hx
          generalize q.getD p 0 = x at *
          clear hres h hb1 hov hs hc hx
          go_wp2_with fail
          refine (impl_isCorner _ _ _ _ hi).mono ?_
          rintro e w2 ⟨rfl, rfl⟩
          go_wp2
          go_ret2
          exact Hres.out

theorem WCutEar.walk (w : World) (A : Option Addr) (c : Nat) (l : List Int) (h : SlI w w.heap.size A l)
    (hj : l.length ≤ c ∧ c ≤ maxLen ∧ ∀ x ∈ l, (Lit.int .i64 x).wf = true) (i : Int) (wi : (Lit.int .i64 i).wf = true) :
    Calls Try.prog 5 #[.slice A l.length c, .int .i64 i] w fun e w' => e = .returned (.bool true) ∧ Below w.heap.size w w' :=
  WCutEar.core w A c l i h hj.1 hj.2.1 (cutR l i) (okC l i) (cutR_length l i)
    (Lib.hid fun A c w h hl hlc => spec_CutEar A c _ l i w h (Nat.le_refl _) hl hlc)
    (Lib.hid fun A c w h hl hlc => impl_CutEar A c _ l i w h (Nat.le_refl _) hl hlc)
end Go.Proofs.Ytjpcmkginfbkbaa
