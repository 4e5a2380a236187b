/- findBelow once more, with the function that ClosesAt hands it. -/
import Derived.Test.YtkekjcfhkecggabFndI
namespace Go.Proofs.Ytkekjcfhkecggab
set_option linter.unusedVariables false
open Go.RowKit

set_option maxRecDepth 100000 in
set_option maxHeartbeats 3200000 in
theorem impl_findBelowC (gk : Nat) (wt : Nat → Bool) (A : Option Addr) (c B : Nat) (r : List Int) (w : World) (h : SlI w B A r) (hB : B ≤ w.heap.size) (h3 : 3 ≤ r.length) (h12 : r.length ≤ 12) (hr : rowB r)
    (HC : Hid (∀ (j : Nat) (w' : World), Below w.heap.size w w' → itOk r j = true → j ≤ 8 → Calls Try.prog 58 #[.int .i64 ((j : Int) + 1), .agg (ics (pad (itL r j).2)).toArray, .pointer (some ⟨gk, 0, none⟩)] w' fun e w'' => e = .returned (.bool (wt j)) ∧ Below w'.heap.size w' w'')) :
    Calls Try.prog 54 #[.slice A r.length c, .func (.func 58) #[] #[.pointer (some ⟨gk, 0, none⟩)]] w (FndEnd r wt w) := by
  obtain ⟨n, hn⟩ : ∃ n, r.length = n := ⟨_, rfl⟩
  rw [hn] at h3 h12 ⊢
  have C4 : Hid (∀ w, SlI w B A r → B ≤ w.heap.size → Calls Try.prog 70 #[.slice A n c] w fun e w' => e = .returned (.agg (ics (pad r)).toArray) ∧ Below w.heap.size w w') := Lib.hid fun w h hB => by
    have := impl_bandOf A c B r w h hB (by omega)
    rwa [hn] at this
  have C5 : Hid (∀ (j : Nat) w, itOk r j = true → Calls Try.prog 71 #[.int .i64 n, .agg (ics (pad (itL r j).1)).toArray, .agg (ics (pad (itL r j).2)).toArray] w (BelowEnd (itL r j).1 (itL r j).2 w)) := Lib.hid fun j w hj => by
    obtain ⟨⟨l1, l2⟩, r1, r2⟩ := it_good hr j hj
    have := impl_bandBelow (itL r j).1 (itL r j).2 w (by omega) (by omega) (by omega) r1 r2
    rwa [l2, hn] at this
  have Len : Hid (∀ j, itOk r j = true → (pad (itL r j).1).length = 12 ∧ (pad (itL r j).2).length = 12 ∧ (outN (itL r j).1 (itL r j).2).length = 12) := Lib.hid fun j hj => by
    obtain ⟨⟨l1, l2⟩, _, _⟩ := it_good hr j hj
    refine ⟨pad_length _ (by omega), pad_length _ (by omega), ?_⟩
    unfold outN
    split
    · exact pad_length _ (by rw [xsN_length]; omega)
    · rfl
  have hb0 : Below w.heap.size w (w.alloc (.cells (ics (List.replicate 12 0)).toArray 47)) := (Below.refl _ _).alloc (Nat.le_refl _) _
  have Hb0 := Lib.hid hb0
  have HZ0 : Hid (Blk (w.alloc (.cells (ics (List.replicate 12 0)).toArray 47)) w.heap.size 47 (List.replicate 12 0)) := Lib.hid (Blk.new _ _ _)
  have H := Lib.hid h
  have Hl0 : Hid (pad (itL r 0).1 = pad (List.replicate n 1) ∧ pad (itL r 0).2 = pad r) := Lib.hid ⟨by show pad (List.replicate r.length 1) = _; rw [hn], rfl⟩
  have Hpl : Hid ((pad (List.replicate n (1 : Int))).length = 12 ∧ (pad r).length = 12) := Lib.hid ⟨pad_length _ (by simpa using h12), pad_length _ (by omega)⟩
  clear hn h hb0 hr
  have hn1 : 1 ≤ n := by omega
  go_enter Try.func54, Try.ntmps54
  go_wp2
  refine wp_scope_jumpsTo 0 (FJ w n A c (.func (.func 58) #[] #[.pointer (some ⟨gk, 0, none⟩)]) r wt w.heap.size) (fun a _ => 9 - (intOf (a.tmps.getD 10 undef)).toNat) rfl ?pass ?first
  case first =>
    intro HJ
    have HJ := Lib.hid HJ
    go_wp2_with fail
    refine (impl_onesBand n _ hn1 h12).mono ?_
    rintro e w1 ⟨rfl, b1⟩
    have Hb1 := Lib.hid (below_kept Hb0.out (Nat.le_refl _) b1)
    have HZ1 := Lib.hid (HZ0.out.below b1)
    clear b1 HZ0 Hb0
    go_wp2_with fail
    refine (C4.out _ (H.out.below (Hb1.out.mono hB)) (Nat.le_trans hB Hb1.out.size)).mono ?_
    rintro e w2 ⟨rfl, b2⟩
    have Hb2 := Lib.hid (below_kept Hb1.out (Nat.le_refl _) b2)
    have HZ2 := Lib.hid (HZ1.out.below b2)
    have hsz : w.heap.size ≤ w2.heap.size := Hb2.out.size
    have hszw : w.heap.size < w2.heap.size := by
      have h0 : w.heap.size < (w.alloc (.cells (ics (List.replicate 12 0)).toArray 47)).heap.size := by simp
      rcases Nat.lt_or_ge w.heap.size w2.heap.size with hlt | hge
      · exact hlt
      · have := HZ2.out
        unfold Blk at this
        rw [Array.getElem?_eq_none hge] at this
        cases this
    have HA8 : Hid (Blk ((w2.alloc (.cells (ics (List.replicate 12 0)).toArray 47)).alloc (.cells (ics (List.replicate 12 0)).toArray 47)) w2.heap.size 47 (List.replicate 12 0)) := Lib.hid ((Blk.new _ _ _).alloc _)
    have HA9 : Hid (Blk ((w2.alloc (.cells (ics (List.replicate 12 0)).toArray 47)).alloc (.cells (ics (List.replicate 12 0)).toArray 47)) (w2.heap.size + 1) 47 (List.replicate 12 0)) := Lib.hid (Blk.new1 _ _ _ _)
    have HA0 : Hid (Blk ((w2.alloc (.cells (ics (List.replicate 12 0)).toArray 47)).alloc (.cells (ics (List.replicate 12 0)).toArray 47)) w.heap.size 47 (List.replicate 12 0)) := Lib.hid ((HZ2.out.alloc _).alloc _)
    have HAb : Hid (Below w.heap.size w ((w2.alloc (.cells (ics (List.replicate 12 0)).toArray 47)).alloc (.cells (ics (List.replicate 12 0)).toArray 47))) := Lib.hid ((Hb2.out.alloc hsz _).alloc (by simp; omega) _)
    clear HZ2 Hb2 C4 C5 HC Len H
    go_wp2_with (first
      | (refine wpList_store_band rfl (.tmp 8) (.tmp 16) rfl rfl w2.heap.size (pad (List.replicate n 1)) rfl rfl 47 (List.replicate 12 0) HA8.out rfl Hpl.out.1 ?_
         intro w4 h4 g4
         have H4 := Lib.hid h4
         have H49 := Lib.hid (Blk.grown HA9.out g4 (by omega))
         have H40 := Lib.hid (Blk.grown HA0.out g4 (by omega))
         have H4b := Lib.hid (below_grown HAb.out g4 (Nat.le_refl _) (fun k hk => by injection hk with hk; omega))
         clear h4 g4 HA8 HA9 HA0 HAb)
      | (refine wpList_store_band rfl (.tmp 9) (.tmp 18) rfl rfl (w2.heap.size + 1) (pad r) rfl rfl 47 (List.replicate 12 0) H49.out rfl Hpl.out.2 ?_
         intro w5 h5 g5
         have H5 := Lib.hid h5
         have H58 := Lib.hid (Blk.grown H4.out g5 (by omega))
         have H50 := Lib.hid (Blk.grown H40.out g5 (by omega))
         have H5b := Lib.hid (below_grown H4b.out g5 (Nat.le_refl _) (fun k hk => by injection hk with hk; omega))
         clear h5 g5 H4 H49 H40 H4b))
    go_step3
    simp only [Exit.then]
    apply_assumption
    refine HJ.out _ _ ?_
    exact ⟨0, w2.heap.size, w2.heap.size + 1, _, _, _, _, _, _, _, _, _, _, _, _, _, _, _, _, _, _, _, _, _, _, _, _, _, _, _, _, _, _, _, rfl, ⟨by omega, rfl, rfl⟩, ⟨H50.out, by rw [Hl0.out.1]; exact H58.out, by rw [Hl0.out.2]; exact H5.out⟩, ⟨Nat.le_refl _, hszw, by omega, by omega⟩, H5b.out⟩
  case pass =>
    rintro a w1 ⟨j, b8, b9, u11, u12, u13, u14, u15, u16, u17, u18, u19, u20, u21, u22, u23, u24, u25, u26, u27, u28, u29, u30, u31, u32, u33, u34, u35, u36, u37, u38, u39, u40, u41, rfl, ⟨hj8, hit, hfe⟩, ⟨z0, z8, z9⟩, ⟨g1, g2, g3, g4⟩, hb⟩
    have Hfe := Lib.hid hfe
    have Hit := Lib.hid hit
    have L12 := Lib.hid (Len.out j hit)
    have Hz0 := Lib.hid z0
    have Hz8 := Lib.hid z8
    have Hz9 := Lib.hid z9
    have Hb := Lib.hid hb
    clear hfe hit Len z0 z8 z9 hb Hb0 HZ0 H C4
    have j8 : (j : Int) ≤ 8 := by omega
    have j0 : (0 : Int) ≤ (j : Int) := by omega
    go_wp2_with (refine wpList_load_row rfl 47 (.tmp 9) rfl b9 rfl 47 (ics (pad (itL r j).2)).toArray (0, 0) _ Hz9.out Try.underlying47 rfl (by rw [band_size]; simp [ics_length, L12.out.2.1]) ?_)
    refine (HC.out j _ Hb.out Hit.out (by omega)).mono ?_
    rintro e w2 ⟨rfl, b2⟩
    have Y0 := Lib.hid (Hz0.out.below b2)
    have Y8 := Lib.hid (Hz8.out.below b2)
    have Y9 := Lib.hid (Hz9.out.below b2)
    have Yb := Lib.hid (below_kept Hb.out (Nat.le_refl _) b2)
    clear b2 Hz0 Hz8 Hz9 Hb HC
    obtain ⟨m, hm⟩ : ∃ m, 9 - j = m + 1 := ⟨8 - j, by omega⟩
    have hfn : fnd r wt (9 - j) j = if wt j = true then ((j : Int) + 1, pad (itL r j).2, true) else if nextOk (itL r j).1 (itL r j).2 = true then fnd r wt m (j + 1) else (0, List.replicate 12 0, false) := by rw [hm]; rfl
    have Hfn := Lib.hid (Hfe.out.trans hfn)
    clear hfn Hfe
    cases hw : wt j
    · have hNo : ∀ w', (nextOk (itL r j).1 (itL r j).2 = false ∨ j = 8) → Below w.heap.size w w' → FndEnd r wt w (.returned (.tuple #[.int .i64 0, .agg (ics (List.replicate 12 0)).toArray, .bool false])) w' := fun w' hq hb => fndEnd_of (by
        rw [Hfn.out, if_neg (by rw [hw]; simp)]
        rcases hq with hq | hq
        · rw [if_neg (by rw [hq]; simp)]
        · have : m = 0 := by omega
          rw [this]
          split <;> rfl) hb
      have HNo := Lib.hid hNo
      have hYes : ∀ w', j ≤ 7 → nextOk (itL r j).1 (itL r j).2 = true → Blk w' b8 47 (pad (itL r j).2) → Blk w' b9 47 (outN (itL r j).1 (itL r j).2) → Blk w' w.heap.size 47 (List.replicate 12 0) → Below w.heap.size w w' → FR w r wt w.heap.size (j + 1) b8 b9 w' := fun w' h7 hok k8 k9 k0 kb => by
        refine ⟨⟨by omega, by rw [itOk_succ, Hit.out, hok]; rfl, ?_⟩, ⟨k0, k8, ?_⟩, ⟨g1, g2, g3, g4⟩, kb⟩
        · rw [Hfn.out, if_neg (by rw [hw]; simp), if_pos hok, show 9 - (j + 1) = m by omega]
        · have e : outN (itL r j).1 (itL r j).2 = pad (itL r (j + 1)).2 := by
            show _ = pad (nextL (itL r j).1 (itL r j).2)
            unfold outN nextL
            rw [if_pos hok, if_pos hok]
          rw [← e]
          exact k9
      have HYes := Lib.hid hYes
      clear hNo hYes hw
      have c5 := Lib.hid (C5.out j)
      clear C5 Hfn hm
      generalize hP1 : (itL r j).1 = P1 at *
      generalize hP2 : (itL r j).2 = P2 at *
      clear hP1 hP2
      go_wp2_with (first
        | (refine wpList_load_row rfl 47 (.tmp 8) rfl b8 rfl 47 (ics (pad P1)).toArray (0, 0) _ Y8.out Try.underlying47 rfl (by rw [band_size]; simp [ics_length, L12.out.1]) ?_)
        | (refine wpList_load_row rfl 47 (.tmp 9) rfl b9 rfl 47 (ics (pad P2)).toArray (0, 0) _ Y9.out Try.underlying47 rfl (by rw [band_size]; simp [ics_length, L12.out.2.1]) ?_))
      refine (c5.out _ Hit.out).mono ?_
      rintro e w3 ⟨rfl, b3⟩
      have hsz : w.heap.size ≤ w3.heap.size := (below_kept Yb.out (Nat.le_refl _) b3).size
      have q8 := (Y8.out.below b3).lt
      have q9 := (Y9.out.below b3).lt
      have q0 := (Y0.out.below b3).lt
      have Z0 := Lib.hid ((Y0.out.below b3).alloc (.cells (ics (List.replicate 12 0)).toArray 47))
      have Z8 := Lib.hid ((Y8.out.below b3).alloc (.cells (ics (List.replicate 12 0)).toArray 47))
      have Z9 := Lib.hid ((Y9.out.below b3).alloc (.cells (ics (List.replicate 12 0)).toArray 47))
      have Zn := Lib.hid (Blk.new w3 47 (List.replicate 12 0))
      have Zb := Lib.hid ((below_kept Yb.out (Nat.le_refl _) b3).alloc hsz (.cells (ics (List.replicate 12 0)).toArray 47))
      clear Y0 Y8 Y9 Yb b3 c5
      generalize outN P1 P2 = O at *
      have Zl := Lib.hid (show O.length = 12 from L12.out.2.2)
      clear hj8
      cases hok : nextOk P1 P2
      · have HE := Lib.hid (HNo.out · (Or.inl hok))
        clear HNo HYes hok
        go_wp2_with (first
          | (refine wpList_store_band rfl (.tmp 11) (.tmp 30) rfl rfl w3.heap.size O rfl rfl 47 (List.replicate 12 0) Zn.out rfl Zl.out ?_
             intro w4 h4 g4
             have V11 := Lib.hid (show Blk w4 w3.heap.size 47 O from h4)
             have V0 := Lib.hid (Blk.grown Z0.out g4 (by omega))
             have V8 := Lib.hid (Blk.grown Z8.out g4 (by omega))
             have V9 := Lib.hid (Blk.grown Z9.out g4 (by omega))
             have Vb := Lib.hid (below_grown Zb.out g4 (Nat.le_refl _) (fun k hk => by injection hk with hk; omega))
             clear h4 g4 Z0 Z8 Z9 Zn Zb)
          | (refine wpList_store_band rfl (.tmp 5) (.tmp 41) rfl rfl w.heap.size (List.replicate 12 0) rfl rfl 47 (List.replicate 12 0) V0.out rfl rfl ?_
             intro w6 h6 g6
             have E1 := Lib.hid (show Blk w6 w.heap.size 47 (List.replicate 12 0) from h6)
             have HBZ := Lib.hid (below_grown Vb.out g6 (Nat.le_refl _) (fun k hk => by injection hk with hk; omega))
             clear h6 g6))
        simp only [Exit.jump]
        exact bodyPost_ret (v := .tuple #[.int .i64 0, .agg (ics (List.replicate 12 0)).toArray, .bool false]) (by
          rw [results_cell3 (fn := Try.f54) rfl _ w6 w.heap.size 47 _ (0, 0) _ rfl E1.out Try.underlying47 rfl (by rw [band_size]; rfl)]
          rfl) rfl (HE.out _ HBZ.out)
      · by_cases hj7 : j ≤ 7
        · have HY := Lib.hid (HYes.out · hj7 hok)
          have j9 : (j : Int) + 1 < 9 := by omega
          clear HNo HYes hok
          go_wp2_with (first
            | (refine wpList_store_band rfl (.tmp 11) (.tmp 30) rfl rfl w3.heap.size O rfl rfl 47 (List.replicate 12 0) Zn.out rfl Zl.out ?_
               intro w4 h4 g4
               have V11 := Lib.hid (show Blk w4 w3.heap.size 47 O from h4)
               have V0 := Lib.hid (Blk.grown Z0.out g4 (by omega))
               have V8 := Lib.hid (Blk.grown Z8.out g4 (by omega))
               have V9 := Lib.hid (Blk.grown Z9.out g4 (by omega))
               have Vb := Lib.hid (below_grown Zb.out g4 (Nat.le_refl _) (fun k hk => by injection hk with hk; omega))
               clear h4 g4 Z0 Z8 Z9 Zn Zb))
          refine wp_region_any (by kernel_rfl) ?_
          try (change wpAny _ _ _ _ _ _ _ (World.drew _))
          refine wpAny_ready (rs := [0, 1]) (by kernel_rfl) (by simp) (AllReady.cons rfl (fun K hK => ?_) (AllReady.cons rfl (fun K hK => ?_) AllReady.nil))
          · refine step_load_band rfl (.tmp 9) rfl b9 (pad P2) rfl V9.out.drew L12.out.2.1 (hK _ _ ?_)
            clear hK K
            refine wpAny_ready (rs := [1, 2]) (by kernel_rfl) (by simp) (AllReady.cons rfl (fun K hK => ?_) (AllReady.cons rfl (fun K hK => ?_) AllReady.nil))
            · refine step_load_band rfl (.tmp 11) rfl w3.heap.size O rfl V11.out.drew Zl.out (hK _ _ ?_)
              clear hK K
              refine wpAny_ready (rs := [2]) (by kernel_rfl) (by simp) (AllReady.cons rfl (fun K hK => ?_) AllReady.nil)
              refine step_store_band rfl (.tmp 8) (.tmp 37) rfl b8 (pad P2) (pad P1) rfl rfl V8.out.drew L12.out.1 L12.out.2.1 (fun w5 h5 g5 => hK _ _ ?_)
              clear hK K
              have S8 := Lib.hid h5
              have S0 := Lib.hid (Blk.grown V0.out.drew g5 (by omega))
              have S9 := Lib.hid (Blk.grown V9.out.drew g5 (by omega))
              have S11 := Lib.hid (Blk.grown V11.out.drew g5 (by omega))
              have Sb := Lib.hid (below_grown (below_kept Vb.out (Nat.le_refl _) ((Below.refl _ _).drew)) g5 (Nat.le_refl _) (fun k hk => by injection hk with hk; omega))
              clear h5 g5
              refine wpAny_ready (rs := [3]) (by kernel_rfl) (by simp) (AllReady.cons rfl (fun K hK => ?_) AllReady.nil)
              refine step_store_band rfl (.tmp 9) (.tmp 38) rfl b9 O (pad P2) rfl rfl S9.out L12.out.2.1 Zl.out (fun w6 h6 g6 => hK _ _ ?_)
              clear hK K
              have hFR := HY.out w6 (Blk.grown S8.out g6 (by omega)) h6 (Blk.grown S0.out g6 (by omega)) (below_grown Sb.out g6 (Nat.le_refl _) (fun k hk => by injection hk with hk; omega))
              clear h6 g6
              refine wpAny_done (by kernel_rfl) ?_ _
              show Exit.then _ _ Exit.normal { tmps := #[.slice A n c, .func (.func 58) #[] #[.pointer (some ⟨gk, 0, none⟩)], undef, undef, .int .i64 0, .pointer (some ⟨w.heap.size, 0, none⟩), .bool false, .int .i64 n, .pointer (some ⟨b8, 0, none⟩), .pointer (some ⟨b9, 0, none⟩), .int .i64 ((j : Int) + 1), .pointer (some ⟨w3.heap.size, 0, none⟩), .bool true, u13, u14, u15, u16, u17, u18, .func (.func 58) #[] #[.pointer (some ⟨gk, 0, none⟩)], .int .i64 ((j : Int) + 1), .agg (ics (pad P2)).toArray, .bool false, u23, u24, .tuple #[.agg (ics O).toArray, .bool true], .int .i64 n, .agg (ics (pad P1)).toArray, .agg (ics (pad P2)).toArray, .tuple #[.agg (ics O).toArray, .bool true], .agg (ics O).toArray, .bool true, .bool true, .bool true, .int .i64 ((j : Int) + 1), .bool true, .bool true, .agg (ics (pad P2)).toArray, .agg (ics O).toArray, u39, u40, u41], defers := [] } w6
              have HFR := Lib.hid hFR
              clear hFR S8 S0 S9 S11 Sb HY V0 V8 V9 V11 Vb
              go_wp2
              go_step3
              simp only [Exit.then]
              refine ⟨rfl, ⟨j + 1, b8, b9, _, _, _, _, _, _, _, _, _, _, _, _, _, _, _, _, _, _, _, _, _, _, _, _, _, _, _, _, _, _, _, by simp; (repeat' (first | exact rfl | apply And.intro)), HFR.out⟩, ?_⟩
              simp [intOf]
              omega
            · refine step_store_band rfl (.tmp 8) (.tmp 37) rfl b8 (pad P2) (pad P1) rfl rfl V8.out.drew L12.out.1 L12.out.2.1 (fun w5 h5 g5 => hK _ _ ?_)
              clear hK K
              have S8 := Lib.hid h5
              have S0 := Lib.hid (Blk.grown V0.out.drew g5 (by omega))
              have S9 := Lib.hid (Blk.grown V9.out.drew g5 (by omega))
              have S11 := Lib.hid (Blk.grown V11.out.drew g5 (by omega))
              have Sb := Lib.hid (below_grown (below_kept Vb.out (Nat.le_refl _) ((Below.refl _ _).drew)) g5 (Nat.le_refl _) (fun k hk => by injection hk with hk; omega))
              clear h5 g5
              refine wpAny_ready (rs := [1]) (by kernel_rfl) (by simp) (AllReady.cons rfl (fun K hK => ?_) AllReady.nil)
              refine step_load_band rfl (.tmp 11) rfl w3.heap.size O rfl S11.out Zl.out (hK _ _ ?_)
              clear hK K
              refine wpAny_ready (rs := [3]) (by kernel_rfl) (by simp) (AllReady.cons rfl (fun K hK => ?_) AllReady.nil)
              refine step_store_band rfl (.tmp 9) (.tmp 38) rfl b9 O (pad P2) rfl rfl S9.out L12.out.2.1 Zl.out (fun w6 h6 g6 => hK _ _ ?_)
              clear hK K
              have hFR := HY.out w6 (Blk.grown S8.out g6 (by omega)) h6 (Blk.grown S0.out g6 (by omega)) (below_grown Sb.out g6 (Nat.le_refl _) (fun k hk => by injection hk with hk; omega))
              clear h6 g6
              refine wpAny_done (by kernel_rfl) ?_ _
              show Exit.then _ _ Exit.normal { tmps := #[.slice A n c, .func (.func 58) #[] #[.pointer (some ⟨gk, 0, none⟩)], undef, undef, .int .i64 0, .pointer (some ⟨w.heap.size, 0, none⟩), .bool false, .int .i64 n, .pointer (some ⟨b8, 0, none⟩), .pointer (some ⟨b9, 0, none⟩), .int .i64 ((j : Int) + 1), .pointer (some ⟨w3.heap.size, 0, none⟩), .bool true, u13, u14, u15, u16, u17, u18, .func (.func 58) #[] #[.pointer (some ⟨gk, 0, none⟩)], .int .i64 ((j : Int) + 1), .agg (ics (pad P2)).toArray, .bool false, u23, u24, .tuple #[.agg (ics O).toArray, .bool true], .int .i64 n, .agg (ics (pad P1)).toArray, .agg (ics (pad P2)).toArray, .tuple #[.agg (ics O).toArray, .bool true], .agg (ics O).toArray, .bool true, .bool true, .bool true, .int .i64 ((j : Int) + 1), .bool true, .bool true, .agg (ics (pad P2)).toArray, .agg (ics O).toArray, u39, u40, u41], defers := [] } w6
              have HFR := Lib.hid hFR
              clear hFR S8 S0 S9 S11 Sb HY V0 V8 V9 V11 Vb
              go_wp2
              go_step3
              simp only [Exit.then]
              refine ⟨rfl, ⟨j + 1, b8, b9, _, _, _, _, _, _, _, _, _, _, _, _, _, _, _, _, _, _, _, _, _, _, _, _, _, _, _, _, _, _, _, by simp; (repeat' (first | exact rfl | apply And.intro)), HFR.out⟩, ?_⟩
              simp [intOf]
              omega
          · refine step_load_band rfl (.tmp 11) rfl w3.heap.size O rfl V11.out.drew Zl.out (hK _ _ ?_)
            clear hK K
            refine wpAny_ready (rs := [0]) (by kernel_rfl) (by simp) (AllReady.cons rfl (fun K hK => ?_) AllReady.nil)
            refine step_load_band rfl (.tmp 9) rfl b9 (pad P2) rfl V9.out.drew L12.out.2.1 (hK _ _ ?_)
            clear hK K
            refine wpAny_ready (rs := [2]) (by kernel_rfl) (by simp) (AllReady.cons rfl (fun K hK => ?_) AllReady.nil)
            refine step_store_band rfl (.tmp 8) (.tmp 37) rfl b8 (pad P2) (pad P1) rfl rfl V8.out.drew L12.out.1 L12.out.2.1 (fun w5 h5 g5 => hK _ _ ?_)
            clear hK K
            have S8 := Lib.hid h5
            have S0 := Lib.hid (Blk.grown V0.out.drew g5 (by omega))
            have S9 := Lib.hid (Blk.grown V9.out.drew g5 (by omega))
            have S11 := Lib.hid (Blk.grown V11.out.drew g5 (by omega))
            have Sb := Lib.hid (below_grown (below_kept Vb.out (Nat.le_refl _) ((Below.refl _ _).drew)) g5 (Nat.le_refl _) (fun k hk => by injection hk with hk; omega))
            clear h5 g5
            refine wpAny_ready (rs := [3]) (by kernel_rfl) (by simp) (AllReady.cons rfl (fun K hK => ?_) AllReady.nil)
            refine step_store_band rfl (.tmp 9) (.tmp 38) rfl b9 O (pad P2) rfl rfl S9.out L12.out.2.1 Zl.out (fun w6 h6 g6 => hK _ _ ?_)
            clear hK K
            have hFR := HY.out w6 (Blk.grown S8.out g6 (by omega)) h6 (Blk.grown S0.out g6 (by omega)) (below_grown Sb.out g6 (Nat.le_refl _) (fun k hk => by injection hk with hk; omega))
            clear h6 g6
            refine wpAny_done (by kernel_rfl) ?_ _
            show Exit.then _ _ Exit.normal { tmps := #[.slice A n c, .func (.func 58) #[] #[.pointer (some ⟨gk, 0, none⟩)], undef, undef, .int .i64 0, .pointer (some ⟨w.heap.size, 0, none⟩), .bool false, .int .i64 n, .pointer (some ⟨b8, 0, none⟩), .pointer (some ⟨b9, 0, none⟩), .int .i64 ((j : Int) + 1), .pointer (some ⟨w3.heap.size, 0, none⟩), .bool true, u13, u14, u15, u16, u17, u18, .func (.func 58) #[] #[.pointer (some ⟨gk, 0, none⟩)], .int .i64 ((j : Int) + 1), .agg (ics (pad P2)).toArray, .bool false, u23, u24, .tuple #[.agg (ics O).toArray, .bool true], .int .i64 n, .agg (ics (pad P1)).toArray, .agg (ics (pad P2)).toArray, .tuple #[.agg (ics O).toArray, .bool true], .agg (ics O).toArray, .bool true, .bool true, .bool true, .int .i64 ((j : Int) + 1), .bool true, .bool true, .agg (ics (pad P2)).toArray, .agg (ics O).toArray, u39, u40, u41], defers := [] } w6
            have HFR := Lib.hid hFR
            clear hFR S8 S0 S9 S11 Sb HY V0 V8 V9 V11 Vb
            go_wp2
            go_step3
            simp only [Exit.then]
            refine ⟨rfl, ⟨j + 1, b8, b9, _, _, _, _, _, _, _, _, _, _, _, _, _, _, _, _, _, _, _, _, _, _, _, _, _, _, _, _, _, _, _, by simp; (repeat' (first | exact rfl | apply And.intro)), HFR.out⟩, ?_⟩
            simp [intOf]
            omega
        · have HE := Lib.hid (HNo.out · (Or.inr (by omega)))
          have j9 : ¬ (j : Int) + 1 < 9 := by omega
          clear HNo HYes hok
          go_wp2_with (first
            | (refine wpList_store_band rfl (.tmp 11) (.tmp 30) rfl rfl w3.heap.size O rfl rfl 47 (List.replicate 12 0) Zn.out rfl Zl.out ?_
               intro w4 h4 g4
               have V11 := Lib.hid (show Blk w4 w3.heap.size 47 O from h4)
               have V0 := Lib.hid (Blk.grown Z0.out g4 (by omega))
               have V8 := Lib.hid (Blk.grown Z8.out g4 (by omega))
               have V9 := Lib.hid (Blk.grown Z9.out g4 (by omega))
               have Vb := Lib.hid (below_grown Zb.out g4 (Nat.le_refl _) (fun k hk => by injection hk with hk; omega))
               clear h4 g4 Z0 Z8 Z9 Zn Zb)
            | (refine wpList_store_band rfl (.tmp 5) (.tmp 41) rfl rfl w.heap.size (List.replicate 12 0) rfl rfl 47 (List.replicate 12 0) V0.out rfl rfl ?_
               intro w6 h6 g6
               have E1 := Lib.hid (show Blk w6 w.heap.size 47 (List.replicate 12 0) from h6)
               have HBZ := Lib.hid (below_grown Vb.out g6 (Nat.le_refl _) (fun k hk => by injection hk with hk; omega))
               clear h6 g6))
          simp only [Exit.jump]
          exact bodyPost_ret (v := .tuple #[.int .i64 0, .agg (ics (List.replicate 12 0)).toArray, .bool false]) (by
            rw [results_cell3 (fn := Try.f54) rfl _ w6 w.heap.size 47 _ (0, 0) _ rfl E1.out Try.underlying47 rfl (by rw [band_size]; rfl)]
            rfl) rfl (HE.out _ HBZ.out)
    · have hE : ∀ w', Below w.heap.size w w' → FndEnd r wt w (.returned (.tuple #[.int .i64 ((j : Int) + 1), .agg (ics (pad (itL r j).2)).toArray, .bool true])) w' := fun w' hb => fndEnd_of (by rw [Hfn.out, if_pos hw]) hb
      have HE := Lib.hid hE
      have hcl : (ics (pad (itL r j).2)).length = 12 := by rw [ics_length]; exact L12.out.2.1
      have hu := Try.underlying47
      have hi : (Try.prog.info? 47).map (·.size) = some (ics (pad (itL r j).2)).length := by rw [hcl]; exact band_size
      have h1c : ∀ v ∈ ics (pad (itL r j).2), v.oneCell' = true := by
        intro v hv
        unfold ics at hv
        obtain ⟨x, _, rfl⟩ := List.mem_map.1 hv
        rfl
      have hra := Y9.out.range
      have hth := Y0.out.there rfl
      clear hE hw
      generalize pad (itL r j).2 = a2 at *
      generalize hcs : ics a2 = cs at *
      have Hcs := Lib.hid hcs
      clear hcs
      go_wp2
      go_region_held3 (fun w' => w'.rangeAt b9 0 cs ∧ w'.there w.heap.size 0 12) (go_keep_ranges) (fail)
      have hd : w2.drew.setCells w.heap.size 0 cs = w2.drew.setCells w.heap.size 0 (ics a2) := by rw [Hcs.out]
      obtain ⟨e1, e2⟩ := Blk.sets (vs := a2) Y0.out.drew rfl L12.out.2.1
      have hbz := below_grown (below_kept Yb.out (Nat.le_refl _) ((Below.refl _ _).drew)) e2 (Nat.le_refl _) (fun k hk => by injection hk with hk; omega)
      rw [hd]
      have E1 := Lib.hid e1
      have HBZ := Lib.hid hbz
      have HD := Lib.hid hd
      generalize w2.drew.setCells w.heap.size 0 (ics a2) = w6 at *
      clear e1 e2 hbz hd hra hth hcl hu hi h1c
      go_wp2
      simp only [Exit.jump]
      exact bodyPost_ret (v := .tuple #[.int .i64 ((j : Int) + 1), .agg (ics a2).toArray, .bool true]) (by
        rw [results_cell3 (fn := Try.f54) rfl _ w6 w.heap.size 47 _ (0, 0) _ rfl E1.out Try.underlying47 rfl (by rw [band_size]; simp [ics_length, L12.out.2.1])]
        rfl) rfl (by rw [Hcs.out]; exact HE.out _ HBZ.out)
end Go.Proofs.Ytkekjcfhkecggab
