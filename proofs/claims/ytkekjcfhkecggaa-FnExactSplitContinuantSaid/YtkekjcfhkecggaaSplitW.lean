/- SplitContinuant: the model's and the program's contract, and the law's walk. -/
import Derived.Test.YtkekjcfhkecggaaContI
import Derived.Test.YtkekjcfhkecggaaSplitContinuantC
import Derived.Deep.RegionHeld3
namespace Go.Proofs.Ytkekjcfhkecggaa
set_option linter.unusedVariables false
open Go.RowKit

def spB (l : List Int) (i : Int) : Bool := good l && inB i 1 ((l.length : Int) - 1)
def spL4 (l : List Int) (k : Nat) : List Int := [ctv (-1) (l.take k), ctv (-1) (l.drop k), ctv (-1) (l.take (k - 1)), ctv (-1) (l.drop (k + 1))]
def spL (l : List Int) (i : Int) : List Int := if spB l i = true then spL4 l i.toNat else []
theorem inBq_iff {n lo hi : Int} : inB n lo hi = true ↔ lo ≤ n ∧ n ≤ hi := by unfold inB; simp
theorem spB_iff {l : List Int} {i : Int} : spB l i = true ↔ good l = true ∧ 1 ≤ i ∧ i ≤ (l.length : Int) - 1 := by
  unfold spB
  rw [Bool.and_eq_true, inBq_iff]
theorem spL_length (l : List Int) (i : Int) : (spL l i).length ≤ 1000000000 := by
  unfold spL spL4
  split <;> simp
theorem retS_no {l : List Int} {i : Int} {w w' : World} (h : spB l i = false) (hb : Below w.heap.size w w') : RetI w (spL l i) (spB l i) (.returned (.tuple #[.slice none 0 0, .bool false])) w' := by
  unfold spL
  rw [h]
  exact ⟨none, 0, rfl, World.ownsRow_nil _ _ _ _, hb⟩
theorem retS_fin {l : List Int} {k : Nat} {v1 v2 v3 v4 : Int} {w w' : World} (h : spB l k = true) (h1 : ctv (-1) (l.take k) = v1) (h2 : ctv (-1) (l.drop k) = v2) (h3 : ctv (-1) (l.take (k - 1)) = v3) (h4 : ctv (-1) (l.drop (k + 1)) = v4) (hs : w.heap.size ≤ w'.heap.size)
    (hb : Below w.heap.size w (w'.alloc (.cells #[.int .i64 v1, .int .i64 v2, .int .i64 v3, .int .i64 v4] 3)).drew) :
    RetI w (spL l k) (spB l k) (.returned (.tuple #[.slice (some ⟨w'.heap.size, 0, none⟩) 4 4, .bool true])) (w'.alloc (.cells #[.int .i64 v1, .int .i64 v2, .int .i64 v3, .int .i64 v4] 3)).drew := by
  have e : spL l (k : Int) = [v1, v2, v3, v4] := by
    unfold spL
    rw [if_pos h, Int.toNat_natCast]
    unfold spL4
    rw [h1, h2, h3, h4]
  rw [e, h]
  exact ⟨_, 4, rfl, ⟨rfl, .inr ⟨w'.heap.size, 4, _, rfl, hs, heap_alloc_new w' _, Nat.le_refl _, by unfold maxLen; decide, rfl, rfl⟩⟩, hb⟩

theorem retS_fin2 {l : List Int} {k : Nat} {v1 v2 v3 v4 : Int} {w w' : World} (h : spB l k = true) (h1 : ctv (-1) (l.take k) = v1) (h2 : ctv (-1) (l.drop k) = v2) (h3 : ctv (-1) (l.take (k - 1)) = v3) (h4 : ctv (-1) (l.drop (k + 1)) = v4) (hs : w.heap.size ≤ w'.heap.size)
    (hb : Below w.heap.size w (w'.alloc (.cells #[.int .i64 v1, .int .i64 v2, .int .i64 v3, .int .i64 v4] 3))) :
    RetI w (spL l k) (spB l k) (.returned (.tuple #[.slice (some ⟨w'.heap.size, 0, none⟩) 4 4, .bool true])) (w'.alloc (.cells #[.int .i64 v1, .int .i64 v2, .int .i64 v3, .int .i64 v4] 3)) := by
  have e : spL l (k : Int) = [v1, v2, v3, v4] := by
    unfold spL
    rw [if_pos h, Int.toNat_natCast]
    unfold spL4
    rw [h1, h2, h3, h4]
  rw [e, h]
  exact ⟨_, 4, rfl, ⟨rfl, .inr ⟨w'.heap.size, 4, _, rfl, hs, heap_alloc_new w' _, Nat.le_refl _, by unfold maxLen; decide, rfl, rfl⟩⟩, hb⟩

theorem SlI.cutIt {w : World} {B b off c : Nat} {l : List Int} (h : SlI w B (some ⟨b, off, none⟩) l) (k : Nat) (hc : ¬ c = k) : SlI w B (some ⟨b, off + k, none⟩) (l.drop k) := fun h0 => by
  have hl : k < l.length := by simp at h0; omega
  obtain ⟨b', off', e, hb, hcell⟩ := h (by omega)
  cases e
  refine ⟨b, off + k, rfl, hb, fun j hj => ?_⟩
  have hj2 : k + j < l.length := by simp at hj; omega
  have e : (l.drop k).getD j 0 = l.getD (k + j) 0 := by simp [List.getD_eq_getElem?_getD]
  rw [e, show off + k + j = off + (k + j) by omega]
  exact hcell (k + j) hj2
theorem SlI.bel {w w' : World} {B : Nat} {A : Option Addr} {l : List Int} (h : SlI w B A l) (hB : B ≤ w.heap.size) (hb : Below w.heap.size w w') : SlI w' B A l := h.below (hb.mono hB)

set_option maxRecDepth 100000 in
set_option maxHeartbeats 6400000 in
theorem spec_SplitContinuant (A : Option Addr) (c B : Nat) (l : List Int) (i : Int) (w : World) (h : SlI w B A l) (hB : B ≤ w.heap.size) (hl : l.length ≤ 1048576) (hlc : l.length ≤ c) :
    Calls Try.prog 41 #[.slice A l.length c, .int .i64 i] w (RetI w (spL l i) (spB l i)) := by
  obtain ⟨n, hn⟩ : ∃ n, l.length = n := ⟨_, rfl⟩
  rw [hn] at hl hlc ⊢
  have Hn := Lib.hid hn
  go_enter Try.func41, Try.ntmps41
  go_wp2_with fail
  refine (spec_ctGood A _ c B l _ Hn.out h hl).mono ?_
  rintro e w1 ⟨rfl, rfl⟩
  cases hg : good l
  · have HE := Lib.hid (retS_no (l := l) (i := i) (w := w) (by unfold spB; rw [hg]; rfl) (Below.refl _ _))
    clear h hn hg
    go_wp2
    go_ret2
    exact HE.out
  · have h10 := (good_iff.1 hg).1
    have n10 : n ≤ 10 := by omega
    go_wp2_with fail
    refine (spec_l1In' _ _ _ _).mono ?_
    rintro e w1 ⟨rfl, rfl⟩
    cases hi : inB i 1 ((n : Int) - 1)
    · have HE := Lib.hid (retS_no (l := l) (i := i) (w := w) (by unfold spB; rw [hn, hi]; simp) (Below.refl _ _))
      clear h hn hg hi
      go_wp2
      go_ret2
      exact HE.out
    · obtain ⟨h1, h2⟩ := inBq_iff.1 hi
      clear hi
      obtain ⟨k, rfl⟩ := Int.eq_ofNat_of_zero_le (show 0 ≤ i by omega)
      obtain ⟨b', off, rfl, hbB, hc⟩ := h (by omega)
      have hk1 : 1 ≤ k := by omega
      have hk2 : k < n := by omega
      have Hok : Hid (spB l k = true) := Lib.hid (spB_iff.2 ⟨hg, by omega, by omega⟩)
      have Hsm := Lib.hid (good_small hg)
      have H := Lib.hid h
      have HT : Hid ((l.take k).length = k) := Lib.hid (by simp; omega)
      have HT1 : Hid ((l.take (k - 1)).length = k - 1) := Lib.hid (by simp; omega)
      have HD : Hid ((l.drop k).length = n - k) := Lib.hid (by simp; omega)
      have HD1 : Hid ((l.drop (k + 1)).length = n - (k + 1)) := Lib.hid (by simp; omega)
      have HS1 : Hid (∀ w', Below w.heap.size w w' → SlI w' B (some ⟨b', off, none⟩) (l.take k)) := Lib.hid fun w' hb => (H.out.bel hB hb).take k
      have HS3 : Hid (∀ w', Below w.heap.size w w' → SlI w' B (some ⟨b', off, none⟩) (l.take (k - 1))) := Lib.hid fun w' hb => (H.out.bel hB hb).take _
      have HS2 : Hid (∀ w', Below w.heap.size w w' → SlI w' B (some ⟨b', off + k, none⟩) (l.drop k)) := Lib.hid fun w' hb => (H.out.bel hB hb).cutIt k (c := c) (by omega)
      have k0 : (0 : Int) ≤ (k : Int) := by omega
      have k1 : (k : Int) ≤ (c : Int) := by omega
      have k2 : (0 : Int) ≤ (k : Int) + 1 := by omega
      have k3 : (k : Int) + 1 ≤ (n : Int) := by omega
      have k4 : (n : Int) ≤ (c : Int) := by omega
      have k5 : ¬ c = k := by omega
      have k6 : (k : Int) ≤ (n : Int) := by omega
      have k7 : (0 : Int) ≤ (k : Int) - 1 := by omega
      have k8 : (1 : Int) ≤ (k : Int) := by omega
      have k9 : (k : Int) - 1 ≤ (c : Int) := by omega
      have ka : k ≤ c + 1 := by omega
      have kb : (k : Int) ≤ (c : Int) + 1 := by omega
      have q1 : k ≤ 10 := by omega
      have q2 : n - k ≤ 10 := by omega
      have q3 : k - 1 ≤ 10 := by omega
      have q4 : n - (k + 1) ≤ 10 := by omega
      have hc1 : c = k + 1 ∨ ¬ c = k + 1 := by omega
      clear hc h hn hg h10 h1 h2
      rcases hc1 with hce | hce
      · skip
        have hn1 : n = k + 1 := by omega
        subst hce
        subst hn1
        have HS4 : Hid (∀ w', Below w.heap.size w w' → SlI w' B (some ⟨b', off, none⟩) (l.drop (k + 1))) := Lib.hid fun w' hb => by rw [List.drop_of_length_le (by rw [Hn.out]; exact Nat.le_refl _)]; exact SlI.nil_
        replace HD : Hid ((l.drop k).length = 1) := Lib.hid (by rw [HD.out]; omega)
        replace HD1 : Hid ((l.drop (k + 1)).length = 0) := Lib.hid (by rw [HD1.out]; omega)
        have f1 : (k : Int) ≤ (k : Int) + 1 := by omega
        have f2 : (k : Int) - 1 ≤ (k : Int) + 1 := by omega
        have f3 : (k : Int) ≤ (k : Int) + 1 + 1 := by omega
        have f4 : (k : Int) ≤ 1 + ((k : Int) + 1) := by omega
        have f5 : (k : Int) ≤ (k : Int) + 2 := by omega
        have f6 : (0 : Int) ≤ (k : Int) + 1 := by omega
        generalize hv1 : ctv (-1) (l.take k) = v1 at *
        generalize hv2 : ctv (-1) (l.drop k) = v2 at *
        generalize hv3 : ctv (-1) (l.take (k - 1)) = v3 at *
        generalize hv4 : ctv (-1) (l.drop (k + 1)) = v4 at *
        have HF : Hid (∀ w' : World, w.heap.size ≤ w'.heap.size → Below w.heap.size w (w'.alloc (.cells #[.int .i64 v1, .int .i64 v2, .int .i64 v3, .int .i64 v4] 3)).drew → RetI w (spL l k) (spB l k) (.returned (.tuple #[.slice (some ⟨w'.heap.size, 0, none⟩) 4 4, .bool true])) (w'.alloc (.cells #[.int .i64 v1, .int .i64 v2, .int .i64 v3, .int .i64 v4] 3)).drew) := Lib.hid fun w' hs hb => retS_fin Hok.out hv1 hv2 hv3 hv4 hs hb
        have Hv1 := Lib.hid hv1
        have Hv2 := Lib.hid hv2
        have Hv3 := Lib.hid hv3
        have Hv4 := Lib.hid hv4
        clear hv1 hv2 hv3 hv4
        go_wp2
        have hpw : IntKind.i64.wrap ((k : Int) + 1) = (k : Int) + 1 := IntWalk.i64_in _ (by omega)
        have hpn : ((k : Int) + 1).toNat = k + 1 := by omega
        have hqw : IntKind.i64.wrap ((k : Int) - 1) = (k : Int) - 1 := IntWalk.i64_in _ (by omega)
        have hqn : ((k : Int) - 1).toNat = k - 1 := by omega
        go_region_held3 (fun w' => Below w.heap.size w w')
          (first
            | assumption
            | exact below_drewN (by assumption) _
            | exact (Below.refl _ _).drew
            | exact Below.refl _ _
            | exact below_drewN (Below.refl _ _) _
            | exact (below_drewN (Below.refl _ _) _).drew
            | exact Below.alloc (by assumption) (Below.size (by assumption)) _)
          (first
            | (go_at_call 46; ((with_reducible refine (spec_ctValue _ k _ B (l.take k) (-1) _ HT.out (.inr rfl) (HS1.out _ (by assumption)) (Hsm.out.take _) q1).mono ?_); rintro e w1 ⟨rfl, rfl⟩; rw [Hv1.out]))
            | (go_at_call 46; ((with_reducible refine (spec_ctValue _ 1 _ B (l.drop k) (-1) _ HD.out (.inr rfl) (HS2.out _ (by assumption)) (Hsm.out.drop _) (by decide)).mono ?_); rintro e w1 ⟨rfl, rfl⟩; rw [Hv2.out]))
            | (go_at_call 46; ((with_reducible refine (spec_ctValue _ (k - 1) _ B (l.take (k - 1)) (-1) _ HT1.out (.inr rfl) (HS3.out _ (by assumption)) (Hsm.out.take _) q3).mono ?_); rintro e w1 ⟨rfl, rfl⟩; rw [Hv3.out]))
            | (go_at_call 46; ((with_reducible refine (spec_ctValue _ 0 _ B (l.drop (k + 1)) (-1) _ HD1.out (.inr rfl) (HS4.out _ (by assumption)) (Hsm.out.drop _) (by decide)).mono ?_); rintro e w1 ⟨rfl, rfl⟩; rw [Hv4.out])))
        rename_i hS
        have HE := Lib.hid (HF.out _ (Nat.le_refl _) hS)
        clear hS hpw hpn hqw hqn
        go_wp2
        go_ret2
        exact HE.out
      · skip
        have HS4 : Hid (∀ w', Below w.heap.size w w' → SlI w' B (some ⟨b', off + (k + 1), none⟩) (l.drop (k + 1))) := Lib.hid fun w' hb => (H.out.bel hB hb).cutIt (k + 1) hce
        generalize hv1 : ctv (-1) (l.take k) = v1 at *
        generalize hv2 : ctv (-1) (l.drop k) = v2 at *
        generalize hv3 : ctv (-1) (l.take (k - 1)) = v3 at *
        generalize hv4 : ctv (-1) (l.drop (k + 1)) = v4 at *
        have HF : Hid (∀ w' : World, w.heap.size ≤ w'.heap.size → Below w.heap.size w (w'.alloc (.cells #[.int .i64 v1, .int .i64 v2, .int .i64 v3, .int .i64 v4] 3)).drew → RetI w (spL l k) (spB l k) (.returned (.tuple #[.slice (some ⟨w'.heap.size, 0, none⟩) 4 4, .bool true])) (w'.alloc (.cells #[.int .i64 v1, .int .i64 v2, .int .i64 v3, .int .i64 v4] 3)).drew) := Lib.hid fun w' hs hb => retS_fin Hok.out hv1 hv2 hv3 hv4 hs hb
        have Hv1 := Lib.hid hv1
        have Hv2 := Lib.hid hv2
        have Hv3 := Lib.hid hv3
        have Hv4 := Lib.hid hv4
        clear hv1 hv2 hv3 hv4
        go_wp2
        have hpw : IntKind.i64.wrap ((k : Int) + 1) = (k : Int) + 1 := IntWalk.i64_in _ (by omega)
        have hpn : ((k : Int) + 1).toNat = k + 1 := by omega
        have hqw : IntKind.i64.wrap ((k : Int) - 1) = (k : Int) - 1 := IntWalk.i64_in _ (by omega)
        have hqn : ((k : Int) - 1).toNat = k - 1 := by omega
        go_region_held3 (fun w' => Below w.heap.size w w')
          (first
            | assumption
            | exact below_drewN (by assumption) _
            | exact (Below.refl _ _).drew
            | exact Below.refl _ _
            | exact below_drewN (Below.refl _ _) _
            | exact (below_drewN (Below.refl _ _) _).drew
            | exact Below.alloc (by assumption) (Below.size (by assumption)) _)
          (first
            | (go_at_call 46; ((with_reducible refine (spec_ctValue _ k _ B (l.take k) (-1) _ HT.out (.inr rfl) (HS1.out _ (by assumption)) (Hsm.out.take _) q1).mono ?_); rintro e w1 ⟨rfl, rfl⟩; rw [Hv1.out]))
            | (go_at_call 46; ((with_reducible refine (spec_ctValue _ (n - k) _ B (l.drop k) (-1) _ HD.out (.inr rfl) (HS2.out _ (by assumption)) (Hsm.out.drop _) q2).mono ?_); rintro e w1 ⟨rfl, rfl⟩; rw [Hv2.out]))
            | (go_at_call 46; ((with_reducible refine (spec_ctValue _ (k - 1) _ B (l.take (k - 1)) (-1) _ HT1.out (.inr rfl) (HS3.out _ (by assumption)) (Hsm.out.take _) q3).mono ?_); rintro e w1 ⟨rfl, rfl⟩; rw [Hv3.out]))
            | (go_at_call 46; ((with_reducible refine (spec_ctValue _ (n - (k + 1)) _ B (l.drop (k + 1)) (-1) _ HD1.out (.inr rfl) (HS4.out _ (by assumption)) (Hsm.out.drop _) q4).mono ?_); rintro e w1 ⟨rfl, rfl⟩; rw [Hv4.out])))
        rename_i hS
        have HE := Lib.hid (HF.out _ (Nat.le_refl _) hS)
        clear hS hpw hpn hqw hqn
        go_wp2
        go_ret2
        exact HE.out

set_option maxRecDepth 100000 in
set_option maxHeartbeats 6400000 in
theorem impl_SplitContinuant (A : Option Addr) (c B : Nat) (l : List Int) (i : Int) (w : World) (h : SlI w B A l) (hB : B ≤ w.heap.size) (hl : l.length ≤ 1048576) (hlc : l.length ≤ c) :
    Calls Try.prog 42 #[.slice A l.length c, .int .i64 i] w (RetI w (spL l i) (spB l i)) := by
  obtain ⟨n, hn⟩ : ∃ n, l.length = n := ⟨_, rfl⟩
  rw [hn] at hl hlc ⊢
  have Hn := Lib.hid hn
  go_enter Try.func42, Try.ntmps42
  go_wp2_with fail
  refine (impl_IsTermList A _ c B l _ Hn.out h hl).mono ?_
  rintro e w1 ⟨rfl, rfl⟩
  cases hg : good l
  · have HE := Lib.hid (retS_no (l := l) (i := i) (w := w) (by unfold spB; rw [hg]; rfl) (Below.refl _ _))
    clear h hn hg
    go_wp2
    go_ret2
    exact HE.out
  · have h10 := (good_iff.1 hg).1
    have n10 : n ≤ 10 := by omega
    by_cases h1 : i < 1
    · have HE := Lib.hid (retS_no (l := l) (i := i) (w := w) (by rw [Bool.eq_false_iff]; intro e; have := spB_iff.1 e; omega) (Below.refl _ _))
      clear h hn hg
      go_wp2
      go_ret2
      exact HE.out
    · by_cases h2 : (n : Int) ≤ i
      · have HE := Lib.hid (retS_no (l := l) (i := i) (w := w) (by rw [Bool.eq_false_iff]; intro e; have := spB_iff.1 e; omega) (Below.refl _ _))
        clear h hn hg
        go_wp2
        go_ret2
        exact HE.out
      · skip
        obtain ⟨k, rfl⟩ := Int.eq_ofNat_of_zero_le (show 0 ≤ i by omega)
        obtain ⟨b', off, rfl, hbB, hc⟩ := h (by omega)
        have hk1 : 1 ≤ k := by omega
        have hk2 : k < n := by omega
        have Hok : Hid (spB l k = true) := Lib.hid (spB_iff.2 ⟨hg, by omega, by omega⟩)
        have Hsm := Lib.hid (good_small hg)
        have H := Lib.hid h
        have HT : Hid ((l.take k).length = k) := Lib.hid (by simp; omega)
        have HT1 : Hid ((l.take (k - 1)).length = k - 1) := Lib.hid (by simp; omega)
        have HD : Hid ((l.drop k).length = n - k) := Lib.hid (by simp; omega)
        have HD1 : Hid ((l.drop (k + 1)).length = n - (k + 1)) := Lib.hid (by simp; omega)
        have HS1 : Hid (∀ w', Below w.heap.size w w' → SlI w' B (some ⟨b', off, none⟩) (l.take k)) := Lib.hid fun w' hb => (H.out.bel hB hb).take k
        have HS3 : Hid (∀ w', Below w.heap.size w w' → SlI w' B (some ⟨b', off, none⟩) (l.take (k - 1))) := Lib.hid fun w' hb => (H.out.bel hB hb).take _
        have HS2 : Hid (∀ w', Below w.heap.size w w' → SlI w' B (some ⟨b', off + k, none⟩) (l.drop k)) := Lib.hid fun w' hb => (H.out.bel hB hb).cutIt k (c := c) (by omega)
        have k0 : (0 : Int) ≤ (k : Int) := by omega
        have k1 : (k : Int) ≤ (c : Int) := by omega
        have k2 : (0 : Int) ≤ (k : Int) + 1 := by omega
        have k3 : (k : Int) + 1 ≤ (n : Int) := by omega
        have k4 : (n : Int) ≤ (c : Int) := by omega
        have k5 : ¬ c = k := by omega
        have k6 : (k : Int) ≤ (n : Int) := by omega
        have k7 : (0 : Int) ≤ (k : Int) - 1 := by omega
        have k8 : (1 : Int) ≤ (k : Int) := by omega
        have k9 : (k : Int) - 1 ≤ (c : Int) := by omega
        have ka : k ≤ c + 1 := by omega
        have kb : (k : Int) ≤ (c : Int) + 1 := by omega
        have q1 : k ≤ 10 := by omega
        have q2 : n - k ≤ 10 := by omega
        have q3 : k - 1 ≤ 10 := by omega
        have q4 : n - (k + 1) ≤ 10 := by omega
        have hc1 : c = k + 1 ∨ ¬ c = k + 1 := by omega
        clear hc h hn hg h10 h1 h2
        rcases hc1 with hce | hce
        · skip
          have hn1 : n = k + 1 := by omega
          subst hce
          subst hn1
          have HS4 : Hid (∀ w', Below w.heap.size w w' → SlI w' B (some ⟨b', off + k, none⟩) (l.drop (k + 1))) := Lib.hid fun w' hb => by rw [List.drop_of_length_le (by rw [Hn.out]; exact Nat.le_refl _)]; exact SlI.nil_
          replace HD : Hid ((l.drop k).length = 1) := Lib.hid (by rw [HD.out]; omega)
          replace HD1 : Hid ((l.drop (k + 1)).length = 0) := Lib.hid (by rw [HD1.out]; omega)
          have f1 : (k : Int) ≤ (k : Int) + 1 := by omega
          have f2 : (k : Int) - 1 ≤ (k : Int) + 1 := by omega
          have f3 : (k : Int) ≤ (k : Int) + 1 + 1 := by omega
          have f4 : (k : Int) ≤ 1 + ((k : Int) + 1) := by omega
          have f5 : (k : Int) ≤ (k : Int) + 2 := by omega
          have f6 : (0 : Int) ≤ (k : Int) + 1 := by omega
          generalize hv1 : ctv (-1) (l.take k) = v1 at *
          generalize hv2 : ctv (-1) (l.drop k) = v2 at *
          generalize hv3 : ctv (-1) (l.take (k - 1)) = v3 at *
          generalize hv4 : ctv (-1) (l.drop (k + 1)) = v4 at *
          have HF : Hid (∀ w' : World, w.heap.size ≤ w'.heap.size → Below w.heap.size w (w'.alloc (.cells #[.int .i64 v1, .int .i64 v2, .int .i64 v3, .int .i64 v4] 3)) → RetI w (spL l k) (spB l k) (.returned (.tuple #[.slice (some ⟨w'.heap.size, 0, none⟩) 4 4, .bool true])) (w'.alloc (.cells #[.int .i64 v1, .int .i64 v2, .int .i64 v3, .int .i64 v4] 3))) := Lib.hid fun w' hs hb => retS_fin2 Hok.out hv1 hv2 hv3 hv4 hs hb
          have Hv1 := Lib.hid hv1
          have Hv2 := Lib.hid hv2
          have Hv3 := Lib.hid hv3
          have Hv4 := Lib.hid hv4
          clear hv1 hv2 hv3 hv4
          go_wp2
          go_quiet (fail)
          have hbd : Below w.heap.size w (w.drewN nq) := below_drewN (Below.refl _ _) _
          generalize w.drewN nq = wd at *
          have hsz := hbd.size
          have e1 : (k : Int) - 1 ≤ (k : Int) := by omega
          have e2 : (k : Int) ≤ (k : Int) + 1 := by omega
          go_wp2
          have hpw : IntKind.i64.wrap ((k : Int) + 1) = (k : Int) + 1 := IntWalk.i64_in _ (by omega)
          have hpn : ((k : Int) + 1).toNat = k + 1 := by omega
          have hqw : IntKind.i64.wrap ((k : Int) - 1) = (k : Int) - 1 := IntWalk.i64_in _ (by omega)
          have hqn : ((k : Int) - 1).toNat = k - 1 := by omega
          go_region_held3 (fun w' => Below w.heap.size w w')
            (first
              | assumption
              | exact below_drewN (by assumption) _
              | exact hbd.drew
              | exact hbd
              | exact Below.refl _ _
              | exact below_drewN (Below.refl _ _) _
              | exact (below_drewN (Below.refl _ _) _).drew
              | exact Below.alloc (by assumption) (Below.size (by assumption)) _)
            (first
              | (go_at_call 47; ((with_reducible refine (impl_continuant _ k k B (l.take k) _ HT.out q1 (Nat.le_refl _) (HS1.out _ (by assumption)) (Hsm.out.take _)).mono ?_); rintro e w1 ⟨rfl, z, rfl⟩; rw [Hv1.out]))
              | (go_at_call 47; ((with_reducible refine (impl_continuant _ 1 1 B (l.drop k) _ HD.out (by decide) (Nat.le_refl _) (HS2.out _ (by assumption)) (Hsm.out.drop _)).mono ?_); rintro e w1 ⟨rfl, z, rfl⟩; rw [Hv2.out]))
              | (go_at_call 47; ((with_reducible refine (impl_continuant _ (k - 1) k B (l.take (k - 1)) _ HT1.out q3 (Nat.sub_le _ _) (HS3.out _ (by assumption)) (Hsm.out.take _)).mono ?_); rintro e w1 ⟨rfl, z, rfl⟩; rw [Hv3.out]))
              | (go_at_call 47; ((with_reducible refine (impl_continuant _ 0 0 B (l.drop (k + 1)) _ HD1.out (by decide) (Nat.le_refl _) (HS4.out _ (by assumption)) (Hsm.out.drop _)).mono ?_); rintro e w1 ⟨rfl, z, rfl⟩; rw [Hv4.out])))
          rename_i hS
          have HE := Lib.hid (HF.out _ (by first | exact hsz | exact Nat.le_trans hsz (Nat.le_refl _)) hS)
          clear hS hpw hpn hqw hqn
          go_wp2
          go_ret2
          exact HE.out
        · skip
          have HS4 : Hid (∀ w', Below w.heap.size w w' → SlI w' B (some ⟨b', off + k + 1, none⟩) (l.drop (k + 1))) := Lib.hid fun w' hb => (H.out.bel hB hb).cutIt (k + 1) hce
          have hce2 : ¬ c - k = 1 := by omega
          have g1 : (1 : Int) ≤ ((n - k : Nat) : Int) := by omega
          have g2 : ((n - k : Nat) : Int) ≤ ((c - k : Nat) : Int) := by omega
          have g3 : 1 ≤ n - k := by omega
          have g4 : n - k ≤ c - k := by omega
          have g5 : n - k - 1 ≤ c - k - 1 := by omega
          have q5 : n - k - 1 ≤ 10 := by omega
          have HDx : Hid ((l.drop (k + 1)).length = n - k - 1) := Lib.hid (by rw [HD1.out]; omega)
          generalize hv1 : ctv (-1) (l.take k) = v1 at *
          generalize hv2 : ctv (-1) (l.drop k) = v2 at *
          generalize hv3 : ctv (-1) (l.take (k - 1)) = v3 at *
          generalize hv4 : ctv (-1) (l.drop (k + 1)) = v4 at *
          have HF : Hid (∀ w' : World, w.heap.size ≤ w'.heap.size → Below w.heap.size w (w'.alloc (.cells #[.int .i64 v1, .int .i64 v2, .int .i64 v3, .int .i64 v4] 3)) → RetI w (spL l k) (spB l k) (.returned (.tuple #[.slice (some ⟨w'.heap.size, 0, none⟩) 4 4, .bool true])) (w'.alloc (.cells #[.int .i64 v1, .int .i64 v2, .int .i64 v3, .int .i64 v4] 3))) := Lib.hid fun w' hs hb => retS_fin2 Hok.out hv1 hv2 hv3 hv4 hs hb
          have Hv1 := Lib.hid hv1
          have Hv2 := Lib.hid hv2
          have Hv3 := Lib.hid hv3
          have Hv4 := Lib.hid hv4
          clear hv1 hv2 hv3 hv4
          go_wp2
          go_quiet (fail)
          have hbd : Below w.heap.size w (w.drewN nq) := below_drewN (Below.refl _ _) _
          generalize w.drewN nq = wd at *
          have hsz := hbd.size
          have e1 : (k : Int) - 1 ≤ (k : Int) := by omega
          have e2 : (k : Int) ≤ (k : Int) + 1 := by omega
          go_wp2
          have hpw : IntKind.i64.wrap ((k : Int) + 1) = (k : Int) + 1 := IntWalk.i64_in _ (by omega)
          have hpn : ((k : Int) + 1).toNat = k + 1 := by omega
          have hqw : IntKind.i64.wrap ((k : Int) - 1) = (k : Int) - 1 := IntWalk.i64_in _ (by omega)
          have hqn : ((k : Int) - 1).toNat = k - 1 := by omega
          go_region_held3 (fun w' => Below w.heap.size w w')
            (first
              | assumption
              | exact below_drewN (by assumption) _
              | exact hbd.drew
              | exact hbd
              | exact Below.refl _ _
              | exact below_drewN (Below.refl _ _) _
              | exact (below_drewN (Below.refl _ _) _).drew
              | exact Below.alloc (by assumption) (Below.size (by assumption)) _)
            (first
              | (go_at_call 47; ((with_reducible refine (impl_continuant _ k k B (l.take k) _ HT.out q1 (Nat.le_refl _) (HS1.out _ (by assumption)) (Hsm.out.take _)).mono ?_); rintro e w1 ⟨rfl, z, rfl⟩; rw [Hv1.out]))
              | (go_at_call 47; ((with_reducible refine (impl_continuant _ (n - k) (c - k) B (l.drop k) _ HD.out q2 g4 (HS2.out _ (by assumption)) (Hsm.out.drop _)).mono ?_); rintro e w1 ⟨rfl, z, rfl⟩; rw [Hv2.out]))
              | (go_at_call 47; ((with_reducible refine (impl_continuant _ (k - 1) k B (l.take (k - 1)) _ HT1.out q3 (Nat.sub_le _ _) (HS3.out _ (by assumption)) (Hsm.out.take _)).mono ?_); rintro e w1 ⟨rfl, z, rfl⟩; rw [Hv3.out]))
              | (go_at_call 47; ((with_reducible refine (impl_continuant _ (n - k - 1) (c - k - 1) B (l.drop (k + 1)) _ HDx.out q5 g5 (HS4.out _ (by assumption)) (Hsm.out.drop _)).mono ?_); rintro e w1 ⟨rfl, z, rfl⟩; rw [Hv4.out])))
          rename_i hS
          have HE := Lib.hid (HF.out _ (by first | exact hsz | exact Nat.le_trans hsz (Nat.le_refl _)) hS)
          clear hS hpw hpn hqw hqn
          go_wp2
          go_ret2
          exact HE.out

theorem WSplitContinuant.walk (w : World) (A : Option Addr) (c : Nat) (l : List Int) (h : SlI w w.heap.size A l)
    (hj : l.length ≤ c ∧ c ≤ maxLen ∧ ∀ x ∈ l, (Lit.int .i64 x).wf = true) (i : Int) (wi : (Lit.int .i64 i).wf = true) :
    Calls Try.prog 14 #[.slice A l.length c, .int .i64 i] w fun e w' => e = .returned (.bool true) ∧ Below w.heap.size w w' :=
  WSplitContinuant.core w A c l i h hj.1 hj.2.1 (spL l i) (spB l i) (spL_length l i)
    (Lib.hid fun A c w h hl hlc => spec_SplitContinuant A c _ l i w h (Nat.le_refl _) hl hlc)
    (Lib.hid fun A c w h hl hlc => impl_SplitContinuant A c _ l i w h (Nat.le_refl _) hl hlc)
end Go.Proofs.Ytkekjcfhkecggaa
