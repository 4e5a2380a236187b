/- FeqA: one text, since a claim holds 60 files at most. -/
import Derived.Test.YtlnnnjnboknoeaaTriS
import Derived.Test.YtlnnnjnboknoeaaPcM
import Derived.Test.YtlnnnjnboknoeaaLawPS
import Derived.Test.YtlnnnjnboknoeaaPcN
import Derived.Test.YtlnnnjnboknoeaaFliS
import Derived.Test.YtlnnnjnboknoeaaApp
import Derived.Test.YtlnnnjnboknoeaaLawM
import Derived.Test.YtlnnnjnboknoeaaCntM
import Derived.Test.YtlnnnjnboknoeaaTriI
import Derived.Test.YtlnnnjnboknoeaaTriJ
import Derived.Test.YtlnnnjnboknoeaaCntT
import Derived.Test.YtlnnnjnboknoeaaAllCutsW
import Derived.Test.YtlnnnjnboknoeaaFirstEqualCutC
import Derived.Laws.AppendOwnNone
import Derived.Deep.QuietTactic
import Derived.BigQuiet
import Derived.Deep.RegionHeld3
import Derived.Defers
import Derived.Recover
import Derived.IntWalk
import Derived.Shelf.SlSortCmp.Kit1
import Derived.Shelf.SlLaysF
import Derived.Shelf.SlSortCmp.Whole1
import Derived.Shelf.Sort.Plain
import Derived.Deep.DeepAppendRoom
import Derived.OpenShut
/- CugS: The model's cuGood: is a list a cut? -/
namespace Go.Proofs.Ytlnnnjnboknoeaa
set_option linter.unusedVariables false
open Go.RowKit

set_option maxHeartbeats 3200000 in
theorem spec_cuGood_loop (n : Int) (A : Option Addr) (c B : Nat) (l : List (Int × Int)) (w : World) (h : SlD w B A l) (hB : B ≤ w.heap.size) (hl : l.length ≤ 1048576) (hlc : l.length ≤ c)
    (h1 : 3 ≤ n) (h2 : n ≤ 12) (h3 : ¬ n - 3 < (l.length : Int)) :
    Calls Try.prog 51 #[.int .i64 n, .slice A l.length c] w fun e w' => e = .returned (.bool (uncB n l)) ∧ Below w.heap.size w w' := by
  have k1 : poB n = true := poB_iff.2 ⟨h1, h2⟩
  go_enter Try.func51, Try.ntmps51
  go_wp2_with (go_at_call 87; ((with_reducible refine (spec_poIs _ _ _ k1).mono ?_); rintro e w' ⟨rfl, rfl⟩))
  clear k1 h1 h2 h3
  go_loopw [5, 6, 8, 21] (fun _ _ _ i wr => ∃ k : Nat, k ≤ l.length ∧ i = .int .i64 k ∧ Below w.heap.size w wr ∧ upTo n l k = true) (fun _ _ _ i _ => l.length - (intOf i).toNat)
  case atStart => exact ⟨0, Nat.zero_le _, rfl, Below.refl _ _, rfl⟩
  case round =>
    obtain ⟨k, hk, rfl, hb, hup⟩ := hrel
    have Hup := Lib.hid hup
    clear hup
    by_cases hlt : k < l.length
    · have hA := h.below (hb.mono hB)
      obtain ⟨b', off, rfl, hbB, hc⟩ := hA (by omega)
      obtain ⟨g0, g1⟩ := hc k hlt
      have i0 : (0 : Int) ≤ (k : Int) := by omega
      have i1 : (k : Int) < (l.length : Int) := by omega
      have i2 : (k : Int) ≤ (c : Int) := by omega
      have hok : okAt n l k = okAt n l k := rfl
      conv at hok => rhs; unfold okAt
      generalize hd : l.getD k (0, 0) = d at *
      obtain ⟨x, y⟩ := d
      dsimp only at g0 g1 hok
      have Hok := Lib.hid hok
      clear hc hA hd hok
      go_wp2
      cases hx : dgB n x y
      · have hno : okAt n l k = false := by rw [Hok.out, hx]; rfl
        have Hno := Lib.hid hno
        clear hno
        refine wp_region_held_drew (S := (fun w' => w'.cell? ⟨wr.heap.size, 0, none⟩ = some (.int .i64 x) ∧ w'.cell? ⟨wr.heap.size, 1, none⟩ = some (.int .i64 y) ∧ Below w.heap.size w w')) (by kernel_rfl) ?_ (fun hH => ?_)
        · exact ⟨by simp [go_sem], by simp [go_sem], (hb.alloc hb.size _).drew⟩
        refine wpAnyH_take (i := 0) (oi := _) (v := ?_) rfl (by kernel_rfl) (by kernel_rfl) (by kernel_rfl) (fun _ _ _ h => h) (Or.inl ⟨by rfl, ?_⟩) hH ?_
        rotate_left
        · (intro w hSw; (try dsimp only at hSw); go_simp <;> (with_reducible rfl))
        try simp only [Act.put, List.getElem_toArray, List.getElem_cons_zero, List.setIfInBounds_toArray, List.set_cons_zero, List.set_cons_succ]
        refine wpAnyH_take (i := 1) (oi := _) (v := ?_) rfl (by kernel_rfl) (by kernel_rfl) (by kernel_rfl) (fun _ _ _ h => h) (Or.inl ⟨by rfl, ?_⟩) hH ?_
        rotate_left
        · (intro w hSw; (try dsimp only at hSw); go_simp <;> (with_reducible rfl))
        try simp only [Act.put, List.getElem_toArray, List.getElem_cons_succ, List.getElem_cons_zero, List.setIfInBounds_toArray, List.set_cons_zero, List.set_cons_succ]
        refine wpAnyH_ready (rs := [2]) (by kernel_rfl) (by simp) ?_
        refine AllReadyH.cons rfl (fun K hK => ?_) AllReadyH.nil
        go_simp
        refine (spec_poDiagonal _ _ _ _).mono ?_
        rintro e w1 ⟨rfl, hb1⟩
        refine hK.out _ _ ?_ (fun hH => ?_)
        · exact kept2 hH hb1 (Nat.le_refl _)
        clear hK K
        try simp only [Act.put, List.getElem_toArray, List.getElem_cons_succ, List.getElem_cons_zero, List.setIfInBounds_toArray, List.set_cons_zero, List.set_cons_succ]
        refine wpAnyH_take (i := 3) (oi := _) (v := ?_) rfl (by kernel_rfl) (by kernel_rfl) (by kernel_rfl) (fun _ _ _ h => h) (Or.inl ⟨by rfl, ?_⟩) hH ?_
        rotate_left
        · (intro w hSw; (try dsimp only at hSw); go_simp <;> (with_reducible rfl))
        try simp only [Act.put, List.getElem_toArray, List.getElem_cons_succ, List.getElem_cons_zero, List.setIfInBounds_toArray, List.set_cons_zero, List.set_cons_succ]
        refine wpAnyH_take (i := 4) (oi := _) (v := ?_) rfl (by kernel_rfl) (by kernel_rfl) (by kernel_rfl) (fun _ _ _ h => h) (Or.inl ⟨by rfl, ?_⟩) hH ?_
        rotate_left
        · (intro w hSw; (try dsimp only at hSw); go_simp <;> (with_reducible rfl))
        try simp only [Act.put, List.getElem_toArray, List.getElem_cons_succ, List.getElem_cons_zero, List.setIfInBounds_toArray, List.set_cons_zero, List.set_cons_succ]
        refine wpAnyH_take (i := 5) (oi := _) (v := undef) rfl (by kernel_rfl) (by kernel_rfl) (by kernel_rfl) (fun _ _ _ h => h) (Or.inr ⟨rfl, rfl⟩) hH ?_
        try simp only [Act.put, List.getElem_toArray, List.getElem_cons_succ, List.getElem_cons_zero, List.setIfInBounds_toArray, List.set_cons_zero, List.set_cons_succ]
        refine wpAnyH_take (i := 6) (oi := _) (v := undef) rfl (by kernel_rfl) (by kernel_rfl) (by kernel_rfl) (fun _ _ _ h => h) (Or.inr ⟨rfl, rfl⟩) hH ?_
        try simp only [Act.put, List.getElem_toArray, List.getElem_cons_succ, List.getElem_cons_zero, List.setIfInBounds_toArray, List.set_cons_zero, List.set_cons_succ]
        refine wpAnyH_take (i := 7) (oi := _) (v := undef) rfl (by kernel_rfl) (by kernel_rfl) (by kernel_rfl) (fun _ _ _ h => h) (Or.inr ⟨rfl, rfl⟩) hH ?_
        try simp only [Act.put, List.getElem_toArray, List.getElem_cons_succ, List.getElem_cons_zero, List.setIfInBounds_toArray, List.set_cons_zero, List.set_cons_succ]
        refine wpAnyH_take (i := 8) (oi := _) (v := undef) rfl (by kernel_rfl) (by kernel_rfl) (by kernel_rfl) (fun _ _ _ h => h) (Or.inr ⟨rfl, rfl⟩) hH ?_
        try simp only [Act.put, List.getElem_toArray, List.getElem_cons_succ, List.getElem_cons_zero, List.setIfInBounds_toArray, List.set_cons_zero, List.set_cons_succ]
        refine wpAnyH_take (i := 9) (oi := _) (v := undef) rfl (by kernel_rfl) (by kernel_rfl) (by kernel_rfl) (fun _ _ _ h => h) (Or.inr ⟨rfl, rfl⟩) hH ?_
        try simp only [Act.put, List.getElem_toArray, List.getElem_cons_succ, List.getElem_cons_zero, List.setIfInBounds_toArray, List.set_cons_zero, List.set_cons_succ]
        refine wpAnyH_take (i := 10) (oi := _) (v := undef) rfl (by kernel_rfl) (by kernel_rfl) (by kernel_rfl) (fun _ _ _ h => h) (Or.inr ⟨rfl, rfl⟩) hH ?_
        try simp only [Act.put, List.getElem_toArray, List.getElem_cons_succ, List.getElem_cons_zero, List.setIfInBounds_toArray, List.set_cons_zero, List.set_cons_succ]
        refine wpAnyH_take (i := 11) (oi := _) (v := undef) rfl (by kernel_rfl) (by kernel_rfl) (by kernel_rfl) (fun _ _ _ h => h) (Or.inr ⟨rfl, rfl⟩) hH ?_
        try simp only [Act.put, List.getElem_toArray, List.getElem_cons_succ, List.getElem_cons_zero, List.setIfInBounds_toArray, List.set_cons_zero, List.set_cons_succ]
        refine wpAnyH_take (i := 12) (oi := _) (v := undef) rfl (by kernel_rfl) (by kernel_rfl) (by kernel_rfl) (fun _ _ _ h => h) (Or.inr ⟨rfl, rfl⟩) hH ?_
        try simp only [Act.put, List.getElem_toArray, List.getElem_cons_succ, List.getElem_cons_zero, List.setIfInBounds_toArray, List.set_cons_zero, List.set_cons_succ]
        refine wpAnyH_take (i := 13) (oi := _) (v := undef) rfl (by kernel_rfl) (by kernel_rfl) (by kernel_rfl) (fun _ _ _ h => h) (Or.inr ⟨rfl, rfl⟩) hH ?_
        try simp only [Act.put, List.getElem_toArray, List.getElem_cons_succ, List.getElem_cons_zero, List.setIfInBounds_toArray, List.set_cons_zero, List.set_cons_succ]
        refine wpAnyH_take (i := 14) (oi := _) (v := undef) rfl (by kernel_rfl) (by kernel_rfl) (by kernel_rfl) (fun _ _ _ h => h) (Or.inr ⟨rfl, rfl⟩) hH ?_
        try simp only [Act.put, List.getElem_toArray, List.getElem_cons_succ, List.getElem_cons_zero, List.setIfInBounds_toArray, List.set_cons_zero, List.set_cons_succ]
        refine wpAnyH_take (i := 15) (oi := _) (v := undef) rfl (by kernel_rfl) (by kernel_rfl) (by kernel_rfl) (fun _ _ _ h => h) (Or.inr ⟨rfl, rfl⟩) hH ?_
        try simp only [Act.put, List.getElem_toArray, List.getElem_cons_succ, List.getElem_cons_zero, List.setIfInBounds_toArray, List.set_cons_zero, List.set_cons_succ]
        refine wpAnyH_take (i := 16) (oi := _) (v := undef) rfl (by kernel_rfl) (by kernel_rfl) (by kernel_rfl) (fun _ _ _ h => h) (Or.inr ⟨rfl, rfl⟩) hH ?_
        try simp only [Act.put, List.getElem_toArray, List.getElem_cons_succ, List.getElem_cons_zero, List.setIfInBounds_toArray, List.set_cons_zero, List.set_cons_succ]
        refine wpAnyH_take (i := 17) (oi := _) (v := ?_) rfl (by kernel_rfl) (by kernel_rfl) (by kernel_rfl) (fun _ _ _ h => h) (Or.inl ⟨by rfl, ?_⟩) hH ?_
        rotate_left
        · (intro w hSw; (try dsimp only at hSw); go_simp <;> (with_reducible rfl))
        try simp only [Act.put, List.getElem_toArray, List.getElem_cons_succ, List.getElem_cons_zero, List.setIfInBounds_toArray, List.set_cons_zero, List.set_cons_succ]
        refine wpAnyH_done (by kernel_rfl) ?_ _
        have hd := hH.2.2
        clear hH hb1 hb
        go_wp2
        go_ret
        exact ⟨ret_bool (upTo_false n l k _ hlt Hno.out).symm, hd⟩
      · by_cases hk0 : k = 0
        · subst hk0
          refine wp_region_held_drew (S := (fun w' => w'.cell? ⟨wr.heap.size, 0, none⟩ = some (.int .i64 x) ∧ w'.cell? ⟨wr.heap.size, 1, none⟩ = some (.int .i64 y) ∧ Below w.heap.size w w')) (by kernel_rfl) ?_ (fun hH => ?_)
          · exact ⟨by simp [go_sem], by simp [go_sem], (hb.alloc hb.size _).drew⟩
          refine wpAnyH_take (i := 0) (oi := _) (v := ?_) rfl (by kernel_rfl) (by kernel_rfl) (by kernel_rfl) (fun _ _ _ h => h) (Or.inl ⟨by rfl, ?_⟩) hH ?_
          rotate_left
          · (intro w hSw; (try dsimp only at hSw); go_simp <;> (with_reducible rfl))
          try simp only [Act.put, List.getElem_toArray, List.getElem_cons_zero, List.setIfInBounds_toArray, List.set_cons_zero, List.set_cons_succ]
          refine wpAnyH_take (i := 1) (oi := _) (v := ?_) rfl (by kernel_rfl) (by kernel_rfl) (by kernel_rfl) (fun _ _ _ h => h) (Or.inl ⟨by rfl, ?_⟩) hH ?_
          rotate_left
          · (intro w hSw; (try dsimp only at hSw); go_simp <;> (with_reducible rfl))
          try simp only [Act.put, List.getElem_toArray, List.getElem_cons_succ, List.getElem_cons_zero, List.setIfInBounds_toArray, List.set_cons_zero, List.set_cons_succ]
          refine wpAnyH_ready (rs := [2]) (by kernel_rfl) (by simp) ?_
          refine AllReadyH.cons rfl (fun K hK => ?_) AllReadyH.nil
          go_simp
          refine (spec_poDiagonal _ _ _ _).mono ?_
          rintro e w1 ⟨rfl, hb1⟩
          refine hK.out _ _ ?_ (fun hH => ?_)
          · exact kept2 hH hb1 (Nat.le_refl _)
          clear hK K
          try simp only [Act.put, List.getElem_toArray, List.getElem_cons_succ, List.getElem_cons_zero, List.setIfInBounds_toArray, List.set_cons_zero, List.set_cons_succ]
          refine wpAnyH_take (i := 3) (oi := _) (v := ?_) rfl (by kernel_rfl) (by kernel_rfl) (by kernel_rfl) (fun _ _ _ h => h) (Or.inl ⟨by rfl, ?_⟩) hH ?_
          rotate_left
          · (intro w hSw; (try dsimp only at hSw); go_simp <;> (with_reducible rfl))
          try simp only [Act.put, List.getElem_toArray, List.getElem_cons_succ, List.getElem_cons_zero, List.setIfInBounds_toArray, List.set_cons_zero, List.set_cons_succ]
          refine wpAnyH_take (i := 4) (oi := _) (v := ?_) rfl (by kernel_rfl) (by kernel_rfl) (by kernel_rfl) (fun _ _ _ h => h) (Or.inl ⟨by rfl, ?_⟩) hH ?_
          rotate_left
          · (intro w hSw; (try dsimp only at hSw); go_simp <;> (with_reducible rfl))
          try simp only [Act.put, List.getElem_toArray, List.getElem_cons_succ, List.getElem_cons_zero, List.setIfInBounds_toArray, List.set_cons_zero, List.set_cons_succ]
          refine wpAnyH_take (i := 5) (oi := _) (v := ?_) rfl (by kernel_rfl) (by kernel_rfl) (by kernel_rfl) (fun _ _ _ h => h) (Or.inl ⟨by rfl, ?_⟩) hH ?_
          rotate_left
          · (intro w hSw; (try dsimp only at hSw); go_simp <;> (with_reducible rfl))
          try simp only [Act.put, List.getElem_toArray, List.getElem_cons_succ, List.getElem_cons_zero, List.setIfInBounds_toArray, List.set_cons_zero, List.set_cons_succ]
          refine wpAnyH_take (i := 6) (oi := _) (v := ?_) rfl (by kernel_rfl) (by kernel_rfl) (by kernel_rfl) (fun _ _ _ h => h) (Or.inl ⟨by rfl, ?_⟩) hH ?_
          rotate_left
          · (intro w hSw; (try dsimp only at hSw); go_simp <;> (with_reducible rfl))
          try simp only [Act.put, List.getElem_toArray, List.getElem_cons_succ, List.getElem_cons_zero, List.setIfInBounds_toArray, List.set_cons_zero, List.set_cons_succ]
          refine wpAnyH_take (i := 7) (oi := _) (v := ?_) rfl (by kernel_rfl) (by kernel_rfl) (by kernel_rfl) (fun _ _ _ h => h) (Or.inl ⟨by rfl, ?_⟩) hH ?_
          rotate_left
          · (intro w hSw; (try dsimp only at hSw); go_simp <;> (with_reducible rfl))
          try simp only [Act.put, List.getElem_toArray, List.getElem_cons_succ, List.getElem_cons_zero, List.setIfInBounds_toArray, List.set_cons_zero, List.set_cons_succ]
          refine wpAnyH_take (i := 8) (oi := _) (v := undef) rfl (by kernel_rfl) (by kernel_rfl) (by kernel_rfl) (fun _ _ _ h => h) (Or.inr ⟨rfl, rfl⟩) hH ?_
          try simp only [Act.put, List.getElem_toArray, List.getElem_cons_succ, List.getElem_cons_zero, List.setIfInBounds_toArray, List.set_cons_zero, List.set_cons_succ]
          refine wpAnyH_take (i := 9) (oi := _) (v := undef) rfl (by kernel_rfl) (by kernel_rfl) (by kernel_rfl) (fun _ _ _ h => h) (Or.inr ⟨rfl, rfl⟩) hH ?_
          try simp only [Act.put, List.getElem_toArray, List.getElem_cons_succ, List.getElem_cons_zero, List.setIfInBounds_toArray, List.set_cons_zero, List.set_cons_succ]
          refine wpAnyH_take (i := 10) (oi := _) (v := undef) rfl (by kernel_rfl) (by kernel_rfl) (by kernel_rfl) (fun _ _ _ h => h) (Or.inr ⟨rfl, rfl⟩) hH ?_
          try simp only [Act.put, List.getElem_toArray, List.getElem_cons_succ, List.getElem_cons_zero, List.setIfInBounds_toArray, List.set_cons_zero, List.set_cons_succ]
          refine wpAnyH_take (i := 11) (oi := _) (v := undef) rfl (by kernel_rfl) (by kernel_rfl) (by kernel_rfl) (fun _ _ _ h => h) (Or.inr ⟨rfl, rfl⟩) hH ?_
          try simp only [Act.put, List.getElem_toArray, List.getElem_cons_succ, List.getElem_cons_zero, List.setIfInBounds_toArray, List.set_cons_zero, List.set_cons_succ]
          refine wpAnyH_take (i := 12) (oi := _) (v := undef) rfl (by kernel_rfl) (by kernel_rfl) (by kernel_rfl) (fun _ _ _ h => h) (Or.inr ⟨rfl, rfl⟩) hH ?_
          try simp only [Act.put, List.getElem_toArray, List.getElem_cons_succ, List.getElem_cons_zero, List.setIfInBounds_toArray, List.set_cons_zero, List.set_cons_succ]
          refine wpAnyH_take (i := 13) (oi := _) (v := undef) rfl (by kernel_rfl) (by kernel_rfl) (by kernel_rfl) (fun _ _ _ h => h) (Or.inr ⟨rfl, rfl⟩) hH ?_
          try simp only [Act.put, List.getElem_toArray, List.getElem_cons_succ, List.getElem_cons_zero, List.setIfInBounds_toArray, List.set_cons_zero, List.set_cons_succ]
          refine wpAnyH_take (i := 14) (oi := _) (v := undef) rfl (by kernel_rfl) (by kernel_rfl) (by kernel_rfl) (fun _ _ _ h => h) (Or.inr ⟨rfl, rfl⟩) hH ?_
          try simp only [Act.put, List.getElem_toArray, List.getElem_cons_succ, List.getElem_cons_zero, List.setIfInBounds_toArray, List.set_cons_zero, List.set_cons_succ]
          refine wpAnyH_take (i := 15) (oi := _) (v := undef) rfl (by kernel_rfl) (by kernel_rfl) (by kernel_rfl) (fun _ _ _ h => h) (Or.inr ⟨rfl, rfl⟩) hH ?_
          try simp only [Act.put, List.getElem_toArray, List.getElem_cons_succ, List.getElem_cons_zero, List.setIfInBounds_toArray, List.set_cons_zero, List.set_cons_succ]
          refine wpAnyH_take (i := 16) (oi := _) (v := ?_) rfl (by kernel_rfl) (by kernel_rfl) (by kernel_rfl) (fun _ _ _ h => h) (Or.inl ⟨by rfl, ?_⟩) hH ?_
          rotate_left
          · (intro w hSw; (try dsimp only at hSw); go_simp <;> (with_reducible rfl))
          try simp only [Act.put, List.getElem_toArray, List.getElem_cons_succ, List.getElem_cons_zero, List.setIfInBounds_toArray, List.set_cons_zero, List.set_cons_succ]
          refine wpAnyH_take (i := 17) (oi := _) (v := ?_) rfl (by kernel_rfl) (by kernel_rfl) (by kernel_rfl) (fun _ _ _ h => h) (Or.inl ⟨by rfl, ?_⟩) hH ?_
          rotate_left
          · (intro w hSw; (try dsimp only at hSw); go_simp <;> (with_reducible rfl))
          try simp only [Act.put, List.getElem_toArray, List.getElem_cons_succ, List.getElem_cons_zero, List.setIfInBounds_toArray, List.set_cons_zero, List.set_cons_succ]
          refine wpAnyH_done (by kernel_rfl) ?_ _
          have hd := hH.2.2
          have hok : upTo n l (0 + 1) = true := by rw [upTo_succ, Hup.out, Hok.out, hx]; simp [anyCross]
          have Hok2 := Lib.hid hok
          clear hH hb1 hb hok
          go_wp2
          refine wp_loop_rounds 1 ?_
          rw [rounds_succ]
          go_wp2
          go_roundw
          case rel => exact ⟨1, by omega, rfl, hd, Hok2.out⟩
          case measure => simp [intOf]; omega
        · have hk1 : 0 < k := by omega
          have hA2 := h.below (hb.mono hB)
          obtain ⟨b2, off2, e2, hbB2, hc2⟩ := hA2 (by omega)
          cases e2
          obtain ⟨r0, r1⟩ := hc2 (k - 1) (by omega)
          have j0 : (0 : Int) ≤ (k : Int) - 1 := by omega
          have j1 : (k : Int) - 1 < (l.length : Int) := by omega
          have j2 : (0 : Int) < (k : Int) := by omega
          have j3 : ((k : Int) - 1).toNat = k - 1 := by omega
          have j5 : (1 : Int) ≤ (k : Int) := by omega
          have j6 : (k : Int) ≤ (l.length : Int) := by omega
          have j7 : (k : Int) < (l.length : Int) + 1 := by omega
          have z0 := cell_kept ((Below.refl wr.heap.size wr).alloc (Nat.le_refl _) (.cells #[.int .i64 x, .int .i64 y] 49)).drew r0
          have z1 := cell_kept ((Below.refl wr.heap.size wr).alloc (Nat.le_refl _) (.cells #[.int .i64 x, .int .i64 y] 49)).drew r1
          generalize hp : l.getD (k - 1) (0, 0) = p at *
          obtain ⟨u, v⟩ := p
          dsimp only at r0 r1 z0 z1 Hok
          have j4 : IntKind.i64.wrap ((k : Int) - 1) = (k : Int) - 1 := IntWalk.i64_in _ (by omega)
          clear hc2 hp hA2
          go_region_held3 (fun w' => w'.cell? ⟨wr.heap.size, 0, none⟩ = some (.int .i64 x) ∧ w'.cell? ⟨wr.heap.size, 1, none⟩ = some (.int .i64 y) ∧
              w'.cell? ⟨b', off + (k - 1) * 2, none⟩ = some (.int .i64 u) ∧ w'.cell? ⟨b', off + (k - 1) * 2 + 1, none⟩ = some (.int .i64 v) ∧ Below w.heap.size w w')
            (first
              | exact kept4 (by assumption) hb1 (Nat.le_refl _)
              | exact ⟨by simp [go_sem], by simp [go_sem], z0, z1, (hb.alloc hb.size _).drew⟩)
            (first
              | (go_at_call 67; refine (spec_poDiagonal _ _ _ _).mono ?_; rintro e w1 ⟨rfl, hb1⟩)
              | (go_at_call 88; refine (spec_poLess _ _ _ _ _).mono ?_; rintro e w1 ⟨rfl, hb1⟩))
          clear j4 j3 z0 z1 r0 r1
          rename_i hS
          have q0 := hS.1
          have q1 := hS.2.1
          have hd := hS.2.2.2.2
          have hsz := hb.size
          clear hS hb1 hb
          cases hz : ltB u v x y
          · have hno : okAt n l k = false := by rw [Hok.out, hx, hz]; simp; omega
            have Hno := Lib.hid hno
            clear hno
            go_wp2
            go_ret
            exact ⟨ret_bool (upTo_false n l k _ hlt Hno.out).symm, hd⟩
          · have Hok3 : Hid (anyCross (x, y) (l.take k) = false → okAt n l k = true) := Lib.hid (fun he => by rw [Hok.out, hx, hz, he]; simp)
            have Hok4 : Hid (anyCross (x, y) (l.take k) = true → okAt n l k = false) := Lib.hid (fun he => by rw [Hok.out, hx, hz, he]; simp)
            have hG : wr.heap.size < w1.heap.size := World.block_lt_of_cell? w1 _ q0
            have hG0 : w.heap.size ≤ wr.heap.size := hsz
            clear Hok hx
            simp only [Bool.not_true]
            go_wp2
            obtain ⟨wo, rfl⟩ : ∃ wo : World, wo = wr := ⟨_, rfl⟩
            obtain ⟨wp, rfl⟩ : ∃ wp : World, wp = w1 := ⟨_, rfl⟩
            go_loopw [8, 48] (fun _ i wr => ∃ j : Nat, j ≤ k ∧ i = .int .i64 j ∧ Below w.heap.size w wr ∧ Below wp.heap.size wp wr ∧ anyCross (x, y) (l.take j) = false) (fun _ i _ => k - (intOf i).toNat)
            case atStart => exact ⟨0, Nat.zero_le _, rfl, hd, Below.refl _ _, by simp [anyCross]⟩
            case round =>
              obtain ⟨j, hj, rfl, hb, hbp, hno⟩ := hrel
              by_cases hjk : j < k
              · obtain ⟨b3, off3, e3, hbB3, hc3⟩ := h.below (hb.mono hB) (by omega)
                cases e3
                obtain ⟨s0, s1⟩ := hc3 j (by omega)
                have m0 : (0 : Int) ≤ (j : Int) := by omega
                have m1 : (j : Int) < (k : Int) := by omega
                have q2 := cell_kept hbp q0
                have q3 := cell_kept hbp q1
                have hst := anyCross_take (x, y) l j (by omega)
                have hhit := cross_all (d := (x, y)) (l := l) j hjk hlt
                rw [hno, Bool.false_or] at hst
                dsimp only at hst hhit
                generalize (l.getD j (0, 0)).1 = a at *
                generalize (l.getD j (0, 0)).2 = b at *
                have Hst := Lib.hid hst
                have Hhit := Lib.hid hhit
                have hs : wo.heap.size < wr.heap.size := Nat.lt_of_lt_of_le hG hbp.size
                clear hst hhit hc3 hno q0 q1 g0 g1
                go_wp2_with fail
                refine (spec_poCross x y a b _).mono ?_
                rintro e w2 ⟨rfl, hb2⟩
                have hb3 := below_kept (hb.alloc hb.size (.cells #[.int .i64 a, .int .i64 b] 49)) (Nat.le_refl _) hb2
                have hb4 := below_kept (hbp.alloc hbp.size (.cells #[.int .i64 a, .int .i64 b] 49)) (Nat.le_refl _) hb2
                clear hb2 hb hbp q2 q3 s0 s1
                cases hcr : crB x y a b
                · go_wp2
                  go_roundw
                  case rel => exact ⟨j + 1, by omega, by go_num, hb3, hb4, by rw [Hst.out, hcr]⟩
                  case measure => simp [intOf]; omega
                · have hno : okAt n l k = false := Hok4.out (Hhit.out hcr)
                  have Hno := Lib.hid hno
                  clear hno
                  go_wp2
                  go_ret
                  exact ⟨ret_bool (upTo_false n l k _ hlt Hno.out).symm, hb3⟩
              · obtain rfl : j = k := by omega
                have hok : upTo n l (j + 1) = true := by rw [upTo_succ, Hup.out, Hok3.out hno]; rfl
                have Hok2 := Lib.hid hok
                clear hok hno q0 q1
                go_wp2
                go_roundw
                case rel => exact ⟨j + 1, by omega, by go_num, hb, Hok2.out⟩
                case measure => simp [intOf]; omega
    · obtain rfl : k = l.length := by omega
      go_wp2
      go_ret
      exact ⟨ret_bool Hup.out.symm, hb⟩


theorem cutB_len {n : Int} {l : List (Int × Int)} (h : cutB n l = true) : 3 ≤ n ∧ n ≤ 12 ∧ (l.length : Int) ≤ n - 3 := by
  unfold cutB at h
  rw [Bool.and_eq_true, poB_iff, uncB_split, Bool.and_eq_true] at h
  obtain ⟨⟨h1, h2⟩, h3, h4⟩ := h
  obtain ⟨m, rfl⟩ := Int.eq_ofNat_of_zero_le (show 0 ≤ n by omega)
  have := cut_sum (by omega) h3 h4
  omega
theorem spec_cuGood (n : Int) (A : Option Addr) (c B : Nat) (l : List (Int × Int)) (w : World) (h : SlD w B A l) (hB : B ≤ w.heap.size) (hl : l.length ≤ 1048576) (hlc : l.length ≤ c) :
    Calls Try.prog 51 #[.int .i64 n, .slice A l.length c] w fun e w' => e = .returned (.bool (cutB n l)) ∧ Below w.heap.size w w' := by
  by_cases h1 : 3 ≤ n ∧ n ≤ 12
  · have k1 : poB n = true := poB_iff.2 h1
    by_cases h2 : n - 3 < (l.length : Int)
    · have hfin : cutB n l = false := by
        cases hc : cutB n l
        · rfl
        · have := cutB_len hc; omega
      have Hfin := Lib.hid hfin
      obtain ⟨_, _⟩ := h1
      clear hfin h
      go_enter Try.func51, Try.ntmps51
      go_wp2_with (go_at_call 87; ((with_reducible refine (spec_poIs _ _ _ k1).mono ?_); rintro e w' ⟨rfl, rfl⟩))
      go_ret
      exact ⟨ret_bool Hfin.out.symm, Below.refl _ _⟩
    · rw [show cutB n l = uncB n l by simp [cutB, k1]]
      exact spec_cuGood_loop n A c B l w h hB hl hlc h1.1 h1.2 h2
  · have k1 : poB n = false := by
      cases hp : poB n
      · rfl
      · exact absurd (poB_iff.1 hp) h1
    have hfin : cutB n l = false := by simp [cutB, k1]
    have Hfin := Lib.hid hfin
    clear hfin h
    go_enter Try.func51, Try.ntmps51
    go_wp2_with (go_at_call 87; ((with_reducible refine (spec_poIs _ _ _ k1).mono ?_); rintro e w' ⟨rfl, rfl⟩))
    go_ret
    exact ⟨ret_bool Hfin.out.symm, Below.refl _ _⟩
end Go.Proofs.Ytlnnnjnboknoeaa

/- CusS: Rows' values appended, from wherever they lie; rows of lists that are read alone; the model's cuLess and cuSorted. -/
namespace Go.Proofs.Ytlnnnjnboknoeaa
open Go.RowKit

/-- a slice's value leads to the values given -/
def SrcV (w : World) (A : Option Addr) (m c : Nat) (rs2 : List Value) : Prop :=
  rs2.length = m ∧ ((A = none ∧ m = 0 ∧ c = 0) ∨ ∃ g off, A = some ⟨g, off, none⟩ ∧ ∀ j u, rs2[j]? = some u → w.cell? ⟨g, off + j, none⟩ = some u)
section
variable {ops : Array Oper} {rest : List Oper} {o : Oper} {a : Act} {Q : Exit → Act → World → Prop}
theorem wp_appendVS {K : Act → World → Prop} (w : World) (s x : Operand) (ho : o.op = .call { callee := .builtin .append, args := #[s, x], argTypes := #[29, 29] })
    (base : Nat) (v : Value) (n : Nat) (rs : List Value) (hs : a.eval s = v) (hown : w.ownsRow base 35 1 v n rs) (A : Option Addr) (m c : Nat) (rs2 : List Value) (hx : a.eval x = .slice A m c)
    (hr : SrcV w A m c rs2) (h1 : ∀ u ∈ rs2, u.oneCell' = true) (hlen : n ≤ 1000000) (hlm : m ≤ 1000000) (hbase : base ≤ w.heap.size)
    (h : ∀ A' c' w', w'.ownsRow base 35 1 (.slice A' (n + m) c') (n + m) (rs ++ rs2) → w.grownBy w' v.ownBlock → K (a.put o.dst (.slice A' (n + m) c')) w') :
    o.wp Try.prog a w K Q := by
  obtain ⟨i0, hi, hz0, hz1, hz2⟩ := info_parts infoSl
  have fin : ∀ v' w', w'.ownsRow base 35 1 v' (n + m) (rs ++ rs2) → w.grownBy w' v.ownBlock → K (a.put o.dst v') w' := by
    intro v' w' ho' hg
    obtain ⟨A', c', rfl⟩ := own_form ho'
    exact h A' c' w' ho' hg
  obtain ⟨hl, ⟨rfl, rfl, rfl⟩ | ⟨g, off, rfl, hc⟩⟩ := hr
  · obtain rfl : rs2 = [] := List.eq_nil_of_length_eq_zero hl
    have hrun : (Builtin.append_ #[29, 29] o.type #[v, .slice none 0 0]).run Try.prog w = .ok v w := by
      rcases hown.2 with ⟨rfl, hn⟩ | ⟨g, cap, cur, rfl, _, _, hnc, _⟩
      · simp [Builtin.append_, run_underlying Try.underlying29, sizeOf, typeInfo, hi, Builtin.lenOf, Builtin.firstCells]
      · simp [Builtin.append_, run_underlying Try.underlying29, sizeOf, typeInfo, hi, Builtin.lenOf, Builtin.firstCells, hnc, storeCells]
    unfold Oper.wp execOp
    simp only [ho, resolve, invoke, builtin, Sem.run_bind, Sem.run_pure, Result.andThen_ok, List.map_toArray, List.map_cons, List.map_nil, hs, hx, hrun]
    exact fin v w (by simpa using hown) (World.grownBy.refl w _)
  · exact wp_append_own w s x 29 ho base 35 i0 (.slice none 0 0) 1 24 Try.underlying29 hi hz0 hz1 hz2 rfl (by decide) v n rs hs hown ⟨g, off, none⟩ m c rs2 hx (by rw [hl, Nat.mul_one])
      (fun j u hu => by rw [Addr.add_lit]; exact hc j u hu) h1
      (by unfold maxLen; omega) (by omega) hbase (fun v' w' h3 h4 _ => fin v' w' h3 h4)
theorem wpList_appendVS (w : World) (hgd : o.guard = none) (s x : Operand) (ho : o.op = .call { callee := .builtin .append, args := #[s, x], argTypes := #[29, 29] })
    (base : Nat) (v : Value) (n : Nat) (rs : List Value) (hs : a.eval s = v) (hown : w.ownsRow base 35 1 v n rs) (A : Option Addr) (m c : Nat) (rs2 : List Value) (hx : a.eval x = .slice A m c)
    (hr : SrcV w A m c rs2) (h1 : ∀ u ∈ rs2, u.oneCell' = true) (hlen : n ≤ 1000000) (hlm : m ≤ 1000000) (hbase : base ≤ w.heap.size)
    (h : ∀ A' c' w', w'.ownsRow base 35 1 (.slice A' (n + m) c') (n + m) (rs ++ rs2) → w.grownBy w' v.ownBlock → wpList Try.prog ops Q rest (a.put o.dst (.slice A' (n + m) c')) w') :
    wpList Try.prog ops Q (o :: rest) a w :=
  wpList_plain hgd fun _ hK => wp_appendVS w s x ho base v n rs hs hown A m c rs2 hx hr h1 hlen hlm hbase fun A' c' w' h1 h2 => hK _ _ (h A' c' w' h1 h2)
end

theorem srcV_take {w : World} {base g c n : Nat} {rs : List Value} (h : w.ownsRow base 35 1 (.slice (some ⟨g, 0, none⟩) n c) n rs) (p : Nat) (hp : p ≤ n) (c' : Nat) : SrcV w (some ⟨g, 0, none⟩) p c' (rs.take p) := by
  have hl := h.1
  refine ⟨by simp; omega, .inr ⟨g, 0, rfl, fun j u hu => ?_⟩⟩
  have hj : j < p := by
    have := (List.getElem?_eq_some_iff.1 hu).1
    simp at this; omega
  rw [List.getElem?_take_of_lt hj] at hu
  rw [Nat.zero_add]
  exact (h.cellAt j (by omega)).trans hu
theorem srcV_drop {w : World} {base g c n : Nat} {rs : List Value} (h : w.ownsRow base 35 1 (.slice (some ⟨g, 0, none⟩) n c) n rs) (p : Nat) (hp : p ≤ n) (hc : n ≤ c) (c' : Nat) : SrcV w (if c = p then some ⟨g, 0, none⟩ else some ⟨g, p, none⟩) (n - p) c' (rs.drop p) := by
  have hl := h.1
  by_cases e : c = p
  · rw [if_pos e]
    refine ⟨by simp; omega, .inr ⟨g, 0, rfl, fun j u hu => ?_⟩⟩
    rw [List.drop_of_length_le (by omega)] at hu
    simp at hu
  · rw [if_neg e]
    refine ⟨by simp; omega, .inr ⟨g, p, rfl, fun j u hu => ?_⟩⟩
    rw [List.getElem?_drop] at hu
    have hj : p + j < n := by
      have := (List.getElem?_eq_some_iff.1 hu).1
      omega
    exact (h.cellAt (p + j) (by omega)).trans hu
theorem own_emptyV (w : World) : (w.alloc (.cells #[] 35)).ownsRow w.heap.size 35 1 (.slice (some ⟨w.heap.size, 0, none⟩) 0 0) 0 [] := ⟨rfl, .inr ⟨w.heap.size, 0, #[], rfl, Nat.le_refl _, heap_alloc_new w _, Nat.le_refl _, by decide, rfl, rfl⟩⟩

/-- values of rows that are read alone -/
def RdR (w : World) (lo B : Nat) (rs : List Value) (Ls : List (List Int)) : Prop :=
  rs.length = Ls.length ∧ ∀ j, j < Ls.length → ∃ A c, rvOf rs j = .slice A (rowOf Ls j).length c ∧ SlI w B A (rowOf Ls j) ∧ ∀ b o, A = some ⟨b, o, none⟩ → lo ≤ b
theorem RdR.nil_ (w : World) (lo B : Nat) : RdR w lo B [] [] := ⟨rfl, fun j hj => by simp at hj⟩
theorem RdR.oneC {w : World} {lo B : Nat} {rs : List Value} {Ls : List (List Int)} (h : RdR w lo B rs Ls) : ∀ u ∈ rs, u.oneCell' = true := fun u hu => by
  obtain ⟨j, hj, rfl⟩ := List.getElem_of_mem hu
  obtain ⟨A', c', e, _⟩ := h.2 j (by rw [← h.1]; exact hj)
  have e2 : rs[j] = rvOf rs j := by unfold rvOf; simp [hj]
  rw [e2, e]
  rfl
theorem RdR.keep {w w' : World} {lo B : Nat} {rs : List Value} {Ls : List (List Int)} (h : RdR w lo B rs Ls) (hb : Below B w w') : RdR w' lo B rs Ls := ⟨h.1, fun j hj => by
  obtain ⟨A, c, e, hs, hlo⟩ := h.2 j hj
  exact ⟨A, c, e, hs.below hb, hlo⟩⟩
theorem RdR.ins {w : World} {lo B : Nat} {rs : List Value} {Ls : List (List Int)} {r : Value} {L : List Int} (p : Nat) (hp : p ≤ Ls.length) (h : RdR w lo B rs Ls) (hr : ∃ A c, r = .slice A L.length c ∧ SlI w B A L ∧ ∀ b o, A = some ⟨b, o, none⟩ → lo ≤ b) :
    RdR w lo B (rs.take p ++ r :: rs.drop p) (Ls.take p ++ L :: Ls.drop p) := by
  have hrl := h.1
  have hl : (Ls.take p ++ L :: Ls.drop p).length = Ls.length + 1 := by simp; omega
  have erv : ∀ j, rvOf (rs.take p ++ r :: rs.drop p) j = if j < p then rvOf rs j else if j = p then r else rvOf rs (j - 1) := fun j => by
    unfold rvOf
    simp only [List.getD_eq_getElem?_getD]
    by_cases h1 : j < p
    · rw [if_pos h1, List.getElem?_append_left (by simp; omega), List.getElem?_take_of_lt h1]
    · rw [if_neg h1, List.getElem?_append_right (by simp; omega), List.length_take, Nat.min_eq_left (by omega)]
      by_cases h2 : j = p
      · subst h2; simp
      · rw [if_neg h2, show j - p = (j - 1 - p) + 1 by omega, List.getElem?_cons_succ, List.getElem?_drop, show p + (j - 1 - p) = j - 1 by omega]
  have erw : ∀ j, rowOf (Ls.take p ++ L :: Ls.drop p) j = if j < p then rowOf Ls j else if j = p then L else rowOf Ls (j - 1) := fun j => by
    unfold rowOf
    simp only [List.getD_eq_getElem?_getD]
    by_cases h1 : j < p
    · rw [if_pos h1, List.getElem?_append_left (by simp; omega), List.getElem?_take_of_lt h1]
    · rw [if_neg h1, List.getElem?_append_right (by simp; omega), List.length_take, Nat.min_eq_left (by omega)]
      by_cases h2 : j = p
      · subst h2; simp
      · rw [if_neg h2, show j - p = (j - 1 - p) + 1 by omega, List.getElem?_cons_succ, List.getElem?_drop, show p + (j - 1 - p) = j - 1 by omega]
  refine ⟨by simp [hrl], fun j hj => ?_⟩
  rw [hl] at hj
  rw [erv, erw]
  by_cases h1 : j < p
  · rw [if_pos h1, if_pos h1]; exact h.2 j (by omega)
  · rw [if_neg h1, if_neg h1]
    by_cases h2 : j = p
    · rw [if_pos h2, if_pos h2]; exact hr
    · rw [if_neg h2, if_neg h2]; exact h.2 (j - 1) (by omega)
/-- a slice's value leads to slices that lead to the lists, all in blocks from lo to B -/
def SlSSn (w : World) (lo B : Nat) (A : Option Addr) (Ls : List (List Int)) : Prop :=
  0 < Ls.length → ∃ b off, A = some ⟨b, off, none⟩ ∧ lo ≤ b ∧ b < B ∧ ∀ j, j < Ls.length → ∃ Aj cj, w.cell? ⟨b, off + j, none⟩ = some (.slice Aj (rowOf Ls j).length cj) ∧ SlI w B Aj (rowOf Ls j) ∧ ∀ b o, Aj = some ⟨b, o, none⟩ → lo ≤ b
theorem SlSSn.to {w : World} {lo B : Nat} {A : Option Addr} {Ls : List (List Int)} (h : SlSSn w lo B A Ls) : SlSS w B A Ls := fun h0 => by
  obtain ⟨b, off, e, _, hb, hc⟩ := h h0
  refine ⟨b, off, e, hb, fun j hj => ?_⟩
  obtain ⟨Aj, cj, h1, h2, _⟩ := hc j hj
  exact ⟨Aj, cj, h1, h2⟩
theorem SlSSn.keep {w w' : World} {lo B : Nat} {A : Option Addr} {Ls : List (List Int)} (h : SlSSn w lo B A Ls) (hk : ∀ b o, lo ≤ b → b < B → w'.cell? ⟨b, o, none⟩ = w.cell? ⟨b, o, none⟩) : SlSSn w' lo B A Ls := fun h0 => by
  obtain ⟨b, off, e, h1, hb, hc⟩ := h h0
  refine ⟨b, off, e, h1, hb, fun j hj => ?_⟩
  obtain ⟨Aj, cj, h2, h3, h4⟩ := hc j hj
  refine ⟨Aj, cj, (hk _ _ h1 hb).trans h2, fun h0' => ?_, h4⟩
  obtain ⟨b2, o2, e2, hb2, hc2⟩ := h3 h0'
  exact ⟨b2, o2, e2, hb2, fun i hi => (hk _ _ (h4 b2 o2 e2) hb2).trans (hc2 i hi)⟩
theorem SlSSn.below {w w' : World} {lo B : Nat} {A : Option Addr} {Ls : List (List Int)} (h : SlSSn w lo B A Ls) (hb : Below B w w') : SlSSn w' lo B A Ls := h.keep fun b o _ hp => hb.cell (p := ⟨b, o, none⟩) hp
theorem SlSSn.mono {w : World} {lo lo' B : Nat} {A : Option Addr} {Ls : List (List Int)} (h : SlSSn w lo B A Ls) (hl : lo' ≤ lo) : SlSSn w lo' B A Ls := fun h0 => by
  obtain ⟨b, off, e, h1, hb, hc⟩ := h h0
  refine ⟨b, off, e, Nat.le_trans hl h1, hb, fun j hj => ?_⟩
  obtain ⟨Aj, cj, h2, h3, h4⟩ := hc j hj
  exact ⟨Aj, cj, h2, h3, fun b o e => Nat.le_trans hl (h4 b o e)⟩
theorem OwnSS.sln {w : World} {base : Nat} {A : Option Addr} {c : Nat} {rs : List Value} {Ls : List (List Int)} (h : OwnSS w base A c rs Ls) : SlSSn w base w.heap.size A Ls := fun h0 => by
  obtain ⟨g, rfl, hb, hlt, hc⟩ := h.outer h0
  refine ⟨g, 0, rfl, hb, hlt, fun j hj => ?_⟩
  have ho := h.2.2.1 j hj
  obtain ⟨Aj, cj, hv⟩ := own_form ho
  have hcj := hc j hj
  rw [hv] at hcj ho
  refine ⟨Aj, cj, by rw [Nat.zero_add]; exact hcj, SlI.of_own ho, fun b o e => ?_⟩
  subst e
  exact (ho.lt b rfl).1
/-- what the model's function gives back, with a bool -/
def RdSSB (w : World) (Ls : List (List Int)) (ok : Bool) (e : Ending) (w' : World) : Prop :=
  ∃ A c, e = .returned (.tuple #[.slice A Ls.length c, .bool ok]) ∧ SlSS w' w'.heap.size A Ls ∧ Below w.heap.size w w'
/-- a list of rows handed back to be read, in blocks from lo on -/
def GivSS (w : World) (lo : Nat) (Ls : List (List Int)) (e : Ending) (w' : World) : Prop :=
  ∃ A c, e = .returned (.slice A Ls.length c) ∧ SlSSn w' lo w'.heap.size A Ls ∧ Below w.heap.size w w'
theorem RdR.sl {w' : World} {lo B base n c : Nat} {A : Option Addr} {rs : List Value} {Ls : List (List Int)} (hn : Ls.length = n) (h : RdR w' lo B rs Ls) (hB : B ≤ w'.heap.size) (hlo : lo ≤ base) (ho : w'.ownsRow base 35 1 (.slice A n c) n rs) : SlSSn w' lo w'.heap.size A Ls := fun h0 => by
  subst hn
  obtain ⟨g, cap, hv, hb, hlt⟩ := ho.form h0
  cases hv
  refine ⟨g, 0, rfl, Nat.le_trans hlo hb, hlt, fun j hj => ?_⟩
  obtain ⟨Aj, cj, e, hs, hl⟩ := h.2 j hj
  refine ⟨Aj, cj, ?_, hs.mono hB, hl⟩
  rw [Nat.zero_add, ho.cellAt j (by omega), rv_get (by rw [h.1]; exact hj), e]

theorem ltP_drop {a b : List Int} {k : Nat} (ha : k < a.length) (hb : k < b.length) : ltP (a.drop k) (b.drop k) = if a.getD k 0 = b.getD k 0 then ltP (a.drop (k + 1)) (b.drop (k + 1)) else decide (a.getD k 0 < b.getD k 0) := by
  rw [List.drop_eq_getElem_cons ha, List.drop_eq_getElem_cons hb]
  have e1 : a.getD k 0 = a[k] := by simp [ha]
  have e2 : b.getD k 0 = b[k] := by simp [hb]
  rw [e1, e2]
  rfl
theorem ltP_end {a b : List Int} {k : Nat} (hk : k ≤ a.length) (hk2 : k ≤ b.length) (h : ¬ (k < a.length ∧ k < b.length)) : ltP (a.drop k) (b.drop k) = decide (a.length < b.length) := by
  by_cases h1 : k < a.length
  · have h2 : b.length = k := by omega
    rw [List.drop_eq_getElem_cons h1, List.drop_of_length_le (l := b) (by omega), decide_eq_false (by omega)]
    rfl
  · have h2 : a.length = k := by omega
    rw [List.drop_of_length_le (l := a) (by omega)]
    by_cases h3 : k < b.length
    · rw [List.drop_eq_getElem_cons h3, decide_eq_true (by omega)]; rfl
    · rw [List.drop_of_length_le (l := b) (by omega), decide_eq_false (by omega)]; rfl
set_option maxRecDepth 100000 in
set_option maxHeartbeats 1600000 in
theorem spec_cuLess (A A2 : Option Addr) (c c2 B B2 n n2 : Nat) (l r : List Int) (w : World) (hl : l.length = n) (hr : r.length = n2) (h : SlI w B A l) (h2 : SlI w B2 A2 r) (hB : B ≤ w.heap.size) (hB2 : B2 ≤ w.heap.size) (hn : n ≤ 1000) (hn2 : n2 ≤ 1000) :
    Calls Try.prog 116 #[.slice A n c, .slice A2 n2 c2] w fun e w' => e = .returned (.bool (ltP l r)) ∧ ∃ z, w' = w.drewN z := by
  have Hl := Lib.hid hl
  have Hr := Lib.hid hr
  have H := Lib.hid h
  have H2 := Lib.hid h2
  clear hl hr h h2
  go_enter Try.func116, Try.ntmps116
  go_wp2
  go_loopw [5] (fun i wr => ∃ k z : Nat, k ≤ n ∧ k ≤ n2 ∧ i = .int .i64 k ∧ wr = w.drewN z ∧ ltP (l.drop k) (r.drop k) = ltP l r) (fun i _ => n - (intOf i).toNat)
  case atStart => exact ⟨0, 0, Nat.zero_le _, Nat.zero_le _, rfl, rfl, rfl⟩
  case round =>
    obtain ⟨k, z, hk, hk2, rfl, hz, ht⟩ := hrel
    have h01 := H.out.drewN z
    have h02 := H2.out.drewN z
    rw [← hz] at h01 h02
    have Hz := Lib.hid hz
    clear hz
    by_cases hlt : k < n ∧ k < n2
    · obtain ⟨hlt1, hlt2⟩ := hlt
      obtain ⟨b, off, rfl, hbB, hc⟩ := h01 (by have := Hl.out; omega)
      have g0 := hc k (by rw [Hl.out]; exact hlt1)
      obtain ⟨b2, off2, rfl, hbB2, hc2⟩ := h02 (by have := Hr.out; omega)
      have q0 := hc2 k (by rw [Hr.out]; exact hlt2)
      have i0 : (0 : Int) ≤ (k : Int) := by omega
      have i1 : (k : Int) < (n : Int) := by omega
      have i2 : (k : Int) < (n2 : Int) := by omega
      rw [ltP_drop (by rw [Hl.out]; exact hlt1) (by rw [Hr.out]; exact hlt2)] at ht
      generalize l.getD k 0 = x at *
      generalize r.getD k 0 = u at *
      have Ht := Lib.hid ht
      clear hc hc2 ht h01 h02
      by_cases hx : x = u
      · subst hx
        rw [if_pos rfl] at Ht
        have e0 : (x != x) = false := by simp
        go_wp2
        go_quiet (fail)
        rename_i nq
        go_wp2
        go_roundw
        case rel => exact ⟨k + 1, z + nq, by omega, by omega, by go_num, by rw [Hz.out]; simp, Ht.out⟩
        case measure => simp [intOf]; omega
      · rw [if_neg hx] at Ht
        have e0 : (x != u) = true := by simpa using hx
        go_wp2
        go_quiet (fail)
        rename_i nq
        go_wp2
        go_quiet (fail)
        go_wp2
        go_ret
        refine ⟨ret_bool Ht.out, ?_⟩
        rw [Hz.out]
        simp only [World.drewN_drewN]
        exact ⟨_, rfl⟩
    · rw [ltP_end (by rw [Hl.out]; exact hk) (by rw [Hr.out]; exact hk2) (by rw [Hl.out, Hr.out]; exact hlt), Hl.out, Hr.out] at ht
      have Ht := Lib.hid ht
      clear ht
      by_cases h1 : k < n
      · have i1 : (k : Int) < (n : Int) := by omega
        have i2 : ¬ (k : Int) < (n2 : Int) := by omega
        have e : decide ((n : Int) < (n2 : Int)) = decide (n < n2) := by rw [decide_eq_decide]; omega
        go_wp2
        go_ret
        exact ⟨ret_bool (by rw [← Ht.out, ← e]), ⟨z, Hz.out⟩⟩
      · have i1 : ¬ (k : Int) < (n : Int) := by omega
        have e : decide ((n : Int) < (n2 : Int)) = decide (n < n2) := by rw [decide_eq_decide]; omega
        go_wp2
        go_ret
        exact ⟨ret_bool (by rw [← Ht.out, ← e]), ⟨z, Hz.out⟩⟩

set_option maxRecDepth 100000 in
set_option maxHeartbeats 3200000 in
theorem spec_cuSorted (A : Option Addr) (c lo B n : Nat) (T : List (List Int)) (w : World) (hn : T.length = n) (h : SlSSn w lo B A T) (hB : B ≤ w.heap.size) (hlo : lo ≤ w.heap.size) (hn9 : n ≤ 1000) (hr : ∀ j, j < n → (rowOf T j).length ≤ 1000) :
    Calls Try.prog 91 #[.slice A n c] w (GivSS w lo (PlS T n)) := by
  have Hn := Lib.hid hn
  have H := Lib.hid h
  have HR := Lib.hid hr
  clear hn h hr
  go_enter Try.func91, Try.ntmps91
  go_wp2
  go_loopw [3, 5, 6, 7, 10] (fun S _ _ _ i wr => ∃ (k : Nat) (A2 : Option Addr) (c2 : Nat) (rs : List Value), k ≤ n ∧ i = .int .i64 k ∧ S = .slice A2 k c2 ∧ (k = 0 → A2 = none ∧ c2 = 0) ∧ wr.ownsRow w.heap.size 35 1 (.slice A2 k c2) k rs ∧ RdR wr lo B rs (PlS T k) ∧ Below w.heap.size w wr) (fun _ _ _ _ i _ => n - (intOf i).toNat)
  case atStart => exact ⟨0, none, 0, [], Nat.zero_le _, rfl, rfl, fun _ => ⟨rfl, rfl⟩, World.ownsRow_nil _ _ _ _, RdR.nil_ _ _ _, Below.refl _ _⟩
  case round =>
    obtain ⟨W0, hW0⟩ : ∃ W0, W0 = wr := ⟨_, rfl⟩
    subst hW0
    obtain ⟨k, A2, c2, rs, hk, rfl, rfl, hnil, ho, hrd, hb⟩ := hrel
    have hQl := PlS_length T k (by rw [Hn.out]; exact hk)
    by_cases hlt : k < n
    · obtain ⟨b0, off0, rfl, _, hbB0, hc0⟩ := H.out.below (hb.mono hB) (by have := Hn.out; omega)
      obtain ⟨Ax, cx, x0, hx, hxl⟩ := hc0 k (by rw [Hn.out]; exact hlt)
      have hins := PlS_succ T k (by rw [Hn.out]; exact hlt)
      have hcap := own_capP ho
      have i0 : (0 : Int) ≤ (k : Int) := by omega
      have i1 : (k : Int) < (n : Int) := by omega
      have hlx := HR.out k hlt
      have hSl : ∀ x ∈ PlS T k, x.length ≤ 1000 := fun x hx => by
        obtain ⟨j, hj, rfl⟩ := List.mem_take_iff_getElem.1 ((PlS_perm T k (by rw [Hn.out]; exact hk)).mem_iff.1 hx)
        have := HR.out j (by omega)
        have e : rowOf T j = T[j]'(by omega) := by simp [rowOf, show j < T.length by omega]
        rwa [e] at this
      have HSl := Lib.hid hSl
      have Hins := Lib.hid hins
      have HQl := Lib.hid hQl
      have Hx := Lib.hid hx
      have Hxl := Lib.hid hxl
      have Ho := Lib.hid ho
      have Hrd := Lib.hid hrd
      have Hb := Lib.hid hb
      have hBW : B ≤ W0.heap.size := Nat.le_trans hB hb.size
      have Hbs := Lib.hid hb.size
      clear hc0 hins hQl hx hxl ho hrd hb hSl
      generalize rowOf T k = L at *
      generalize PlS T k = S at *
      obtain ⟨m, hm⟩ : ∃ m, L.length = m := ⟨_, rfl⟩
      have Hm := Lib.hid hm
      rw [hm] at x0 hlx
      clear hm
      go_wp2
      go_loopw [6] (fun a wq => ∃ p z : Nat, p ≤ k ∧ a = .int .i64 p ∧ wq = W0.drewN z ∧ ∀ j, j < p → ltP (rowOf S j) L = true) (fun a _ => k - (intOf a).toNat)
      case atStart => exact ⟨0, 0, Nat.zero_le _, rfl, rfl, fun j hj => by omega⟩
      case round =>
        obtain ⟨p, z, hp, rfl, hz, hno⟩ := hrel
        have hbz : Below W0.heap.size W0 wr := by rw [hz]; exact below_drewN (Below.refl _ _) z
        have Hz := Lib.hid hz
        have Hno := Lib.hid hno
        clear hz hno
        have o1 := own_kept Ho.out hbz
        have r1 := Hrd.out.keep (hbz.mono hBW)
        have x1 := Hx.out.below (hbz.mono hBW)
        have b1 := below_kept Hb.out (Nat.le_refl _) hbz
        have s1 := hbz.size
        have O1 := Lib.hid o1
        have R1 := Lib.hid r1
        have X1 := Lib.hid x1
        have B1 := Lib.hid b1
        clear o1 r1 x1 b1 hbz
        have j0 : (0 : Int) ≤ (p : Int) := by omega
        have hrl := R1.out.1
        have Hrl := Lib.hid hrl
        clear hrl
        by_cases hpk : p < k
        · obtain ⟨g, cap, hv, _, _⟩ := O1.out.form (by omega)
          cases hv
          obtain ⟨Ap, cp, ep, hs, _⟩ := R1.out.2 p (by rw [HQl.out]; exact hpk)
          have y0 := O1.out.cellAt p (by omega)
          rw [rv_get (by rw [Hrl.out, HQl.out]; exact hpk), ep] at y0
          have hpS : (rowOf S p).length ≤ 1000 := HSl.out _ (by
            have e : rowOf S p = S[p]'(by rw [HQl.out]; omega) := by simp [rowOf, show p < S.length by rw [HQl.out]; omega]
            rw [e]; exact List.getElem_mem _)
          have HC := Lib.hid (spec_cuLess Ap Ax cp cx B B (rowOf S p).length m (rowOf S p) L wr rfl Hm.out hs X1.out (Nat.le_trans hBW s1) (Nat.le_trans hBW s1) hpS hlx)
          have j1 : (p : Int) < (k : Int) := by omega
          clear ep hs hpS
          go_wp2_with fail
          refine HC.out.mono ?_
          rintro e w6 ⟨rfl, z', hz'⟩
          have Hz' := Lib.hid hz'
          clear hz'
          cases hlx2 : ltP (rowOf S p) L
          · have hpp : posP L S = p := posP_is L S p (by rw [HQl.out]; exact hp) Hno.out (fun _ => hlx2)
            have Hpp := Lib.hid hpp
            have hb6 : Below W0.heap.size W0 w6 := by rw [Hz'.out, Hz.out]; exact below_drewN (below_drewN (Below.refl _ _) _) _
            have E6 := Lib.hid hb6
            have O6 := Lib.hid (own_kept Ho.out hb6)
            have R6 := Lib.hid (Hrd.out.keep (hb6.mono hBW))
            clear hpp hlx2 hb6 HC y0
            obtain ⟨g, cap, hv, _, _⟩ := O6.out.form (by omega)
            cases hv
            have H1 := Lib.hid R6.out.oneC
            have j2 : (p : Int) ≤ (k : Int) := by omega
            have j3 : (p : Int) ≤ (c2 : Int) := by omega
            have l6 := Lib.hid O6.out.lt
            have p9 : p ≤ k := by omega
            have z6 := E6.out.size
            go_wp2_with (first
              | (at_builtin; refine wpList_appendVS _ rfl _ _ rfl w6.heap.size (.slice (some ⟨w6.heap.size, 0, none⟩) 0 0) 0 [] rfl (own_emptyV w6) (some ⟨g, 0, none⟩) p c2 (rs.take p) rfl (srcV_take (O6.out.alloc (.cells #[] 35)) p p9 c2) (fun u hu => H1.out u (List.mem_of_mem_take hu)) (by omega) (by omega) (by simp) ?_
                 intro A8 c8 w8 own8 hg8
                 rw [Nat.zero_add, List.nil_append] at own8
                 have O8 := Lib.hid (own_far (O6.out.alloc (.cells #[] 35)) hg8 (fun q hq e => by have h1 := (l6.out q hq).2; have h2 : q = w6.heap.size := Option.some.inj e; omega))
                 have E8 := Lib.hid (below_grown (E6.out.alloc z6 (.cells #[] 35)) hg8 (Nat.le_refl _) (fun j hj => by have h1 : w6.heap.size = j := Option.some.inj hj; omega))
                 have z8 : w6.heap.size ≤ w8.heap.size := by have := hg8.size; simp at this; omega
                 have l8 := Lib.hid own8.lt
                 clear hg8)
              | (at_builtin; refine append1SS _ rfl _ _ rfl w6.heap.size (.slice A8 p c8) p (rs.take p) rfl (own8.alloc _) w8.heap.size (.slice Ax m cx) rfl rfl (by simp [go_sem]) (by omega) (by simp; omega) ?_
                 intro A9 c9 w9 own9 hg9
                 have O9 := Lib.hid (own_far (O8.out.alloc (.cells #[.slice Ax m cx] 35)) hg9 (fun q hq e => by have h1 := (l6.out q hq).2; have h2 := (l8.out q e.symm).1; omega))
                 have E9 := Lib.hid (below_grown (E8.out.alloc (Nat.le_trans z6 z8) (.cells #[.slice Ax m cx] 35)) hg9 (Nat.le_refl _) (fun j hj => Nat.le_trans z6 (l8.out j hj).1))
                 have z9 : w6.heap.size ≤ w9.heap.size := by have := hg9.size; simp at this; omega
                 have l9 := Lib.hid own9.lt
                 clear hg9 own8)
              | (at_builtin; refine wpList_appendVS _ rfl _ _ rfl w6.heap.size (.slice A9 (p + 1) c9) (p + 1) (rs.take p ++ [.slice Ax m cx]) rfl own9 (some ⟨g, p, none⟩) (k - p) (c2 - p) (rs.drop p) rfl (by have := srcV_drop O9.out p p9 hcap (c2 - p); rw [if_neg (by omega)] at this; exact this) (fun u hu => H1.out u (List.mem_of_mem_drop hu)) (by omega) (by omega) z9 ?_
                 intro A10 c10 w10 own10 hg10
                 have E10 := Lib.hid (below_grown E9.out hg10 (Nat.le_refl _) (fun j hj => Nat.le_trans z6 (l9.out j hj).1))
                 clear hg10 own9))
            have e10 : p + 1 + (k - p) = k + 1 := by omega
            rw [e10] at own10
            rw [List.append_assoc, List.singleton_append] at own10
            have hfin := (Hrd.out.keep (E10.out.mono hBW)).ins (r := .slice Ax m cx) (L := L) p (by rw [HQl.out]; exact p9) ⟨Ax, cx, by rw [Hm.out], Hx.out.below (E10.out.mono hBW), Hxl.out⟩
            have hI : insP L S = S.take p ++ L :: S.drop p := by unfold insP; rw [Hpp.out]
            rw [← hI, ← Hins.out] at hfin
            have HF := Lib.hid hfin
            have HG := Lib.hid (own10.mono (Nat.le_trans Hbs.out z6))
            clear hfin hI own10 e10
            go_wp2
            go_roundw
            case rel => exact ⟨k + 1, A10, c10, _, by omega, by go_num, by first | rfl | (congr 1; omega) | (congr 1), fun h => by omega, HG.out, HF.out, below_kept Hb.out (Nat.le_refl _) E10.out⟩
            case measure => simp [intOf] <;> omega
          · have hnn : ∀ j, j < p + 1 → ltP (rowOf S j) L = true := fun j hj => by
              by_cases e : j = p
              · subst e; exact hlx2
              · exact Hno.out j (by omega)
            have Hnn := Lib.hid hnn
            clear hnn hlx2 HC y0
            go_wp2
            go_roundw
            case rel => exact ⟨p + 1, z + z', by omega, by go_num, by rw [Hz'.out, Hz.out]; simp, Hnn.out⟩
            case measure => simp [intOf] <;> omega
        · obtain rfl : p = k := by omega
          have hpp : posP L S = p := posP_is L S p (by rw [HQl.out]; exact Nat.le_refl _) Hno.out (fun h => by rw [HQl.out] at h; omega)
          have Hpp := Lib.hid hpp
          have hb6 : Below W0.heap.size W0 wr := by rw [Hz.out]; exact below_drewN (Below.refl _ _) _
          have E6 := Lib.hid hb6
          have O6 := Lib.hid (own_kept Ho.out hb6)
          have R6 := Lib.hid (Hrd.out.keep (hb6.mono hBW))
          clear hpp hb6
          by_cases k0 : p = 0
          · subst k0
            obtain ⟨rfl, rfl⟩ := hnil rfl
            have z6 := E6.out.size
            go_wp2_with (first
              | (at_builtin; refine wpList_appendVS _ rfl _ _ rfl wr.heap.size (.slice (some ⟨wr.heap.size, 0, none⟩) 0 0) 0 [] rfl (own_emptyV wr) none 0 0 [] rfl ⟨rfl, .inl ⟨rfl, rfl, rfl⟩⟩ (fun u hu => by simp at hu) (by omega) (by omega) (by simp) ?_
                 intro A8 c8 w8 own8 hg8
                 rw [Nat.zero_add, List.nil_append] at own8
                 have E8 := Lib.hid (below_grown (E6.out.alloc z6 (.cells #[] 35)) hg8 (Nat.le_refl _) (fun j hj => by have h1 : wr.heap.size = j := Option.some.inj hj; omega))
                 have z8 : wr.heap.size ≤ w8.heap.size := by have := hg8.size; simp at this; omega
                 have l8 := Lib.hid own8.lt
                 clear hg8)
              | (at_builtin; refine append1SS _ rfl _ _ rfl wr.heap.size (.slice A8 0 c8) 0 [] rfl (own8.alloc _) w8.heap.size (.slice Ax m cx) rfl rfl (by simp [go_sem]) (by omega) (by simp; omega) ?_
                 intro A9 c9 w9 own9 hg9
                 have E9 := Lib.hid (below_grown (E8.out.alloc (Nat.le_trans z6 z8) (.cells #[.slice Ax m cx] 35)) hg9 (Nat.le_refl _) (fun j hj => Nat.le_trans z6 (l8.out j hj).1))
                 have z9 : wr.heap.size ≤ w9.heap.size := by have := hg9.size; simp at this; omega
                 have l9 := Lib.hid own9.lt
                 clear hg9 own8)
              | (at_builtin; refine wpList_appendVS _ rfl _ _ rfl wr.heap.size (.slice A9 1 c9) 1 ([] ++ [.slice Ax m cx]) rfl own9 none 0 0 [] rfl ⟨rfl, .inl ⟨rfl, rfl, rfl⟩⟩ (fun u hu => by simp at hu) (by omega) (by omega) z9 ?_
                 intro A10 c10 w10 own10 hg10
                 have E10 := Lib.hid (below_grown E9.out hg10 (Nat.le_refl _) (fun j hj => Nat.le_trans z6 (l9.out j hj).1))
                 clear hg10 own9))
            have hS0 : S = [] := List.eq_nil_of_length_eq_zero HQl.out
            have hfin : RdR w10 lo B [.slice Ax m cx] [L] := by
              have := (RdR.nil_ w10 lo B).ins (r := .slice Ax m cx) (L := L) 0 (Nat.le_refl _) ⟨Ax, cx, by rw [Hm.out], Hx.out.below (E10.out.mono hBW), Hxl.out⟩
              exact this
            have hI : insP L S = [L] := by rw [hS0]; rfl
            rw [← hI, ← Hins.out] at hfin
            have HF := Lib.hid hfin
            have HG := Lib.hid (own10.mono (Nat.le_trans Hbs.out z6))
            clear hfin hI own10 hS0
            go_wp2
            go_roundw
            case rel => exact ⟨1, A10, c10, _, by omega, by go_num, by first | rfl | (congr 1; omega) | (congr 1), fun h => by omega, HG.out, HF.out, below_kept Hb.out (Nat.le_refl _) E10.out⟩
            case measure => simp [intOf] <;> omega
          · obtain ⟨g, cap, hv, _, _⟩ := O6.out.form (by omega)
            cases hv
            have H1 := Lib.hid R6.out.oneC
            have j2 : (p : Int) ≤ (p : Int) := by omega
            have j3 : (p : Int) ≤ (c2 : Int) := by omega
            have l6 := Lib.hid O6.out.lt
            have p9 : p≤ p := by omega
            have z6 := E6.out.size
            go_wp2_with (first
              | (at_builtin; refine wpList_appendVS _ rfl _ _ rfl wr.heap.size (.slice (some ⟨wr.heap.size, 0, none⟩) 0 0) 0 [] rfl (own_emptyV wr) (some ⟨g, 0, none⟩) p c2 (rs.take p) rfl (srcV_take (O6.out.alloc (.cells #[] 35)) p p9 c2) (fun u hu => H1.out u (List.mem_of_mem_take hu)) (by omega) (by omega) (by simp) ?_
                 intro A8 c8 w8 own8 hg8
                 rw [Nat.zero_add, List.nil_append] at own8
                 have O8 := Lib.hid (own_far (O6.out.alloc (.cells #[] 35)) hg8 (fun q hq e => by have h1 := (l6.out q hq).2; have h2 : q = wr.heap.size := Option.some.inj e; omega))
                 have E8 := Lib.hid (below_grown (E6.out.alloc z6 (.cells #[] 35)) hg8 (Nat.le_refl _) (fun j hj => by have h1 : wr.heap.size = j := Option.some.inj hj; omega))
                 have z8 : wr.heap.size ≤ w8.heap.size := by have := hg8.size; simp at this; omega
                 have l8 := Lib.hid own8.lt
                 clear hg8)
              | (at_builtin; refine append1SS _ rfl _ _ rfl wr.heap.size (.slice A8 p c8) p (rs.take p) rfl (own8.alloc _) w8.heap.size (.slice Ax m cx) rfl rfl (by simp [go_sem]) (by omega) (by simp; omega) ?_
                 intro A9 c9 w9 own9 hg9
                 have O9 := Lib.hid (own_far (O8.out.alloc (.cells #[.slice Ax m cx] 35)) hg9 (fun q hq e => by have h1 := (l6.out q hq).2; have h2 := (l8.out q e.symm).1; omega))
                 have E9 := Lib.hid (below_grown (E8.out.alloc (Nat.le_trans z6 z8) (.cells #[.slice Ax m cx] 35)) hg9 (Nat.le_refl _) (fun j hj => Nat.le_trans z6 (l8.out j hj).1))
                 have z9 : wr.heap.size ≤ w9.heap.size := by have := hg9.size; simp at this; omega
                 have l9 := Lib.hid own9.lt
                 clear hg9 own8)
              | (at_builtin; refine wpList_appendVS _ rfl _ _ rfl wr.heap.size (.slice A9 (p + 1) c9) (p + 1) (rs.take p ++ [.slice Ax m cx]) rfl own9 (if c2 = p then some ⟨g, 0, none⟩ else some ⟨g, p, none⟩) 0 (c2 - p) (rs.drop p) rfl (by have := srcV_drop O9.out p p9 hcap (c2 - p); rw [Nat.sub_self] at this; exact this) (fun u hu => H1.out u (List.mem_of_mem_drop hu)) (by omega) (by omega) z9 ?_
                 intro A10 c10 w10 own10 hg10
                 have E10 := Lib.hid (below_grown E9.out hg10 (Nat.le_refl _) (fun j hj => Nat.le_trans z6 (l9.out j hj).1))
                 clear hg10 own9))
            have e10 : p + 1 + 0 = p + 1 := by omega
            rw [e10] at own10
            rw [List.append_assoc, List.singleton_append] at own10
            have hfin := (Hrd.out.keep (E10.out.mono hBW)).ins (r := .slice Ax m cx) (L := L) p (by rw [HQl.out]; exact p9) ⟨Ax, cx, by rw [Hm.out], Hx.out.below (E10.out.mono hBW), Hxl.out⟩
            have hI : insP L S = S.take p ++ L :: S.drop p := by unfold insP; rw [Hpp.out]
            rw [← hI, ← Hins.out] at hfin
            have HF := Lib.hid hfin
            have HG := Lib.hid (own10.mono (Nat.le_trans Hbs.out z6))
            clear hfin hI own10 e10
            go_wp2
            go_roundw
            case rel => exact ⟨p + 1, A10, c10, _, by omega, by go_num, by first | rfl | (congr 1; omega) | (congr 1), fun h => by omega, HG.out, HF.out, below_kept Hb.out (Nat.le_refl _) E10.out⟩
            case measure => simp [intOf] <;> omega
    · obtain rfl : k = n := by omega
      have HE : Hid (GivSS w lo (PlS T k) (.returned (.slice A2 k c2)) W0) := Lib.hid ⟨A2, c2, by rw [hQl], hrd.sl hQl (Nat.le_trans hB hb.size) hlo ho, hb⟩
      clear ho hrd hb hnil
      go_wp2
      go_ret
      exact HE.out
end Go.Proofs.Ytlnnnjnboknoeaa

/- CupS: The model's cuPieces: from a corner always to the farthest one that it is joined with. -/
namespace Go.Proofs.Ytlnnnjnboknoeaa
open Go.RowKit

theorem infoBo : (Try.prog.info? 4).map (fun i => (i.zero, i.size, i.bytes)) = some (some (.bool false), 1, 1) := by kernel_rfl
theorem jo_dec {n : Nat} {l : List (Int × Int)} {x y : Int} : decide (Jd (n : Int) l x y) = joB n l x y := by
  refine bool_ext ?_
  rw [decide_eq_true_eq, joB_iff]
  rfl
/-- the model's rows in the making -/
def mdA (n : Nat) (l : List (Int × Int)) (a b : Nat) : List (List Int) := (bsA n l a ++ bsR n l a b).map (pc n l)
theorem mdA_start (n : Nat) (l : List (Int × Int)) : mdA n l 0 0 = [] := rfl
theorem mdA_zero (n : Nat) (l : List (Int × Int)) (a : Nat) : mdA n l a 0 = (bsA n l a).map (pc n l) := by unfold mdA bsR; simp
theorem mdA_row (n : Nat) (l : List (Int × Int)) (a : Nat) : mdA n l a (a + 1) = (bsA n l a).map (pc n l) := by unfold mdA; rw [bsR_start, List.append_nil]
theorem mdA_end (n : Nat) (l : List (Int × Int)) (a : Nat) : mdA n l a n = (bsA n l (a + 1)).map (pc n l) := by unfold mdA; rw [bsA_succ]
theorem mdA_yes {n : Nat} {l : List (Int × Int)} {a b : Nat} (h : okJ n l a b = true) : mdA n l a (b + 1) = mdA n l a b ++ [pc n l ((a : Int), (b : Int))] := by unfold mdA; rw [bsR_yes h, ← List.append_assoc, List.map_append]; rfl
theorem mdA_no {n : Nat} {l : List (Int × Int)} {a b : Nat} (h : okJ n l a b = false) : mdA n l a (b + 1) = mdA n l a b := by unfold mdA; rw [bsR_no h]
theorem mdA_len (n : Nat) (l : List (Int × Int)) (a b : Nat) : (mdA n l a b).length ≤ a * n + b := by
  unfold mdA bsA bsR
  rw [List.length_map, List.length_append, List.length_map]
  have h1 : ((List.range b).filter (okJ n l a)).length ≤ b := by
    have := List.length_filter_le (okJ n l a) (List.range b)
    simpa using this
  have h2 : ∀ a, ((List.range a).flatMap fun a' => ((List.range n).filter (okJ n l a')).map fun (b' : Nat) => ((a' : Int), (b' : Int))).length ≤ a * n := by
    intro a
    induction a with
    | zero => simp
    | succ a ih =>
      rw [List.range_succ, List.flatMap_append, List.length_append, Nat.succ_mul]
      have h3 : ((List.range n).filter (okJ n l a)).length ≤ n := by
        have := List.length_filter_le (okJ n l a) (List.range n)
        simpa using this
      simp only [List.flatMap_cons, List.flatMap_nil, List.append_nil, List.length_map]
      omega
  have := h2 a
  omega
theorem okJ_base {n : Nat} {l : List (Int × Int)} {a b : Nat} (hn : Nc n l) (n3 : 3 ≤ n) (ha : a < n) (hb : b < n) (h : okJ n l a b = true) : ((a : Int), (b : Int)) ∈ basesC n l := by
  rw [← mem_bsA hn n3]
  unfold bsA bsR
  simp only [List.mem_flatMap, List.mem_map, List.mem_filter, List.mem_range]
  exact ⟨a, ha, b, ⟨hb, h⟩, rfl⟩

/-- the marks of what has been seen: from q on nothing -/
def Sn (w : World) (base gs N q : Nat) : Prop := ∃ vs, w.ownsRow base 4 1 (.slice (some ⟨gs, 0, none⟩) N N) N vs ∧ ∀ j, q ≤ j → j < N → vs[j]? = some (.bool false)
theorem Sn.kept {w w' : World} {base gs N q : Nat} (h : Sn w base gs N q) (hb : Below w.heap.size w w') : Sn w' base gs N q := by
  obtain ⟨vs, h1, h2⟩ := h
  exact ⟨vs, own_kept h1 hb, h2⟩
theorem Sn.next {w : World} {base gs N q q' : Nat} (h : Sn w base gs N q) (hq : q ≤ q') : Sn w base gs N q' := by
  obtain ⟨vs, h1, h2⟩ := h
  exact ⟨vs, h1, fun j hj hj2 => h2 j (by omega) hj2⟩
theorem Sn.cell {w : World} {base gs N q : Nat} (h : Sn w base gs N q) (hq : q < N) : w.cell? ⟨gs, q, none⟩ = some (.bool false) ∧ w.frozen? ⟨gs, q, none⟩ = false := by
  obtain ⟨vs, h1, h2⟩ := h
  exact ⟨(h1.cellAt q (by omega)).trans (h2 q (Nat.le_refl _) hq), h1.frozenAt q⟩
theorem Sn.set {w : World} {base gs N q : Nat} (h : Sn w base gs N q) (v : Value) : Sn (w.setCell ⟨gs, q, none⟩ v) base gs N (q + 1) ∧ w.grownBy (w.setCell ⟨gs, q, none⟩ v) (some gs) := by
  obtain ⟨vs, h1, h2⟩ := h
  obtain ⟨h3, h4⟩ := h1.stored q v
  refine ⟨⟨_, h3, fun j hj hj2 => ?_⟩, h4⟩
  rw [List.getElem?_set_ne (by omega)]
  exact h2 j (by omega) hj2

set_option maxRecDepth 100000 in
set_option maxHeartbeats 6400000 in
theorem spec_cuPieces (n : Nat) (A : Option Addr) (c B m : Nat) (l : List (Int × Int)) (w : World) (n3 : 3 ≤ n) (n12 : n ≤ 12) (hl : l.length = m) (hm : m ≤ 9) (hnc : Nc n l) (h : SlD w B A l) (hB : B ≤ w.heap.size) :
    Calls Try.prog 53 #[.int .i64 n, .slice A m c] w (GivSS w w.heap.size (pcL n l)) := by
  have H := Lib.hid h
  have HN := Lib.hid hnc
  have Hl := Lib.hid hl
  obtain ⟨N2, hN2⟩ : ∃ N2, N2 = n * n := ⟨_, rfl⟩
  have hN3 : N2 ≤ 144 := by rw [hN2]; exact Nat.mul_le_mul n12 n12
  have hNi : (n : Int) * (n : Int) = (N2 : Int) := by rw [hN2, Int.natCast_mul]
  have HN2 := Lib.hid hN2
  obtain ⟨i0, hi, hz0, hz1, hz2⟩ := info_parts infoBo
  have hbytes : i0.bytes * N2 ≤ 281474976710656 := by rw [hz2]; omega
  have hmax : N2 ≤ maxLen := by unfold maxLen; omega
  clear h hnc hl hN2
  go_enter Try.func53, Try.ntmps53
  go_wp2_with (at_make; refine wpList_make_full _ rfl _ _ _ rfl w.heap.size 4 i0 (.bool false) 1 Try.underlying86 hi hz0 hz1 _ _ _ _ N2 rfl rfl rfl rfl hbytes hmax (Nat.le_refl _) ?_; intro w1 hown1 hgrow1)
  have hb1 : Below w.heap.size w w1 := (Below.refl _ _).grown hgrow1 (Nat.le_refl _) (by simp)
  have e1 : (madeCells (Value.bool false).cells (N2 * 1)).toList = List.replicate N2 (.bool false) := by
    rw [Nat.mul_one]
    show (madeCells #[Value.bool false] N2).toList = _
    rw [toList_madeCells_one]
  rw [e1] at hown1
  have hs1 : Sn w1 w.heap.size w.heap.size N2 0 := ⟨_, hown1, fun j _ hj => by simp [hj]⟩
  have hz1' : w.heap.size < w1.heap.size := (hown1.lt w.heap.size rfl).2
  clear e1 hgrow1 hown1 hbytes hmax hi hz0 hz1 hz2
  go_wp2
  go_loopw [5, 7, 8, 9, 10, 11, 12] (fun S av _ _ _ _ _ wr => ∃ (a : Nat) (A2 : Option Addr) (c2 : Nat) (rs : List Value), a ≤ n ∧ av = .int .i64 a ∧ S = .slice A2 (mdA n l a 0).length c2 ∧ OwnSS wr (w.heap.size + 1) A2 c2 rs (mdA n l a 0) ∧ Sn wr w.heap.size w.heap.size N2 (a * n) ∧ Below w.heap.size w wr) (fun _ av _ _ _ _ _ _ => n - (intOf av).toNat)
  case atStart => exact ⟨0, none, 0, [], Nat.zero_le _, rfl, rfl, OwnSS.nil_, by rw [Nat.zero_mul]; exact hs1, hb1⟩
  case round =>
    clear hs1 hb1
    obtain ⟨a, A2, c2, rs, ha, rfl, rfl, ho, hs, hb⟩ := hrel
    by_cases hlt : a < n
    · obtain ⟨an, han⟩ : ∃ an, an = a * n := ⟨_, rfl⟩
      have hani : (a : Int) * (n : Int) = (an : Int) := by rw [han, Int.natCast_mul]
      have hanb : an + n ≤ N2 := by rw [han, HN2.out, ← Nat.succ_mul]; exact Nat.mul_le_mul_right n hlt
      have i1 : (a : Int) < (n : Int) := by omega
      rw [mdA_zero, ← mdA_row n l a] at ho ⊢
      rw [← han] at hs
      have Han := Lib.hid han
      clear han
      go_wp2
      go_loopw [5, 8, 9, 10, 11, 12] (fun S bv _ _ _ _ wr => ∃ (b : Nat) (A2 : Option Addr) (c2 : Nat) (rs : List Value), a < b ∧ b ≤ n ∧ bv = .int .i64 b ∧ S = .slice A2 (mdA n l a b).length c2 ∧ OwnSS wr (w.heap.size + 1) A2 c2 rs (mdA n l a b) ∧ Sn wr w.heap.size w.heap.size N2 (an + b) ∧ Below w.heap.size w wr) (fun _ bv _ _ _ _ _ => n - (intOf bv).toNat)
      case atStart => exact ⟨a + 1, A2, c2, rs, Nat.lt_succ_self _, hlt, by go_num, rfl, ho, hs.next (by omega), hb⟩
      case round =>
        clear ho hs hb
        obtain ⟨b, A2, c2, rs, hab, hbn, rfl, rfl, ho, hs, hb⟩ := hrel
        by_cases hlb : b < n
        · have b1 : (b : Int) < (n : Int) := by omega
          have b2 : (a : Int) < (b : Int) := by omega
          have HJ := Lib.hid (spec_poJoined (n : Int) A m c B l a b (joB n l a b) wr (H.out.below (hb.mono hB)) Hl.out (Nat.le_trans hB hb.size) (by omega) ⟨by omega, by omega⟩ ⟨by omega, by omega⟩ ⟨by omega, by omega⟩ jo_dec)
          have Ho := Lib.hid ho
          have Hs := Lib.hid hs
          have Hb := Lib.hid hb
          clear ho hs hb
          cases hok : okJ n l a b
          · have hno := mdA_no hok
            have Hno := Lib.hid hno
            clear hno
            cases hj : joB n l a b
            · rw [hj] at HJ
              clear hok hj
              go_wp2_with fail
              refine HJ.out.mono ?_
              rintro e w3 ⟨rfl, hb3⟩
              have o3 := Lib.hid (Ho.out.kept hb3)
              have s3 := Lib.hid (Hs.out.kept hb3)
              have b3 := Lib.hid (below_kept Hb.out (Nat.le_refl _) hb3)
              clear hb3
              go_wp2
              go_roundw
              case rel => exact ⟨b + 1, A2, c2, rs, by omega, by omega, by go_num, by rw [Hno.out], by rw [Hno.out]; exact o3.out, s3.out.next (by omega), b3.out⟩
              case measure => simp [intOf]; omega
            · have hb1 : b = a + 1 := by
                unfold okJ at hok
                rw [hj] at hok
                simp at hok
                exact hok hab
              rw [hj] at HJ
              have t1 : ((b : Int) - (a : Int) == 1) = true := by simp; omega
              clear hok hj hb1
              go_wp2_with fail
              refine HJ.out.mono ?_
              rintro e w3 ⟨rfl, hb3⟩
              have o3 := Lib.hid (Ho.out.kept hb3)
              have s3 := Lib.hid (Hs.out.kept hb3)
              have b3 := Lib.hid (below_kept Hb.out (Nat.le_refl _) hb3)
              clear hb3
              go_wp2
              go_roundw
              case rel => exact ⟨b + 1, A2, c2, rs, by omega, by omega, by go_num, by rw [Hno.out], by rw [Hno.out]; exact o3.out, s3.out.next (by omega), b3.out⟩
              case measure => simp [intOf]; omega
          · have hbase := okJ_base HN.out n3 hlt hlb hok
            have hj : joB n l a b = true := by unfold okJ at hok; simp at hok; exact hok.1.2
            have hb1 : b ≠ a + 1 := by unfold okJ at hok; simp at hok; exact hok.2
            have Hnad : Hid (¬ (b : Int) = (a : Int) + 1) := Lib.hid (by omega)
            rw [hj] at HJ
            have t1 : ((b : Int) - (a : Int) == 1) = false := by simp; omega
            have t2 : an + b < N2 := by omega
            have t3 : (an : Int) + (b : Int) < (N2 : Int) := by omega
            have t4 : ((an : Int) + (b : Int)).toNat = an + b := by omega
            have hyes := mdA_yes hok
            have Hyes := Lib.hid hyes
            have Hbase := Lib.hid hbase
            clear hok hj hyes hbase
            go_wp2_with fail
            refine HJ.out.mono ?_
            rintro e w3 ⟨rfl, hb3⟩
            have o3 := Lib.hid (Ho.out.kept hb3)
            have s3 := Lib.hid (Hs.out.kept hb3)
            have b3 := Lib.hid (below_kept Hb.out (Nat.le_refl _) hb3)
            obtain ⟨y0, y1⟩ := s3.out.cell t2
            clear hb3 HJ Ho Hs Hb
            go_wp2
            obtain ⟨hsn, hgs⟩ := s3.out.set (.bool true)
            have o5 := o3.out.far hgs (fun k hk => by have h1 : w.heap.size = k := Option.some.inj hk; omega)
            have b5 := below_grown b3.out hgs (Nat.le_refl _) (fun k hk => by have h1 : w.heap.size = k := Option.some.inj hk; omega)
            have HBW : Hid (B ≤ (w3.setCell ⟨w.heap.size, an + b, none⟩ (.bool true)).heap.size) := Lib.hid (Nat.le_trans hB b5.size)
            have Hw1s : Hid (w.heap.size + 1 ≤ (w3.setCell ⟨w.heap.size, an + b, none⟩ (.bool true)).heap.size) := Lib.hid (by
              obtain ⟨vs, h1, _⟩ := hsn
              exact (h1.lt w.heap.size rfl).2)
            have O5 := Lib.hid o5
            have S5 := Lib.hid hsn
            have B5 := Lib.hid b5
            clear o5 hsn b5 hgs y0 y1
            have e5 : (w3.setCell ⟨w.heap.size, an + b, none⟩ (.bool true)).heap.size = w3.heap.size := by simp [World.setCell]
            generalize w3.setCell ⟨w.heap.size, an + b, none⟩ (.bool true) = W5 at *
            have hPs := pc_sort n l ((a : Int), (b : Int))
            have hPf := pc_first HN.out Hbase.out n3
            have hPl : ∀ x ∈ pc n l ((a : Int), (b : Int)), (a : Int) ≤ x ∧ x ≤ (b : Int) := fun x hx => pc_le hx
            have hPlen := pc_len (n := n) l ((a : Int), (b : Int))
            have hwk := fun (i : Nat) (hi : i < (pc n l ((a : Int), (b : Int))).length) (nx : Int) => pc_walk (nx := nx) HN.out Hbase.out n3 hi
            generalize pc n l ((a : Int), (b : Int)) = P at *
            dsimp only at hPf hwk
            obtain ⟨hP0, hPa⟩ := first_at hPs hPf.1 (fun x hx => (hPl x hx).1)
            have own6 : (W5.alloc (.cells #[.int .i64 a] 3)).ownsRow W5.heap.size 3 1 (.slice (some ⟨w3.heap.size, 0, none⟩) 1 1) 1 (ics (P.take 1)) := by
              have h1 := World.ownsRow_lit (e := 3) (size := 1) (base := W5.heap.size) W5 #[.int .i64 a] 1 (Nat.le_refl _) (by decide) rfl
              have e : P.take 1 = [(a : Int)] := by rw [List.take_succ_eq_append_getElem hP0, hPa]; simp
              rw [e, ← e5]
              exact h1
            have hb6 := (Below.refl W5.heap.size W5).alloc (Nat.le_refl _) (.cells #[.int .i64 a] 3)
            have HP := Lib.hid hPl
            have HPs := Lib.hid hPs
            have HPb := Lib.hid hPf.2
            have Hwk := Lib.hid hwk
            have hPa' : P.getD 0 0 = (a : Int) := by rw [← hPa]; simp [hP0]
            clear hPs hPf hPl hwk hPa Hbase
            go_loopw [9, 10, 11, 12] (fun pv av _ _ wr => ∃ (i : Nat) (Ap : Option Addr) (cp : Nat), i < P.length ∧ av = .int .i64 (P.getD i 0) ∧ pv = .slice Ap (i + 1) cp ∧ wr.ownsRow W5.heap.size 3 1 (.slice Ap (i + 1) cp) (i + 1) (ics (P.take (i + 1))) ∧ Below W5.heap.size W5 wr) (fun pv _ _ _ _ => 100 - (match pv with | .slice _ k _ => k | _ => 0))
            case atStart => exact ⟨0, _, _, hP0, by rw [hPa'], rfl, own6, hb6⟩
            case round =>
              clear own6 hb6 hPa' hP0
              obtain ⟨W7, hW7⟩ : ∃ W7, W7 = wr := ⟨_, rfl⟩
              subst hW7
              obtain ⟨i, Ap, cp, hiP, rfl, rfl, hop, hbp⟩ := hrel
              have hxe : P.getD i 0 = P[i] := by simp [hiP]
              have hxm := HP.out _ (List.getElem_mem hiP)
              rw [← hxe] at hxm
              obtain ⟨x, hx⟩ : ∃ x, P.getD i 0 = x := ⟨_, rfl⟩
              have Hx := Lib.hid hx
              rw [hx] at hxm hxe ⊢
              obtain ⟨hxa, hxb⟩ := hxm
              have Hop := Lib.hid hop
              have HTk : Hid ((P.take (i + 1)).length = i + 1) := Lib.hid (by simp; omega)
              have Hbp := Lib.hid hbp
              have Hxe := Lib.hid hxe
              clear hx hop hbp hxe
              by_cases hxq : x = (b : Int)
              · have u1 : (x != (b : Int)) = false := by simpa using hxq
                have hPn : P.length = i + 1 := last_at HPs.out hiP (fun y hy => by rw [← Hxe.out, hxq]; exact (HP.out y hy).2)
                have hPt : P.take (i + 1) = P := by rw [← hPn, List.take_length]
                rw [hPt] at Hop
                have HPn := Lib.hid hPn
                have own8 := ((O5.out.kept Hbp.out).2.1).alloc (.cells #[.slice Ap (i + 1) cp] 35)
                have z8 : (w.heap.size + 1) ≤ (W7.alloc (.cells #[.slice Ap (i + 1) cp] 35)).heap.size := by
                  have h1 := ((O5.out.kept Hbp.out).2.1.lt)
                  have h2 := Hw1s.out
                  have h3 := Hbp.out.size
                  simp
                  omega
                have hml := mdA_len n l a b
                have hlen : (mdA n l a b).length ≤ 1000000 := by rw [← Han.out] at hml; omega
                clear hPt hPn hml
                go_wp2_with (at_builtin; refine append1SS _ rfl _ _ rfl (w.heap.size + 1) (.slice A2 (mdA n l a b).length c2) (mdA n l a b).length rs rfl own8 W7.heap.size (.slice Ap (i + 1) cp) rfl rfl ?c1 hlen z8 ?_; (case c1 => simp [go_sem]); intro A9 c9 w9 own9 hg9)
                have hO : OwnSS w9 (w.heap.size + 1) A9 c9 (rs ++ [.slice Ap (i + 1) cp]) (mdA n l a b ++ [P]) := by
                  refine OwnSS.app (b := W5.heap.size) (w2 := W7) (A := A2) (c := c2) (o := .cells #[.slice Ap (i + 1) cp] 35) (O5.out.kept Hbp.out) (fun j hj k hk => O5.out.blk j hj k hk) ?_ (fun k hk => (Hop.out.lt k hk).1) own9 hg9
                  rw [HPn.out]
                  exact Hop.out.mono Hw1s.out
                rw [← Hyes.out] at hO
                have hb9 := below_grown ((below_kept B5.out (Nat.le_refl _) Hbp.out).alloc (Nat.le_trans B5.out.size Hbp.out.size) (.cells #[.slice Ap (i + 1) cp] 35)) hg9 (Nat.le_refl _) (fun k hk => by
                  have := (own8.lt k hk).1
                  omega)
                have hsn : Sn w9 w.heap.size w.heap.size N2 (an + b + 1) := by
                  obtain ⟨vs, h1, h2⟩ := (S5.out.kept Hbp.out)
                  refine ⟨vs, own_far (h1.alloc _) hg9 (fun k hk e => ?_), h2⟩
                  have h3 : w.heap.size = k := Option.some.inj hk
                  have := (own8.lt k e.symm).1
                  omega
                have HO := Lib.hid hO
                have HB9 := Lib.hid hb9
                have HSn := Lib.hid hsn
                have Hle : Hid ((mdA n l a (b + 1)).length = (mdA n l a b).length + 1) := Lib.hid (by rw [Hyes.out]; simp)
                clear hO hb9 hsn own9 hg9 own8
                go_wp2
                go_roundw
                case rel => exact ⟨b + 1, A9, c9, _, by omega, by omega, by go_num, by rw [Hle.out], HO.out, HSn.out.next (by omega), HB9.out⟩
                case measure => simp [intOf]; omega
              · have u1 : (x != (b : Int)) = true := by simpa using hxq
                have hxlt : x < (b : Int) := by omega
                go_wp2
                go_loopw [11, 12] (fun nv cv wq => ∃ cc : Int, x ≤ cc ∧ cc ≤ (b : Int) ∧ cv = .int .i64 cc ∧ nv = .int .i64 (x + 1) ∧ (∀ c', cc < c' → c' ≤ (b : Int) → joB n l x c' = true → x = (a : Int) ∧ c' = (b : Int)) ∧ Below W7.heap.size W7 wq) (fun _ cv _ => (intOf cv).toNat)
                case atStart => exact ⟨(b : Int), by omega, Int.le_refl _, rfl, rfl, fun c' h1 h2 => by omega, Below.refl _ _⟩
                case round =>
                  obtain ⟨cc, hc1, hc2, rfl, rfl, hmax, hbq⟩ := hrel
                  have Hmax := Lib.hid hmax
                  have Hbq := Lib.hid hbq
                  clear hmax hbq
                  by_cases hxc : x < cc
                  · have HJ := Lib.hid (spec_poJoined (n : Int) A m c B l x cc (joB n l x cc) wr ((H.out.below (B5.out.mono hB)).below ((below_kept Hbp.out (Nat.le_refl _) Hbq.out).mono HBW.out)) Hl.out (Nat.le_trans HBW.out (below_kept Hbp.out (Nat.le_refl _) Hbq.out).size) (by omega) ⟨by omega, by omega⟩ ⟨by omega, by omega⟩ ⟨by omega, by omega⟩ jo_dec)
                    cases hjy : joB n l x cc
                    · rw [hjy] at HJ
                      have hm2 : ∀ c', cc - 1 < c' → c' ≤ (b : Int) → joB n l x c' = true → x = (a : Int) ∧ c' = (b : Int) := fun c' h1 h2 h3 => by
                        by_cases e : c' = cc
                        · rw [e, hjy] at h3; cases h3
                        · exact Hmax.out c' (by omega) h2 h3
                      have Hm2 := Lib.hid hm2
                      clear hm2 hjy
                      go_wp2_with fail
                      refine HJ.out.mono ?_
                      rintro e w8 ⟨rfl, hb8⟩
                      have e8 := Lib.hid (below_kept Hbq.out (Nat.le_refl _) hb8)
                      clear hb8
                      go_wp2
                      go_roundw
                      case rel => exact ⟨cc - 1, by omega, by omega, by go_num, rfl, Hm2.out, e8.out⟩
                      case measure => simp [intOf]; omega
                    · rw [hjy] at HJ
                      by_cases hne : x = (a : Int) ∧ cc = (b : Int)
                      · have hm2 : ∀ c', cc - 1 < c' → c' ≤ (b : Int) → joB n l x c' = true → x = (a : Int) ∧ c' = (b : Int) := fun c' h1 h2 h3 => by
                          by_cases e : c' = cc
                          · rw [e]; exact hne
                          · exact Hmax.out c' (by omega) h2 h3
                        have Hm2 := Lib.hid hm2
                        have v1 : (x != (a : Int)) = false := by simpa using hne.1
                        have v2 : (cc != (b : Int)) = false := by simpa using hne.2
                        clear hm2 hjy hne
                        go_wp2_with fail
                        refine HJ.out.mono ?_
                        rintro e w8 ⟨rfl, hb8⟩
                        have e8 := Lib.hid (below_kept Hbq.out (Nat.le_refl _) hb8)
                        clear hb8
                        go_wp2
                        go_roundw
                        case rel => exact ⟨cc - 1, by omega, by omega, by go_num, rfl, Hm2.out, e8.out⟩
                        case measure => simp [intOf]; omega
                      · have hw2 := Hwk.out i hiP cc (by rw [← Hxe.out]; exact hxc) hc2 (by rw [← Hxe.out]; exact hjy) (by rw [← Hxe.out]; exact hne) (by rw [← Hxe.out]; exact Hmax.out)
                        have Hw2 := Lib.hid hw2
                        have Hne := Lib.hid hne
                        clear hw2 hne hjy
                        by_cases v0 : x = (a : Int)
                        · have v1 : (x != (a : Int)) = false := by simpa using v0
                          have v2 : (cc != (b : Int)) = true := by
                            have := Hne.out
                            simp
                            omega
                          clear v0
                          go_wp2_with fail
                          refine HJ.out.mono ?_
                          rintro e w8 ⟨rfl, hb8⟩
                          have o8 := own_kept Hop.out (below_kept Hbq.out (Nat.le_refl _) hb8)
                          have e8 := below_kept Hbp.out (Nat.le_refl _) (below_kept Hbq.out (Nat.le_refl _) hb8)
                          have s8 := e8.size
                          have O8 := Lib.hid o8
                          have E8 := Lib.hid e8
                          clear o8 e8 hb8
                          have own8 := O8.out.alloc (.cells #[.int .i64 cc] 3)
                          have z8 : W5.heap.size ≤ (w8.alloc (.cells #[.int .i64 cc] 3)).heap.size := Nat.le_trans s8 (by simp)
                          go_wp2_with (at_builtin; refine append1In _ rfl _ _ rfl W5.heap.size (.slice Ap (i + 1) cp) (i + 1) (P.take (i + 1)) HTk.out rfl own8 w8.heap.size cc rfl ?c1 (by omega) z8 ?_; (case c1 => simp [go_sem]); intro A9 c9 w9 own9 hg9)
                          have hfin : Below W5.heap.size W5 w9 := below_grown (E8.out.alloc s8 (.cells #[.int .i64 cc] 3)) hg9 (Nat.le_refl _) (fun j hj => (O8.out.lt j hj).1)
                          obtain ⟨hi2, hP2⟩ := Hw2.out
                          rw [show P.take (i + 1) ++ [cc] = P.take (i + 1 + 1) by rw [List.take_succ_eq_append_getElem hi2, hP2]] at own9
                          have Hf := Lib.hid hfin
                          have Hg := Lib.hid own9
                          have Hx2 : Hid (P.getD (i + 1) 0 = cc) := Lib.hid (by rw [← hP2]; simp [hi2])
                          clear hfin own9 hg9 own8 hP2
                          go_wp2
                          go_roundw
                          case rel => exact ⟨i + 1, A9, c9, hi2, by rw [Hx2.out], rfl, Hg.out, Hf.out⟩
                          case measure => (show 100 - (i + 1 + 1) < 100 - (i + 1)); omega
                        · have v1 : (x != (a : Int)) = true := by simpa using v0
                          clear v0
                          go_wp2_with fail
                          refine HJ.out.mono ?_
                          rintro e w8 ⟨rfl, hb8⟩
                          have o8 := own_kept Hop.out (below_kept Hbq.out (Nat.le_refl _) hb8)
                          have e8 := below_kept Hbp.out (Nat.le_refl _) (below_kept Hbq.out (Nat.le_refl _) hb8)
                          have s8 := e8.size
                          have O8 := Lib.hid o8
                          have E8 := Lib.hid e8
                          clear o8 e8 hb8
                          have own8 := O8.out.alloc (.cells #[.int .i64 cc] 3)
                          have z8 : W5.heap.size ≤ (w8.alloc (.cells #[.int .i64 cc] 3)).heap.size := Nat.le_trans s8 (by simp)
                          go_wp2_with (at_builtin; refine append1In _ rfl _ _ rfl W5.heap.size (.slice Ap (i + 1) cp) (i + 1) (P.take (i + 1)) HTk.out rfl own8 w8.heap.size cc rfl ?c1 (by omega) z8 ?_; (case c1 => simp [go_sem]); intro A9 c9 w9 own9 hg9)
                          have hfin : Below W5.heap.size W5 w9 := below_grown (E8.out.alloc s8 (.cells #[.int .i64 cc] 3)) hg9 (Nat.le_refl _) (fun j hj => (O8.out.lt j hj).1)
                          obtain ⟨hi2, hP2⟩ := Hw2.out
                          rw [show P.take (i + 1) ++ [cc] = P.take (i + 1 + 1) by rw [List.take_succ_eq_append_getElem hi2, hP2]] at own9
                          have Hf := Lib.hid hfin
                          have Hg := Lib.hid own9
                          have Hx2 : Hid (P.getD (i + 1) 0 = cc) := Lib.hid (by rw [← hP2]; simp [hi2])
                          clear hfin own9 hg9 own8 hP2
                          go_wp2
                          go_roundw
                          case rel => exact ⟨i + 1, A9, c9, hi2, by rw [Hx2.out], rfl, Hg.out, Hf.out⟩
                          case measure => (show 100 - (i + 1 + 1) < 100 - (i + 1)); omega
                  · exfalso
                    have hcx : cc = x := by omega
                    have hj2 := Hmax.out (x + 1) (by omega) (by omega) (joB_iff.2 (.inl rfl))
                    exact Hnad.out (by omega)
        · obtain rfl : b = n := by omega
          rw [mdA_end, ← mdA_zero] at ho ⊢
          have hq : an + b = (a + 1) * b := by rw [Han.out, Nat.succ_mul]
          rw [hq] at hs
          clear hq
          go_wp2
          go_roundw
          case rel => exact ⟨a + 1, A2, c2, rs, hlt, by go_num, rfl, ho, hs, hb⟩
          case measure => simp [intOf]; omega
    · obtain rfl : a = n := by omega
      rw [mdA_zero, show (bsA a l a).map (pc a l) = mdlP a l from rfl] at ho ⊢
      have hlen := mdA_len a l a 0
      rw [mdA_zero, show (bsA a l a).map (pc a l) = mdlP a l from rfl, ← HN2.out] at hlen
      have Hlo : Hid (w.heap.size + 1 ≤ wr.heap.size) := Lib.hid (by
        obtain ⟨vs, h1, _⟩ := hs
        exact (h1.lt w.heap.size rfl).2)
      have HC := Lib.hid (spec_cuSorted A2 c2 (w.heap.size + 1) wr.heap.size (mdlP a l).length (mdlP a l) wr rfl ho.sln (Nat.le_refl _) Hlo.out (by omega) (fun j hj => by
        have hm : rowOf (mdlP a l) j ∈ mdlP a l := by
          have e : rowOf (mdlP a l) j = (mdlP a l)[j] := by simp [rowOf, hj]
          rw [e]; exact List.getElem_mem _
        unfold mdlP at hm
        obtain ⟨q, _, hq⟩ := List.mem_map.1 hm
        have h1 : (rowOf ((bsA a l a).map (pc a l)) j).length ≤ a := by rw [← hq]; exact pc_len l q
        have h2 : (rowOf (mdlP a l) j).length ≤ a := h1
        omega))
      have Hb := Lib.hid hb
      clear ho hs hb hlen
      go_wp2_with fail
      refine HC.out.mono ?_
      rintro e w9 ⟨A9, c9, rfl, hs9, hb9⟩
      have HE : Hid (GivSS w w.heap.size (pcL a l) (.returned (.slice A9 (pcL a l).length c9)) w9) := Lib.hid ⟨A9, c9, rfl, hs9.mono (Nat.le_succ _), below_kept Hb.out (Nat.le_refl _) hb9⟩
      have Hle : Hid ((PlS (mdlP a l) (mdlP a l).length).length = (pcL a l).length) := Lib.hid rfl
      rw [Hle.out]
      clear hs9 hb9
      go_wp2
      go_ret
      exact HE.out
end Go.Proofs.Ytlnnnjnboknoeaa

/- GrwI: Appends to a slice of numbers that is full: a new row; of a cut one. -/
namespace Go.Proofs.Ytlnnnjnboknoeaa
open Go.RowKit

theorem SlI.drw {w : World} {B : Nat} {A : Option Addr} {l : List Int} (h : SlI w B A l) : SlI w.drew B A l := h
theorem SlI.cutAt {w : World} {B b off : Nat} {l : List Int} (h : SlI w B (some ⟨b, off, none⟩) l) (k : Nat) : SlI w B (some ⟨b, off + k, none⟩) (l.drop k) := fun h0 => by
  have hl : k < l.length := by simp at h0; omega
  obtain ⟨b', off', e, hb, hcell⟩ := h (by omega)
  cases e
  refine ⟨b, off + k, rfl, hb, fun j hj => ?_⟩
  have hj2 : k + j < l.length := by simp at hj; omega
  have e : (l.drop k).getD j 0 = l.getD (k + j) 0 := by simp [List.getD_eq_getElem?_getD]
  rw [e, show off + k + j = off + (k + j) by omega]
  exact hcell (k + j) hj2
theorem SlI.cell1 {w : World} {g B : Nat} {y : Int} (h0 : w.cell? ⟨g, 0, none⟩ = some (.int .i64 y)) (hB : g < B) : SlI w B (some ⟨g, 0, none⟩) [y] := fun _ =>
  ⟨g, 0, rfl, hB, fun j hj => by
    obtain rfl : j = 0 := by simpa using hj
    simpa using h0⟩

section
variable {ops : Array Oper} {rest : List Oper} {o : Oper} {a : Act} {Q : Exit → Act → World → Prop}
/-- append to a slice that is full: a new row -/
theorem wp_growI {K : Act → World → Prop} (w : World) (s x : Operand) (ho : o.op = .call { callee := .builtin .append, args := #[s, x], argTypes := #[35, 35] })
    (A : Option Addr) (n B : Nat) (L : List Int) (hn : L.length = n) (h0 : 0 < n) (hs : a.eval s = .slice A n n) (hL : SlI w B A L) (A' : Option Addr) (m c B' N : Nat) (r : List Int) (hN : N = n + m) (hm : r.length = m) (hm0 : 0 < m) (hx : a.eval x = .slice A' m c) (hr : SlI w B' A' r) (hlen : N ≤ 1000000)
    (h : ∀ A2 c2 w', w'.ownsRow w.heap.size 3 1 (.slice A2 N c2) N (ics (L ++ r)) → w.grownBy w' none → K (a.put o.dst (.slice A2 N c2)) w') :
    o.wp Try.prog a w K Q := by
  subst hN hn hm
  obtain ⟨i0, hi, hz0, hz1, hz2⟩ := info_parts infoI
  obtain ⟨b, off, rfl, hb, hc⟩ := hL h0
  obtain ⟨b', off', rfl, hb', hc'⟩ := hr hm0
  have h1 : ∀ j u, (ics L)[j]? = some u → w.cell? ((⟨b, off, none⟩ : Addr).add j) = some u := by
    intro j u hu
    have hj : j < L.length := by
      have := (List.getElem?_eq_some_iff.1 hu).1
      rwa [ics_length] at this
    rw [Addr.add_lit, ← hu, ics_get L j hj]
    exact hc j hj
  have h2 : ∀ j u, (ics r)[j]? = some u → w.cell? ((⟨b', off', none⟩ : Addr).add j) = some u := by
    intro j u hu
    have hj : j < r.length := by
      have := (List.getElem?_eq_some_iff.1 hu).1
      rwa [ics_length] at this
    rw [Addr.add_lit, ← hu, ics_get r j hj]
    exact hc' j hj
  obtain ⟨v', w', hrun, r1, r2⟩ := run_append_arg_grows (P := Try.prog) w 35 o.type 3 i0 (.int .i64 0) 1 8 Try.underlying35 hi hz0 hz1 hz2 rfl (by decide) ⟨b, off, none⟩ L.length L.length (ics L) (by rw [ics_length, Nat.mul_one]) h1 ⟨b', off', none⟩ r.length c (ics r) (by rw [ics_length, Nat.mul_one]) h2 (by omega) (by unfold maxLen; omega) (by omega)
  rw [← ics_append] at r1
  obtain ⟨A2, c2, rfl⟩ := own_form r1
  unfold Oper.wp
  simp [execOp, ho, resolve, invoke, builtin, hs, hx, hrun, Result.andThen]
  exact h A2 c2 w' r1 r2
theorem wpList_growI (w : World) (hgd : o.guard = none) (s x : Operand) (ho : o.op = .call { callee := .builtin .append, args := #[s, x], argTypes := #[35, 35] })
    (A : Option Addr) (n B : Nat) (L : List Int) (hn : L.length = n) (h0 : 0 < n) (hs : a.eval s = .slice A n n) (hL : SlI w B A L) (A' : Option Addr) (m c B' N : Nat) (r : List Int) (hN : N = n + m) (hm : r.length = m) (hm0 : 0 < m) (hx : a.eval x = .slice A' m c) (hr : SlI w B' A' r) (hlen : N ≤ 1000000)
    (h : ∀ A2 c2 w', w'.ownsRow w.heap.size 3 1 (.slice A2 N c2) N (ics (L ++ r)) → w.grownBy w' none → wpList Try.prog ops Q rest (a.put o.dst (.slice A2 N c2)) w') :
    wpList Try.prog ops Q (o :: rest) a w :=
  wpList_plain hgd fun _ hK => wp_growI w s x ho A n B L hn h0 hs hL A' m c B' N r hN hm hm0 hx hr hlen fun A2 c2 w' h1 h2 => hK _ _ (h A2 c2 w' h1 h2)
theorem step_growI {K : Act → World → Prop} {E : Prop} (w : World) (hgd : o.guard = none) (s x : Operand) (ho : o.op = .call { callee := .builtin .append, args := #[s, x], argTypes := #[35, 35] })
    (A : Option Addr) (n B : Nat) (L : List Int) (hn : L.length = n) (h0 : 0 < n) (hs : a.eval s = .slice A n n) (hL : SlI w B A L) (A' : Option Addr) (m c B' N : Nat) (r : List Int) (hN : N = n + m) (hm : r.length = m) (hm0 : 0 < m) (hx : a.eval x = .slice A' m c) (hr : SlI w B' A' r) (hlen : N ≤ 1000000)
    (h : ∀ A2 c2 w', w'.ownsRow w.heap.size 3 1 (.slice A2 N c2) N (ics (L ++ r)) → w.grownBy w' none → K (a.put o.dst (.slice A2 N c2)) w') :
    if Region.wanted o (yielded ops a.tmps) = true then Oper.wp Try.prog o a w K Q else E := by
  have hw : Region.wanted o (yielded ops a.tmps) = true := by simp [Region.wanted, hgd]
  rw [if_pos hw]
  exact wp_growI w s x ho A n B L hn h0 hs hL A' m c B' N r hN hm hm0 hx hr hlen h
end
end Go.Proofs.Ytlnnnjnboknoeaa

/- CutI: The program's cuts: allCorners, slices.Index, cutPiece (which panics with a diagonal that no piece has), cutApart (which recovers). -/
namespace Go.Proofs.Ytlnnnjnboknoeaa
open Go.RowKit

theorem corI_length (n : Nat) : (corI n).length = n := by simp [corI]
theorem corI_fil (n : Nat) : filF (fun i => i) n n = corI n := by
  unfold filF corI
  refine List.map_congr_left fun i hi => ?_
  rw [if_pos (List.mem_range.1 hi)]
set_option maxHeartbeats 1600000 in
theorem impl_allCorners (n : Nat) (w : World) (hn : n ≤ 1000) :
    Calls Try.prog 94 #[.int .i64 n] w fun e w' => e = .returned (.slice (some ⟨w.heap.size, 0, none⟩) n n) ∧ w'.ownsRow w.heap.size 3 1 (.slice (some ⟨w.heap.size, 0, none⟩) n n) n (ics (corI n)) ∧ Below w.heap.size w w' := by
  obtain ⟨i0, hi, hz0, hz1, hz2⟩ := info_parts infoI
  have hbytes : i0.bytes * n ≤ 281474976710656 := by rw [hz2]; omega
  have hmax : n ≤ maxLen := by unfold maxLen; omega
  go_enter Try.func94, Try.ntmps94
  go_wp2_with (at_make; refine wpList_make_full _ rfl _ _ _ rfl w.heap.size 3 i0 (.int .i64 0) 1 Try.underlying35 hi hz0 hz1 _ _ _ _ n rfl rfl rfl rfl hbytes hmax (Nat.le_refl _) ?_; intro w1 hown1 hgrow1)
  have hb1 : Below w.heap.size w w1 := (Below.refl _ _).grown hgrow1 (Nat.le_refl _) (by simp)
  have e1 : (madeCells (Value.int .i64 0).cells (n * 1)).toList = ics (filF (fun i => i) n 0) := by
    rw [Nat.mul_one]
    show (madeCells #[Value.int .i64 0] n).toList = _
    rw [toList_madeCells_one, filF_zero]
    simp [ics]
  rw [e1] at hown1
  clear e1 hgrow1
  go_wp2
  go_loopw [4, 9] (fun _ i wr => ∃ k : Nat, k ≤ n ∧ i = .int .i64 k ∧ wr.ownsRow w.heap.size 3 1 (.slice (some ⟨w.heap.size, 0, none⟩) n n) n (ics (filF (fun i => i) n k)) ∧ Below w.heap.size w wr) (fun _ i _ => n - (intOf i).toNat)
  case atStart => exact ⟨0, Nat.zero_le _, rfl, hown1, hb1⟩
  case round =>
    obtain ⟨k, hk, rfl, ho, hb⟩ := hrel
    by_cases hlt : k < n
    · have hll := filF_length (fun i => i) n k
      have hcell : wr.cell? ⟨w.heap.size, k, none⟩ = some (.int .i64 ((filF (fun i => i) n k).getD k 0)) := by
        rw [ho.cellAt k (by omega), ics_get _ _ (by rw [hll]; exact hlt)]
      have hfro := ho.frozenAt k
      have hst := ho.stored k (.int .i64 ((k : Nat) : Int))
      rw [ics_set, filF_set (fun i => i)] at hst
      obtain ⟨hs1, hs2⟩ := hst
      have hb2 := hb.grown hs2 hb.size (by simp)
      have k1 : (k : Int) < (n : Int) := by omega
      have HS := Lib.hid hs1
      have HB := Lib.hid hb2
      clear ho hs2 hown1 hb1 hll hb hs1 hb2
      generalize (filF (fun i => i) n k).getD k 0 = z at *
      go_wp2
      go_roundw
      case rel => exact ⟨k + 1, by omega, by go_num, HS.out, HB.out⟩
      case measure => simp [intOf]; omega
    · obtain rfl : k = n := by omega
      rw [corI_fil] at ho
      clear hown1 hb1
      go_wp2
      go_ret
      exact ⟨rfl, ho, hb⟩

/-- where a number lies first, or -1 -/
def ixI (l : List Int) (x : Int) : Int := if x ∈ l then (l.idxOf x : Int) else -1
theorem ixI_no {l : List Int} {x : Int} (h : x ∉ l) : ixI l x = -1 := if_neg h
theorem ixI_at {l : List Int} {x : Int} {k : Nat} (hk : k < l.length) (h1 : x ∉ l.take k) (h2 : l.getD k 0 = x) : ixI l x = (k : Int) := by
  have e : l[k] = x := by simpa [hk] using h2
  have hm : x ∈ l := by rw [← e]; exact List.getElem_mem hk
  unfold ixI
  rw [if_pos hm]
  have hs : l = l.take k ++ l[k] :: l.drop (k + 1) := by rw [← List.drop_eq_getElem_cons hk, List.take_append_drop]
  rw [hs, List.idxOf_append, if_neg h1, e]
  simp
  omega
theorem ixI_yes {l : List Int} {x : Int} (h : x ∈ l) : ∃ k : Nat, ∃ hk : k < l.length, ixI l x = (k : Int) ∧ l[k] = x := by
  have hk := List.idxOf_lt_length_of_mem h
  exact ⟨l.idxOf x, hk, if_pos h, List.getElem_idxOf hk⟩
theorem take_snocI {l : List Int} {k : Nat} (hk : k < l.length) {x : Int} (h1 : x ∉ l.take k) (h2 : l.getD k 0 ≠ x) : x ∉ l.take (k + 1) := by
  rw [List.take_succ_eq_append_getElem hk, List.mem_append, List.mem_singleton]
  rintro (h | h)
  · exact h1 h
  · exact h2 (by simp [hk, h])
set_option maxHeartbeats 1600000 in
theorem slices_IndexI_x (A : Option Addr) (n c B : Nat) (l : List Int) (x : Int) (w : World) (hl : l.length = n) (h : SlI w B A l) (hn9 : n ≤ 1000000) :
    Calls Try.prog 114 #[.slice A n c, .int .i64 x] w fun e w' => e = .returned (.int .i64 (ixI l x)) ∧ ∃ z, w' = w.drewN z := by
  have Hl := Lib.hid hl
  have H := Lib.hid h
  clear hl h
  go_enter Try.func114, Try.ntmps114
  go_wp2
  go_loop [5, 8] (fun _ i => ∃ k : Nat, k ≤ n ∧ i = .int .i64 k ∧ x ∉ l.take k) (fun _ i => n - (intOf i).toNat)
  case atStart => exact ⟨0, Nat.zero_le _, rfl, by simp⟩
  case round =>
    obtain ⟨k, hk, rfl, hno⟩ := hrel
    by_cases hlt : k < n
    · obtain ⟨b, off, rfl, hbB, hc⟩ := H.out (by have := Hl.out; omega)
      have g0 := hc k (by rw [Hl.out]; exact hlt)
      have hkl : k < l.length := by rw [Hl.out]; exact hlt
      have i0 : (0 : Int) ≤ (k : Int) := by omega
      have i1 : (k : Int) < (n : Int) := by omega
      have hnx := take_snocI hkl hno
      have hat := ixI_at hkl hno
      have Hnx := Lib.hid hnx
      have Hat := Lib.hid hat
      clear hc hnx hat hno
      generalize l.getD k 0 = y at *
      by_cases e : y = x
      · subst e
        have HE := Lib.hid (Hat.out rfl)
        clear Hat Hnx
        have e2 : (y == y) = true := by simp
        go_wp2
        go_ret
        exact ⟨ret_int HE.out.symm, 0, rfl⟩
      · have e' : (x == y) = false := by simpa using fun h => e h.symm
        go_wp2
        go_round
        case rel => exact ⟨k + 1, by omega, by go_num, Hnx.out e⟩
        case measure => simp [intOf]; omega
    · obtain rfl : k = n := by omega
      have hx : x ∉ l := by rw [← Hl.out, List.take_length] at hno; exact hno
      have HE := Lib.hid (ixI_no hx)
      clear hno hx
      go_wp2
      go_ret
      exact ⟨ret_int HE.out.symm, 0, rfl⟩

section
variable {ops : Array Oper} {rest : List Oper} {o : Oper} {a : Act} {Q : Exit → Act → World → Prop}
/-- append of one row's value to the outer row, inside a drawn region -/
theorem step_append1SS {K : Act → World → Prop} {E : Prop} (w : World) (hgd : o.guard = none) (s x : Operand) (ho : o.op = .call { callee := .builtin .append, args := #[s, x], argTypes := #[29, 29] })
    (base : Nat) (v : Value) (n : Nat) (rs : List Value) (hs : a.eval s = v) (hown : w.ownsRow base 35 1 v n rs) (g : Nat) (r : Value) (hr : r.oneCell' = true) (hx : a.eval x = .slice (some ⟨g, 0, none⟩) 1 1)
    (hc : w.cell? ⟨g, 0, none⟩ = some r) (hlen : n ≤ 1000000) (hbase : base ≤ w.heap.size)
    (h : ∀ A' c' w', w'.ownsRow base 35 1 (.slice A' (n + 1) c') (n + 1) (rs ++ [r]) → w.grownBy w' v.ownBlock → K (a.put o.dst (.slice A' (n + 1) c')) w') :
    if Region.wanted o (yielded ops a.tmps) = true then Oper.wp Try.prog o a w K Q else E := by
  have hw : Region.wanted o (yielded ops a.tmps) = true := by simp [Region.wanted, hgd]
  rw [if_pos hw]
  obtain ⟨i0, hi, hz0, hz1, hz2⟩ := info_parts infoSl
  refine wp_append_own w s x 29 ho base 35 i0 (.slice none 0 0) 1 24 Try.underlying29 hi hz0 hz1 hz2 rfl (by decide) v n rs hs hown ⟨g, 0, none⟩ 1 1 [r] hx rfl ?_ ?_ ?_ ?_ hbase ?_
  · intro j u hu
    match j, hu with
    | 0, hu =>
      rw [Addr.add_zero', hc]
      simpa using hu
  · intro u hu
    simp at hu
    subst hu
    exact hr
  · unfold maxLen; omega
  · omega
  · intro v' w' hown' hg _
    obtain ⟨A', c', rfl⟩ := own_form hown'
    exact h A' c' w' hown' hg
end

/-- the panic that a diagonal without a piece raises -/
def crP (x y : Int) : Value := .iface 49 (.agg #[.int .i64 x, .int .i64 y])
/-- what cutPiece ends in -/
def CpE (base : Nat) (w : World) (x y : Int) (O : Option (List (List Int))) (e : Ending) (w' : World) : Prop :=
  Below base w w' ∧ match O with
    | some Ls' => ∃ A c rs, e = .returned (.slice A Ls'.length c) ∧ OwnPS w' base A c rs Ls'
    | none => e = .panicked [{ v := crP x y, recovered := false }]
theorem hasB_take {Ls : List (List Int)} {d : Int × Int} {k : Nat} (hk : k < Ls.length) (hno : ∀ j, j < k → hasB d (rowOf Ls j) = false) (h : hasB d (rowOf Ls k) = true) : Ls.findIdx? (hasB d) = some k := by
  rw [List.findIdx?_eq_some_iff_getElem]
  have e : ∀ j (hj : j < Ls.length), rowOf Ls j = Ls[j] := fun j hj => by simp [rowOf, hj]
  refine ⟨hk, by rw [← e k hk]; exact h, fun j hj => ?_⟩
  rw [← e j (by omega), hno j hj]
  simp
theorem hasB_none {Ls : List (List Int)} {d : Int × Int} (hno : ∀ j, j < Ls.length → hasB d (rowOf Ls j) = false) : Ls.findIdx? (hasB d) = none := by
  rw [List.findIdx?_eq_none_iff]
  intro x hx
  obtain ⟨j, hj, rfl⟩ := List.getElem_of_mem hx
  have e : rowOf Ls j = Ls[j] := by simp [rowOf, hj]
  rw [← e]; exact hno j hj
end Go.Proofs.Ytlnnnjnboknoeaa

/- CutP: The program's cutPiece: the first piece that has both corners is parted; where none has, a panic. -/
namespace Go.Proofs.Ytlnnnjnboknoeaa
open Go.RowKit

theorem OwnPS.drewN {w : World} {base : Nat} {A : Option Addr} {c : Nat} {rs : List Value} {Ls : List (List Int)} (h : OwnPS w base A c rs Ls) (z : Nat) : OwnPS (w.drewN z) base A c rs Ls := h

theorem PcR.of_row {w : World} {base n c : Nat} {A : Option Addr} {l : List Int} (hn : l.length = n) (h0 : 0 < n) (h : w.ownsRow base 3 1 (.slice A n c) n (ics l)) : PcR w base (.slice A n c) l := by
  subst hn
  have hc := own_capP h
  obtain ⟨g, cap, hv, _, _⟩ := h.form h0
  cases hv
  exact PcR.of_own h hc
theorem cutS_at {Ls : List (List Int)} {d : Int × Int} {k : Nat} (hk : k < Ls.length) (hno : ∀ j, j < k → hasB d (rowOf Ls j) = false) (h : hasB d (rowOf Ls k) = true) : cutS Ls d = some (Ls.set k (innP (rowOf Ls k) d) ++ [outP (rowOf Ls k) d]) := by
  unfold cutS
  rw [hasB_take hk hno h]
theorem cutS_not {Ls : List (List Int)} {d : Int × Int} (hno : ∀ j, j < Ls.length → hasB d (rowOf Ls j) = false) : cutS Ls d = none := by
  unfold cutS
  rw [hasB_none hno]

set_option maxRecDepth 100000 in
set_option maxHeartbeats 3200000 in
theorem impl_cutPiece (base c : Nat) (A : Option Addr) (rs : List Value) (Ls : List (List Int)) (x y : Int) (w : World) (ho : OwnPS w base A c rs Ls) (hbase : base ≤ w.heap.size) (hN : Ls.length ≤ 100)
    (hrow : ∀ j, j < Ls.length → (rowOf Ls j).Pairwise (· < ·) ∧ (rowOf Ls j).length ≤ 12) (hxy : x < y) :
    Calls Try.prog 95 #[.slice A Ls.length c, .agg #[.int .i64 x, .int .i64 y]] w (CpE base w x y (cutS Ls (x, y))) := by
  obtain ⟨N, hNl⟩ : ∃ N, Ls.length = N := ⟨_, rfl⟩
  have HNl := Lib.hid hNl
  have HO := Lib.hid ho
  have HR := Lib.hid hrow
  rw [hNl] at hN ⊢
  clear hNl ho hrow
  go_enter Try.func95, Try.ntmps95
  go_wp2
  go_loopw [5, 6, 7, 8, 11] (fun _ _ _ _ i wr => ∃ k z : Nat, k ≤ N ∧ i = .int .i64 k ∧ wr = (w.alloc (.cells #[.int .i64 x, .int .i64 y] 49)).drewN z ∧ ∀ j, j < k → hasB (x, y) (rowOf Ls j) = false) (fun _ _ _ _ i _ => N - (intOf i).toNat)
  case atStart => exact ⟨0, 0, Nat.zero_le _, rfl, rfl, fun j hj => by omega⟩
  case round =>
    obtain ⟨k, z, hk, rfl, rfl, hno⟩ := hrel
    have Hno := Lib.hid hno
    clear hno
    have q0 : ((w.alloc (.cells #[.int .i64 x, .int .i64 y] 49)).drewN z).cell? ⟨w.heap.size, 0, none⟩ = some (.int .i64 x) := by simp [go_sem]
    have q1 : ((w.alloc (.cells #[.int .i64 x, .int .i64 y] 49)).drewN z).cell? ⟨w.heap.size, 1, none⟩ = some (.int .i64 y) := by simp [go_sem]
    have hbz : Below w.heap.size w ((w.alloc (.cells #[.int .i64 x, .int .i64 y] 49)).drewN z) := below_drewN ((Below.refl _ _).alloc (Nat.le_refl _) _) z
    have oz : OwnPS ((w.alloc (.cells #[.int .i64 x, .int .i64 y] 49)).drewN z) base A c rs Ls := (HO.out.alloc _).drewN z
    have hsz : ((w.alloc (.cells #[.int .i64 x, .int .i64 y] 49)).drewN z).heap.size = w.heap.size + 1 := by simp [go_sem]
    have hwz : ∀ q, ((w.alloc (.cells #[.int .i64 x, .int .i64 y] 49)).drewN z).drewN q = (w.alloc (.cells #[.int .i64 x, .int .i64 y] 49)).drewN (z + q) := fun q => by rw [World.drewN_drewN]
    have Hwz := Lib.hid hwz
    clear hwz
    generalize (w.alloc (.cells #[.int .i64 x, .int .i64 y] 49)).drewN z = wr at *
    by_cases hlt : k < N
    · obtain ⟨g, hA, hg1, hg2, hc⟩ := oz.outer (by rw [HNl.out]; omega)
      subst hA
      have y0 := hc k (by rw [HNl.out]; exact hlt)
      obtain ⟨gk, ok, ck, ev, hk1, hk2, hlc, hs⟩ := (oz.2.2.1 k (by rw [HNl.out]; exact hlt)).sl
      rw [ev] at y0
      have hrk := HR.out k (by rw [HNl.out]; exact hlt)
      have i0 : (0 : Int) ≤ (k : Int) := by omega
      have i1 : (k : Int) < (N : Int) := by omega
      have Hoz := Lib.hid oz
      have Hs := Lib.hid hs
      have Hev := Lib.hid ev
      have Hrk := Lib.hid hrk
      obtain ⟨m, hm⟩ : ∃ m, (rowOf Ls k).length = m := ⟨_, rfl⟩
      have Hm := Lib.hid hm
      rw [hm] at y0 hlc
      have hm12 : m ≤ 12 := by rw [← hm]; exact hrk.2
      have Hx := Lib.hid fun z' => slices_IndexI_x (some ⟨gk, ok, none⟩) m ck wr.heap.size (rowOf Ls k) x (wr.drewN z') hm hs (by omega)
      have Hy := Lib.hid fun z' => slices_IndexI_x (some ⟨gk, ok, none⟩) m ck wr.heap.size (rowOf Ls k) y (wr.drewN z') hm hs (by omega)
      have hfro := oz.2.1.frozenAt k
      have hpk := oz.2.2.1 k (by rw [HNl.out]; exact hlt)
      have Hpk := Lib.hid hpk
      have Hq0 := Lib.hid q0
      have Hq1 := Lib.hid q1
      clear hc oz hs ev hrk hm hpk
      cases hh : hasB (x, y) (rowOf Ls k)
      · have hnx : ∀ j, j < k + 1 → hasB (x, y) (rowOf Ls j) = false := fun j hj => by
          by_cases e : j = k
          · subst e; exact hh
          · exact Hno.out j (by omega)
        have Hnx := Lib.hid hnx
        by_cases hx : x ∈ rowOf Ls k
        · have hy : y ∉ rowOf Ls k := fun hy => by rw [hasB_iff.2 ⟨hx, hy⟩] at hh; cases hh
          obtain ⟨i, hi, e1, ex⟩ := ixI_yes hx
          rw [e1] at Hx
          rw [ixI_no hy] at Hy
          have t0 : ¬ (i : Int) < 0 := by omega
          clear hnx hx hy hh e1 ex hi hfro
          go_wp2
          go_quiet (first | (go_at_call 114; with_reducible exact Calls.quiet_of (Hx.out _)) | (go_at_call 114; with_reducible exact Calls.quiet_of (Hy.out _)))
          rename_i nq
          go_wp2
          go_roundw
          case rel => exact ⟨k + 1, z + nq, by omega, by go_num, Hwz.out nq, Hnx.out⟩
          case measure => simp [intOf]; omega
        · rw [ixI_no hx] at Hx
          generalize ixI (rowOf Ls k) y = r2 at *
          clear hnx hx hh hfro
          go_wp2
          go_quiet (first | (go_at_call 114; with_reducible exact Calls.quiet_of (Hx.out _)) | (go_at_call 114; with_reducible exact Calls.quiet_of (Hy.out _)))
          rename_i nq
          go_wp2
          go_roundw
          case rel => exact ⟨k + 1, z + nq, by omega, by go_num, Hwz.out nq, Hnx.out⟩
          case measure => simp [intOf]; omega
      · have hmm := hasB_iff.1 hh
        obtain ⟨i, hi, e1, ex⟩ := ixI_yes hmm.1
        obtain ⟨j, hj, e2, ey⟩ := ixI_yes hmm.2
        have hij := sort_of Hrk.out.1 hi hj (by rw [ex, ey]; exact hxy)
        dsimp only at e1 e2 ex ey
        rw [e1] at Hx
        rw [e2] at Hy
        have Hex := Lib.hid ex
        have Hey := Lib.hid ey
        have Hhh := Lib.hid hh
        rw [Hm.out] at hi hj
        clear hmm ex ey hh e1 e2
        have t0 : (0 : Int) ≤ (i : Int) := by omega
        have t1 : (0 : Int) ≤ (j : Int) := by omega
        have t2 : ¬ (i : Int) < 0 := by omega
        have t3 : ¬ (j : Int) < 0 := by omega
        have t4 : (i : Int) ≤ (j : Int) + 1 := by omega
        have t5 : (j : Int) + 1 ≤ (ck : Int) := by omega
        have t6 : (j : Int) + 1 ≤ (m : Int) := by omega
        go_wp2
        go_quiet (first | (go_at_call 114; with_reducible exact Calls.quiet_of (Hx.out _)) | (go_at_call 114; with_reducible exact Calls.quiet_of (Hy.out _)))
        rename_i nq
        go_wp2
        have hst : ∀ q, OwnPS ((wr.drewN q).setCell ⟨g, k, none⟩ (.slice (some ⟨gk, ok + i, none⟩) (j + 1 - i) (j + 1 - i))) base (some ⟨g, 0, none⟩) c (rs.set k (.slice (some ⟨gk, ok + i, none⟩) (j + 1 - i) (j + 1 - i))) (Ls.set k (innP (rowOf Ls k) (x, y))) ∧
            (wr.drewN q).grownBy ((wr.drewN q).setCell ⟨g, k, none⟩ (.slice (some ⟨gk, ok + i, none⟩) (j + 1 - i) (j + 1 - i))) (some g) := fun q => by
          have hp := Hpk.out
          rw [Hev.out] at hp
          have h2 := hp.part i (j + 1 - i) (by rw [Hm.out]; omega)
          rw [← inn_eq Hrk.out.1 (d := (x, y)) (by rw [Hm.out]; exact hi) (by rw [Hm.out]; exact hj) Hex.out Hey.out hij] at h2
          refine (Hoz.out.drewN q).store (by rw [HNl.out]; exact hlt) h2 (fun j' hj' hne k' hk' => ?_)
          refine Hoz.out.2.2.2 k j' (by rw [HNl.out]; exact hlt) hj' (fun e => hne e.symm) k' ?_
          rw [Hev.out]
          exact hk'
        obtain ⟨o2, g2⟩ := hst nq
        have p2 : PcR _ base _ _ := PcR.far (w := wr.drewN nq) Hpk.out g2 (pc_ne Hpk.out Hoz.out.2.1)
        rw [Hev.out] at p2
        obtain ⟨_, _, _, e3, _, _, _, s2⟩ := p2.sl
        cases e3
        have b2 : Below base w _ := (below_drewN (hbz.mono hbase) nq).grown g2 (Nat.le_trans hbase hbz.size) (fun z hz => by cases hz; exact hg1)
        have z0 : w.heap.size ≤ (wr.drewN nq).heap.size := hbz.size
        have z2 := Nat.le_trans z0 g2.size
        have O2 := Lib.hid o2
        have S2 := Lib.hid s2
        have B2 := Lib.hid b2
        clear o2 s2 b2 g2 p2 hst hfro y0 Hx Hy
        generalize (wr.drewN nq).setCell ⟨g, k, none⟩ (.slice (some ⟨gk, ok + i, none⟩) (j + 1 - i) (j + 1 - i)) = W2 at *
        have HT : Hid (((rowOf Ls k).take (i + 1)).length = i + 1) := Lib.hid (by have := Hm.out; simp; omega)
        have HD : Hid (((rowOf Ls k).drop j).length = m - j) := Lib.hid (by have := Hm.out; simp; omega)
        have u0 : ¬ ck = j := by omega
        have u1 : 0 < i + 1 := by omega
        have u2 : 0 < m - j := by omega
        have u3 : i + 1 + (m - j) ≤ 1000000 := by omega
        have u4 : (i : Int) + 1 ≤ (ck : Int) := by omega
        have u5 : (0 : Int) ≤ (i : Int) + 1 := by omega
        have u6 : (j : Int) ≤ (m : Int) := by omega
        have u7 : (m : Int) ≤ (ck : Int) := by omega
        have u8 : base ≤ W2.heap.size := Nat.le_trans hbase z2
        have u9 : N ≤ 1000000 := by omega
        have hnl : (rs.set k (Value.slice (some ⟨gk, ok + i, none⟩) (j + 1 - i) (j + 1 - i))).length = N := by have := O2.out.1; simp at this; have := HNl.out; simp; omega
        have hL2 : (Ls.set k (innP (rowOf Ls k) (x, y))).length = N := by have := HNl.out; simp; omega
        have HL2 := Lib.hid hL2
        have own2 := O2.out.2.1
        rw [hL2] at own2
        clear hnl hL2
        have hpw : IntKind.i64.wrap ((i : Int) + 1) = (i : Int) + 1 := IntWalk.i64_in _ (by omega)
        have hpn : ((i : Int) + 1).toNat = i + 1 := by omega
        have u10 : ¬ ck < i + 1 := by omega
        have u11 : i + 1 ≤ ck := by omega
        go_region_held3 (fun w' => Below base w w')
          (first
            | assumption
            | exact B2.out.drew
            | exact (below_grown B2.out.drew g7 hbase (fun j hj => by cases hj))
            | exact ((below_grown B2.out.drew g7 hbase (fun j hj => by cases hj)).alloc (Nat.le_trans u8 g7.size) _)
            | exact (below_grown ((below_grown B2.out.drew g7 hbase (fun j hj => by cases hj)).alloc (Nat.le_trans u8 g7.size) _) g9 hbase (fun j hj => by cases hj; exact hg1)))
          (first
            | (refine step_growI W2.drew rfl _ _ rfl (some ⟨gk, ok, none⟩) (i + 1) W2.heap.size ((rowOf Ls k).take (i + 1)) HT.out u1 rfl (S2.out.take (i + 1)).drw (some ⟨gk, ok + j, none⟩) (m - j) _ W2.heap.size (i + 1 + (m - j)) ((rowOf Ls k).drop j) rfl HD.out u2 rfl (S2.out.cutAt j).drw u3 ?_
               intro A7 c7 w7 o7 g7)
            | (refine step_append1SS (w7.alloc (.cells #[.slice A7 (i + 1 + (m - j)) c7] 35)) rfl _ _ rfl base (.slice (some ⟨g, 0, none⟩) N c) N (rs.set k (Value.slice (some ⟨gk, ok + i, none⟩) (j + 1 - i) (j + 1 - i))) rfl ((own_far (row := none) (own_drewN own2 1) g7 (fun k hk => by simp)).alloc _) w7.heap.size (.slice A7 (i + 1 + (m - j)) c7) rfl rfl (by simp [go_sem]) u9 (Nat.le_trans u8 (Nat.le_trans g7.size (by simp))) ?_
               intro A9 c9 w9 own9 g9))
        rename_i hS
        have o7' : OwnPS w7 base (some ⟨g, 0, none⟩) c (rs.set k (.slice (some ⟨gk, ok + i, none⟩) (j + 1 - i) (j + 1 - i))) (Ls.set k (innP (rowOf Ls k) (x, y))) := by
          have h1 := O2.out
          exact ⟨h1.1, own_far (row := none) (own_drewN h1.2.1 1) g7 (fun _ _ => by simp), fun j' hj' => PcR.far (w := W2.drew) (row := none) (h1.2.2.1 j' hj') g7 (fun _ _ => by simp), h1.2.2.2⟩
        have n7 := PcR.of_row (by simp only [List.length_append, HT.out, HD.out]) (by omega) (o7.mono (show base ≤ W2.drew.heap.size from u8))
        have hfin := o7'.app (b := W2.heap.size) (fun j' hj' k' hk' => O2.out.blk j' hj' k' hk') n7 (fun k' hk' => (o7.lt k' hk').1) (by rw [HL2.out]; exact own9) (by rw [HL2.out]; exact g9)
        rw [← out_eq Hrk.out.1 (d := (x, y)) (by rw [Hm.out]; exact hi) (by rw [Hm.out]; exact hj) Hex.out Hey.out hij] at hfin
        have hcs := cutS_at (by rw [HNl.out]; exact hlt) Hno.out Hhh.out
        have HF : Hid (CpE base w x y (cutS Ls (x, y)) (.returned (.slice A9 (N + 1) c9)) w9) := Lib.hid ⟨hS, by
          rw [hcs]
          exact ⟨A9, c9, _, by simp [HNl.out], hfin⟩⟩
        clear hS o7' n7 hfin hcs own9 g9 o7 g7
        go_wp2
        go_ret
        exact HF.out
    · obtain rfl : k = N := by omega
      have hcs := cutS_not (d := (x, y)) (Ls := Ls) (by rw [HNl.out]; exact Hno.out)
      have HF : Hid (CpE base w x y (cutS Ls (x, y)) (.panicked [{ v := crP x y, recovered := false }]) wr) := Lib.hid ⟨hbz.mono hbase, by rw [hcs]⟩
      clear hcs
      go_wp2
      exact ⟨rfl, HF.out⟩
end Go.Proofs.Ytlnnnjnboknoeaa

/- CutQ: The program's cutApart: the pieces, or, recovered from a panic, none. -/
namespace Go.Proofs.Ytlnnnjnboknoeaa
open Go.RowKit

theorem assert_diag (x y : Int) (w : World) : (Instr.typeAssert (.iface 49 (.agg #[.int .i64 x, .int .i64 y])) 20 49 true).run Try.prog w = .ok (.tuple #[.agg #[.int .i64 x, .int .i64 y], .bool true]) w := by kernel_rfl
theorem assert_nil (w : World) : (Instr.typeAssert .nilIface 20 49 true).run Try.prog w = .ok (.tuple #[.agg #[.int .i64 0, .int .i64 0], .bool false]) w := by kernel_rfl
set_option maxRecDepth 100000 in
set_option maxHeartbeats 1600000 in
theorem catch_crossed (p : Addr) (x y : Int) (v0 : Value) (older : List PanicEntry) (w : World) (hc : w.cell? p = some v0) (hz : w.frozen? p = false) :
    CallsD Try.prog 93 #[.pointer (some p)] (.panicking ({ v := crP x y, recovered := false } :: older)) w fun e u' w' =>
      e = .returned (.tuple #[]) ∧ u' = .panicking ({ v := crP x y, recovered := true } :: older) ∧ w' = (w.alloc (.cells #[.int .i64 x, .int .i64 y] 49)).setCell p (.slice none 0 0) := by
  have hc1 : (w.alloc (.cells #[.int .i64 x, .int .i64 y] 49)).cell? p = some v0 := cell_kept ((Below.refl _ _).alloc (Nat.le_refl _) _) hc
  have hz1 : (w.alloc (.cells #[.int .i64 x, .int .i64 y] 49)).frozen? p = false := (((Below.refl w.heap.size w).alloc (Nat.le_refl _) _).frozen (World.block_lt_of_cell? w p hc)).trans hz
  have ha := assert_diag x y
  unfold crP at *
  refine callsD_of_wpS Try.func93 rfl fun c₀ cs hu => ?_
  apply wpS_seq
  apply wpS_region
  simp [wpOpsS, go_sem, recoverD, hu, Try.ntmps93, Exit.thenS, ha]
  apply wpS_seq
  apply wpS_region
  simp [wpOpsS, go_sem, Exit.thenS]
  refine wpS_cond (t := true) (by simp [Act.eval, Array.replicate]) ?_
  simp only [if_true]
  apply wpS_region
  simp [wpOpsS, go_sem, hc1, hz1, bodyPostS, results, Try.results93]
set_option maxRecDepth 100000 in
set_option maxHeartbeats 1600000 in
theorem catch_idle (p : Addr) (w : World) :
    CallsD Try.prog 93 #[.pointer (some p)] .returning w fun e u' w' => e = .returned (.tuple #[]) ∧ u' = .returning ∧ w' = w.alloc (.cells #[.int .i64 0, .int .i64 0] 49) := by
  have ha := assert_nil
  refine callsD_of_wpS Try.func93 rfl fun c₀ cs hu => ?_
  apply wpS_seq
  apply wpS_region
  simp [wpOpsS, go_sem, recoverD, hu, Try.ntmps93, Exit.thenS, ha]
  apply wpS_seq
  apply wpS_region
  simp [wpOpsS, go_sem, Exit.thenS]
  refine wpS_cond (t := false) (by simp [Act.eval, Array.replicate]) ?_
  simp only [Bool.false_eq_true, if_false]
  refine wpS_of_wp (wp_skip ?_)
  cases c₀
  simp_all [bodyPostS, results, Try.results93]

/-- what cutApart returns -/
def CaE (w : World) (O : Option (List (List Int))) (e : Ending) (w' : World) : Prop :=
  ∃ A c rs, e = .returned (.tuple #[.slice A (O.getD []).length c, .bool O.isSome]) ∧ OwnPS w' w.heap.size A c rs (O.getD []) ∧ Below w.heap.size w w' ∧ (O.isSome = false → A = none ∧ c = 0)
/-- one row alone -/
theorem OwnPS.one {w : World} {base g n : Nat} {L : List Int} (hn : L.length = n) (h : w.ownsRow base 3 1 (.slice (some ⟨g, 0, none⟩) n n) n (ics L)) (hb : base ≤ w.heap.size) :
    OwnPS (w.alloc (.cells #[.slice (some ⟨g, 0, none⟩) n n] 35)) base (some ⟨w.heap.size, 0, none⟩) 1 [.slice (some ⟨g, 0, none⟩) n n] [L] := by
  subst hn
  refine ⟨rfl, ?_, fun j hj => ?_, fun i j hi hj hij => ?_⟩
  · have := World.ownsRow_lit (e := 35) (size := 1) (base := base) w #[.slice (some ⟨g, 0, none⟩) L.length L.length] 1 hb (by decide) rfl
    exact this
  · obtain rfl : j = 0 := by simpa using hj
    exact (PcR.of_own h (Nat.le_refl _)).alloc _
  · simp at hi hj
    omega
/-- the box of the result -/
def BxS (w : World) (p : Nat) (v : Value) : Prop := w.cell? ⟨p, 0, none⟩ = some v ∧ w.frozen? ⟨p, 0, none⟩ = false
theorem BxS.kept {w w' : World} {p : Nat} {v : Value} (h : BxS w p v) (hb : Below (p + 1) w w') : BxS w' p v := ⟨(hb.cell (p := ⟨p, 0, none⟩) (Nat.lt_succ_self p)).trans h.1, (hb.frozen (p := ⟨p, 0, none⟩) (Nat.lt_succ_self p)).trans h.2⟩

theorem grown_setP (w : World) (b i : Nat) (v : Value) : w.grownBy (w.setCell ⟨b, i, none⟩ v) (some b) :=
  ⟨rfl, rfl, rfl, by simp [World.setCell], fun k _ hk => Below.heap_setCell _ _ _ _ (fun e => hk (by simp [e]))⟩
theorem BxS.set {w : World} {p : Nat} {v0 : Value} (h : BxS w p v0) (v : Value) : BxS (w.setCell ⟨p, 0, none⟩ v) p v :=
  ⟨World.cell?_setCell_same _ _ _ h.1, by simp [go_sem, h.2]⟩
theorem OwnPS.setBox {w : World} {p : Nat} {A : Option Addr} {c : Nat} {rs : List Value} {Ls : List (List Int)} (h : OwnPS w (p + 1) A c rs Ls) (v : Value) : OwnPS (w.setCell ⟨p, 0, none⟩ v) (p + 1) A c rs Ls := by
  have hg := grown_setP w p 0 v
  refine ⟨h.1, own_far h.2.1 hg (fun k hk e => ?_), fun j hj => (h.2.2.1 j hj).far hg (fun k hk e => ?_), h.2.2.2⟩
  · have h1 := (h.2.1.lt k hk).1
    have h2 : k = p := Option.some.inj e
    omega
  · have h1 := ((h.2.2.1 j hj).lt k hk).1
    have h2 : k = p := Option.some.inj e
    omega

set_option maxRecDepth 100000 in
set_option maxHeartbeats 3200000 in
theorem impl_cutApart (n : Nat) (A : Option Addr) (c B : Nat) (l : List (Int × Int)) (w : World) (n3 : 3 ≤ n) (n12 : n ≤ 12) (h : SlD w B A l) (hB : B ≤ w.heap.size) (ho : ordB (n : Int) l = true) (hl : l.length ≤ 1048576) :
    Calls Try.prog 56 #[.int .i64 n, .slice A l.length c] w (CaE w (cuts n l)) := by
  have hmf : ∀ (fn : Fn) (first cap : Array Value) (w : World), (Instr.makeFunc fn first cap).run Try.prog w = .ok (.func fn first cap) w := fun _ _ _ _ => rfl
  have Ho := Lib.hid ho
  have H := Lib.hid h
  clear ho h
  go_enter_defers Try.func56, Try.ntmps56
  go_wp2_with fail
  refine (impl_allCorners n _ (by omega)).mono ?_
  rintro e w2 ⟨rfl, own2, hb2⟩
  have e2 : (w.alloc (.cells #[.slice none 0 0] 29)).heap.size = w.heap.size + 1 := by simp
  rw [e2] at own2 hb2 ⊢
  have b2 := ((Below.refl w.heap.size w).alloc (Nat.le_refl _) (.cells #[.slice none 0 0] 29)).trans (hb2.mono (Nat.le_succ _))
  have p2 : BxS w2 w.heap.size (.slice none 0 0) := BxS.kept ⟨by simp [go_sem], by simp [go_sem]⟩ hb2
  have hs2 : w.heap.size + 1 ≤ w2.heap.size := by have := hb2.size; simpa using this
  have o3 := OwnPS.one (corI_length n) own2 hs2
  have p3 := p2.kept ((Below.refl (w.heap.size + 1) w2).alloc hs2 (.cells #[.slice (some ⟨w.heap.size + 1, 0, none⟩) n n] 35))
  have b3 := b2.alloc (Nat.le_trans (Nat.le_succ _) hs2) (.cells #[.slice (some ⟨w.heap.size + 1, 0, none⟩) n n] 35)
  have s3 : (w2.alloc (.cells #[.slice (some ⟨w.heap.size + 1, 0, none⟩) n n] 35)).heap.size = w2.heap.size + 1 := by simp
  clear own2 hb2 b2 p2 e2
  obtain ⟨p3c, p3f⟩ := p3
  go_wp2
  have o4 := o3.setBox (.slice (some ⟨w2.heap.size, 0, none⟩) 1 1)
  have p4 := BxS.set ⟨p3c, p3f⟩ (.slice (some ⟨w2.heap.size, 0, none⟩) 1 1)
  have b4 : Below w.heap.size w _ := b3.setCell (p := ⟨w.heap.size, 0, none⟩) (Nat.le_refl _) (.slice (some ⟨w2.heap.size, 0, none⟩) 1 1)
  clear o3 p3c p3f b3 s3
  generalize ((w2.alloc (.cells #[.slice (some ⟨w.heap.size + 1, 0, none⟩) n n] 35)).setCell ⟨w.heap.size, 0, none⟩ (.slice (some ⟨w2.heap.size, 0, none⟩) 1 1)) = w4 at *
  go_loopw [7, 14] (fun _ i wr => ∃ (k : Nat) (A2 : Option Addr) (c2 : Nat) (rs : List Value) (Ls : List (List Int)), k ≤ l.length ∧ i = .int .i64 k ∧ ncTo l k = true ∧ cuts n (l.take k) = some Ls ∧ BxS wr w.heap.size (.slice A2 Ls.length c2) ∧ OwnPS wr (w.heap.size + 1) A2 c2 rs Ls ∧ Below w.heap.size w wr) (fun _ i _ => l.length - (intOf i).toNat)
  case atStart => exact ⟨0, _, _, _, _, Nat.zero_le _, rfl, rfl, rfl, p4, o4, b4⟩
  case round =>
    clear o4 p4 b4 hs2
    obtain ⟨k, A2, c2, rs, Ls, hk, rfl, hnc, hcu, hp, ho, hb⟩ := hrel
    obtain ⟨hLl, hLp, hLr⟩ := cuts_rows n3 Ho.out hk hnc hcu
    have hk3 := cut_sumK n3 Ho.out hk hnc
    have hszp : w.heap.size + 1 ≤ wr.heap.size := World.block_lt_of_cell? wr _ hp.1
    by_cases hlt : k < l.length
    · obtain ⟨b', off, rfl, hbB, hc⟩ := H.out.below (hb.mono hB) (by omega)
      obtain ⟨g0, g1⟩ := hc k hlt
      have i0 : (0 : Int) ≤ (k : Int) := by omega
      have i1 : (k : Int) < (l.length : Int) := by omega
      have hdg := (ord_at Ho.out hlt).1
      rw [dgB_iff] at hdg
      have e1 : l.getD k (0, 0) = l[k] := by simp [hlt]
      have hnx := cuts_next hlt hcu
      have hfl := fun hh => cuts_fail hlt hcu hh
      have hcr := cuts_cross n3 Ho.out hlt hnc
      have hn1 := ncTo_succ l k
      rw [hnc, e1, Bool.true_and] at hn1
      rw [e1] at g0 g1
      have hcp := impl_cutPiece (w.heap.size + 1) c2 A2 rs Ls l[k].1 l[k].2 ((wr.alloc (.cells #[.int .i64 l[k].1, .int .i64 l[k].2] 49))) (ho.alloc _) (by simp; omega) (by omega) (fun j hj => by
        have := hLr (rowOf Ls j) (by simp [rowOf, hj])
        exact ⟨this.1, by omega⟩) (by omega)
      rw [show ((l[k].1, l[k].2) : Int × Int) = l[k] from rfl] at hcp
      have hpc := hp.kept ((Below.refl _ _).alloc hszp (.cells #[.int .i64 l[k].1, .int .i64 l[k].2] 49))
      rw [hLl] at hcp hpc
      have Hcp := Lib.hid hcp
      have Hnx := Lib.hid hnx
      have Hfl := Lib.hid hfl
      have Hn1 := Lib.hid hn1
      have Hb := Lib.hid (hb.alloc hb.size (.cells #[.int .i64 l[k].1, .int .i64 l[k].2] 49))
      have Hp := Lib.hid hpc
      have hbx : anyCross l[k] (l.take k) = true → cutS Ls l[k] = none := fun hh => hcr hh hcu
      have hby : anyCross l[k] (l.take k) = false → (cutS Ls l[k]).isSome = true := fun hh => by
        obtain ⟨Ls', h1, _⟩ := cuts_some n3 Ho.out (k + 1) hlt (by rw [Hn1.out, hh]; rfl)
        rw [← Hnx.out, h1]; rfl
      have Hbx := Lib.hid hbx
      have Hby := Lib.hid hby
      obtain ⟨hpc1, hpc2⟩ := hpc
      clear hc hcp hnx hfl hn1 hcr hcu hLp hLr ho hp hb hnc e1 hbx hby hdg hLl
      generalize l[k].1 = x at *
      generalize l[k].2 = y at *
      cases hx : anyCross l[k] (l.take k)
      · obtain ⟨Ls', hL'⟩ := Option.isSome_iff_exists.1 (Hby.out hx)
        have HL' := Lib.hid hL'
        clear hL'
        go_wp2_with fail
        refine Hcp.out.mono ?_
        rintro e w6 ⟨hb6, he⟩
        rw [HL'.out] at he
        obtain ⟨A6, c6, rs6, rfl, o6⟩ := he
        obtain ⟨p6c, p6f⟩ := Hp.out.kept hb6
        have b6 := Hb.out.trans (hb6.mono (Nat.le_succ _))
        have HF : Hid (BxS (w6.setCell ⟨w.heap.size, 0, none⟩ (.slice A6 Ls'.length c6)) w.heap.size (.slice A6 Ls'.length c6) ∧ OwnPS (w6.setCell ⟨w.heap.size, 0, none⟩ (.slice A6 Ls'.length c6)) (w.heap.size + 1) A6 c6 rs6 Ls' ∧ Below w.heap.size w (w6.setCell ⟨w.heap.size, 0, none⟩ (.slice A6 Ls'.length c6))) :=
          Lib.hid ⟨BxS.set ⟨p6c, p6f⟩ _, o6.setBox _, b6.setCell (p := ⟨w.heap.size, 0, none⟩) (Nat.le_refl _) _⟩
        clear o6 b6 hb6
        go_wp2
        go_roundw
        case rel => exact ⟨k + 1, A6, c6, rs6, Ls', by omega, by go_num, by rw [Hn1.out, hx]; rfl, by rw [Hnx.out, HL'.out], HF.out.1, HF.out.2.1, HF.out.2.2⟩
        case measure => simp [intOf]; omega
      · have hno := Hfl.out (Hbx.out hx)
        have hL' := Hbx.out hx
        have Hno := Lib.hid hno
        have HL' := Lib.hid hL'
        clear hno hL'
        go_wp2_with fail
        refine Hcp.out.mono ?_
        rintro e w6 ⟨hb6, he⟩
        rw [HL'.out] at he
        subst he
        obtain ⟨p6c, p6f⟩ := Hp.out.kept hb6
        have b6 := Hb.out.trans (hb6.mono (Nat.le_succ _))
        go_wp2
        refine leaves_cons (f := 93) (args := #[.pointer (some ⟨w.heap.size, 0, none⟩)]) (by simp) (by simp [go_sem]) ?_
        refine (catch_crossed ⟨w.heap.size, 0, none⟩ x y (.slice A2 (k + 1) c2) [] _ p6c p6f).mono ?_
        rintro e u' w'' ⟨rfl, rfl, rfl⟩
        have HF : Hid (CaE w (cuts n l) (.returned (.tuple #[.slice none 0 0, .bool false])) ((w6.alloc (.cells #[.int .i64 x, .int .i64 y] 49)).setCell ⟨w.heap.size, 0, none⟩ (.slice none 0 0))) := Lib.hid (by
          rw [Hno.out]
          refine ⟨none, 0, [], rfl, OwnPS.nil_, ?_, fun _ => ⟨rfl, rfl⟩⟩
          exact (b6.alloc b6.size _).setCell (p := ⟨w.heap.size, 0, none⟩) (Nat.le_refl _) _)
        have hcc : ((w6.alloc (.cells #[.int .i64 x, .int .i64 y] 49)).setCell ⟨w.heap.size, 0, none⟩ (.slice none 0 0)).cell? ⟨w.heap.size, 0, none⟩ = some (.slice none 0 0) :=
          World.cell?_setCell_same _ _ _ (cell_kept ((Below.refl _ _).alloc (Nat.le_refl _) _) p6c)
        simp [Leaves, settle, results, Try.results56, go_sem, hcc]
        exact HF.out
    · obtain rfl : k = l.length := by omega
      rw [List.take_length] at hcu
      have hcs : (cuts n l).getD [] = Ls ∧ (cuts n l).isSome = true := by rw [hcu]; exact ⟨rfl, rfl⟩
      have Hcs := Lib.hid hcs
      have HL := Lib.hid hLl
      rw [hLl] at hp
      obtain ⟨pc, pf⟩ := hp
      clear hcs hcu hLp hLr hLl
      go_wp2
      refine leaves_cons (f := 93) (args := #[.pointer (some ⟨w.heap.size, 0, none⟩)]) (by simp) (by simp [go_sem]) ?_
      refine (catch_idle ⟨w.heap.size, 0, none⟩ _).mono ?_
      rintro e u' w'' ⟨rfl, rfl, rfl⟩
      have hcc : ((wr.setCell ⟨w.heap.size, 0, none⟩ (.slice A2 (l.length + 1) c2)).alloc (.cells #[.int .i64 0, .int .i64 0] 49)).cell? ⟨w.heap.size, 0, none⟩ = some (.slice A2 (l.length + 1) c2) :=
        cell_kept ((Below.refl _ _).alloc (Nat.le_refl _) _) (World.cell?_setCell_same _ _ _ pc)
      have HF : Hid (CaE w (cuts n l) (.returned (.tuple #[.slice A2 (l.length + 1) c2, .bool true])) ((wr.setCell ⟨w.heap.size, 0, none⟩ (.slice A2 (l.length + 1) c2)).alloc (.cells #[.int .i64 0, .int .i64 0] 49))) := Lib.hid (by
        unfold CaE
        rw [Hcs.out.1, Hcs.out.2]
        refine ⟨A2, c2, rs, by rw [HL.out], ((ho.setBox _).alloc _).mono (Nat.le_succ _), ?_, fun h => by cases h⟩
        have hb2 := hb.setCell (p := ⟨w.heap.size, 0, none⟩) (Nat.le_refl _) (.slice A2 (l.length + 1) c2)
        exact hb2.alloc hb2.size _)
      simp [Leaves, settle, results, Try.results56, go_sem, hcc]
      exact HF.out
end Go.Proofs.Ytlnnnjnboknoeaa

/- PsS: Lists of numbers put in order by the library: slices.Compare, slices.SortFunc over rows that lie anywhere in blocks of their own. -/
namespace Go.Proofs.Ytlnnnjnboknoeaa
open Go.RowKit

/-- what slices.Compare tells -/
def cmpP : List Int → List Int → Int
  | [], [] => 0
  | [], _ :: _ => -1
  | _ :: _, [] => 1
  | a :: r, b :: s => if a = b then cmpP r s else sgnI a b
theorem cmpP_lt : ∀ a b : List Int, decide (cmpP a b < 0) = ltP a b
  | [], [] => rfl
  | [], _ :: _ => rfl
  | _ :: _, [] => rfl
  | a :: r, b :: s => by
    unfold cmpP ltP
    by_cases e : a = b
    · rw [if_pos e, if_pos e]; exact cmpP_lt r s
    · rw [if_neg e, if_neg e]
      unfold sgnI
      by_cases h : a < b
      · simp [h]
      · simp [h]; split <;> simp
theorem cmpP_drop {a b : List Int} {k : Nat} (ha : k < a.length) (hb : k < b.length) : cmpP (a.drop k) (b.drop k) = if a.getD k 0 = b.getD k 0 then cmpP (a.drop (k + 1)) (b.drop (k + 1)) else sgnI (a.getD k 0) (b.getD k 0) := by
  rw [List.drop_eq_getElem_cons ha, List.drop_eq_getElem_cons hb]
  have e1 : a.getD k 0 = a[k] := by simp [ha]
  have e2 : b.getD k 0 = b[k] := by simp [hb]
  rw [e1, e2]
  rfl
theorem cmpP_long {a b : List Int} {k : Nat} (ha : k < a.length) (hb : b.length ≤ k) : cmpP (a.drop k) (b.drop k) = 1 := by
  rw [List.drop_eq_getElem_cons ha, List.drop_of_length_le hb]
  rfl
theorem cmpP_end {a b : List Int} {k : Nat} (ha : a.length ≤ k) : cmpP (a.drop k) (b.drop k) = if k < b.length then -1 else 0 := by
  rw [List.drop_of_length_le ha]
  by_cases h : k < b.length
  · rw [if_pos h, List.drop_eq_getElem_cons h]; rfl
  · rw [if_neg h, List.drop_of_length_le (by omega)]; rfl
set_option maxRecDepth 100000 in
set_option maxHeartbeats 1600000 in
theorem slices_CompareP (A A2 : Option Addr) (c c2 B B2 n n2 : Nat) (l r : List Int) (w : World) (hl : l.length = n) (hr : r.length = n2) (h : SlI w B A l) (h2 : SlI w B2 A2 r) (hn : n ≤ 1000) (hn2 : n2 ≤ 1000) :
    Calls Try.prog 58 #[.slice A n c, .slice A2 n2 c2] w fun e w' => e = .returned (.int .i64 (cmpP l r)) ∧ w = w' := by
  have Hl := Lib.hid hl
  have Hr := Lib.hid hr
  clear hl hr
  go_enter Try.func58, Try.ntmps58
  go_wp2
  go_loop [5, 6, 7, 8, 11] (fun _ _ _ _ i => ∃ k : Nat, k ≤ n ∧ k ≤ n2 ∧ i = .int .i64 k ∧ cmpP (l.drop k) (r.drop k) = cmpP l r) (fun _ _ _ _ i => n - (intOf i).toNat)
  case atStart => exact ⟨0, Nat.zero_le _, Nat.zero_le _, rfl, rfl⟩
  case round =>
    obtain ⟨k, hk, hk2, rfl, ht⟩ := hrel
    by_cases hlt : k < n
    · obtain ⟨b, off, rfl, hbB, hc⟩ := h (by have := Hl.out; omega)
      have g0 := hc k (by rw [Hl.out]; exact hlt)
      have i0 : (0 : Int) ≤ (k : Int) := by omega
      have i1 : (k : Int) < (n : Int) := by omega
      by_cases hlt2 : k < n2
      · obtain ⟨b2, off2, rfl, hbB2, hc2⟩ := h2 (by have := Hr.out; omega)
        have q0 := hc2 k (by rw [Hr.out]; exact hlt2)
        have i2 : (k : Int) < (n2 : Int) := by omega
        rw [cmpP_drop (by rw [Hl.out]; exact hlt) (by rw [Hr.out]; exact hlt2)] at ht
        generalize l.getD k 0 = x at *
        generalize r.getD k 0 = u at *
        have Ht := Lib.hid ht
        clear hc hc2 ht
        by_cases hx : x = u
        · subst hx
          rw [if_pos rfl] at Ht
          have e0 : sgnI x x = 0 := by simp [sgnI]
          go_wp2_with fail
          refine (cmp_Compare _ _ _).mono ?_
          rintro e w1 ⟨rfl, rfl⟩
          rw [e0]
          go_wp2
          go_round
          case rel => exact ⟨k + 1, by omega, by omega, by go_num, Ht.out⟩
          case measure => simp [intOf]; omega
        · rw [if_neg hx] at Ht
          have e0 : sgnI x u = -1 ∨ sgnI x u = 1 := by unfold sgnI; split; exact .inl rfl; rw [if_pos (by omega)]; exact .inr rfl
          go_wp2_with fail
          refine (cmp_Compare _ _ _).mono ?_
          rintro e w1 ⟨rfl, rfl⟩
          generalize sgnI x u = s at *
          have s0 : (s != 0) = true := by rcases e0 with rfl | rfl <;> rfl
          clear e0
          go_wp2
          go_ret
          exact ⟨by rw [← Ht.out]; rfl, rfl⟩
      · rw [cmpP_long (by rw [Hl.out]; exact hlt) (by rw [Hr.out]; omega)] at ht
        have Ht := Lib.hid ht
        clear hc ht
        go_wp2
        go_ret
        exact ⟨ret_int Ht.out, rfl⟩
    · obtain rfl : k = n := by omega
      rw [cmpP_end (by rw [Hl.out]; exact Nat.le_refl _)] at ht
      by_cases hlt2 : k < n2
      · rw [if_pos (by rw [Hr.out]; exact hlt2)] at ht
        have Ht := Lib.hid ht
        have i2 : (k : Int) < (n2 : Int) := by omega
        clear ht
        go_wp2
        go_ret
        exact ⟨ret_int Ht.out, rfl⟩
      · rw [if_neg (by rw [Hr.out]; exact hlt2)] at ht
        have Ht := Lib.hid ht
        have i2 : ¬ (k : Int) < (n2 : Int) := by omega
        clear ht
        go_wp2
        go_ret
        exact ⟨ret_int Ht.out, rfl⟩

/- SrtQW -/
section
variable {N : Nat}
/-- the value of a row, what is told of two rows -/
def encP (rs : List Value) (i : Fin (N + 1)) : Value := rvOf rs i.1
def cmpR (Ls : List (List Int)) (i j : Fin (N + 1)) : Int := cmpP (rowOf Ls i.1) (rowOf Ls j.1)
theorem ltR_iff (Ls : List (List Int)) (x y : Fin (N + 1)) : Go.Proofs.ltOf (cmpR Ls) x y = ltP (rowOf Ls x.1) (rowOf Ls y.1) := by
  rw [← cmpP_lt]
  rfl
theorem swoP (Ls : List (List Int)) : Go.Sort.SWO (Go.Proofs.ltOf (cmpR (N := N) Ls)) where
  irrefl x := by rw [ltR_iff]; exact ltP_irr _
  trans x y z h1 h2 := by
    rw [ltR_iff] at *
    exact ltP_trans _ _ _ h1 h2
  ntrans x y z h1 h2 := by
    rw [ltR_iff] at *
    exact leQ_trans h2 h1
theorem grown_sortP {α : Type} [Inhabited α] (enc : α → Value) (w : World) (g m : Nat) (d : Array α) (os : Array Obj) : w.grownBy (Go.Proofs.sortWorld enc w g 0 m d os) (some g) where
  os := rfl
  tape := rfl
  output := rfl
  size := by
    unfold Go.Proofs.sortWorld
    rw [Go.Sort.size_grow]
    simp [Go.Sort.putRow, Go.Sort.mapBlock, Go.Sort.ahead]
  block := fun k hk hne => by
    unfold Go.Proofs.sortWorld
    rw [Go.Sort.heap_grow_old _ _ (by simpa [Go.Sort.putRow, Go.Sort.mapBlock, Go.Sort.ahead] using hk)]
    show (w.heap.modify g _)[k]? = _
    rw [Array.getElem?_modify, if_neg (fun e => hne (by rw [e]))]
theorem own_sortP {α : Type} [Inhabited α] (enc : α → Value) {w : World} {B e g n c m : Nat} {os : Array Obj} {xs : List Value} (d : Array α) (hn : d.size = n) (h : w.ownsRow B e 1 (.slice (some ⟨g, 0, none⟩) n c) n xs) :
    (Go.Proofs.sortWorld enc w g 0 m d os).ownsRow B e 1 (.slice (some ⟨g, 0, none⟩) n c) n (d.toList.map enc) := by
  rcases h.2 with ⟨h', _⟩ | ⟨g', cap, cur, h', hb, hh, hc, hcm, hs, ht⟩
  · cases h'
  · cases h'
    refine ⟨by simp [hn], .inr ⟨g, c, Go.Sort.putCells enc 0 d cur, rfl, hb, ?_, hc, hcm, ?_, ?_⟩⟩
    · have hlt : g < w.heap.size := by
        have := Array.getElem?_eq_some_iff.1 hh
        exact this.1
      unfold Go.Proofs.sortWorld
      rw [Go.Sort.heap_grow_old _ _ (by simpa [Go.Sort.putRow, Go.Sort.mapBlock, Go.Sort.ahead] using hlt)]
      show (w.heap.modify g _)[g]? = _
      rw [Array.getElem?_modify, if_pos rfl, hh]
      rfl
    · simp [Go.Sort.putCells, hs]
    · refine List.ext_getElem? fun t => ?_
      by_cases hlt : t < n
      · rw [List.getElem?_take_of_lt (by omega), Array.getElem?_toList, List.getElem?_map, Array.getElem?_toList]
        have hcs : t < cur.size := by omega
        simp [Go.Sort.putCells, hcs, hn, hlt]
      · rw [List.getElem?_eq_none (by simp; omega), List.getElem?_eq_none (by simp; omega)]
theorem holdsP {w : World} {B e g n c : Nat} {rs : List Value} (hn : n = N + 1) (h : w.ownsRow B e 1 (.slice (some ⟨g, 0, none⟩) n c) n rs) : Go.Sort.Holds (encP (N := N) rs) w g 0 (List.finRange (N + 1)).toArray := by
  intro j hj
  have hj' : j < N + 1 := by simpa using hj
  rw [Nat.zero_add]
  refine ⟨?_, h.frozenAt j⟩
  have hl := h.1
  rw [h.cellAt j (by omega)]
  have e1 : ((List.finRange (N + 1)).toArray)[j]! = ⟨j, hj'⟩ := by
    rw [getElem!_pos _ j hj]
    simp
  rw [e1]
  unfold encP rvOf
  rw [List.getD_eq_getElem?_getD, List.getElem?_eq_getElem (show j < rs.length by omega), Option.getD_some]
end

/- SrtQL -/
section
open Go.Shelf
def srtPR : Go.Shelf.Ren := ⟨fun | 6 => 57 | 14 => 96 | 15 => 97 | 20 => 117 | 21 => 118 | 22 => 119 | 23 => 120 | 24 => 121 | 25 => 122 | 26 => 123 | 27 => 124 | 28 => 125 | 29 => 126 | 46 => 145 | 47 => 146 | 48 => 147 | 49 => 148 | 50 => 149 | 57 => 155 | n => n,
  fun | 0 => 0 | 3 => 3 | 4 => 4 | 5 => 5 | 9 => 9 | 22 => 29 | 24 => 35 | 25 => 60 | 39 => 94 | 45 => 109 | 46 => 110 | 50 => 40 | 53 => 116 | 55 => 118 | 66 => 127 | 70 => 131 | 76 => 137 | 77 => 138 | n => n, fun | n => n⟩
theorem srtPL : SlLaysF.n6 Try.prog srtPR := {
  mixed := by kernel_rfl
  f6 := ⟨Try.f57.name, by decide, Try.func57.trans (congrArg some (by kernel_rfl))⟩
  f14 := ⟨Try.f96.name, by decide, Try.func96.trans (congrArg some (by kernel_rfl))⟩
  f15 := Try.func97.trans (congrArg some (by kernel_rfl))
  f20 := ⟨Try.f117.name, by decide, Try.func117.trans (congrArg some (by kernel_rfl))⟩
  f21 := ⟨Try.f118.name, by decide, Try.func118.trans (congrArg some (by kernel_rfl))⟩
  f22 := ⟨Try.f119.name, by decide, Try.func119.trans (congrArg some (by kernel_rfl))⟩
  f23 := ⟨Try.f120.name, by decide, Try.func120.trans (congrArg some (by kernel_rfl))⟩
  f24 := ⟨Try.f121.name, by decide, Try.func121.trans (congrArg some (by kernel_rfl))⟩
  f25 := ⟨Try.f122.name, by decide, Try.func122.trans (congrArg some (by kernel_rfl))⟩
  f26 := ⟨Try.f123.name, by decide, Try.func123.trans (congrArg some (by kernel_rfl))⟩
  f27 := ⟨Try.f124.name, by decide, Try.func124.trans (congrArg some (by kernel_rfl))⟩
  f28 := Try.func125.trans (congrArg some (by kernel_rfl))
  f29 := Try.func126.trans (congrArg some (by kernel_rfl))
  f46 := ⟨Try.f145.name, by decide, Try.func145.trans (congrArg some (by kernel_rfl))⟩
  f47 := Try.func146.trans (congrArg some (by kernel_rfl))
  f48 := Try.func147.trans (congrArg some (by kernel_rfl))
  f49 := ⟨Try.f148.name, by decide, Try.func148.trans (congrArg some (by kernel_rfl))⟩
  f50 := ⟨Try.f149.name, by decide, Try.func149.trans (congrArg some (by kernel_rfl))⟩
  f57 := ⟨Try.f155.name, by decide, Try.func155.trans (congrArg some (by kernel_rfl))⟩
  t0 := Try.underlying0
  a0 := Try.isAgg0
  z0 := Try.sizeOf0
  v0 := Try.zeroValue0
  t3 := Try.underlying3
  a3 := Try.isAgg3
  z3 := Try.sizeOf3
  v3 := Try.zeroValue3
  t4 := Try.underlying4
  a4 := Try.isAgg4
  z4 := Try.sizeOf4
  v4 := Try.zeroValue4
  t5 := Try.underlying5
  a5 := Try.isAgg5
  z5 := Try.sizeOf5
  v5 := Try.zeroValue5
  t9 := Try.underlying9
  a9 := Try.isAgg9
  z9 := Try.sizeOf9
  v9 := Try.zeroValue9
  t22 := Try.underlying29
  a22 := Try.isAgg29
  z22 := Try.sizeOf29
  v22 := Try.zeroValue29
  t25 := Try.underlying60
  a25 := Try.isAgg60
  z25 := Try.sizeOf60
  v25 := Try.zeroValue60
  t39 := Try.underlying94
  a39 := Try.isAgg94
  z39 := Try.sizeOf94
  v39 := Try.zeroValue94
  t45 := Try.underlying109
  a45 := Try.isAgg109
  z45 := Try.sizeOf109
  v45 := Try.zeroValue109
  t46 := Try.underlying110
  a46 := Try.isAgg110
  z46 := Try.sizeOf110
  v46 := Try.zeroValue110
  t50 := Try.underlying40
  a50 := Try.isAgg40
  z50 := Try.sizeOf40
  v50 := Try.zeroValue40
  t53 := Try.underlying116
  a53 := Try.isAgg116
  z53 := Try.sizeOf116
  v53 := Try.zeroValue116
  t55 := Try.underlying118
  a55 := Try.isAgg118
  z55 := Try.sizeOf118
  v55 := Try.zeroValue118
  t66 := Try.underlying127
  a66 := Try.isAgg127
  z66 := Try.sizeOf127
  v66 := Try.zeroValue127
  t70 := Try.underlying131
  a70 := Try.isAgg131
  z70 := Try.sizeOf131
  v70 := Try.zeroValue131
  t76 := Try.underlying137
  a76 := Try.isAgg137
  z76 := Try.sizeOf137
  v76 := Try.zeroValue137
  t77 := Try.underlying138
  a77 := Try.isAgg138
  z77 := Try.sizeOf138
  v77 := Try.zeroValue138
  a24 := Try.isAgg35
  z24 := Try.sizeOf35
}
end

/- SrtQI -/
theorem extract_allP {α : Type} (d : Array α) (n : Nat) (h : d.size = n) : d.extract 0 n = d := by subst h; simp
theorem cmpLaysP {B g c N : Nat} {rs : List Value} {Ls : List (List Int)} {w : World} (hN : Ls.length = N + 1) (hm9 : ∀ j, j < N + 1 → (rowOf Ls j).length ≤ 1000) (ho : OwnPS w B (some ⟨g, 0, none⟩) c rs Ls) (size : Nat) :
    Go.Proofs.CmpLays1 Try.prog 58 #[] (encP (N := N) rs) (cmpR Ls) g 0 size w := by
  intro k os dk _ x y
  have far : ∀ i : Fin (N + 1), ∃ A c, encP rs i = .slice A (rowOf Ls i.1).length c ∧ SlI (Go.Proofs.sortWorld (encP (N := N) rs) w g 0 k dk os) (Go.Proofs.sortWorld (encP (N := N) rs) w g 0 k dk os).heap.size A (rowOf Ls i.1) := fun i => by
    have h1 := ho.2.2.1 i.1 (by rw [hN]; exact i.2)
    have h2 := h1.far (grown_sortP (encP (N := N) rs) w g k dk os) (fun j hj e => pc_ne h1 ho.2.1 j hj e)
    obtain ⟨gg, o, c, e, _, _, _, hs⟩ := h2.sl
    exact ⟨_, c, e, hs⟩
  obtain ⟨A1, c1, e1, s1⟩ := far x
  obtain ⟨A2, c2, e2, s2⟩ := far y
  rw [e1, e2]
  refine Calls.mono (slices_CompareP A1 A2 c1 c2 _ _ _ _ (rowOf Ls x.1) (rowOf Ls y.1) _ rfl rfl s1 s2 (hm9 _ x.2) (hm9 _ y.2)) ?_
  rintro e w' ⟨he, hw⟩
  exact ⟨he, 0, #[], by rw [← hw, Go.Sort.grow_empty]; rfl⟩
theorem impl_SortP (B g c N : Nat) (rs : List Value) (Ls : List (List Int)) (w : World) (hN : Ls.length = N + 1) (hm9 : ∀ j, j < N + 1 → (rowOf Ls j).length ≤ 1000) (hn : N ≤ 1000000) (hB : B ≤ w.heap.size)
    (ho : OwnPS w B (some ⟨g, 0, none⟩) c rs Ls) :
    Calls Try.prog 57 #[.slice (some ⟨g, 0, none⟩) (N + 1) c, .func (.func 58) #[] #[]] w fun e w' => e = .returned (.tuple #[]) ∧
      ∃ (rs' : List Value) (Ls' : List (List Int)), Ls'.Perm Ls ∧ SortP Ls' ∧ OwnPS w' B (some ⟨g, 0, none⟩) c rs' Ls' ∧ Below B w w' := by
  have hout := ho.2.1
  rw [hN] at hout
  have hbg : B ≤ g ∧ g < w.heap.size := hout.lt g rfl
  have eg : ∀ args w, (callFunc 58 args).run Try.prog w = .ok (.enter 58 args) w := enters_of Try.func58 (by kernel_rfl) rfl
  have hsz : (List.finRange (N + 1)).toArray.size = N + 1 := by simp
  have hcm := cmpLaysP hN hm9 ho (N + 1)
  have hk := holdsP (N := N) rfl hout
  have h1 : OneCell (encP (N := N) rs) := fun i => by
    obtain ⟨A, c, e⟩ := (ho.2.2.1 i.1 (by rw [hN]; exact i.2)).form
    unfold encP
    rw [e]
    rfl
  have hcon := Any.slices_SortFunc srtPL (encP (N := N) rs) h1 (cmpR Ls) (swoP Ls) 58 #[] g 0 c (List.finRange (N + 1)).toArray w eg (by rw [hsz]; exact hcm) hk hbg.2 (by rw [hsz]; omega)
  rw [hsz] at hcon
  refine Calls.mono hcon ?_
  rintro e w' ⟨rfl, d', k, os, hp, hs, rfl⟩
  obtain ⟨p1, _, p3⟩ := hp
  have hd : d'.size = N + 1 := p1.trans hsz
  rw [extract_allP d' _ hd, extract_allP _ _ hsz] at p3
  have hL : d'.toList.length = N + 1 := by simpa using hd
  have hperm : d'.toList.Perm (List.finRange (N + 1)) := p3
  have hall : (List.finRange (N + 1)).map (fun i => rowOf Ls i.1) = Ls := by
    refine List.ext_getElem (by simp [hN]) fun j h1 h2 => ?_
    simp [rowOf, h2]
  have hnd : d'.toList.Nodup := hperm.nodup_iff.2 (List.nodup_finRange _)
  have hgr := grown_sortP (encP (N := N) rs) w g k d' os
  have hrv : ∀ j (hj : j < d'.toList.length), rvOf (d'.toList.map (encP rs)) j = rvOf rs (d'.toList[j]).1 := fun j hj => by
    conv => lhs; unfold rvOf
    rw [List.getD_eq_getElem?_getD, List.getElem?_map, List.getElem?_eq_getElem hj]
    rfl
  have hrw : ∀ j (hj : j < d'.toList.length), rowOf (d'.toList.map fun i => rowOf Ls i.1) j = rowOf Ls (d'.toList[j]).1 := fun j hj => by
    conv => lhs; unfold rowOf
    rw [List.getD_eq_getElem?_getD, List.getElem?_map, List.getElem?_eq_getElem hj]
    rfl
  refine ⟨rfl, d'.toList.map (encP rs), d'.toList.map (fun i => rowOf Ls i.1), ?_, ?_, ⟨by simp, ?_, fun j hj => ?_, fun i j hi hj hij q hq => ?_⟩, ?_⟩
  · have := hperm.map (fun i => rowOf Ls i.1)
    rwa [hall] at this
  · unfold SortP
    rw [List.pairwise_map, List.pairwise_iff_getElem]
    intro i j hi hj hij
    have := hs i j (Nat.zero_le _) hij (by simpa [hd] using hj)
    rw [ltR_iff, getElem!_pos d' j (by simpa using hj), getElem!_pos d' i (by simpa using hi)] at this
    simpa using this
  · rw [List.length_map, hL]
    exact own_sortP (encP (N := N) rs) d' hd hout
  · rw [List.length_map] at hj
    rw [hrv j hj, hrw j hj]
    have h1 := ho.2.2.1 (d'.toList[j]).1 (by rw [hN]; exact (d'.toList[j]).2)
    exact h1.far hgr (fun q hq e => pc_ne h1 ho.2.1 q hq e)
  · rw [List.length_map] at hi hj
    rw [hrv i hi] at hq
    rw [hrv j hj]
    refine ho.2.2.2 _ _ (by rw [hN]; exact (d'.toList[i]).2) (by rw [hN]; exact (d'.toList[j]).2) (fun e => hij ?_) q hq
    rcases Nat.lt_trichotomy i j with hlt | hlt | hlt
    · exact absurd (Fin.ext e) (List.pairwise_iff_getElem.1 hnd i j hi hj hlt)
    · exact hlt
    · exact absurd (Fin.ext e.symm) (List.pairwise_iff_getElem.1 hnd j i hj hi hlt)
  · exact (Below.refl B w).grown hgr hB (fun q hq => by have h1 : g = q := Option.some.inj hq; omega)
end Go.Proofs.Ytlnnnjnboknoeaa

/- PocI: The program's PiecesOfCut. -/
namespace Go.Proofs.Ytlnnnjnboknoeaa
open Go.RowKit

/- nothing put in order -/
theorem insertion_nil (f : Value) (w : World) : Calls Try.prog 117 #[.slice none 0 0, .int .i64 0, .int .i64 0, f] w fun e w' => e = .returned (.tuple #[]) ∧ w = w' := by
  go_enter Try.func117, Try.ntmps117
  go_wp2
  refine wp_loop_rounds 1 ?_
  rw [rounds_succ]
  go_wp2
  go_end0
  exact ⟨rfl, rfl⟩
theorem pdqsort_nil (f : Value) (lim : Int) (w : World) : Calls Try.prog 96 #[.slice none 0 0, .int .i64 0, .int .i64 0, .int .i64 lim, f] w fun e w' => e = .returned (.tuple #[]) ∧ w = w' := by
  go_enter Try.func96, Try.ntmps96
  go_wp2
  refine wp_loop_rounds 1 ?_
  rw [rounds_succ]
  go_wp2_with fail
  refine (insertion_nil f _).mono ?_
  rintro e w1 ⟨rfl, rfl⟩
  go_wp2
  first | go_end0 | refine bodyPost_ret (results_none rfl _ _ _) rfl ?_
  exact ⟨rfl, rfl⟩
theorem bits_Len0 (w : World) : Calls Try.prog 97 #[.int .u64 0] w fun e w' => (∃ r : Int, e = .returned (.int .i64 r)) ∧ w = w' := by
  go_enter Try.func97, Try.ntmps97
  go_wp2
  go_ret
  exact ⟨⟨_, rfl⟩, rfl⟩
theorem SortFunc_nil (f : Value) (w : World) : Calls Try.prog 57 #[.slice none 0 0, f] w fun e w' => e = .returned (.tuple #[]) ∧ w = w' := by
  go_enter Try.func57, Try.ntmps57
  go_wp2_with fail
  refine (bits_Len0 _).mono ?_
  rintro e w1 ⟨⟨r, rfl⟩, rfl⟩
  go_wp2_with fail
  refine (pdqsort_nil f r _).mono ?_
  rintro e w1 ⟨rfl, rfl⟩
  go_wp2
  go_end0
  exact ⟨rfl, rfl⟩

/-- the pieces of a cut, none of another list -/
def pcR (n : Int) (l : List (Int × Int)) : List (List Int) := if cutB n l = true then pcL n.toNat l else []
theorem pcR_no {n : Int} {l : List (Int × Int)} (h : cutB n l = false) : pcR n l = [] := by unfold pcR; rw [h]; rfl
theorem pcR_yes {n : Nat} {l : List (Int × Int)} (h : cutB (n : Int) l = true) : pcR (n : Int) l = pcL n l := by unfold pcR; rw [if_pos h, Int.toNat_natCast]
theorem cutB_parts {n : Int} {l : List (Int × Int)} : cutB n l = (poB n && (ordB n l && ncTo l l.length)) := by unfold cutB; rw [uncB_split]
theorem cut_nc {n : Nat} {l : List (Int × Int)} (h : cutB (n : Int) l = true) : 3 ≤ n ∧ n ≤ 12 ∧ ordB (n : Int) l = true ∧ ncTo l l.length = true ∧ Nc n l ∧ (basesC n l).Nodup ∧ l.length + 3 ≤ n := by
  rw [cutB_parts, Bool.and_eq_true, Bool.and_eq_true, poB_iff] at h
  obtain ⟨h1, h2, h3⟩ := h
  have hn := nc_take h2 (Nat.le_refl _) h3
  have hb := bases_nodup h2 _ (Nat.le_refl _)
  rw [List.take_length] at hn hb
  exact ⟨by omega, by omega, h2, h3, hn, hb, cut_sum (by omega) h2 h3⟩
/-- the pieces of a cut, told of the list that cutApart makes -/
theorem cut_pieces {n : Nat} {l : List (Int × Int)} (h : cutB (n : Int) l = true) : ∃ Ls, cuts n l = some Ls ∧ Ls.length = l.length + 1 ∧ Ls.Perm (pcL n l) ∧ ∀ P ∈ Ls, P.length ≤ n ∧ 3 ≤ P.length := by
  obtain ⟨n3, n12, ho, hn, hnc, hnd, _⟩ := cut_nc h
  obtain ⟨Ls, h1, h2, _⟩ := cuts_some n3 ho _ (Nat.le_refl _) hn
  obtain ⟨k1, k2, k3⟩ := cuts_rows n3 ho (Nat.le_refl _) hn h1
  rw [List.take_length] at h1 h2
  exact ⟨Ls, h1, k1, h2.trans (pcL_perm hnc n3 hnd).symm, fun P hP => (k3 P hP).2⟩
theorem retPS_no {n : Int} {l : List (Int × Int)} {w w' : World} (h : cutB n l = false) (hb : Below w.heap.size w w') : RetPS w (pcR n l) (cutB n l) (.returned (.tuple #[.slice none 0 0, .bool false])) w' := by
  rw [pcR_no h, h]
  exact ⟨none, 0, [], rfl, OwnPS.nil_, hb⟩

set_option maxRecDepth 100000 in
set_option maxHeartbeats 1600000 in
theorem impl_PiecesOfCut (n : Int) (A : Option Addr) (c B : Nat) (l : List (Int × Int)) (w : World) (h : SlD w B A l) (hB : B ≤ w.heap.size) (hl : l.length ≤ 1048576) (hlc : l.length ≤ c) :
    Calls Try.prog 21 #[.int .i64 n, .slice A l.length c] w (RetPS w (pcR n l) (cutB n l)) := by
  cases hp : poB n
  · have hc : cutB n l = false := by rw [cutB_parts, hp]; rfl
    have HE := Lib.hid (retPS_no (w := w) hc (Below.refl _ _))
    clear hc h
    go_enter Try.func21, Try.ntmps21
    go_wp2_with fail
    refine (impl_isPolygon _ _ _ hp).mono ?_
    rintro e w1 ⟨rfl, rfl⟩
    go_wp2
    go_ret2
    exact HE.out
  · have hn := poB_iff.1 hp
    obtain ⟨m, rfl⟩ := Int.eq_ofNat_of_zero_le (show 0 ≤ n by omega)
    have HO := Lib.hid (impl_areInOrder (m : Int) A c B l w h hB hl hlc)
    cases ho : ordB (m : Int) l
    · have hc : cutB (m : Int) l = false := by rw [cutB_parts, hp, ho]; rfl
      have HE := Lib.hid fun w' hb => retPS_no (w := w) (w' := w') hc hb
      rw [ho] at HO
      clear hc h
      go_enter Try.func21, Try.ntmps21
      go_wp2_with fail
      refine (impl_isPolygon _ _ _ hp).mono ?_
      rintro e w1 ⟨rfl, rfl⟩
      go_wp2_with fail
      refine HO.out.mono ?_
      rintro e w1 ⟨rfl, hb1⟩
      have HF := Lib.hid (HE.out _ hb1)
      go_wp2
      go_ret2
      exact HF.out
    · rw [ho] at HO
      have n3 : 3 ≤ m := by omega
      have hcc : cutB (m : Int) l = ncTo l l.length := by rw [cutB_parts, hp, ho]; simp
      have his := cuts_isSome n3 ho
      rw [← hcc] at his
      have HCA := Lib.hid fun w1 (hb1 : Below w.heap.size w w1) => impl_cutApart m A c B l w1 n3 (by omega) (h.below (hb1.mono hB)) (Nat.le_trans hB hb1.size) ho hl
      clear h
      cases hc : cutB (m : Int) l
      · rw [hc] at his
        have hcn : cuts m l = none := by simpa using his
        have HE := Lib.hid fun w' hb => retPS_no (w := w) (w' := w') hc hb
        rw [hc] at HE
        rw [hcn] at HCA
        unfold CaE at HCA
        clear hcn hcc hc his
        go_enter Try.func21, Try.ntmps21
        go_wp2_with fail
        refine (impl_isPolygon _ _ _ hp).mono ?_
        rintro e w1 ⟨rfl, rfl⟩
        go_wp2_with fail
        refine HO.out.mono ?_
        rintro e w1 ⟨rfl, hb1⟩
        go_wp2_with fail
        refine (HCA.out _ hb1).mono ?_
        rintro e w2 ⟨A2, c2, rs2, rfl, o2, b2, x2⟩
        obtain ⟨rfl, rfl⟩ := x2 rfl
        have HF := Lib.hid (HE.out _ (hb1.trans (b2.mono hb1.size)))
        clear o2 b2 x2
        go_wp2_with fail
        refine (SortFunc_nil _ _).mono ?_
        rintro e w3 ⟨rfl, rfl⟩
        go_wp2
        go_ret2
        exact HF.out
      · obtain ⟨Ls, h1, h2, h3, h4⟩ := cut_pieces hc
        have hl3 := (cut_nc hc).2.2.2.2.2.2
        have hpu := fun (S : List (List Int)) (hs : S.Perm Ls) (hso : SortP S) => sortP_unique (hs.trans h3) hso (PlS_sort _ _ (Nat.le_refl _))
        have HU : Hid (∀ S : List (List Int), S.Perm Ls → SortP S → S = pcL m l) := Lib.hid hpu
        have HR := Lib.hid (pcR_yes hc)
        have hlr : ∀ j, j < l.length + 1 → (rowOf Ls j).length ≤ 1000 := fun j hj => by
          have hj' : j < Ls.length := by omega
          have := h4 (rowOf Ls j) (by simp [rowOf, hj'])
          omega
        have Hlr := Lib.hid hlr
        have H2 := Lib.hid h2
        have hpl : (pcL m l).length = l.length + 1 := by rw [← h3.length_eq, h2]
        have Hpl := Lib.hid hpl
        rw [h1] at HCA
        unfold CaE at HCA
        simp only [Option.getD_some, Option.isSome_some, h2] at HCA
        clear hcc hc his hpu hlr h1 h2 h3 h4 hpl
        go_enter Try.func21, Try.ntmps21
        go_wp2_with fail
        refine (impl_isPolygon _ _ _ hp).mono ?_
        rintro e w1 ⟨rfl, rfl⟩
        go_wp2_with fail
        refine HO.out.mono ?_
        rintro e w1 ⟨rfl, hb1⟩
        go_wp2_with fail
        refine (HCA.out _ hb1).mono ?_
        rintro e w2 ⟨A2, c2, rs2, rfl, o2, b2, _⟩
        obtain ⟨g, rfl, _, _, _⟩ := o2.outer (by rw [H2.out]; omega)
        have HS := Lib.hid (impl_SortP w1.heap.size g c2 l.length rs2 Ls w2 H2.out Hlr.out (by omega) b2.size o2)
        have hb2 := hb1.trans (b2.mono hb1.size)
        have h12 := hb1.size
        clear o2 b2
        go_wp2_with fail
        refine HS.out.mono ?_
        rintro e w3 ⟨rfl, rs3, Ls3, p3, s3, o3, b3⟩
        obtain rfl := HU.out _ p3 s3
        have HF : Hid (RetPS w (pcR (m : Int) l) true (.returned (.tuple #[.slice (some ⟨g, 0, none⟩) (l.length + 1) c2, .bool true])) w3) := Lib.hid (by
          rw [HR.out]
          exact ⟨_, c2, rs3, by rw [Hpl.out], o3.mono h12, hb2.trans (b3.mono h12)⟩)
        clear o3 b3 p3 s3
        go_wp2
        go_ret2
        exact HF.out
end Go.Proofs.Ytlnnnjnboknoeaa

/- PiecesOfCutW: PiecesOfCut: the model's contract, and the law's walk. -/
namespace Go.Proofs.Ytlnnnjnboknoeaa
open Go.RowKit

theorem pcL_facts {n : Nat} {l : List (Int × Int)} (h : cutB (n : Int) l = true) : (pcL n l).length = l.length + 1 ∧ ∀ P ∈ pcL n l, P.length ≤ n ∧ 3 ≤ P.length := by
  obtain ⟨Ls, _, h2, h3, h4⟩ := cut_pieces h
  exact ⟨by rw [← h3.length_eq, h2], fun P hP => h4 P (h3.mem_iff.2 hP)⟩
theorem pcR_bd (n : Int) (l : List (Int × Int)) : (pcR n l).length ≤ 10 ∧ ∀ j, j < (pcR n l).length → (rowOf (pcR n l) j).length ≤ 12 := by
  cases h : cutB n l
  · rw [pcR_no h]; exact ⟨by simp, fun j hj => by simp at hj⟩
  · obtain ⟨h3, h12, h9⟩ := cutB_len h
    obtain ⟨m, rfl⟩ := Int.eq_ofNat_of_zero_le (show 0 ≤ n by omega)
    rw [pcR_yes h]
    obtain ⟨h1, h2⟩ := pcL_facts h
    refine ⟨by omega, fun j hj => ?_⟩
    have hm : rowOf (pcL m l) j ∈ pcL m l := by
      have e : rowOf (pcL m l) j = (pcL m l)[j] := by simp [rowOf, hj]
      rw [e]; exact List.getElem_mem _
    have := (h2 _ hm).1
    omega
set_option maxHeartbeats 1600000 in
theorem spec_PiecesOfCut (n : Int) (A : Option Addr) (c B : Nat) (l : List (Int × Int)) (w : World) (h : SlD w B A l) (hB : B ≤ w.heap.size) (hl : l.length ≤ 1048576) (hlc : l.length ≤ c) :
    Calls Try.prog 20 #[.int .i64 n, .slice A l.length c] w (RdSSB w (pcR n l) (cutB n l)) := by
  have HG := Lib.hid (spec_cuGood n A c B l w h hB hl hlc)
  cases hc : cutB n l
  · rw [hc] at HG
    have HE := Lib.hid fun w' (hb : Below w.heap.size w w') => show RdSSB w (pcR n l) false (.returned (.tuple #[.slice none 0 0, .bool false])) w' from by
      rw [pcR_no hc]
      exact ⟨none, 0, rfl, fun h0 => by simp at h0, hb⟩
    clear h hc
    go_enter Try.func20, Try.ntmps20
    go_wp2_with fail
    refine HG.out.mono ?_
    rintro e w1 ⟨rfl, hb1⟩
    have HF := Lib.hid (HE.out _ hb1)
    go_wp2
    go_ret2
    exact HF.out
  · rw [hc] at HG
    obtain ⟨h3, h12, h9⟩ := cutB_len hc
    obtain ⟨m, rfl⟩ := Int.eq_ofNat_of_zero_le (show 0 ≤ n by omega)
    have HP := Lib.hid fun w1 (hb : Below w.heap.size w w1) => spec_cuPieces m A c B l.length l w1 (by omega) (by omega) rfl (by omega) (cut_nc hc).2.2.2.2.1 (h.below (hb.mono hB)) (Nat.le_trans hB hb.size)
    have HR := Lib.hid (pcR_yes hc)
    unfold GivSS at HP
    clear h hc
    go_enter Try.func20, Try.ntmps20
    go_wp2_with fail
    refine HG.out.mono ?_
    rintro e w1 ⟨rfl, hb1⟩
    go_wp2_with fail
    refine (HP.out _ hb1).mono ?_
    rintro e w2 ⟨A2, c2, rfl, hs2, hb2⟩
    have HF : Hid (RdSSB w (pcR (m : Int) l) true (.returned (.tuple #[.slice A2 (pcL m l).length c2, .bool true])) w2) := Lib.hid (by
      rw [HR.out]
      exact ⟨A2, c2, rfl, hs2.to, below_kept hb1 (Nat.le_refl _) hb2⟩)
    clear hs2 hb2
    go_wp2
    go_ret2
    exact HF.out

end Go.Proofs.Ytlnnnjnboknoeaa

/- SizM: Sizes of pieces, from the least to the greatest: plain mathematics. -/
namespace Go.Proofs.Ytlnnnjnboknoeaa

/-- one size, once for each list that has it -/
def szT (T : List (List Int)) (s : Nat) : List Int := (T.filter fun P => P.length == s).map fun _ => (s : Int)
/-- the sizes 3, 4, .., k of them -/
def szU (T : List (List Int)) (k : Nat) : List Int := (List.range k).flatMap fun j => szT T (j + 3)
theorem szU_zero (T : List (List Int)) : szU T 0 = [] := rfl
theorem szU_succ (T : List (List Int)) (k : Nat) : szU T (k + 1) = szU T k ++ szT T (k + 3) := by simp [szU, List.range_succ]
/-- the first j lists looked at -/
def szH (T : List (List Int)) (s j : Nat) : List Int := szT (T.take j) s
theorem szH_zero (T : List (List Int)) (s : Nat) : szH T s 0 = [] := rfl
theorem szH_all (T : List (List Int)) (s : Nat) : szH T s T.length = szT T s := by unfold szH; rw [List.take_length]
theorem szH_yes {T : List (List Int)} {s j : Nat} (hj : j < T.length) (h : (rowOf T j).length = s) : szH T s (j + 1) = szH T s j ++ [(s : Int)] := by
  unfold szH szT
  rw [List.take_succ_eq_append_getElem hj, List.filter_append, List.map_append]
  have e : rowOf T j = T[j] := by simp [rowOf, hj]
  rw [e] at h
  congr 1
  rw [List.filter_cons, if_pos (by simpa using h)]
  rfl
theorem szH_no {T : List (List Int)} {s j : Nat} (hj : j < T.length) (h : (rowOf T j).length ≠ s) : szH T s (j + 1) = szH T s j := by
  unfold szH szT
  rw [List.take_succ_eq_append_getElem hj, List.filter_append, List.map_append]
  have e : rowOf T j = T[j] := by simp [rowOf, hj]
  rw [e] at h
  rw [List.filter_cons, if_neg (by simpa using h)]
  simp
def lens (T : List (List Int)) : List Int := T.map fun P => (P.length : Int)
theorem szU_perm {T : List (List Int)} (h3 : ∀ P ∈ T, 3 ≤ P.length) : ∀ k, (szU T k).Perm (lens (T.filter fun P => decide (P.length < k + 3))) := by
  intro k
  induction k with
  | zero =>
    have e : T.filter (fun P => decide (P.length < 0 + 3)) = [] := by
      rw [List.filter_eq_nil_iff]
      intro P hP
      have := h3 P hP
      simp; omega
    rw [e]
    exact List.Perm.refl _
  | succ k ih =>
    rw [szU_succ]
    have h1 := List.filter_append_perm (fun P : List Int => decide (P.length < k + 3)) (T.filter fun P => decide (P.length < k + 1 + 3))
    rw [List.filter_filter, List.filter_filter] at h1
    have e1 : T.filter (fun P => decide (P.length < k + 3) && decide (P.length < k + 1 + 3)) = T.filter fun P => decide (P.length < k + 3) := by
      refine List.filter_congr fun P _ => ?_
      rw [← Bool.decide_and, decide_eq_decide]
      omega
    have e2 : T.filter (fun P => (!decide (P.length < k + 3)) && decide (P.length < k + 1 + 3)) = T.filter fun P => P.length == k + 3 := by
      refine List.filter_congr fun P _ => bool_ext ?_
      simp
      omega
    rw [e1, e2] at h1
    have h2 := h1.map fun P : List Int => (P.length : Int)
    rw [List.map_append] at h2
    have e3 : (T.filter fun P => P.length == k + 3).map (fun P => (P.length : Int)) = szT T (k + 3) := by
      unfold szT
      refine List.map_congr_left fun P hP => ?_
      have := (List.mem_filter.1 hP).2
      simp at this
      omega
    rw [e3] at h2
    exact (ih.append (List.Perm.refl _)).trans h2
theorem szU_sort (T : List (List Int)) (k : Nat) : (szU T k).Pairwise (· ≤ ·) := by
  unfold szU
  rw [List.pairwise_flatMap]
  refine ⟨fun j _ => ?_, ?_⟩
  · unfold szT
    rw [List.pairwise_map]
    exact List.pairwise_of_forall fun _ _ => Int.le_refl _
  · refine List.pairwise_lt_range.imp fun hlt x hx y hy => ?_
    unfold szT at hx hy
    simp only [List.mem_map] at hx hy
    obtain ⟨_, _, rfl⟩ := hx
    obtain ⟨_, _, rfl⟩ := hy
    omega
/-- what is in order and has the lists' lengths is the list of sizes -/
theorem szU_eq {T : List (List Int)} {k : Nat} (h3 : ∀ P ∈ T, 3 ≤ P.length ∧ P.length < k + 3) : (lens T).mergeSort (fun x y => decide (x ≤ y)) = szU T k := by
  have e : T.filter (fun P => decide (P.length < k + 3)) = T := by
    rw [List.filter_eq_self]
    intro P hP
    simpa using (h3 P hP).2
  have hp := szU_perm (fun P hP => (h3 P hP).1) k
  rw [e] at hp
  refine List.Perm.eq_of_pairwise (le := fun x y : Int => x ≤ y) (fun a b _ _ h1 h2 => by omega) ?_ (szU_sort T k) ((List.mergeSort_perm _ _).trans hp.symm)
  have := List.pairwise_mergeSort (le := fun x y : Int => decide (x ≤ y)) (fun a b c h1 h2 => by simp at *; omega) (fun a b => by simp; omega) (lens T)
  exact this.imp fun h => by simpa using h
theorem szU_length {T : List (List Int)} {k : Nat} (h3 : ∀ P ∈ T, 3 ≤ P.length ∧ P.length < k + 3) : (szU T k).length = T.length := by
  rw [← szU_eq h3, List.length_mergeSort]
  simp [lens]
theorem mem_szU {T : List (List Int)} {k : Nat} (h3 : ∀ P ∈ T, 3 ≤ P.length ∧ P.length < k + 3) {x : Int} : x ∈ szU T k ↔ ∃ P ∈ T, (P.length : Int) = x := by
  rw [← szU_eq h3, List.mem_mergeSort]
  simp [lens]

/-- the lengths told so far -/
def lnH (T : List (List Int)) (k : Nat) : List Int := (lens T).take k ++ List.replicate (T.length - k) 0
theorem lens_length (T : List (List Int)) : (lens T).length = T.length := by simp [lens]
theorem lnH_length (T : List (List Int)) (k : Nat) (h : k ≤ T.length) : (lnH T k).length = T.length := by simp [lnH, lens]; omega
theorem lnH_zero (T : List (List Int)) : lnH T 0 = List.replicate T.length 0 := by simp [lnH]
theorem lnH_all (T : List (List Int)) : lnH T T.length = lens T := by
  unfold lnH
  rw [List.take_of_length_le (by rw [lens_length]; exact Nat.le_refl _), Nat.sub_self]
  simp
theorem lnH_set (T : List (List Int)) (k : Nat) (h : k < T.length) : (lnH T k).set k ((rowOf T k).length : Int) = lnH T (k + 1) := by
  unfold lnH
  have hl : ((lens T).take k).length = k := by simp [lens]; omega
  rw [List.set_append_right _ _ (by omega), hl, Nat.sub_self, show T.length - k = (T.length - (k + 1)) + 1 by omega, List.replicate_succ, List.set_cons_zero, List.take_succ_eq_append_getElem (by rw [lens_length]; exact h), List.append_assoc]
  have e : (lens T)[k]'(by rw [lens_length]; exact h) = ((rowOf T k).length : Int) := by simp [lens, rowOf, h]
  rw [e]
  rfl

/-- all pieces have a size -/
def eqS (T : List (List Int)) (s : Int) : Bool := T.all fun P => decide ((P.length : Int) = s)
theorem eqS_iff {T : List (List Int)} {s : Int} : eqS T s = true ↔ ∀ P ∈ T, (P.length : Int) = s := by
  unfold eqS
  simp
theorem eqS_no {T : List (List Int)} {s : Int} {j : Nat} (hj : j < T.length) (h : ((rowOf T j).length : Int) ≠ s) : eqS T s = false := by
  cases he : eqS T s
  · rfl
  · exact absurd (eqS_iff.1 he _ (by
      have e : rowOf T j = T[j] := by simp [rowOf, hj]
      rw [e]; exact List.getElem_mem _)) h
theorem eqS_yes {T : List (List Int)} {s : Int} (h : ∀ j, j < T.length → ((rowOf T j).length : Int) = s) : eqS T s = true := by
  rw [eqS_iff]
  intro P hP
  obtain ⟨j, hj, rfl⟩ := List.getElem_of_mem hP
  have := h j hj
  simpa [rowOf, hj] using this
/-- the least and the greatest size tell whether all are the same -/
theorem eqS_ends {T : List (List Int)} {k : Nat} (h3 : ∀ P ∈ T, 3 ≤ P.length ∧ P.length < k + 3) (h0 : 0 < T.length) (s : Int) :
    (decide ((szU T k).getD 0 0 = s) && decide ((szU T k).getD (T.length - 1) 0 = s)) = eqS T s := by
  have hl := szU_length h3
  have hs := szU_sort T k
  refine bool_ext ?_
  rw [Bool.and_eq_true, decide_eq_true_eq, decide_eq_true_eq, eqS_iff]
  have e0 : (szU T k).getD 0 0 = (szU T k)[0]'(by omega) := by simp [show 0 < (szU T k).length by omega]
  have e1 : (szU T k).getD (T.length - 1) 0 = (szU T k)[T.length - 1]'(by omega) := by simp [show T.length - 1 < (szU T k).length by omega]
  constructor
  · rintro ⟨a, b⟩ P hP
    obtain ⟨j, hj, ej⟩ := List.getElem_of_mem ((mem_szU h3).2 ⟨P, hP, rfl⟩)
    rw [e0] at a
    rw [e1] at b
    have h1 : (szU T k)[0]'(by omega) ≤ (szU T k)[j] := by
      by_cases hz : j = 0
      · subst hz; exact Int.le_refl _
      · exact List.pairwise_iff_getElem.1 hs 0 j (by omega) hj (by omega)
    have h2 : (szU T k)[j] ≤ (szU T k)[T.length - 1]'(by omega) := by
      by_cases hz : j = T.length - 1
      · subst hz; exact Int.le_refl _
      · exact List.pairwise_iff_getElem.1 hs j (T.length - 1) hj (by omega) (by omega)
    omega
  · intro h
    rw [e0, e1]
    constructor
    · obtain ⟨P, hP, e⟩ := (mem_szU h3).1 (List.getElem_mem (show 0 < (szU T k).length by omega))
      rw [← e]; exact h P hP
    · obtain ⟨P, hP, e⟩ := (mem_szU h3).1 (List.getElem_mem (show T.length - 1 < (szU T k).length by omega))
      rw [← e]; exact h P hP
end Go.Proofs.Ytlnnnjnboknoeaa

/- SrtI2: slices.Sort over numbers: the library contract at this seat's numbers. -/
namespace Go.Proofs.Ytlnnnjnboknoeaa
open Go.Shelf Go.RowKit

def srtIR : Go.Shelf.Ren := ⟨fun | 125 => 97 | 128 => 125 | 129 => 126 | 189 => 59 | 215 => 127 | 216 => 134 | 257 => 99 | 294 => 128 | 295 => 129 | 296 => 130 | 297 => 131 | 298 => 132 | 299 => 133 | 300 => 135 | 301 => 136 | 328 => 150 | 329 => 146 | 330 => 147 | 331 => 151 | 332 => 152 | 343 => 156 | n => n,
  fun | 0 => 0 | 3 => 3 | 4 => 4 | 5 => 5 | 9 => 9 | 28 => 35 | 46 => 94 | 51 => 116 | 53 => 118 | 131 => 40 | 182 => 109 | 183 => 110 | 218 => 127 | 222 => 131 | 228 => 137 | 229 => 138 | n => n, fun  | n => n⟩
theorem srtIL : Go.Proofs.Lays.n189 Try.prog srtIR := {
  mixed := by kernel_rfl
  f125 := Try.func97.trans (congrArg some (by kernel_rfl))
  f128 := Try.func125.trans (congrArg some (by kernel_rfl))
  f129 := Try.func126.trans (congrArg some (by kernel_rfl))
  f189 := Try.func59.trans (congrArg some (by kernel_rfl))
  f215 := Try.func127.trans (congrArg some (by kernel_rfl))
  f216 := Try.func134.trans (congrArg some (by kernel_rfl))
  f257 := Try.func99.trans (congrArg some (by kernel_rfl))
  f294 := Try.func128.trans (congrArg some (by kernel_rfl))
  f295 := Try.func129.trans (congrArg some (by kernel_rfl))
  f296 := Try.func130.trans (congrArg some (by kernel_rfl))
  f297 := Try.func131.trans (congrArg some (by kernel_rfl))
  f298 := Try.func132.trans (congrArg some (by kernel_rfl))
  f299 := Try.func133.trans (congrArg some (by kernel_rfl))
  f300 := Try.func135.trans (congrArg some (by kernel_rfl))
  f301 := Try.func136.trans (congrArg some (by kernel_rfl))
  f328 := Try.func150.trans (congrArg some (by kernel_rfl))
  f329 := Try.func146.trans (congrArg some (by kernel_rfl))
  f330 := Try.func147.trans (congrArg some (by kernel_rfl))
  f331 := Try.func151.trans (congrArg some (by kernel_rfl))
  f332 := Try.func152.trans (congrArg some (by kernel_rfl))
  f343 := Try.func156.trans (congrArg some (by kernel_rfl))
  t0 := Try.underlying0
  a0 := Try.isAgg0
  z0 := Try.sizeOf0
  v0 := Try.zeroValue0
  t3 := Try.underlying3
  a3 := Try.isAgg3
  z3 := Try.sizeOf3
  v3 := Try.zeroValue3
  t4 := Try.underlying4
  a4 := Try.isAgg4
  z4 := Try.sizeOf4
  v4 := Try.zeroValue4
  t5 := Try.underlying5
  a5 := Try.isAgg5
  z5 := Try.sizeOf5
  v5 := Try.zeroValue5
  t9 := Try.underlying9
  a9 := Try.isAgg9
  z9 := Try.sizeOf9
  v9 := Try.zeroValue9
  t28 := Try.underlying35
  a28 := Try.isAgg35
  z28 := Try.sizeOf35
  v28 := Try.zeroValue35
  t46 := Try.underlying94
  a46 := Try.isAgg94
  z46 := Try.sizeOf94
  v46 := Try.zeroValue94
  t51 := Try.underlying116
  a51 := Try.isAgg116
  z51 := Try.sizeOf116
  v51 := Try.zeroValue116
  t53 := Try.underlying118
  a53 := Try.isAgg118
  z53 := Try.sizeOf118
  v53 := Try.zeroValue118
  t131 := Try.underlying40
  a131 := Try.isAgg40
  z131 := Try.sizeOf40
  v131 := Try.zeroValue40
  t182 := Try.underlying109
  a182 := Try.isAgg109
  z182 := Try.sizeOf109
  v182 := Try.zeroValue109
  t183 := Try.underlying110
  a183 := Try.isAgg110
  z183 := Try.sizeOf110
  v183 := Try.zeroValue110
  t218 := Try.underlying127
  a218 := Try.isAgg127
  z218 := Try.sizeOf127
  v218 := Try.zeroValue127
  t222 := Try.underlying131
  a222 := Try.isAgg131
  z222 := Try.sizeOf131
  v222 := Try.zeroValue131
  t228 := Try.underlying137
  a228 := Try.isAgg137
  z228 := Try.sizeOf137
  v228 := Try.zeroValue137
  t229 := Try.underlying138
  a229 := Try.isAgg138
  z229 := Try.sizeOf138
  v229 := Try.zeroValue138
}

theorem grown_sortI {α : Type} [Inhabited α] (enc : α → Value) (w : World) (g m : Nat) (d : Array α) (os : Array Obj) : w.grownBy (Go.Sort.grow (Go.Sort.putRow enc (Go.Sort.ahead w m) g 0 d) os) (some g) where
  os := rfl
  tape := rfl
  output := rfl
  size := by
    rw [Go.Sort.size_grow]
    simp [Go.Sort.putRow, Go.Sort.mapBlock, Go.Sort.ahead]
  block := fun k hk hne => by
    rw [Go.Sort.heap_grow_old _ _ (by simpa [Go.Sort.putRow, Go.Sort.mapBlock, Go.Sort.ahead] using hk)]
    show (w.heap.modify g _)[k]? = _
    rw [Array.getElem?_modify, if_neg (fun e => hne (by rw [e]))]
theorem own_sortI {α : Type} [Inhabited α] (enc : α → Value) {w : World} {B e g n c m : Nat} {os : Array Obj} {xs : List Value} (d : Array α) (hn : d.size = n) (h : w.ownsRow B e 1 (.slice (some ⟨g, 0, none⟩) n c) n xs) :
    (Go.Sort.grow (Go.Sort.putRow enc (Go.Sort.ahead w m) g 0 d) os).ownsRow B e 1 (.slice (some ⟨g, 0, none⟩) n c) n (d.toList.map enc) := by
  rcases h.2 with ⟨h', _⟩ | ⟨g', cap, cur, h', hb, hh, hc, hcm, hs, ht⟩
  · cases h'
  · cases h'
    refine ⟨by simp [hn], .inr ⟨g, c, Go.Sort.putCells enc 0 d cur, rfl, hb, ?_, hc, hcm, ?_, ?_⟩⟩
    · have hlt : g < w.heap.size := by
        have := Array.getElem?_eq_some_iff.1 hh
        exact this.1
      rw [Go.Sort.heap_grow_old _ _ (by simpa [Go.Sort.putRow, Go.Sort.mapBlock, Go.Sort.ahead] using hlt)]
      show (w.heap.modify g _)[g]? = _
      rw [Array.getElem?_modify, if_pos rfl, hh]
      rfl
    · simp [Go.Sort.putCells, hs]
    · refine List.ext_getElem? fun t => ?_
      by_cases hlt : t < n
      · rw [List.getElem?_take_of_lt (by omega), Array.getElem?_toList, List.getElem?_map, Array.getElem?_toList]
        have hcs : t < cur.size := by omega
        simp [Go.Sort.putCells, hcs, hn, hlt]
      · rw [List.getElem?_eq_none (by simp; omega), List.getElem?_eq_none (by simp; omega)]
theorem slices_SortI (B g c n : Nat) (l : List Int) (w : World) (hl : l.length = n) (hn : n ≤ 1000000000) (hB : B ≤ w.heap.size) (h : w.ownsRow B 3 1 (.slice (some ⟨g, 0, none⟩) n c) n (ics l)) :
    Calls Try.prog 59 #[.slice (some ⟨g, 0, none⟩) n c] w fun e w' => e = .returned (.tuple #[]) ∧ w'.ownsRow B 3 1 (.slice (some ⟨g, 0, none⟩) n c) n (ics (l.mergeSort fun x y => decide (x ≤ y))) ∧ Below B w w' := by
  subst hl
  have hg := h.lt g rfl
  have hH : Go.Sort.Holds (Value.int .i64) w g 0 l.toArray := fun j hj => by
    have hj' : j < l.length := by simpa using hj
    rw [Nat.zero_add]
    refine ⟨?_, h.frozenAt j⟩
    rw [h.cellAt j (by omega), ics_get _ _ hj']
    simp [hj']
  refine Calls.mono (Any.slices_Sort_int srtIL g 0 c l w hH hg.2 (by omega)) ?_
  rintro e w' ⟨rfl, m, os, rfl⟩
  have hsz : (l.mergeSort fun x y => decide (x ≤ y)).toArray.size = l.length := by simp
  have h1 := own_sortI (Value.int .i64) (m := m) (os := os) (l.mergeSort fun x y => decide (x ≤ y)).toArray hsz h
  refine ⟨rfl, ?_, ?_⟩
  · have e : ((l.mergeSort fun x y => decide (x ≤ y)).toArray).toList.map (Value.int .i64) = ics (l.mergeSort fun x y => decide (x ≤ y)) := by simp [ics]
    rwa [e] at h1
  · exact (Below.refl B w).grown (grown_sortI (Value.int .i64) w g m _ os) hB (fun q hq => by have h1 : g = q := Option.some.inj hq; omega)
end Go.Proofs.Ytlnnnjnboknoeaa

/- AppL: Append of one number, told where the row lies then: where it lay, or in a new block. -/
namespace Go.Proofs.Ytlnnnjnboknoeaa
open Go.RowKit

theorem grown_any {w w' : World} (h : w.grownBy w' none) (r : Option Nat) : w.grownBy w' r := ⟨h.os, h.tape, h.output, h.size, fun k hk _ => h.block k hk (by simp)⟩
section
variable {ops : Array Oper} {rest : List Oper} {o : Oper} {a : Act} {Q : Exit → Act → World → Prop}
theorem append1In_loc (w : World) (hgd : o.guard = none) (s x : Operand) (ho : o.op = .call { callee := .builtin .append, args := #[s, x], argTypes := #[35, 35] })
    (base : Nat) (A : Option Addr) (n c : Nat) (L : List Int) (hn : L.length = n) (hA : n = 0 → A = none ∧ c = 0) (hs : a.eval s = .slice A n c) (hown : w.ownsRow base 3 1 (.slice A n c) n (ics L)) (g : Nat) (y : Int) (hx : a.eval x = .slice (some ⟨g, 0, none⟩) 1 1)
    (hc : w.cell? ⟨g, 0, none⟩ = some (.int .i64 y)) (hlen : n ≤ 999999) (hbase : base ≤ w.heap.size)
    (h : ∀ A' c' w', w'.ownsRow base 3 1 (.slice A' (n + 1) c') (n + 1) (ics (L ++ [y])) → w.grownBy w' (Value.slice A n c).ownBlock → (A' = A ∨ ∃ q, A' = some ⟨q, 0, none⟩ ∧ w.heap.size ≤ q) → wpList Try.prog ops Q rest (a.put o.dst (.slice A' (n + 1) c')) w') :
    wpList Try.prog ops Q (o :: rest) a w := by
  have hgw : g < w.heap.size := World.block_lt_of_cell? w _ hc
  by_cases h0 : n = 0
  · obtain ⟨rfl, rfl⟩ := hA h0
    subst h0
    obtain rfl : L = [] := List.eq_nil_of_length_eq_zero hn
    refine append1In w hgd s x ho w.heap.size (.slice none 0 0) 0 [] rfl hs (World.ownsRow_nil _ _ _ _) g y hx hc (by omega) (Nat.le_refl _) ?_
    intro A' c' w' h1 h2
    obtain ⟨q, cap, hv, hq, _⟩ := h1.form (by omega)
    cases hv
    exact h _ c' w' (h1.mono hbase) h2 (.inr ⟨q, rfl, hq⟩)
  · obtain ⟨q, cap, hv, hq, _⟩ := hown.form (by omega)
    cases hv
    have hcap := own_capP hown
    by_cases hf : c = n
    · subst hf
      refine wpList_growI w hgd s x ho (some ⟨q, 0, none⟩) c w.heap.size L hn (by omega) hs (by subst hn; exact SlI.of_own hown) (some ⟨g, 0, none⟩) 1 1 (g + 1) (c + 1) [y] rfl rfl (by omega) hx (SlI.cell1 hc (by omega)) (by omega) ?_
      intro A' c' w' h1 h2
      obtain ⟨q', cap', hv, hq', _⟩ := h1.form (by omega)
      cases hv
      exact h _ c' w' (h1.mono hbase) (grown_any h2 _) (.inr ⟨q', rfl, hq'⟩)
    · obtain ⟨i0, hi, hz0, hz1, hz2⟩ := info_parts infoI
      refine wpList_append_own_spare w hgd s x 35 ho base 3 i0 1 Try.underlying35 hi hz1 q n c (ics L) hs hown ⟨g, 0, none⟩ 1 1 [.int .i64 y] hx rfl ?_ ?_ (by omega) ?_
      · intro j u hu
        match j, hu with
        | 0, hu =>
          rw [Addr.add_zero', hc]
          simpa using hu
      · intro u hu
        simp at hu
        subst hu
        rfl
      · intro w' h1 h2
        refine h _ c w' ?_ h2 (.inl rfl)
        rw [show ics L ++ [.int .i64 y] = ics (L ++ [y]) by simp [ics]] at h1
        exact h1
end
end Go.Proofs.Ytlnnnjnboknoeaa

/- SizesOfCutW: SizesOfCut: the model's and the program's contract, and the law's walk. -/
namespace Go.Proofs.Ytlnnnjnboknoeaa
open Go.RowKit

/-- the sizes of a cut's pieces -/
def szR (n : Int) (l : List (Int × Int)) : List Int := if cutB n l = true then szU (pcL n.toNat l) (n.toNat - 2) else []
theorem szR_no {n : Int} {l : List (Int × Int)} (h : cutB n l = false) : szR n l = [] := by unfold szR; rw [h]; rfl
theorem szR_yes {n : Nat} {l : List (Int × Int)} (h : cutB (n : Int) l = true) : szR (n : Int) l = szU (pcL n l) (n - 2) := by unfold szR; rw [if_pos h, Int.toNat_natCast]
theorem sz_h3 {n : Nat} {l : List (Int × Int)} (h : cutB (n : Int) l = true) : ∀ P ∈ pcL n l, 3 ≤ P.length ∧ P.length < (n - 2) + 3 := fun P hP => by
  have := (pcL_facts h).2 P hP
  omega
theorem szE_no {n : Int} {l : List (Int × Int)} {w w' : World} (h : cutB n l = false) (hb : Below w.heap.size w w') : RetI w (szR n l) false (.returned (.tuple #[.slice none 0 0, .bool false])) w' := by
  rw [szR_no h]
  exact ⟨none, 0, rfl, World.ownsRow_nil _ _ _ _, hb⟩
theorem szR_len (n : Int) (l : List (Int × Int)) : (szR n l).length ≤ 1000000000 := by
  cases h : cutB n l
  · rw [szR_no h]; simp
  · obtain ⟨h3, h12, h9⟩ := cutB_len h
    obtain ⟨m, rfl⟩ := Int.eq_ofNat_of_zero_le (show 0 ≤ n by omega)
    rw [szR_yes h, szU_length (sz_h3 h), (pcL_facts h).1]
    omega
theorem szH_len (T : List (List Int)) (s j : Nat) : (szH T s j).length ≤ T.length := by
  unfold szH szT
  rw [List.length_map]
  refine Nat.le_trans (List.length_filter_le _ _) ?_
  simp
  omega
theorem szU_bd {T : List (List Int)} (h3 : ∀ P ∈ T, 3 ≤ P.length) (k : Nat) : (szU T k).length ≤ T.length := by
  rw [(szU_perm h3 k).length_eq]
  unfold lens
  rw [List.length_map]
  exact List.length_filter_le _ _

set_option maxRecDepth 100000 in
set_option maxHeartbeats 3200000 in
theorem spec_SizesOfCut (n : Int) (A : Option Addr) (c B : Nat) (l : List (Int × Int)) (w : World) (h : SlD w B A l) (hB : B ≤ w.heap.size) (hl : l.length ≤ 1048576) (hlc : l.length ≤ c) :
    Calls Try.prog 26 #[.int .i64 n, .slice A l.length c] w (RetI w (szR n l) (cutB n l)) := by
  have HG := Lib.hid (spec_cuGood n A c B l w h hB hl hlc)
  cases hc : cutB n l
  · rw [hc] at HG
    have HE := Lib.hid fun w' (hb : Below w.heap.size w w') => szE_no hc hb
    clear h hc
    go_enter Try.func26, Try.ntmps26
    go_wp2_with fail
    refine HG.out.mono ?_
    rintro e w1 ⟨rfl, hb1⟩
    have HF := Lib.hid (HE.out _ hb1)
    go_wp2
    go_ret2
    exact HF.out
  · rw [hc] at HG
    obtain ⟨h3, h12, h9⟩ := cutB_len hc
    obtain ⟨m, rfl⟩ := Int.eq_ofNat_of_zero_le (show 0 ≤ n by omega)
    have HP := Lib.hid fun w1 (hb : Below w.heap.size w w1) => spec_cuPieces m A c B l.length l w1 (by omega) (by omega) rfl (by omega) (cut_nc hc).2.2.2.2.1 (h.below (hb.mono hB)) (Nat.le_trans hB hb.size)
    have HR := Lib.hid (szR_yes hc)
    have hf := pcL_facts hc
    have HS3 := Lib.hid (fun P hP => (sz_h3 hc P hP).1)
    obtain ⟨K, hK⟩ : ∃ K, (pcL m l).length = K := ⟨_, rfl⟩
    have hK10 : K ≤ 10 := by rw [← hK, hf.1]; omega
    have HK := Lib.hid hK
    have Hf := Lib.hid hf.2
    unfold GivSS at HP
    rw [hK] at HP
    clear h hc hf hK
    go_enter Try.func26, Try.ntmps26
    go_wp2_with fail
    refine HG.out.mono ?_
    rintro e w1 ⟨rfl, hb1⟩
    go_wp2
    go_loopw [6, 7, 9] (fun S sv _ wr => ∃ (s : Nat) (A2 : Option Addr) (c2 : Nat), s ≤ m - 2 ∧ sv = .int .i64 (s + 3) ∧ S = .slice A2 (szU (pcL m l) s).length c2 ∧ ((szU (pcL m l) s).length = 0 → A2 = none ∧ c2 = 0) ∧ wr.ownsRow w.heap.size 3 1 (.slice A2 (szU (pcL m l) s).length c2) (szU (pcL m l) s).length (ics (szU (pcL m l) s)) ∧ Below w.heap.size w wr) (fun _ sv _ _ => m + 1 - (intOf sv).toNat)
    case atStart => exact ⟨0, none, 0, Nat.zero_le _, rfl, rfl, fun _ => ⟨rfl, rfl⟩, World.ownsRow_nil _ _ _ _, hb1⟩
    case round =>
      clear hb1
      obtain ⟨s, A2, c2, hs, rfl, rfl, hnil, ho, hb⟩ := hrel
      obtain ⟨W3, hW3⟩ : ∃ W3, W3 = wr := ⟨_, rfl⟩
      subst hW3
      by_cases hlt : s < m - 2
      · have hsl := szU_bd HS3.out s
        rw [HK.out] at hsl
        have hsl1 := szU_bd HS3.out (s + 1)
        rw [HK.out] at hsl1
        have hall := szH_all (pcL m l) (s + 3)
        rw [HK.out] at hall
        have Hall := Lib.hid hall
        have Hsu := Lib.hid (szU_succ (pcL m l) s)
        have Ho := Lib.hid ho
        have Hb := Lib.hid hb
        have i1 : (s : Int) + 3 ≤ (m : Int) := by omega
        clear ho hall
        go_wp2_with fail
        refine (HP.out _ hb).mono ?_
        rintro e w4 ⟨A4, c4, rfl, hs4, hb4⟩
        have o4 := own_kept Ho.out hb4
        have b4 := below_kept Hb.out (Nat.le_refl _) hb4
        have S4 := Lib.hid hs4
        have hsz4 := b4.size
        clear hs4 hb4 hb
        have Hst : Hid (szU (pcL m l) s = szU (pcL m l) s ++ szH (pcL m l) (s + 3) 0) := Lib.hid (by rw [szH_zero, List.append_nil])
        go_wp2
        go_loopw [6, 9, 23] (fun S _ jv wr => ∃ (j : Nat) (A2 : Option Addr) (c2 : Nat) (R : List Int), j ≤ K ∧ jv = .int .i64 j ∧ R = szU (pcL m l) s ++ szH (pcL m l) (s + 3) j ∧ S = .slice A2 R.length c2 ∧ (R.length = 0 → A2 = none ∧ c2 = 0) ∧ (∀ q o, A2 = some ⟨q, o, none⟩ → q < W3.heap.size ∨ w4.heap.size ≤ q) ∧ wr.ownsRow w.heap.size 3 1 (.slice A2 R.length c2) R.length (ics R) ∧ SlSSn wr W3.heap.size w4.heap.size A4 (pcL m l) ∧ w4.heap.size ≤ wr.heap.size ∧ Below w.heap.size w wr) (fun _ _ jv _ => K - (intOf jv).toNat)
        case atStart => exact ⟨0, A2, c2, _, Nat.zero_le _, rfl, Hst.out, rfl, hnil, fun q o e => .inl (by subst e; obtain ⟨g, cap, hv, _, hlt2⟩ := Ho.out.form (Nat.pos_of_ne_zero fun h0 => by have := (hnil h0).1; cases this); cases hv; exact hlt2), o4, S4.out, Nat.le_refl _, b4⟩
        case round =>
          clear o4 b4 S4
          obtain ⟨j, A5, c5, R, hj, rfl, hR, rfl, hnl, hq5, ho, hS, hz, hb⟩ := hrel
          have HR2 := Lib.hid hR
          have hRl : R.length ≤ 1000 := by
            have := szH_len (pcL m l) (s + 3) j
            rw [HK.out] at this
            rw [hR, List.length_append]
            omega
          clear hR
          by_cases hjk : j < K
          · obtain ⟨g, off, rfl, _, hgB, hcg⟩ := hS (by rw [HK.out]; omega)
            obtain ⟨Aj, cj, y0, hsj, _⟩ := hcg j (by rw [HK.out]; exact hjk)
            have HSr := Lib.hid hS
            obtain ⟨q, hq⟩ : ∃ q, (rowOf (pcL m l) j).length = q := ⟨_, rfl⟩
            have Hq := Lib.hid hq
            rw [hq] at y0
            have j1 : (j : Int) < (K : Int) := by omega
            have Ho := Lib.hid ho
            have Hb := Lib.hid hb
            clear hcg hsj hq hS
            by_cases hqs : q = s + 3
            · have hy := szH_yes (T := pcL m l) (s := s + 3) (j := j) (by rw [HK.out]; exact hjk) (by rw [Hq.out]; exact hqs)
              have Hy := Lib.hid hy
              have q1 : ((q : Int) == (s : Int) + 3) = true := by simp; omega
              have own5 := ho.alloc (.cells #[.int .i64 ((s : Int) + 3)] 3)
              have z5 : w.heap.size ≤ (wr.alloc (.cells #[.int .i64 ((s : Int) + 3)] 3)).heap.size := Nat.le_trans hb.size (by simp)
              clear hy ho hb
              go_wp2_with (at_builtin; refine append1In_loc _ rfl _ _ rfl w.heap.size A5 R.length c5 R rfl hnl rfl own5 wr.heap.size ((s : Int) + 3) rfl ?c1 (by omega) z5 ?_; (case c1 => simp [go_sem]); intro A9 c9 w9 own9 hg9 hloc)
              have b9 := below_grown (Hb.out.alloc Hb.out.size (.cells #[.int .i64 ((s : Int) + 3)] 3)) hg9 (Nat.le_refl _) (fun k hk => (Ho.out.lt k hk).1)
              have hqA : ∀ q o, A9 = some ⟨q, o, none⟩ → q < W3.heap.size ∨ w4.heap.size ≤ q := fun q o e => by
                rcases hloc with h1 | ⟨q', h1, h2⟩
                · exact hq5 q o (by rw [← h1]; exact e)
                · rw [h1] at e
                  cases e
                  exact .inr (Nat.le_trans hz (Nat.le_trans (by simp) h2))
              have s9 : SlSSn w9 W3.heap.size w4.heap.size (some ⟨g, off, none⟩) (pcL m l) := HSr.out.keep (fun b o hlo hbo => by
                rw [hg9.cell_far ⟨b, o, none⟩ (Nat.lt_of_lt_of_le hbo (Nat.le_trans hz (by simp))) ?_]
                · exact ((Below.refl wr.heap.size wr).alloc (Nat.le_refl _) _).cell (p := ⟨b, o, none⟩) (Nat.lt_of_lt_of_le hbo hz)
                · intro e
                  cases A5 with
                  | none => simp [Value.ownBlock] at e
                  | some ad =>
                    have hRp : 0 < R.length := Nat.pos_of_ne_zero fun h0 => by have := (hnl h0).1; cases this
                    obtain ⟨g5, cap5, hv5, _, _⟩ := Ho.out.form hRp
                    cases hv5
                    have h1 : b = g5 := Option.some.inj e
                    have h2 := hq5 g5 0 rfl
                    omega)
              have e9 : R ++ [(s : Int) + 3] = szU (pcL m l) s ++ szH (pcL m l) (s + 3) (j + 1) := by rw [HR2.out, Hy.out, List.append_assoc]; simp
              have z9 : w4.heap.size ≤ w9.heap.size := Nat.le_trans hz (Nat.le_trans (by simp) hg9.size)
              have E9 := Lib.hid e9
              have S9 := Lib.hid s9
              have B9 := Lib.hid b9
              have O9 := Lib.hid own9
              have QA := Lib.hid hqA
              have Z9 := Lib.hid z9
              have L9 : Hid ((R ++ [(s : Int) + 3]).length = R.length + 1) := Lib.hid (by simp)
              clear e9 s9 b9 own9 hqA hloc hg9 own5 z9 hnl hq5
              go_wp2
              go_roundw
              case rel => exact ⟨j + 1, A9, c9, R ++ [(s : Int) + 3], by omega, by go_num, E9.out, by rw [L9.out], fun h0 => by rw [L9.out] at h0; omega, QA.out, by rw [L9.out]; exact O9.out, S9.out, Z9.out, B9.out⟩
              case measure => simp [intOf]; omega
            · have hy := szH_no (T := pcL m l) (s := s + 3) (j := j) (by rw [HK.out]; exact hjk) (by rw [Hq.out]; exact hqs)
              have Hy := Lib.hid hy
              have q1 : ((q : Int) == (s : Int) + 3) = false := by simp; omega
              have HN := Lib.hid hnl
              have HQ5 := Lib.hid hq5
              clear hy ho hb hnl hq5
              go_wp2
              go_roundw
              case rel => exact ⟨j + 1, A5, c5, R, by omega, by go_num, by rw [Hy.out]; exact HR2.out, rfl, HN.out, HQ5.out, Ho.out, HSr.out, hz, Hb.out⟩
              case measure => simp [intOf]; omega
          · obtain rfl : j = K := by omega
            have hR3 : R = szU (pcL m l) (s + 1) := by rw [HR2.out, Hall.out, Hsu.out]
            have HN := Lib.hid hnl
            have Ho2 := Lib.hid ho
            have Hb2 := Lib.hid hb
            have H3 := Lib.hid hR3
            clear ho hb hnl hS hq5 hR3
            go_wp2
            go_roundw
            case rel => exact ⟨s + 1, A5, c5, hlt, by go_num, by rw [← H3.out], by rw [← H3.out]; exact HN.out, by rw [← H3.out]; exact Ho2.out, Hb2.out⟩
            case measure => simp [intOf]; omega
      · obtain rfl : s = m - 2 := by omega
        have HF : Hid (RetI w (szR (m : Int) l) true (.returned (.tuple #[.slice A2 (szU (pcL m l) (m - 2)).length c2, .bool true])) W3) := Lib.hid (by
          rw [HR.out]
          exact ⟨A2, c2, rfl, ho, hb⟩)
        have i1 : ¬ ((m - 2 : Nat) : Int) + 3 ≤ (m : Int) := by omega
        clear ho hb hnil
        go_wp2
        go_ret2
        exact HF.out

set_option maxRecDepth 100000 in
set_option maxHeartbeats 3200000 in
theorem impl_SizesOfCut (n : Int) (A : Option Addr) (c B : Nat) (l : List (Int × Int)) (w : World) (h : SlD w B A l) (hB : B ≤ w.heap.size) (hl : l.length ≤ 1048576) (hlc : l.length ≤ c) :
    Calls Try.prog 27 #[.int .i64 n, .slice A l.length c] w (RetI w (szR n l) (cutB n l)) := by
  have HP := Lib.hid (impl_PiecesOfCut n A c B l w h hB hl hlc)
  unfold RetPS at HP
  cases hc : cutB n l
  · rw [hc, pcR_no hc] at HP
    have HE := Lib.hid fun w' (hb : Below w.heap.size w w') => szE_no hc hb
    clear h hc
    go_enter Try.func27, Try.ntmps27
    go_wp2_with fail
    refine HP.out.mono ?_
    rintro e w1 ⟨A1, c1, rs1, rfl, _, hb1⟩
    have HF := Lib.hid (HE.out _ hb1)
    go_wp2
    go_ret2
    exact HF.out
  · obtain ⟨h3, h12, h9⟩ := cutB_len hc
    obtain ⟨m, rfl⟩ := Int.eq_ofNat_of_zero_le (show 0 ≤ n by omega)
    have HR := Lib.hid (szR_yes hc)
    have hf := pcL_facts hc
    have HEq := Lib.hid (szU_eq (sz_h3 hc))
    have HLn := Lib.hid (szU_length (sz_h3 hc))
    rw [hc, pcR_yes hc] at HP
    obtain ⟨K, hK⟩ : ∃ K, (pcL m l).length = K := ⟨_, rfl⟩
    have hK10 : K ≤ 10 := by rw [← hK, hf.1]; omega
    have HK := Lib.hid hK
    have hK1 : 0 < K := by rw [← hK, hf.1]; omega
    rw [hK] at HP
    generalize pcL m l = T at *
    obtain ⟨i0, hi, hz0, hz1, hz2⟩ := info_parts infoI
    have hbytes : i0.bytes * K ≤ 281474976710656 := by rw [hz2]; omega
    have hmax : K ≤ maxLen := by unfold maxLen; omega
    clear h hc hf hK
    go_enter Try.func27, Try.ntmps27
    go_wp2_with fail
    refine HP.out.mono ?_
    rintro e w1 ⟨A1, c1, rs1, rfl, o1, hb1⟩
    have S1 := Lib.hid o1.sl
    have hsz := hb1.size
    clear o1
    go_wp2_with (at_make; refine wpList_make_full _ rfl _ _ _ rfl w1.heap.size 3 i0 (.int .i64 0) 1 Try.underlying35 hi hz0 hz1 _ _ _ _ K rfl rfl rfl rfl hbytes hmax (Nat.le_refl _) ?_; intro w2 hown2 hgrow2)
    have hb2 : Below w1.heap.size w1 w2 := (Below.refl _ _).grown hgrow2 (Nat.le_refl _) (by simp)
    have e1 : (madeCells (Value.int .i64 0).cells (K * 1)).toList = ics (lnH T 0) := by
      rw [Nat.mul_one]
      show (madeCells #[Value.int .i64 0] K).toList = _
      rw [toList_madeCells_one, lnH_zero, HK.out]
      simp [ics]
    rw [e1] at hown2
    clear e1 hgrow2
    go_wp2
    go_loopw [9, 10, 24] (fun _ _ iv wr => ∃ k : Nat, k ≤ K ∧ iv = .int .i64 k ∧ wr.ownsRow w1.heap.size 3 1 (.slice (some ⟨w1.heap.size, 0, none⟩) K K) K (ics (lnH T k)) ∧ Below w1.heap.size w1 wr) (fun _ _ iv _ => K - (intOf iv).toNat)
    case atStart => exact ⟨0, Nat.zero_le _, rfl, hown2, hb2⟩
    case round =>
      clear hown2 hb2
      obtain ⟨k, hk, rfl, ho, hb⟩ := hrel
      by_cases hlt : k < K
      · obtain ⟨g, off, rfl, hgB, hcg⟩ := S1.out.below hb (by rw [HK.out]; omega)
        obtain ⟨Aj, cj, y0, _⟩ := hcg k (by rw [HK.out]; exact hlt)
        have hll := lnH_length T k (by rw [HK.out]; exact hk)
        rw [HK.out] at hll
        have hcell : wr.cell? ⟨w1.heap.size, k, none⟩ = some (.int .i64 ((lnH T k).getD k 0)) := by
          rw [ho.cellAt k (by omega), ics_get _ _ (by rw [hll]; exact hlt)]
        have hfro := ho.frozenAt k
        have hst := ho.stored k (.int .i64 (((rowOf T k).length : Nat) : Int))
        rw [ics_set, lnH_set T k (by rw [HK.out]; exact hlt)] at hst
        obtain ⟨hs1, hs2⟩ := hst
        have hb2 := hb.grown hs2 hb.size (by simp)
        have k1 : (k : Int) < (K : Int) := by omega
        have HS := Lib.hid hs1
        have HB := Lib.hid hb2
        clear ho hs2 hll hb hs1 hb2 hcg
        generalize (lnH T k).getD k 0 = z at *
        generalize (rowOf T k).length = q at *
        go_wp2
        go_roundw
        case rel => exact ⟨k + 1, by omega, by go_num, HS.out, HB.out⟩
        case measure => simp [intOf]; omega
      · obtain rfl : k = K := by omega
        have hall := lnH_all T
        rw [HK.out] at hall
        rw [hall] at ho
        have HSo := Lib.hid (slices_SortI w1.heap.size w1.heap.size k k (lens T) wr (by rw [lens_length, HK.out]) (by omega) hb.size ho)
        rw [HEq.out] at HSo
        have Hb := Lib.hid (hb1.trans (hb.mono hsz))
        clear ho hb hall
        go_wp2_with fail
        refine HSo.out.mono ?_
        rintro e w4 ⟨rfl, o4, b4⟩
        have HF : Hid (RetI w (szR (m : Int) l) true (.returned (.tuple #[.slice (some ⟨w1.heap.size, 0, none⟩) k k, .bool true])) w4) := Lib.hid (by
          rw [HR.out]
          refine ⟨_, k, by rw [HLn.out, HK.out], ?_, Hb.out.trans (b4.mono hsz)⟩
          rw [HLn.out, HK.out]
          exact o4.mono hsz)
        clear o4 b4
        go_wp2
        go_ret2
        exact HF.out


end Go.Proofs.Ytlnnnjnboknoeaa

/- IsEqualCutW: IsEqualCut: the model's and the program's contract, and the law's walk. -/
namespace Go.Proofs.Ytlnnnjnboknoeaa
open Go.RowKit

def ieK (n : Int) (l : List (Int × Int)) (s : Int) : Bool := cutB n l && decide (3 ≤ s)
def ieR (n : Int) (l : List (Int × Int)) (s : Int) : Bool := ieK n l s && eqS (pcL n.toNat l) s
def IeE (n : Int) (l : List (Int × Int)) (s : Int) (w : World) (e : Ending) (w' : World) : Prop := e = .returned (.tuple #[.bool (ieR n l s), .bool (ieK n l s)]) ∧ Below w.heap.size w w'
theorem ieE_no {n : Int} {l : List (Int × Int)} {s : Int} {w w' : World} (h : ieK n l s = false) (hb : Below w.heap.size w w') : IeE n l s w (.returned (.tuple #[.bool false, .bool false])) w' := by
  unfold IeE ieR
  rw [h]
  exact ⟨rfl, hb⟩
theorem ieE_yes {n : Nat} {l : List (Int × Int)} {s : Int} {w w' : World} {b : Bool} (h : ieK (n : Int) l s = true) (h2 : eqS (pcL n l) s = b) (hb : Below w.heap.size w w') : IeE (n : Int) l s w (.returned (.tuple #[.bool b, .bool true])) w' := by
  unfold IeE ieR
  rw [h, Int.toNat_natCast, h2]
  exact ⟨rfl, hb⟩

set_option maxRecDepth 100000 in
set_option maxHeartbeats 1600000 in
theorem spec_cuEqual (m : Nat) (A : Option Addr) (c B q : Nat) (l : List (Int × Int)) (s : Int) (w : World) (hq : l.length = q) (h : SlD w B A l) (hB : B ≤ w.heap.size) (hc : cutB (m : Int) l = true) :
    Calls Try.prog 65 #[.int .i64 m, .slice A q c, .int .i64 s] w fun e w' => e = .returned (.bool (eqS (pcL m l) s)) ∧ Below w.heap.size w w' := by
  obtain ⟨h3, h12, h9⟩ := cutB_len hc
  have HP := Lib.hid (spec_cuPieces m A c B q l w (by omega) (by omega) hq (by omega) (cut_nc hc).2.2.2.2.1 h hB)
  have hf := pcL_facts hc
  obtain ⟨K, hK⟩ : ∃ K, (pcL m l).length = K := ⟨_, rfl⟩
  have hK10 : K ≤ 10 := by rw [← hK, hf.1]; omega
  have HK := Lib.hid hK
  unfold GivSS at HP
  rw [hK] at HP
  generalize pcL m l = T at *
  clear h hc hf hK
  go_enter Try.func65, Try.ntmps65
  go_wp2_with fail
  refine HP.out.mono ?_
  rintro e w1 ⟨A1, c1, rfl, hs1, hb1⟩
  have S1 := Lib.hid hs1.to
  have B1 := Lib.hid hb1
  clear hs1 hb1
  go_wp2
  go_loop [8, 13] (fun _ iv => ∃ k : Nat, k ≤ K ∧ iv = .int .i64 k ∧ ∀ j, j < k → ((rowOf T j).length : Int) = s) (fun _ iv => K - (intOf iv).toNat)
  case atStart => exact ⟨0, Nat.zero_le _, rfl, fun j hj => by omega⟩
  case round =>
    obtain ⟨k, hk, rfl, hno⟩ := hrel
    have Hno := Lib.hid hno
    clear hno
    by_cases hlt : k < K
    · obtain ⟨g, off, rfl, hgB, hcg⟩ := S1.out (by rw [HK.out]; omega)
      obtain ⟨Aj, cj, y0, _⟩ := hcg k (by rw [HK.out]; exact hlt)
      have k1 : (k : Int) < (K : Int) := by omega
      have hne := fun hh => eqS_no (T := T) (s := s) (j := k) (by rw [HK.out]; exact hlt) hh
      have Hne := Lib.hid hne
      obtain ⟨q, hq⟩ : ∃ q, (rowOf T k).length = q := ⟨_, rfl⟩
      have Hq := Lib.hid hq
      rw [hq] at y0
      clear hcg hne hq
      by_cases e : (q : Int) = s
      · have e1 : ((q : Int) != s) = false := by simpa using e
        go_wp2
        go_round
        case rel => exact ⟨k + 1, by omega, by go_num, fun j hj => by
          by_cases e2 : j = k
          · rw [e2, Hq.out]; exact e
          · exact Hno.out j (by omega)⟩
        case measure => simp [intOf]; omega
      · have e1 : ((q : Int) != s) = true := by simpa using e
        go_wp2
        go_ret
        exact ⟨ret_bool (Hne.out (by rw [Hq.out]; exact e)).symm, B1.out⟩
    · obtain rfl : k = K := by omega
      have he := eqS_yes (T := T) (s := s) (by rw [HK.out]; exact Hno.out)
      have He := Lib.hid he
      clear he
      go_wp2
      go_ret
      exact ⟨ret_bool He.out.symm, B1.out⟩

set_option maxHeartbeats 1600000 in
theorem spec_IsEqualCut (n : Int) (A : Option Addr) (c B : Nat) (l : List (Int × Int)) (s : Int) (w : World) (h : SlD w B A l) (hB : B ≤ w.heap.size) (hl : l.length ≤ 1048576) (hlc : l.length ≤ c) :
    Calls Try.prog 35 #[.int .i64 n, .slice A l.length c, .int .i64 s] w (IeE n l s w) := by
  have HG := Lib.hid (spec_cuGood n A c B l w h hB hl hlc)
  cases hc : cutB n l
  · rw [hc] at HG
    have hk : ieK n l s = false := by unfold ieK; rw [hc]; rfl
    have HE := Lib.hid fun w' (hb : Below w.heap.size w w') => ieE_no hk hb
    clear h hc hk
    go_enter Try.func35, Try.ntmps35
    go_wp2_with fail
    refine HG.out.mono ?_
    rintro e w1 ⟨rfl, hb1⟩
    have HF := Lib.hid (HE.out _ hb1)
    go_wp2
    go_ret2
    exact HF.out
  · rw [hc] at HG
    by_cases hs : s < 3
    · have hk : ieK n l s = false := by unfold ieK; rw [hc, decide_eq_false (by omega)]; rfl
      have HE := Lib.hid fun w' (hb : Below w.heap.size w w') => ieE_no hk hb
      clear h hc hk
      go_enter Try.func35, Try.ntmps35
      go_wp2_with fail
      refine HG.out.mono ?_
      rintro e w1 ⟨rfl, hb1⟩
      have HF := Lib.hid (HE.out _ hb1)
      go_wp2
      go_ret2
      exact HF.out
    · obtain ⟨h3, h12, h9⟩ := cutB_len hc
      obtain ⟨m, rfl⟩ := Int.eq_ofNat_of_zero_le (show 0 ≤ n by omega)
      have hk : ieK (m : Int) l s = true := by unfold ieK; rw [hc, decide_eq_true (by omega)]; rfl
      have HE := Lib.hid fun w' (hb : Below w.heap.size w w') => ieE_yes hk rfl hb
      have HQ := Lib.hid fun w1 (hb : Below w.heap.size w w1) => spec_cuEqual m A c B l.length l s w1 rfl (h.below (hb.mono hB)) (Nat.le_trans hB hb.size) hc
      clear h hc hk
      go_enter Try.func35, Try.ntmps35
      go_wp2_with fail
      refine HG.out.mono ?_
      rintro e w1 ⟨rfl, hb1⟩
      go_wp2_with fail
      refine (HQ.out _ hb1).mono ?_
      rintro e w2 ⟨rfl, hb2⟩
      have HF := Lib.hid (HE.out _ (below_kept hb1 (Nat.le_refl _) hb2))
      clear hb1 hb2
      go_wp2
      go_ret2
      exact HF.out

theorem impl_isSize (s : Int) (b : Bool) (w : World) (h : decide (3 ≤ s) = b) : Calls Try.prog 66 #[.int .i64 s] w fun e w' => e = .returned (.bool b) ∧ w = w' := by
  subst h
  by_cases hs : 3 ≤ s
  · have e : decide (3 ≤ s) = true := decide_eq_true hs
    rw [e]
    clear e
    go_enter Try.func66, Try.ntmps66
    go_wp2
    go_ret
    exact ⟨by simp [hs], rfl⟩
  · have e : decide (3 ≤ s) = false := decide_eq_false hs
    rw [e]
    clear e
    go_enter Try.func66, Try.ntmps66
    go_wp2
    go_ret
    exact ⟨by simp [hs], rfl⟩

set_option maxHeartbeats 1600000 in
theorem impl_IsEqualCut (n : Int) (A : Option Addr) (c B : Nat) (l : List (Int × Int)) (s : Int) (w : World) (h : SlD w B A l) (hB : B ≤ w.heap.size) (hl : l.length ≤ 1048576) (hlc : l.length ≤ c) :
    Calls Try.prog 36 #[.int .i64 n, .slice A l.length c, .int .i64 s] w (IeE n l s w) := by
  have HP := Lib.hid (impl_SizesOfCut n A c B l w h hB hl hlc)
  unfold RetI at HP
  cases hc : cutB n l
  · rw [hc, szR_no hc] at HP
    have hk : ieK n l s = false := by unfold ieK; rw [hc]; rfl
    have HE := Lib.hid fun w' (hb : Below w.heap.size w w') => ieE_no hk hb
    clear h hc hk
    go_enter Try.func36, Try.ntmps36
    go_wp2_with fail
    refine HP.out.mono ?_
    rintro e w1 ⟨A1, c1, rfl, _, hb1⟩
    have HF := Lib.hid (HE.out _ hb1)
    go_wp2
    go_ret2
    exact HF.out
  · rw [hc] at HP
    by_cases hs : 3 ≤ s
    · obtain ⟨h3, h12, h9⟩ := cutB_len hc
      obtain ⟨m, rfl⟩ := Int.eq_ofNat_of_zero_le (show 0 ≤ n by omega)
      have hk : ieK (m : Int) l s = true := by unfold ieK; rw [hc, decide_eq_true hs]; rfl
      have hf := pcL_facts hc
      have hln := szU_length (sz_h3 hc)
      have hen := eqS_ends (sz_h3 hc) (by rw [hf.1]; omega) s
      rw [szR_yes hc] at HP
      have hK : (szU (pcL m l) (m - 2)).length = l.length + 1 := by rw [hln, hf.1]
      rw [hf.1, show l.length + 1 - 1 = l.length by omega] at hen
      have HE := Lib.hid fun w' (hb : Below w.heap.size w w') => ieE_yes hk hen.symm hb
      have hl10 : l.length ≤ 9 := by omega
      generalize szU (pcL m l) (m - 2) = S at *
      obtain ⟨K, hKK⟩ : ∃ K, l.length = K := ⟨_, rfl⟩
      simp only [hK, hKK] at HP HE hl10
      have HKS := Lib.hid hK
      have HKK := Lib.hid hKK
      clear h hc hk hf hln hen hK hKK
      go_enter Try.func36, Try.ntmps36
      go_wp2_with fail
      rw [HKK.out]
      refine HP.out.mono ?_
      rintro e w1 ⟨A1, c1, rfl, o1, hb1⟩
      obtain ⟨g, cap, hv, _, _⟩ := o1.form (by omega)
      cases hv
      have y0 : w1.cell? ⟨g, 0, none⟩ = some (.int .i64 (S.getD 0 0)) := by rw [o1.cellAt 0 (by omega), ics_get _ _ (by rw [HKS.out]; omega)]
      have y1 : w1.cell? ⟨g, K, none⟩ = some (.int .i64 (S.getD K 0)) := by rw [o1.cellAt K (by omega), ics_get _ _ (by rw [HKS.out, HKK.out]; omega)]
      have HB := Lib.hid hb1
      have t1 : (0 : Int) ≤ (K : Int) := by omega
      clear o1 hb1 HP
      have HFb := Lib.hid (HE.out _ HB.out)
      clear HE
      generalize S.getD 0 0 = x0 at *
      generalize S.getD K 0 = x1 at *
      have t2 : (K : Int) < (K : Int) + 1 := by omega
      go_wp2_with fail
      refine (impl_isSize s true _ (decide_eq_true (by omega))).mono ?_
      rintro e w2 ⟨rfl, rfl⟩
      by_cases a0 : x0 = s
      · have b0 : (x0 == s) = true := by simpa using a0
        by_cases a1 : x1 = s
        · have b1 : (x1 == s) = true := by simpa using a1
          rw [decide_eq_true a0, decide_eq_true a1] at HFb
          clear a0 a1
          go_wp2
          go_ret2
          exact HFb.out
        · have b1 : (x1 == s) = false := by simpa using a1
          rw [decide_eq_true a0, decide_eq_false a1] at HFb
          clear a0 a1
          go_wp2
          go_ret2
          exact HFb.out
      · have b0 : (x0 == s) = false := by simpa using a0
        rw [decide_eq_false a0, Bool.false_and] at HFb
        clear a0
        go_wp2
        go_ret2
        exact HFb.out
    · have hk : ieK n l s = false := by unfold ieK; rw [hc, decide_eq_false hs]; rfl
      have HE := Lib.hid fun w' (hb : Below w.heap.size w w') => ieE_no hk hb
      clear h hc hk
      go_enter Try.func36, Try.ntmps36
      go_wp2_with fail
      refine HP.out.mono ?_
      rintro e w1 ⟨A1, c1, rfl, _, hb1⟩
      have HF := Lib.hid (HE.out _ hb1)
      clear HP HE
      go_wp2_with fail
      refine (impl_isSize s false _ (decide_eq_false (by omega))).mono ?_
      rintro e w2 ⟨rfl, rfl⟩
      go_wp2
      go_ret2
      exact HF.out


end Go.Proofs.Ytlnnnjnboknoeaa

/- CountFinerW: CountFiner: the model's and the program's contract, and the law's walk. -/
namespace Go.Proofs.Ytlnnnjnboknoeaa
open Go.RowKit

/-- the product, over sizes, of how many triangulations polygons of that size have -/
def prodN : List Nat → Nat
  | [] => 1
  | a :: L => cntT a * prodN L
theorem prodN_append (L M : List Nat) : prodN (L ++ M) = prodN L * prodN M := by
  induction L with
  | nil => simp [prodN]
  | cons a L ih => simp only [List.cons_append, prodN, ih, Nat.mul_assoc]
theorem prodN_perm {L M : List Nat} (h : L.Perm M) : prodN L = prodN M := by
  induction h with
  | nil => rfl
  | cons a _ ih => simp only [prodN, ih]
  | swap a b L => simp only [prodN, ← Nat.mul_assoc, Nat.mul_comm (cntT b) (cntT a)]
  | trans _ _ h1 h2 => exact h1.trans h2
theorem cnt_pow : ∀ a : Fin 13, 3 ≤ (a : Nat) → cntT a ≤ 4 ^ ((a : Nat) - 2) := by decide +kernel
theorem cnt_pos : ∀ a : Fin 13, 3 ≤ (a : Nat) → 1 ≤ cntT a := by decide +kernel
theorem prodN_bd (L : List Nat) (h : ∀ a ∈ L, 3 ≤ a ∧ a ≤ 12) : prodN L ≤ 4 ^ ((L.map fun a => a - 2).sum) := by
  induction L with
  | nil => simp [prodN]
  | cons a L ih =>
    have h1 := ih (fun b hb => h b (List.mem_cons_of_mem _ hb))
    have h2 := h a (by simp)
    have h3 := cnt_pow ⟨a, by omega⟩ h2.1
    simp only [prodN, List.map_cons, List.sum_cons, Nat.pow_add]
    exact Nat.mul_le_mul h3 h1
theorem prodN_take (L : List Nat) (k : Nat) (hk : k < L.length) : prodN (L.take (k + 1)) = prodN (L.take k) * cntT L[k] := by
  rw [List.take_succ_eq_append_getElem hk, prodN_append]
  simp [prodN]
theorem sum_take_le (L : List Nat) (k : Nat) : (L.take k).sum ≤ L.sum := by
  conv => rhs; rw [← List.take_append_drop k L, List.sum_append]
  omega
theorem prodN_le {L : List Nat} {S : Nat} (h : ∀ a ∈ L, 3 ≤ a ∧ a ≤ 12) (hS : L.sum = S + 2 * L.length) (hS10 : S ≤ 10) (k : Nat) : prodN (L.take k) ≤ 1048576 := by
  have h1 := prodN_bd (L.take k) (fun a ha => h a (List.mem_of_mem_take ha))
  have h2 : ((L.take k).map fun a => a - 2).sum ≤ (L.map fun a => a - 2).sum := by rw [List.map_take]; exact sum_take_le _ _
  have h3 : ∀ M : List Nat, (∀ a ∈ M, 3 ≤ a ∧ a ≤ 12) → (M.map fun a => a - 2).sum + 2 * M.length = M.sum := by
    intro M
    induction M with
    | nil => intro _; simp
    | cons a M ih =>
      intro hM
      have h4 := ih (fun b hb => hM b (List.mem_cons_of_mem _ hb))
      have h5 := hM a (by simp)
      simp only [List.map_cons, List.sum_cons, List.length_cons]
      omega
  have h4 := h3 L h
  have h5 : 4 ^ (((L.take k).map fun a => a - 2).sum) ≤ 4 ^ 10 := Nat.pow_le_pow_right (by omega) (by omega)
  exact Nat.le_trans h1 h5

/-- the lengths of a cut's pieces -/
def lnN (T : List (List Int)) : List Nat := T.map List.length
theorem cut_lens {n : Nat} {l : List (Int × Int)} (h : cutB (n : Int) l = true) : (lnN (pcL n l)).sum = (n - 2) + 2 * (lnN (pcL n l)).length ∧ (lnN (pcL n l)).length = l.length + 1 ∧ ∀ a ∈ lnN (pcL n l), 3 ≤ a ∧ a ≤ 12 := by
  obtain ⟨n3, n12, ho, hn, hnc, hnd, h9⟩ := cut_nc h
  obtain ⟨Ls, h1, h2, h3⟩ := cuts_some n3 ho _ (Nat.le_refl _) hn
  rw [List.take_length] at h1 h2
  have hp : Ls.Perm (pcL n l) := h2.trans (pcL_perm hnc n3 hnd).symm
  have hs : (lnN (pcL n l)).sum = n + 2 * l.length := by rw [← h3]; exact ((hp.map List.length).sum_nat).symm
  have hl : (lnN (pcL n l)).length = l.length + 1 := by unfold lnN; rw [List.length_map, (pcL_facts h).1]
  refine ⟨by rw [hs, hl]; omega, hl, fun a ha => ?_⟩
  unfold lnN at ha
  obtain ⟨P, hP, rfl⟩ := List.mem_map.1 ha
  have := (pcL_facts h).2 P hP
  omega
theorem sz_nat {n : Nat} {l : List (Int × Int)} (h : cutB (n : Int) l = true) : ∃ L : List Nat, szU (pcL n l) (n - 2) = L.map (fun (a : Nat) => (a : Int)) ∧ L.Perm (lnN (pcL n l)) := by
  refine ⟨(szU (pcL n l) (n - 2)).map Int.toNat, ?_, ?_⟩
  · rw [List.map_map]
    conv => lhs; rw [← List.map_id (szU (pcL n l) (n - 2))]
    refine List.map_congr_left fun x hx => ?_
    obtain ⟨P, _, rfl⟩ := (mem_szU (sz_h3 h)).1 hx
    simp
  · rw [← szU_eq (sz_h3 h)]
    refine ((List.mergeSort_perm _ _).map _).trans ?_
    unfold lens lnN
    rw [List.map_map]
    have e : (pcL n l).map (Int.toNat ∘ fun P : List Int => (P.length : Int)) = (pcL n l).map List.length := List.map_congr_left fun P _ => by simp
    rw [e]

def cfR (n : Int) (l : List (Int × Int)) : Int := if cutB n l = true then (prodN (lnN (pcL n.toNat l)) : Int) else 0
def CfE (n : Int) (l : List (Int × Int)) (w : World) (e : Ending) (w' : World) : Prop := e = .returned (.tuple #[.int .i64 (cfR n l), .bool (cutB n l)]) ∧ Below w.heap.size w w'
theorem cfE_no {n : Int} {l : List (Int × Int)} {w w' : World} (h : cutB n l = false) (hb : Below w.heap.size w w') : CfE n l w (.returned (.tuple #[.int .i64 0, .bool false])) w' := by
  unfold CfE cfR
  rw [h]
  exact ⟨rfl, hb⟩
theorem cfE_yes {n : Nat} {l : List (Int × Int)} {w w' : World} {v : Nat} (h : cutB (n : Int) l = true) (h2 : prodN (lnN (pcL n l)) = v) (hb : Below w.heap.size w w') : CfE (n : Int) l w (.returned (.tuple #[.int .i64 (v : Int), .bool true])) w' := by
  unfold CfE cfR
  rw [h, Int.toNat_natCast, h2]
  exact ⟨rfl, hb⟩
theorem cf_run {p q : Nat} (hp : p ≤ 1048576) (hq : q ≤ 16796) : wrap64 ((p : Int) * (q : Int)) = ((p * q : Nat) : Int) := by
  have h := Nat.mul_le_mul hp hq
  rw [← Int.natCast_mul]
  exact wrap_ok ((p * q : Nat) : Int) (by omega)

set_option maxHeartbeats 1600000 in
theorem spec_cuChooseF (n k : Nat) (w : World) (hn : n ≤ 20) (hk : k ≤ n) :
    Calls Try.prog 63 #[.int .i64 n, .int .i64 k] w fun e w' => e = .returned (.int .i64 (chI n k)) ∧ w = w' := by
  go_enter Try.func63, Try.ntmps63
  go_wp2
  go_loop [5, 6] (fun o i => ∃ t : Nat, t ≤ k ∧ i = .int .i64 t ∧ o = .int .i64 (chI n t)) (fun _ i => k - (intOf i).toNat)
  case atStart => exact ⟨0, Nat.zero_le _, rfl, rfl⟩
  case round =>
    obtain ⟨t, ht, rfl, rfl⟩ := hrel
    by_cases hlt : t < k
    · have hb := chI_le (n := n) (i := t) hn (by omega)
      have hm := mul_bd hb (show n - t ≤ 20 by omega)
      have hfin := step_div (p := chI n t) (s := n - t) (d := t + 1) (r := chI n (t + 1)) (by omega) rfl (a := (n : Int) - (t : Int)) (e := (t : Int) + 1) (by omega) (by omega)
      have Hfin := Lib.hid hfin
      generalize ((chI n t : Nat) : Int) = p at *
      clear hb hm hfin
      go_wp2
      go_round
      case rel => exact ⟨t + 1, by omega, by go_num, by rw [Hfin.out]⟩
      case measure => simp [intOf]; omega
    · obtain rfl : t = k := by omega
      go_wp2
      go_ret
      exact ⟨rfl, rfl⟩
theorem cat_run {k : Nat} (hk : k ≤ 10) : wrap64 (((chI (2 * k) k : Nat) : Int) / ((k : Int) + 1)) = ((cntT (k + 2) : Nat) : Int) := by
  have h := cntT_run (n := k + 2) (by omega) (by omega)
  rw [show 2 * (k + 2) - 4 = 2 * k by omega, show k + 2 - 2 = k by omega] at h
  have e : ((k + 2 : Nat) : Int) - 1 = (k : Int) + 1 := by omega
  rw [e, Int.tdiv_eq_ediv_of_nonneg (by omega)] at h
  exact h

set_option maxRecDepth 100000 in
set_option maxHeartbeats 3200000 in
theorem spec_CountFiner (n : Int) (A : Option Addr) (c B : Nat) (l : List (Int × Int)) (w : World) (h : SlD w B A l) (hB : B ≤ w.heap.size) (hl : l.length ≤ 1048576) (hlc : l.length ≤ c) :
    Calls Try.prog 33 #[.int .i64 n, .slice A l.length c] w (CfE n l w) := by
  have HG := Lib.hid (spec_cuGood n A c B l w h hB hl hlc)
  cases hc : cutB n l
  · rw [hc] at HG
    have HE := Lib.hid fun w' (hb : Below w.heap.size w w') => cfE_no hc hb
    clear h hc
    go_enter Try.func33, Try.ntmps33
    go_wp2_with fail
    refine HG.out.mono ?_
    rintro e w1 ⟨rfl, hb1⟩
    have HF := Lib.hid (HE.out _ hb1)
    go_wp2
    go_ret2
    exact HF.out
  · rw [hc] at HG
    obtain ⟨h3, h12, h9⟩ := cutB_len hc
    obtain ⟨m, rfl⟩ := Int.eq_ofNat_of_zero_le (show 0 ≤ n by omega)
    have HP := Lib.hid fun w1 (hb : Below w.heap.size w w1) => spec_cuPieces m A c B l.length l w1 (by omega) (by omega) rfl (by omega) (cut_nc hc).2.2.2.2.1 (h.below (hb.mono hB)) (Nat.le_trans hB hb.size)
    have hf := pcL_facts hc
    obtain ⟨c1, c2, c3⟩ := cut_lens hc
    have HE := Lib.hid fun w' v h2 (hb : Below w.heap.size w w') => cfE_yes (v := v) hc h2 hb
    have Hbd := Lib.hid fun k => prodN_le c3 c1 (by omega) k
    have Hc3 := Lib.hid c3
    obtain ⟨K, hK⟩ : ∃ K, (pcL m l).length = K := ⟨_, rfl⟩
    have hK10 : K ≤ 10 := by rw [← hK, hf.1]; omega
    have HK := Lib.hid hK
    unfold GivSS at HP
    rw [hK] at HP
    generalize pcL m l = T at *
    clear h hc hf hK c1 c2 c3
    go_enter Try.func33, Try.ntmps33
    go_wp2_with fail
    refine HG.out.mono ?_
    rintro e w1 ⟨rfl, hb1⟩
    go_wp2_with fail
    refine (HP.out _ hb1).mono ?_
    rintro e w2 ⟨A1, c1, rfl, hs1, hb2⟩
    have S1 := Lib.hid hs1.to
    have B1 := Lib.hid (below_kept hb1 (Nat.le_refl _) hb2)
    clear hs1 hb1 hb2
    go_wp2
    go_loop [6, 8, 9, 18] (fun ov _ _ iv => ∃ k : Nat, k ≤ K ∧ iv = .int .i64 k ∧ ov = .int .i64 (prodN ((lnN T).take k))) (fun _ _ _ iv => K - (intOf iv).toNat)
    case atStart => exact ⟨0, Nat.zero_le _, rfl, rfl⟩
    case round =>
      obtain ⟨k, hk, rfl, rfl⟩ := hrel
      by_cases hlt : k < K
      · obtain ⟨g, off, rfl, hgB, hcg⟩ := S1.out (by rw [HK.out]; omega)
        obtain ⟨Aj, cj, y0, _⟩ := hcg k (by rw [HK.out]; exact hlt)
        have k1 : (k : Int) < (K : Int) := by omega
        have hkl : k < (lnN T).length := by unfold lnN; rw [List.length_map, HK.out]; exact hlt
        have hnx := prodN_take (lnN T) k hkl
        have hm := Hc3.out _ (List.getElem_mem hkl)
        have he : (lnN T)[k] = (rowOf T k).length := by simp [lnN, rowOf, show k < T.length by rw [HK.out]; exact hlt]
        rw [he] at hnx hm
        obtain ⟨q, hq⟩ : ∃ q, (rowOf T k).length = q + 2 := ⟨(rowOf T k).length - 2, by omega⟩
        rw [hq] at y0 hnx hm
        have hb2 := cntT_bd (n := q + 2) (by omega)
        have hrun := cf_run (Hbd.out k) hb2
        have Hcall := Lib.hid fun w => spec_cuChooseF (2 * q) q w (by omega) (by omega)
        have hcat := cat_run (k := q) (by omega)
        have e2 : ((2 * q : Nat) : Int) = 2 * (q : Int) := by omega
        rw [e2] at Hcall
        have q1 : (q : Int) ≤ 10 := by omega
        have Hnx := Lib.hid hnx
        have hpb := Hbd.out k
        have Hcat := Lib.hid hcat
        have Hrun := Lib.hid hrun
        clear hcg he hq hnx hcat hrun e2
        generalize prodN ((lnN T).take k) = p at *
        generalize chI (2 * q) q = z at *
        generalize cntT (q + 2) = t at *
        go_wp2_with fail
        refine (Hcall.out _).mono ?_
        rintro e w3 ⟨rfl, rfl⟩
        go_wp2
        go_round
        case rel => exact ⟨k + 1, by omega, by go_num, by
          show Value.int .i64 (wrap64 ((p : Int) * wrap64 ((z : Int) / ((q : Int) + 1)))) = _
          rw [Hcat.out, Hrun.out, Hnx.out]⟩
        case measure => simp [intOf]; omega
      · obtain rfl : k = K := by omega
        have ht : (lnN T).take k = lnN T := List.take_of_length_le (by unfold lnN; rw [List.length_map, HK.out]; exact Nat.le_refl _)
        rw [ht]
        have HF := Lib.hid (HE.out w2 _ rfl B1.out)
        clear ht
        generalize prodN (lnN T) = v at *
        go_wp2
        go_ret2
        exact HF.out

set_option maxRecDepth 100000 in
set_option maxHeartbeats 3200000 in
theorem impl_CountFiner (n : Int) (A : Option Addr) (c B : Nat) (l : List (Int × Int)) (w : World) (h : SlD w B A l) (hB : B ≤ w.heap.size) (hl : l.length ≤ 1048576) (hlc : l.length ≤ c) :
    Calls Try.prog 34 #[.int .i64 n, .slice A l.length c] w (CfE n l w) := by
  have HP := Lib.hid (impl_SizesOfCut n A c B l w h hB hl hlc)
  unfold RetI at HP
  cases hc : cutB n l
  · rw [hc, szR_no hc] at HP
    have HE := Lib.hid fun w' (hb : Below w.heap.size w w') => cfE_no hc hb
    clear h hc
    go_enter Try.func34, Try.ntmps34
    go_wp2_with fail
    refine HP.out.mono ?_
    rintro e w1 ⟨A1, c1, rfl, _, hb1⟩
    have HF := Lib.hid (HE.out _ hb1)
    go_wp2
    go_ret2
    exact HF.out
  · obtain ⟨h3, h12, h9⟩ := cutB_len hc
    obtain ⟨m, rfl⟩ := Int.eq_ofNat_of_zero_le (show 0 ≤ n by omega)
    obtain ⟨c1, c2, c3⟩ := cut_lens hc
    have HE := Lib.hid fun w' v h2 (hb : Below w.heap.size w w') => cfE_yes (v := v) hc h2 hb
    obtain ⟨L, hL, hp⟩ := sz_nat hc
    rw [hc, szR_yes hc, hL] at HP
    have d1 : L.sum = (m - 2) + 2 * L.length := by rw [hp.sum_nat, hp.length_eq]; exact c1
    have d3 : ∀ a ∈ L, 3 ≤ a ∧ a ≤ 12 := fun a ha => c3 a (hp.mem_iff.1 ha)
    have Hbd := Lib.hid fun k => prodN_le d3 d1 (by omega) k
    have Hd3 := Lib.hid d3
    have Hpp := Lib.hid (prodN_perm hp)
    obtain ⟨K, hK⟩ : ∃ K, (L.map fun (a : Nat) => (a : Int)).length = K := ⟨_, rfl⟩
    have hK10 : K ≤ 10 := by rw [← hK, List.length_map, hp.length_eq, c2]; omega
    have HK := Lib.hid hK
    rw [hK] at HP
    clear h hc hL hp hK c1 c2 c3 d1 d3
    go_enter Try.func34, Try.ntmps34
    go_wp2_with fail
    refine HP.out.mono ?_
    rintro e w1 ⟨A1, c1, rfl, o1, hb1⟩
    have S1 := Lib.hid (show SlI w1 w1.heap.size A1 (L.map fun (a : Nat) => (a : Int)) from by have := o1; rw [← HK.out] at this; exact SlI.of_own this)
    have B1 := Lib.hid hb1
    clear o1 hb1
    go_wp2
    go_loop [8, 10, 21] (fun ov _ iv => ∃ k : Nat, k ≤ K ∧ iv = .int .i64 k ∧ ov = .int .i64 (prodN (L.take k))) (fun _ _ iv => K - (intOf iv).toNat)
    case atStart => exact ⟨0, Nat.zero_le _, rfl, rfl⟩
    case round =>
      obtain ⟨k, hk, rfl, rfl⟩ := hrel
      by_cases hlt : k < K
      · obtain ⟨g, off, rfl, hgB, hcg⟩ := S1.out (by rw [HK.out]; omega)
        have y0 := hcg k (by rw [HK.out]; exact hlt)
        have k1 : (k : Int) < (K : Int) := by omega
        have hkl : k < L.length := by have := HK.out; rw [List.length_map] at this; omega
        have hnx := prodN_take L k hkl
        have hm := Hd3.out _ (List.getElem_mem hkl)
        have he : (L.map fun (a : Nat) => (a : Int)).getD k 0 = (L[k] : Int) := by simp [hkl]
        rw [he] at y0
        obtain ⟨q, hq⟩ : ∃ q, L[k] = q := ⟨_, rfl⟩
        rw [hq] at y0 hnx hm
        have hb2 := cntT_bd (n := q) (by omega)
        have hrun := cf_run (Hbd.out k) hb2
        have Hcall := Lib.hid fun w => impl_countTriangulations q w (by omega) (by omega)
        have Hnx := Lib.hid hnx
        have hpb := Hbd.out k
        have Hrun := Lib.hid hrun
        clear hcg he hq hnx hrun
        generalize prodN (L.take k) = p at *
        generalize cntT q = t at *
        go_wp2_with fail
        refine (Hcall.out _).mono ?_
        rintro e w3 ⟨rfl, rfl⟩
        go_wp2
        go_round
        case rel => exact ⟨k + 1, by omega, by go_num, by
          show Value.int .i64 (wrap64 ((p : Int) * (t : Int))) = _
          rw [Hrun.out, Hnx.out]⟩
        case measure => simp [intOf]; omega
      · obtain rfl : k = K := by omega
        have ht : L.take k = L := List.take_of_length_le (by have := HK.out; rw [List.length_map] at this; omega)
        rw [ht]
        have HF := Lib.hid (HE.out w1 _ Hpp.out.symm B1.out)
        clear ht
        generalize prodN L = v at *
        go_wp2
        go_ret2
        exact HF.out


end Go.Proofs.Ytlnnnjnboknoeaa

/- FirstEqualCutW: FirstEqualCut: the model's and the program's contract, and the law's walk. -/
namespace Go.Proofs.Ytlnnnjnboknoeaa
open Go.RowKit

theorem find_hit {α : Type} {l : List α} {p : α → Bool} {k : Nat} (hk : k < l.length) (hno : ∀ j (hj : j < k), p (l[j]'(by omega)) = false) (h : p l[k] = true) : l.find? p = some l[k] := by
  have e : l = l.take k ++ l[k] :: l.drop (k + 1) := by rw [← List.drop_eq_getElem_cons hk, List.take_append_drop]
  conv => lhs; rw [e]
  have hn : (l.take k).find? p = none := by
    rw [List.find?_eq_none]
    intro x hx
    obtain ⟨j, hj, rfl⟩ := List.mem_take_iff_getElem.1 hx
    rw [hno j (by omega)]
    simp
  rw [List.find?_append, hn, List.find?_cons, h]
  rfl
theorem find_miss {α : Type} {l : List α} {p : α → Bool} (hno : ∀ j (hj : j < l.length), p l[j] = false) : l.find? p = none := by
  rw [List.find?_eq_none]
  intro x hx
  obtain ⟨j, hj, rfl⟩ := List.getElem_of_mem hx
  rw [hno j hj]
  simp
theorem cutA_cut : ∀ n : Fin 9, ∀ k : Fin 6, 3 ≤ (n : Nat) → (k : Nat) + 3 ≤ n → ∀ r ∈ cutA n k, r.length = k ∧ cutB (n : Nat) r = true := by decide +kernel
/-- of the rows that AllCuts tells -/
theorem acR_cut {n k : Int} {r : List (Int × Int)} (h : r ∈ acR n k) : ∃ m j : Nat, n = m ∧ k = j ∧ r.length = j ∧ cutB (m : Int) r = true := by
  cases hK : acK n k
  · rw [acR_no hK] at h; simp at h
  · obtain ⟨m, j, rfl, rfl, h3, h8, hj⟩ := acK_nat hK
    rw [acR_yes hK] at h
    have := cutA_cut ⟨m, by omega⟩ ⟨j, by omega⟩ h3 hj r h
    exact ⟨m, j, rfl, rfl, this.1, this.2⟩
/-- the first one whose pieces all have a size -/
def fstE (n : Nat) (T : List (List (Int × Int))) (s : Int) : Option (List (Int × Int)) := T.find? fun r => eqS (pcL n r) s
def feT (a b : Nat) : List (List (Int × Int)) := acR ((a + 2 : Nat) : Int) (((a / b : Nat) : Int) - 1)
theorem lens_all {T : List (List Int)} {s : Int} (h : eqS T s = true) : ((lnN T).sum : Int) = (T.length : Int) * s := by
  rw [eqS_iff] at h
  induction T with
  | nil => simp [lnN]
  | cons P T ih =>
    have h1 := h P (by simp)
    have h2 := ih (fun Q hQ => h Q (List.mem_cons_of_mem _ hQ))
    unfold lnN at h2 ⊢
    rw [List.map_cons, List.sum_cons, List.length_cons, Int.natCast_add, h2, h1, Int.natCast_add, Int.add_mul]
    omega
/-- pieces of one size share the polygon evenly -/
theorem fe_none {a b : Nat} (hb : 1 ≤ b) (h : a % b ≠ 0) : fstE (a + 2) (feT a b) ((b : Int) + 2) = none := by
  unfold fstE feT
  rw [List.find?_eq_none]
  intro r hr
  obtain ⟨m, j, e1, e2, hl, hc⟩ := acR_cut hr
  have em : m = a + 2 := by omega
  subst em
  intro he
  have h1 := lens_all he
  obtain ⟨c1, c2, c3⟩ := cut_lens hc
  have c4 : (pcL (a + 2) r).length = r.length + 1 := (pcL_facts hc).1
  rw [c2] at c1
  rw [c1, c4] at h1
  have h2 : ((a : Int)) = ((r.length + 1 : Nat) : Int) * (b : Int) := by
    have e : a + 2 - 2 = a := by omega
    rw [e] at h1
    rw [Int.mul_add] at h1
    omega
  rw [← Int.natCast_mul] at h2
  have h3 : a = (r.length + 1) * b := by omega
  apply h
  rw [h3]
  exact Nat.mul_mod_left _ _
theorem feT_small {a b : Nat} (h : a < b) : feT a b = [] := by
  unfold feT
  rw [Nat.div_eq_of_lt h]
  refine acR_no ?_
  unfold acK
  have e : inB ((0 : Nat) : Int) 0 1 = true := rfl
  have e2 : inB (((0 : Nat) : Int) - 1) 0 (((a + 2 : Nat) : Int) - 3) = false := by
    unfold inB
    rw [decide_eq_false_iff_not]
    omega
  rw [e2]
  simp
def feO (n s : Int) : Option (List (Int × Int)) := if (inB n 3 8 && decide (3 ≤ s)) = true then fstE n.toNat (feT (n.toNat - 2) (s.toNat - 2)) s else none
theorem feO_no1 {n s : Int} (h : inB n 3 8 = false) : feO n s = none := by unfold feO; rw [h]; rfl
theorem feO_no2 {n s : Int} (h : ¬ 3 ≤ s) : feO n s = none := by unfold feO; rw [decide_eq_false h]; simp
theorem feO_yes {a b : Nat} (h1 : inB ((a + 2 : Nat) : Int) 3 8 = true) (h2 : 3 ≤ ((b + 2 : Nat) : Int)) : feO ((a + 2 : Nat) : Int) ((b + 2 : Nat) : Int) = fstE (a + 2) (feT a b) ((b : Int) + 2) := by
  unfold feO
  rw [h1, decide_eq_true h2, Int.toNat_natCast, Int.toNat_natCast, Nat.add_sub_cancel, Nat.add_sub_cancel]
  rfl
def FeE (O : Option (List (Int × Int))) (w : World) (e : Ending) (w' : World) : Prop := RetD w (O.getD []) O.isSome e w'
theorem feE_no {O : Option (List (Int × Int))} {w w' : World} (h : O = none) (hb : Below w.heap.size w w') : FeE O w (.returned (.tuple #[.slice none 0 0, .bool false])) w' := by
  subst h
  exact ⟨none, 0, rfl, World.ownsRow_nil _ _ _ _, hb⟩
theorem feO_length (n s : Int) : ((feO n s).getD []).length ≤ 1000000000 := by
  cases h : feO n s with
  | none => simp
  | some r =>
    rw [Option.getD_some]
    unfold feO at h
    split at h
    · unfold fstE feT at h
      have := List.mem_of_find?_eq_some h
      obtain ⟨m, j, e1, e2, hl, hc⟩ := acR_cut this
      have := cutB_len hc
      omega
    · cases h

set_option maxRecDepth 100000 in
set_option maxHeartbeats 3200000 in
theorem impl_FirstEqualCut (n s : Int) (w : World) (ws : s ≤ 9223372036854775807) : Calls Try.prog 48 #[.int .i64 n, .int .i64 s] w (FeE (feO n s) w) := by
  by_cases hs : 3 ≤ s
  · cases hi : inB n 3 8
    · have HE := Lib.hid fun w' (hb : Below w.heap.size w w') => feE_no (feO_no1 (s := s) hi) hb
      have HA := Lib.hid fun k w => impl_AllCuts n k w
      have hK : ∀ k, acK n k = false := fun k => by unfold acK; rw [hi]; rfl
      have HA2 : Hid (∀ k w, Calls Try.prog 83 #[.int .i64 n, .int .i64 k] w fun e w' => ∃ A c, e = .returned (.tuple #[.slice A 0 c, .bool false]) ∧ Below w.heap.size w w') := Lib.hid (fun k w => by
        refine (HA.out k w).mono ?_
        rintro e w' ⟨A, c, rs, rfl, _, hb⟩
        rw [acR_no (hK k), hK k]
        exact ⟨A, c, rfl, hb⟩)
      have s2 : ¬ s - 2 = 0 := by omega
      clear hi HA hK
      go_enter Try.func48, Try.ntmps48
      go_wp2_with fail
      refine (impl_isSize s true _ (decide_eq_true hs)).mono ?_
      rintro e w1 ⟨rfl, rfl⟩
      go_wp2_with fail
      refine (HA2.out _ _).mono ?_
      rintro e w1 ⟨A1, c1, rfl, hb1⟩
      have HF := Lib.hid (HE.out _ hb1)
      go_wp2
      refine wp_loop_rounds 1 ?_
      rw [rounds_succ]
      go_wp2
      go_ret2
      exact HF.out
    · have hn := inB_iff.1 hi
      obtain ⟨a, rfl⟩ : ∃ a : Nat, n = ((a + 2 : Nat) : Int) := ⟨(n - 2).toNat, by omega⟩
      obtain ⟨b, rfl⟩ : ∃ b : Nat, s = ((b + 2 : Nat) : Int) := ⟨(s - 2).toNat, by omega⟩
      have hO := feO_yes hi hs
      obtain ⟨T, hT⟩ : ∃ T, feT a b = T := ⟨_, rfl⟩
      rw [hT] at hO
      have HA := Lib.hid fun w => impl_AllCuts ((a + 2 : Nat) : Int) (((a / b : Nat) : Int) - 1) w
      have HA2 : Hid (∀ w, Calls Try.prog 83 #[.int .i64 ((a : Int) + 2), .int .i64 (((a / b : Nat) : Int) - 1)] w fun e w' => ∃ A c rs ok, e = .returned (.tuple #[.slice A T.length c, .bool ok]) ∧ OwnDD w' w.heap.size A c rs T ∧ Below w.heap.size w w') := Lib.hid (fun w => by
        have h1 := HA.out w
        rw [show ((a + 2 : Nat) : Int) = (a : Int) + 2 by omega] at h1
        refine h1.mono ?_
        rintro e w' ⟨A, c, rs, rfl, ho, hb⟩
        rw [← hT]
        unfold feT
        rw [show ((a + 2 : Nat) : Int) = (a : Int) + 2 by omega]
        exact ⟨A, c, rs, _, rfl, ho, hb⟩)
      have hTl : T.length ≤ 400 := by rw [← hT]; exact acR_len _ _
      have hTc : ∀ r ∈ T, cutB ((a + 2 : Nat) : Int) r = true := fun r hr => by
        rw [← hT] at hr
        obtain ⟨m, j, e1, e2, hl, hc⟩ := acR_cut hr
        rw [e1]
        exact hc
      have HT := Lib.hid hTc
      have HO := Lib.hid hO
      have htd : (a : Int) / (b : Int) = ((a / b : Nat) : Int) := by rw [← Int.natCast_ediv]
      have htd2 : ((a : Int)).tdiv (b : Int) = ((a / b : Nat) : Int) := by rw [Int.tdiv_eq_ediv_of_nonneg (by omega), htd]
      have hq := Nat.div_le_self a b
      have a1 : (1 : Int) ≤ (a : Int) := by omega
      have a2 : (a : Int) ≤ 6 := by omega
      have b1 : (1 : Int) ≤ (b : Int) := by omega
      have b2 : (b : Int) ≤ 9223372036854775805 := by omega
      have HS := Lib.hid fun w => impl_isSize ((b + 2 : Nat) : Int) true w (decide_eq_true hs)
      have e1 : ((a + 2 : Nat) : Int) = (a : Int) + 2 := by omega
      have e2 : ((b + 2 : Nat) : Int) = (b : Int) + 2 := by omega
      rw [e2] at HS
      have HEq : Hid (∀ (A : Option Addr) (c : Nat) (l : List (Int × Int)) (w : World), SlD w w.heap.size A l → l.length ≤ 1048576 → l.length ≤ c → cutB ((a + 2 : Nat) : Int) l = true → Calls Try.prog 36 #[.int .i64 ((a + 2 : Nat) : Int), .slice A l.length c, .int .i64 ((b + 2 : Nat) : Int)] w fun e w' => e = .returned (.tuple #[.bool (eqS (pcL (a + 2) l) ((b : Int) + 2)), .bool true]) ∧ Below w.heap.size w w') := Lib.hid (fun A c l w h hl hlc hc => by
        refine (impl_IsEqualCut ((a + 2 : Nat) : Int) A c w.heap.size l ((b + 2 : Nat) : Int) w h (Nat.le_refl _) hl hlc).mono ?_
        rintro e w' ⟨he, hb⟩
        refine ⟨?_, hb⟩
        have hk : ieK ((a + 2 : Nat) : Int) l ((b + 2 : Nat) : Int) = true := by unfold ieK; rw [hc, decide_eq_true hs]; rfl
        rw [he]
        unfold ieR
        rw [hk, Int.toNat_natCast]
        rfl)
      rw [e1, e2] at HEq ⊢
      rw [e1, e2] at HO
      rw [e1] at HT
      generalize a / b = q at *
      clear hi hn hs hO hT HA hTc ws e1 e2
      go_enter Try.func48, Try.ntmps48
      go_wp2_with fail
      refine (HS.out _).mono ?_
      rintro e w1 ⟨rfl, rfl⟩
      go_wp2_with fail
      refine (HA2.out _).mono ?_
      rintro e w1 ⟨A1, c1, rs1, ok1, rfl, o1, hb1⟩
      have O1 := Lib.hid o1
      have B1 := Lib.hid hb1
      have Bsz : Hid (w.heap.size ≤ w.heap.size) := Lib.hid (Nat.le_refl _)
      clear o1 hb1
      go_wp2
      go_loopw [9, 10, 11, 28] (fun _ _ _ iv wr => ∃ k : Nat, k ≤ T.length ∧ iv = .int .i64 k ∧ (∀ j (hj : j < k) (hjT : j < T.length), eqS (pcL (a + 2) T[j]) ((b : Int) + 2) = false) ∧ Below w1.heap.size w1 wr) (fun _ _ _ iv _ => T.length - (intOf iv).toNat)
      case atStart => exact ⟨0, Nat.zero_le _, rfl, fun j hj _ => by omega, Below.refl _ _⟩
      case round =>
        obtain ⟨k, hk, rfl, hno, hb⟩ := hrel
        have Hno := Lib.hid hno
        clear hno
        by_cases hlt : k < T.length
        · have oK := O1.out.kept hb
          obtain ⟨g, rfl, _, _, hcg⟩ := oK.outer (by omega)
          have y0 := hcg k hlt
          have hrow := oK.2.2.1 k hlt
          obtain ⟨Aj, cj, ej⟩ := own_form hrow
          rw [ej] at y0 hrow
          have hrk : rowD T k = T[k] := by simp [rowD, hlt]
          have hcut := HT.out _ (List.getElem_mem hlt)
          have hl9 := cutB_len hcut
          rw [hrk] at y0 hrow
          have hcp := own_cap hrow
          have HEk := Lib.hid (HEq.out Aj cj T[k] wr (SlD.of_own hrow) (by omega) hcp hcut)
          have Hrow := Lib.hid hrow
          have Hb := Lib.hid hb
          have k1 : (k : Int) < (T.length : Int) := by omega
          have HTk := Lib.hid fun h => find_hit (l := T) (p := fun r => eqS (pcL (a + 2) r) ((b : Int) + 2)) hlt (fun j hj => Hno.out j hj (by omega)) h
          have Hnx : Hid (eqS (pcL (a + 2) T[k]) ((b : Int) + 2) = false → ∀ j (hj : j < k + 1) (hjT : j < T.length), eqS (pcL (a + 2) T[j]) ((b : Int) + 2) = false) := Lib.hid (fun he j hj hjT => by
            by_cases e : j = k
            · subst e; exact he
            · exact Hno.out j (by omega) hjT)
          clear oK hcg hrow ej hcut hl9 hrk hcp hb
          generalize T[k] = r at *
          cases he : eqS (pcL (a + 2) r) ((b : Int) + 2)
          · have Hn2 := Lib.hid (Hnx.out he)
            rw [he] at HEk
            clear he Hnx HTk
            go_wp2_with fail
            refine HEk.out.mono ?_
            rintro e w5 ⟨rfl, hb5⟩
            have B5 := Lib.hid (below_kept Hb.out (Nat.le_refl _) hb5)
            clear hb5
            go_wp2
            go_roundw
            case rel => exact ⟨k + 1, by omega, by go_num, Hn2.out, B5.out⟩
            case measure => simp [intOf]; omega
          · have hff := HTk.out he
            have hfin : feO ((a : Int) + 2) ((b : Int) + 2) = some r := by rw [HO.out]; exact hff
            have Hfin := Lib.hid hfin
            rw [he] at HEk
            clear he Hnx HTk hff hfin
            go_wp2_with fail
            refine HEk.out.mono ?_
            rintro e w5 ⟨rfl, hb5⟩
            have HF : Hid (FeE (feO ((a : Int) + 2) ((b : Int) + 2)) w (.returned (.tuple #[.slice Aj r.length cj, .bool true])) w5) := Lib.hid (by
              rw [Hfin.out]
              exact ⟨Aj, cj, rfl, (own_kept Hrow.out hb5).mono Bsz.out, below_kept B1.out (Nat.le_refl _) (below_kept Hb.out (Nat.le_refl _) hb5)⟩)
            clear hb5
            go_wp2
            go_ret2
            exact HF.out
        · obtain rfl : k = T.length := by omega
          have hff := find_miss (l := T) (p := fun r => eqS (pcL (a + 2) r) ((b : Int) + 2)) (fun j hj => Hno.out j hj hj)
          have HF : Hid (FeE (feO ((a : Int) + 2) ((b : Int) + 2)) w (.returned (.tuple #[.slice none 0 0, .bool false])) wr) := Lib.hid (feE_no (by rw [HO.out]; exact hff) (below_kept B1.out (Nat.le_refl _) hb))
          clear hff
          go_wp2
          go_ret2
          exact HF.out
  · have HE := Lib.hid (feE_no (w := w) (feO_no2 (n := n) hs) (Below.refl _ _))
    go_enter Try.func48, Try.ntmps48
    go_wp2_with fail
    refine (impl_isSize s false _ (decide_eq_false (by omega))).mono ?_
    rintro e w1 ⟨rfl, rfl⟩
    go_wp2
    go_ret2
    exact HE.out

set_option maxRecDepth 100000 in
set_option maxHeartbeats 3200000 in
theorem spec_FirstEqualCut (n s : Int) (w : World) (ws : s ≤ 9223372036854775807) : Calls Try.prog 47 #[.int .i64 n, .int .i64 s] w (FeE (feO n s) w) := by
  have H1 := Lib.hid fun w => spec_l1In n 3 8 w
  cases hi : inB n 3 8
  · have HE := Lib.hid (feE_no (w := w) (feO_no1 (s := s) hi) (Below.refl _ _))
    rw [hi] at H1
    clear hi
    go_enter Try.func47, Try.ntmps47
    go_wp2_with fail
    refine (H1.out _).mono ?_
    rintro e w1 ⟨rfl, rfl⟩
    go_wp2
    go_ret2
    exact HE.out
  · rw [hi] at H1
    by_cases hs : 3 ≤ s
    · have hn := inB_iff.1 hi
      obtain ⟨a, rfl⟩ : ∃ a : Nat, n = ((a + 2 : Nat) : Int) := ⟨(n - 2).toNat, by omega⟩
      obtain ⟨b, rfl⟩ : ∃ b : Nat, s = ((b + 2 : Nat) : Int) := ⟨(s - 2).toNat, by omega⟩
      have hO := feO_yes hi hs
      have htm : ((a : Int)).tmod (b : Int) = ((a % b : Nat) : Int) := rfl
      have a1 : (1 : Int) ≤ (a : Int) := by omega
      have a2 : (a : Int) ≤ 6 := by omega
      have b1 : (1 : Int) ≤ (b : Int) := by omega
      have b2 : (b : Int) ≤ 9223372036854775805 := by omega
      have b6 : ¬ (b : Int) + 2 < 3 := by omega
      have e1 : ((a + 2 : Nat) : Int) = (a : Int) + 2 := by omega
      have e2 : ((b + 2 : Nat) : Int) = (b : Int) + 2 := by omega
      by_cases hab : a < b
      · have hb5 : (a : Int) < (b : Int) := by omega
        have HE := Lib.hid (feE_no (w := w) (hO.trans (by rw [feT_small hab]; rfl)) (Below.refl _ _))
        rw [e1] at H1
        rw [e1, e2] at HE ⊢
        clear hi hn hs hO ws e1 e2
        go_enter Try.func47, Try.ntmps47
        go_wp2_with fail
        refine (H1.out _).mono ?_
        rintro e w1 ⟨rfl, rfl⟩
        go_wp2
        go_ret2
        exact HE.out
      · have hb5 : (b : Int) ≤ (a : Int) := by omega
        by_cases hm : a % b = 0
        · obtain ⟨T, hT⟩ : ∃ T, feT a b = T := ⟨_, rfl⟩
          have hq1 : 1 ≤ a / b := Nat.div_pos (by omega) (by omega)
          have hqa := Nat.div_le_self a b
          have hK : acK ((a + 2 : Nat) : Int) (((a / b : Nat) : Int) - 1) = true := by
            unfold acK
            rw [hi, inB_iff.2 (show (0 : Int) ≤ ((a / b : Nat) : Int) - 1 ∧ ((a / b : Nat) : Int) - 1 ≤ ((a + 2 : Nat) : Int) - 3 by omega)]
            rfl
          have hTT : T = cutA (a + 2) (a / b - 1) := by
            rw [← hT]
            unfold feT
            have e : ((a / b : Nat) : Int) - 1 = ((a / b - 1 : Nat) : Int) := by omega
            rw [e] at hK ⊢
            exact acR_yes hK
          rw [hT] at hO
          have HA := Lib.hid fun w => spec_cuAll (a + 2) (a / b - 1) w (by omega) (by omega) (by omega)
          rw [← hTT, show ((a / b - 1 : Nat) : Int) = ((a / b : Nat) : Int) - 1 by omega] at HA
          unfold GivDD at HA
          have hTc : ∀ r ∈ T, cutB ((a + 2 : Nat) : Int) r = true := fun r hr => by
            rw [← hT] at hr
            obtain ⟨m, j, e1, e2, hl, hc⟩ := acR_cut hr
            rw [e1]
            exact hc
          have hTl : T.length ≤ 400 := by rw [← hT]; exact acR_len _ _
          have HT := Lib.hid hTc
          have HO := Lib.hid hO
          have htd : (a : Int) / (b : Int) = ((a / b : Nat) : Int) := by rw [← Int.natCast_ediv]
          have htd2 : ((a : Int)).tdiv (b : Int) = ((a / b : Nat) : Int) := by rw [Int.tdiv_eq_ediv_of_nonneg (by omega), htd]
          have HEq : Hid (∀ (A : Option Addr) (c : Nat) (l : List (Int × Int)) (w : World), SlD w w.heap.size A l → l.length ≤ 1048576 → l.length ≤ c → cutB ((a + 2 : Nat) : Int) l = true → Calls Try.prog 65 #[.int .i64 ((a + 2 : Nat) : Int), .slice A l.length c, .int .i64 ((b + 2 : Nat) : Int)] w fun e w' => e = .returned (.bool (eqS (pcL (a + 2) l) ((b : Int) + 2))) ∧ Below w.heap.size w w') := Lib.hid (fun A c l w h hl hlc hc => by
            refine (spec_cuEqual (a + 2) A c w.heap.size l.length l ((b + 2 : Nat) : Int) w rfl h (Nat.le_refl _) hc).mono ?_
            rintro e w' ⟨he, hb⟩
            exact ⟨he, hb⟩)
          rw [hm] at htm
          rw [e1] at H1 HA
          rw [e1, e2] at HEq ⊢
          rw [e1, e2] at HO
          rw [e1] at HT
          generalize a / b = q at *
          clear hi hn hs hO hT hTT hTc ws e1 e2 hK hab hm
          go_enter Try.func47, Try.ntmps47
          go_wp2_with fail
          refine (H1.out _).mono ?_
          rintro e w1 ⟨rfl, rfl⟩
          go_wp2_with fail
          refine (HA.out _).mono ?_
          rintro e w1 ⟨A1, c1, rs1, rfl, o1, hb1⟩
          have O1 := Lib.hid o1
          have B1 := Lib.hid hb1
          have Bsz : Hid (w.heap.size ≤ w.heap.size) := Lib.hid (Nat.le_refl _)
          clear o1 hb1
          go_wp2
          go_loopw [7, 37] (fun _ iv wr => ∃ k : Nat, k ≤ T.length ∧ iv = .int .i64 k ∧ (∀ j (hj : j < k) (hjT : j < T.length), eqS (pcL (a + 2) T[j]) ((b : Int) + 2) = false) ∧ Below w1.heap.size w1 wr) (fun _ iv _ => T.length - (intOf iv).toNat)
          case atStart => exact ⟨0, Nat.zero_le _, rfl, fun j hj _ => by omega, Below.refl _ _⟩
          case round =>
            obtain ⟨k, hk, rfl, hno, hb⟩ := hrel
            have Hno := Lib.hid hno
            clear hno
            by_cases hlt : k < T.length
            · have oK := O1.out.kept hb
              obtain ⟨g, rfl, _, _, hcg⟩ := oK.outer (by omega)
              have y0 := hcg k hlt
              have hrow := oK.2.2.1 k hlt
              obtain ⟨Aj, cj, ej⟩ := own_form hrow
              rw [ej] at y0 hrow
              have hrk : rowD T k = T[k] := by simp [rowD, hlt]
              have hcut := HT.out _ (List.getElem_mem hlt)
              have hl9 := cutB_len hcut
              rw [hrk] at y0 hrow
              have hcp := own_cap hrow
              have HEk := Lib.hid (HEq.out Aj cj T[k] wr (SlD.of_own hrow) (by omega) hcp hcut)
              have Hrow := Lib.hid hrow
              have Hb := Lib.hid hb
              have k1 : (k : Int) < (T.length : Int) := by omega
              have HTk := Lib.hid fun h => find_hit (l := T) (p := fun r => eqS (pcL (a + 2) r) ((b : Int) + 2)) hlt (fun j hj => Hno.out j hj (by omega)) h
              have Hnx : Hid (eqS (pcL (a + 2) T[k]) ((b : Int) + 2) = false → ∀ j (hj : j < k + 1) (hjT : j < T.length), eqS (pcL (a + 2) T[j]) ((b : Int) + 2) = false) := Lib.hid (fun he j hj hjT => by
                by_cases e : j = k
                · subst e; exact he
                · exact Hno.out j (by omega) hjT)
              clear oK hcg hrow ej hcut hl9 hrk hcp hb
              generalize T[k] = r at *
              cases he : eqS (pcL (a + 2) r) ((b : Int) + 2)
              · have Hn2 := Lib.hid (Hnx.out he)
                rw [he] at HEk
                clear he Hnx HTk
                go_wp2_with fail
                refine HEk.out.mono ?_
                rintro e w5 ⟨rfl, hb5⟩
                have B5 := Lib.hid (below_kept Hb.out (Nat.le_refl _) hb5)
                clear hb5
                go_wp2
                go_roundw
                case rel => exact ⟨k + 1, by omega, by go_num, Hn2.out, B5.out⟩
                case measure => simp [intOf]; omega
              · have hff := HTk.out he
                have hfin : feO ((a : Int) + 2) ((b : Int) + 2) = some r := by rw [HO.out]; exact hff
                have Hfin := Lib.hid hfin
                rw [he] at HEk
                clear he Hnx HTk hff hfin
                go_wp2_with fail
                refine HEk.out.mono ?_
                rintro e w5 ⟨rfl, hb5⟩
                have HF : Hid (FeE (feO ((a : Int) + 2) ((b : Int) + 2)) w (.returned (.tuple #[.slice Aj r.length cj, .bool true])) w5) := Lib.hid (by
                  rw [Hfin.out]
                  exact ⟨Aj, cj, rfl, (own_kept Hrow.out hb5).mono Bsz.out, below_kept B1.out (Nat.le_refl _) (below_kept Hb.out (Nat.le_refl _) hb5)⟩)
                clear hb5
                go_wp2
                go_ret2
                exact HF.out
            · obtain rfl : k = T.length := by omega
              have hff := find_miss (l := T) (p := fun r => eqS (pcL (a + 2) r) ((b : Int) + 2)) (fun j hj => Hno.out j hj hj)
              have HF : Hid (FeE (feO ((a : Int) + 2) ((b : Int) + 2)) w (.returned (.tuple #[.slice none 0 0, .bool false])) wr) := Lib.hid (feE_no (by rw [HO.out]; exact hff) (below_kept B1.out (Nat.le_refl _) hb))
              clear hff
              go_wp2
              go_ret2
              exact HF.out
        · have hO2 := hO.trans (fe_none (by omega) hm)
          have HE := Lib.hid (feE_no (w := w) hO2 (Below.refl _ _))
          have hm1 : ((a % b : Nat) : Int) ≠ 0 := by omega
          rw [e1] at H1
          rw [e1, e2] at HE ⊢
          generalize a % b = r at *
          have hm2 : ((r : Int) != 0) = true := by simpa using hm1
          clear hi hn hs hO hO2 ws e1 e2
          go_enter Try.func47, Try.ntmps47
          go_wp2_with fail
          refine (H1.out _).mono ?_
          rintro e w1 ⟨rfl, rfl⟩
          go_wp2
          go_ret2
          exact HE.out
    · have HE := Lib.hid (feE_no (w := w) (feO_no2 (n := n) hs) (Below.refl _ _))
      have hs3 : s < 3 := by omega
      clear hi
      go_enter Try.func47, Try.ntmps47
      go_wp2_with fail
      refine (H1.out _).mono ?_
      rintro e w1 ⟨rfl, rfl⟩
      go_wp2
      go_ret2
      exact HE.out
theorem WFirstEqualCut.walk (w : World) (n : Int) (wn : (Lit.int .i64 n).wf = true) (s : Int) (ws : (Lit.int .i64 s).wf = true) :
    Calls Try.prog 13 #[.int .i64 n, .int .i64 s] w fun e w' => e = .returned (.bool true) ∧ Below w.heap.size w w' :=
  WFirstEqualCut.core w n s ((feO n s).getD []) (feO n s).isSome (feO_length n s) (Lib.hid fun w => spec_FirstEqualCut n s w (bounds_i64 ws).2) (Lib.hid fun w => impl_FirstEqualCut n s w (bounds_i64 ws).2)
end Go.Proofs.Ytlnnnjnboknoeaa
