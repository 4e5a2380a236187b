/- The model's test of triangulations: poLess, poGood, IsTriangulation. -/
import Derived.Test.YtbpaaoeefcebeabTriJ
import Derived.Test.YtbpaaoeefcebeabLess
namespace Go.Proofs.Ytbpaaoeefcebeab
set_option linter.unusedVariables false
open Go.RowKit

theorem cross_all {d : Int × Int} {l : List (Int × Int)} {k : Nat} (j : Nat) (hj : j < k) (hk : k < l.length) (h : crB d.1 d.2 (l.getD j (0, 0)).1 (l.getD j (0, 0)).2 = true) : anyCross d (l.take k) = true := by
  have e : (l.take k).getD j (0, 0) = l.getD j (0, 0) := by simp [hj]
  rw [← e] at h
  exact anyCross_hit d (l.take k) j (by simp; omega) h

set_option maxHeartbeats 3200000 in
theorem spec_poGood_loop (n : Int) (A : Option Addr) (c B : Nat) (l : List (Int × Int)) (w : World) (h : SlD w B A l) (hB : B ≤ w.heap.size) (hl : l.length ≤ 1048576) (hlc : l.length ≤ c)
    (h1 : 3 ≤ n) (h2 : n ≤ 12) (h3 : ((l.length : Int) != n - 3) = false) :
    Calls Try.prog 56 #[.int .i64 n, .slice A l.length c] w fun e w' => e = .returned (.bool (uncB n l)) ∧ Below w.heap.size w w' := by
  have k1 : poB n = true := poB_iff.2 ⟨h1, h2⟩
  go_enter Try.func56, Try.ntmps56
  go_wp2_with (go_at_call 92; ((with_reducible refine (spec_poIs _ _ _ k1).mono ?_); rintro e w' ⟨rfl, rfl⟩))
  clear k1 h1 h2 h3
  go_loopw [5, 6, 8, 21] (fun _ _ _ i wr => ∃ k : Nat, k ≤ l.length ∧ i = .int .i64 k ∧ Below w.heap.size w wr ∧ upTo n l k = true) (fun _ _ _ i _ => l.length - (intOf i).toNat)
  case atStart => exact ⟨0, Nat.zero_le _, rfl, Below.refl _ _, rfl⟩
  case round =>
    obtain ⟨k, hk, rfl, hb, hup⟩ := hrel
    have Hup := Lib.hid hup
    clear hup
    by_cases hlt : k < l.length
    · have hA := h.below (hb.mono hB)
      obtain ⟨b', off, rfl, hbB, hc⟩ := hA (by omega)
      obtain ⟨g0, g1⟩ := hc k hlt
      have i0 : (0 : Int) ≤ (k : Int) := by omega
      have i1 : (k : Int) < (l.length : Int) := by omega
      have i2 : (k : Int) ≤ (c : Int) := by omega
      have hok : okAt n l k = okAt n l k := rfl
      conv at hok => rhs; unfold okAt
      generalize hd : l.getD k (0, 0) = d at *
      obtain ⟨x, y⟩ := d
      dsimp only at g0 g1 hok
      have Hok := Lib.hid hok
      clear hc hA hd hok
      go_wp2
      cases hx : dgB n x y
      · have hno : okAt n l k = false := by rw [Hok.out, hx]; rfl
        have Hno := Lib.hid hno
        clear hno
        refine wp_region_held_drew (S := (fun w' => w'.cell? ⟨wr.heap.size, 0, none⟩ = some (.int .i64 x) ∧ w'.cell? ⟨wr.heap.size, 1, none⟩ = some (.int .i64 y) ∧ Below w.heap.size w w')) (by kernel_rfl) ?_ (fun hH => ?_)
        · exact ⟨by simp [go_sem], by simp [go_sem], (hb.alloc hb.size _).drew⟩
        refine wpAnyH_take (i := 0) (oi := _) (v := ?_) rfl (by kernel_rfl) (by kernel_rfl) (by kernel_rfl) (fun _ _ _ h => h) (Or.inl ⟨by rfl, ?_⟩) hH ?_
        rotate_left
        · (intro w hSw; (try dsimp only at hSw); go_simp <;> (with_reducible rfl))
        try simp only [Act.put, List.getElem_toArray, List.getElem_cons_zero, List.setIfInBounds_toArray, List.set_cons_zero, List.set_cons_succ]
        refine wpAnyH_take (i := 1) (oi := _) (v := ?_) rfl (by kernel_rfl) (by kernel_rfl) (by kernel_rfl) (fun _ _ _ h => h) (Or.inl ⟨by rfl, ?_⟩) hH ?_
        rotate_left
        · (intro w hSw; (try dsimp only at hSw); go_simp <;> (with_reducible rfl))
        try simp only [Act.put, List.getElem_toArray, List.getElem_cons_succ, List.getElem_cons_zero, List.setIfInBounds_toArray, List.set_cons_zero, List.set_cons_succ]
        refine wpAnyH_ready (rs := [2]) (by kernel_rfl) (by simp) ?_
        refine AllReadyH.cons rfl (fun K hK => ?_) AllReadyH.nil
        go_simp
        refine (spec_poDiagonal _ _ _ _).mono ?_
        rintro e w1 ⟨rfl, hb1⟩
        refine hK.out _ _ ?_ (fun hH => ?_)
        · exact kept2 hH hb1 (Nat.le_refl _)
        clear hK K
        try simp only [Act.put, List.getElem_toArray, List.getElem_cons_succ, List.getElem_cons_zero, List.setIfInBounds_toArray, List.set_cons_zero, List.set_cons_succ]
        refine wpAnyH_take (i := 3) (oi := _) (v := ?_) rfl (by kernel_rfl) (by kernel_rfl) (by kernel_rfl) (fun _ _ _ h => h) (Or.inl ⟨by rfl, ?_⟩) hH ?_
        rotate_left
        · (intro w hSw; (try dsimp only at hSw); go_simp <;> (with_reducible rfl))
        try simp only [Act.put, List.getElem_toArray, List.getElem_cons_succ, List.getElem_cons_zero, List.setIfInBounds_toArray, List.set_cons_zero, List.set_cons_succ]
        refine wpAnyH_take (i := 4) (oi := _) (v := ?_) rfl (by kernel_rfl) (by kernel_rfl) (by kernel_rfl) (fun _ _ _ h => h) (Or.inl ⟨by rfl, ?_⟩) hH ?_
        rotate_left
        · (intro w hSw; (try dsimp only at hSw); go_simp <;> (with_reducible rfl))
        try simp only [Act.put, List.getElem_toArray, List.getElem_cons_succ, List.getElem_cons_zero, List.setIfInBounds_toArray, List.set_cons_zero, List.set_cons_succ]
        refine wpAnyH_take (i := 5) (oi := _) (v := undef) rfl (by kernel_rfl) (by kernel_rfl) (by kernel_rfl) (fun _ _ _ h => h) (Or.inr ⟨rfl, rfl⟩) hH ?_
        try simp only [Act.put, List.getElem_toArray, List.getElem_cons_succ, List.getElem_cons_zero, List.setIfInBounds_toArray, List.set_cons_zero, List.set_cons_succ]
        refine wpAnyH_take (i := 6) (oi := _) (v := undef) rfl (by kernel_rfl) (by kernel_rfl) (by kernel_rfl) (fun _ _ _ h => h) (Or.inr ⟨rfl, rfl⟩) hH ?_
        try simp only [Act.put, List.getElem_toArray, List.getElem_cons_succ, List.getElem_cons_zero, List.setIfInBounds_toArray, List.set_cons_zero, List.set_cons_succ]
        refine wpAnyH_take (i := 7) (oi := _) (v := undef) rfl (by kernel_rfl) (by kernel_rfl) (by kernel_rfl) (fun _ _ _ h => h) (Or.inr ⟨rfl, rfl⟩) hH ?_
        try simp only [Act.put, List.getElem_toArray, List.getElem_cons_succ, List.getElem_cons_zero, List.setIfInBounds_toArray, List.set_cons_zero, List.set_cons_succ]
        refine wpAnyH_take (i := 8) (oi := _) (v := undef) rfl (by kernel_rfl) (by kernel_rfl) (by kernel_rfl) (fun _ _ _ h => h) (Or.inr ⟨rfl, rfl⟩) hH ?_
        try simp only [Act.put, List.getElem_toArray, List.getElem_cons_succ, List.getElem_cons_zero, List.setIfInBounds_toArray, List.set_cons_zero, List.set_cons_succ]
        refine wpAnyH_take (i := 9) (oi := _) (v := undef) rfl (by kernel_rfl) (by kernel_rfl) (by kernel_rfl) (fun _ _ _ h => h) (Or.inr ⟨rfl, rfl⟩) hH ?_
        try simp only [Act.put, List.getElem_toArray, List.getElem_cons_succ, List.getElem_cons_zero, List.setIfInBounds_toArray, List.set_cons_zero, List.set_cons_succ]
        refine wpAnyH_take (i := 10) (oi := _) (v := undef) rfl (by kernel_rfl) (by kernel_rfl) (by kernel_rfl) (fun _ _ _ h => h) (Or.inr ⟨rfl, rfl⟩) hH ?_
        try simp only [Act.put, List.getElem_toArray, List.getElem_cons_succ, List.getElem_cons_zero, List.setIfInBounds_toArray, List.set_cons_zero, List.set_cons_succ]
        refine wpAnyH_take (i := 11) (oi := _) (v := undef) rfl (by kernel_rfl) (by kernel_rfl) (by kernel_rfl) (fun _ _ _ h => h) (Or.inr ⟨rfl, rfl⟩) hH ?_
        try simp only [Act.put, List.getElem_toArray, List.getElem_cons_succ, List.getElem_cons_zero, List.setIfInBounds_toArray, List.set_cons_zero, List.set_cons_succ]
        refine wpAnyH_take (i := 12) (oi := _) (v := undef) rfl (by kernel_rfl) (by kernel_rfl) (by kernel_rfl) (fun _ _ _ h => h) (Or.inr ⟨rfl, rfl⟩) hH ?_
        try simp only [Act.put, List.getElem_toArray, List.getElem_cons_succ, List.getElem_cons_zero, List.setIfInBounds_toArray, List.set_cons_zero, List.set_cons_succ]
        refine wpAnyH_take (i := 13) (oi := _) (v := undef) rfl (by kernel_rfl) (by kernel_rfl) (by kernel_rfl) (fun _ _ _ h => h) (Or.inr ⟨rfl, rfl⟩) hH ?_
        try simp only [Act.put, List.getElem_toArray, List.getElem_cons_succ, List.getElem_cons_zero, List.setIfInBounds_toArray, List.set_cons_zero, List.set_cons_succ]
        refine wpAnyH_take (i := 14) (oi := _) (v := undef) rfl (by kernel_rfl) (by kernel_rfl) (by kernel_rfl) (fun _ _ _ h => h) (Or.inr ⟨rfl, rfl⟩) hH ?_
        try simp only [Act.put, List.getElem_toArray, List.getElem_cons_succ, List.getElem_cons_zero, List.setIfInBounds_toArray, List.set_cons_zero, List.set_cons_succ]
        refine wpAnyH_take (i := 15) (oi := _) (v := undef) rfl (by kernel_rfl) (by kernel_rfl) (by kernel_rfl) (fun _ _ _ h => h) (Or.inr ⟨rfl, rfl⟩) hH ?_
        try simp only [Act.put, List.getElem_toArray, List.getElem_cons_succ, List.getElem_cons_zero, List.setIfInBounds_toArray, List.set_cons_zero, List.set_cons_succ]
        refine wpAnyH_take (i := 16) (oi := _) (v := undef) rfl (by kernel_rfl) (by kernel_rfl) (by kernel_rfl) (fun _ _ _ h => h) (Or.inr ⟨rfl, rfl⟩) hH ?_
        try simp only [Act.put, List.getElem_toArray, List.getElem_cons_succ, List.getElem_cons_zero, List.setIfInBounds_toArray, List.set_cons_zero, List.set_cons_succ]
        refine wpAnyH_take (i := 17) (oi := _) (v := ?_) rfl (by kernel_rfl) (by kernel_rfl) (by kernel_rfl) (fun _ _ _ h => h) (Or.inl ⟨by rfl, ?_⟩) hH ?_
        rotate_left
        · (intro w hSw; (try dsimp only at hSw); go_simp <;> (with_reducible rfl))
        try simp only [Act.put, List.getElem_toArray, List.getElem_cons_succ, List.getElem_cons_zero, List.setIfInBounds_toArray, List.set_cons_zero, List.set_cons_succ]
        refine wpAnyH_done (by kernel_rfl) ?_ _
        have hd := hH.2.2
        clear hH hb1 hb
        go_wp2
        go_ret
        exact ⟨ret_bool (upTo_false n l k _ hlt Hno.out).symm, hd⟩
      · by_cases hk0 : k = 0
        · subst hk0
          refine wp_region_held_drew (S := (fun w' => w'.cell? ⟨wr.heap.size, 0, none⟩ = some (.int .i64 x) ∧ w'.cell? ⟨wr.heap.size, 1, none⟩ = some (.int .i64 y) ∧ Below w.heap.size w w')) (by kernel_rfl) ?_ (fun hH => ?_)
          · exact ⟨by simp [go_sem], by simp [go_sem], (hb.alloc hb.size _).drew⟩
          refine wpAnyH_take (i := 0) (oi := _) (v := ?_) rfl (by kernel_rfl) (by kernel_rfl) (by kernel_rfl) (fun _ _ _ h => h) (Or.inl ⟨by rfl, ?_⟩) hH ?_
          rotate_left
          · (intro w hSw; (try dsimp only at hSw); go_simp <;> (with_reducible rfl))
          try simp only [Act.put, List.getElem_toArray, List.getElem_cons_zero, List.setIfInBounds_toArray, List.set_cons_zero, List.set_cons_succ]
          refine wpAnyH_take (i := 1) (oi := _) (v := ?_) rfl (by kernel_rfl) (by kernel_rfl) (by kernel_rfl) (fun _ _ _ h => h) (Or.inl ⟨by rfl, ?_⟩) hH ?_
          rotate_left
          · (intro w hSw; (try dsimp only at hSw); go_simp <;> (with_reducible rfl))
          try simp only [Act.put, List.getElem_toArray, List.getElem_cons_succ, List.getElem_cons_zero, List.setIfInBounds_toArray, List.set_cons_zero, List.set_cons_succ]
          refine wpAnyH_ready (rs := [2]) (by kernel_rfl) (by simp) ?_
          refine AllReadyH.cons rfl (fun K hK => ?_) AllReadyH.nil
          go_simp
          refine (spec_poDiagonal _ _ _ _).mono ?_
          rintro e w1 ⟨rfl, hb1⟩
          refine hK.out _ _ ?_ (fun hH => ?_)
          · exact kept2 hH hb1 (Nat.le_refl _)
          clear hK K
          try simp only [Act.put, List.getElem_toArray, List.getElem_cons_succ, List.getElem_cons_zero, List.setIfInBounds_toArray, List.set_cons_zero, List.set_cons_succ]
          refine wpAnyH_take (i := 3) (oi := _) (v := ?_) rfl (by kernel_rfl) (by kernel_rfl) (by kernel_rfl) (fun _ _ _ h => h) (Or.inl ⟨by rfl, ?_⟩) hH ?_
          rotate_left
          · (intro w hSw; (try dsimp only at hSw); go_simp <;> (with_reducible rfl))
          try simp only [Act.put, List.getElem_toArray, List.getElem_cons_succ, List.getElem_cons_zero, List.setIfInBounds_toArray, List.set_cons_zero, List.set_cons_succ]
          refine wpAnyH_take (i := 4) (oi := _) (v := ?_) rfl (by kernel_rfl) (by kernel_rfl) (by kernel_rfl) (fun _ _ _ h => h) (Or.inl ⟨by rfl, ?_⟩) hH ?_
          rotate_left
          · (intro w hSw; (try dsimp only at hSw); go_simp <;> (with_reducible rfl))
          try simp only [Act.put, List.getElem_toArray, List.getElem_cons_succ, List.getElem_cons_zero, List.setIfInBounds_toArray, List.set_cons_zero, List.set_cons_succ]
          refine wpAnyH_take (i := 5) (oi := _) (v := ?_) rfl (by kernel_rfl) (by kernel_rfl) (by kernel_rfl) (fun _ _ _ h => h) (Or.inl ⟨by rfl, ?_⟩) hH ?_
          rotate_left
          · (intro w hSw; (try dsimp only at hSw); go_simp <;> (with_reducible rfl))
          try simp only [Act.put, List.getElem_toArray, List.getElem_cons_succ, List.getElem_cons_zero, List.setIfInBounds_toArray, List.set_cons_zero, List.set_cons_succ]
          refine wpAnyH_take (i := 6) (oi := _) (v := ?_) rfl (by kernel_rfl) (by kernel_rfl) (by kernel_rfl) (fun _ _ _ h => h) (Or.inl ⟨by rfl, ?_⟩) hH ?_
          rotate_left
          · (intro w hSw; (try dsimp only at hSw); go_simp <;> (with_reducible rfl))
          try simp only [Act.put, List.getElem_toArray, List.getElem_cons_succ, List.getElem_cons_zero, List.setIfInBounds_toArray, List.set_cons_zero, List.set_cons_succ]
          refine wpAnyH_take (i := 7) (oi := _) (v := ?_) rfl (by kernel_rfl) (by kernel_rfl) (by kernel_rfl) (fun _ _ _ h => h) (Or.inl ⟨by rfl, ?_⟩) hH ?_
          rotate_left
          · (intro w hSw; (try dsimp only at hSw); go_simp <;> (with_reducible rfl))
          try simp only [Act.put, List.getElem_toArray, List.getElem_cons_succ, List.getElem_cons_zero, List.setIfInBounds_toArray, List.set_cons_zero, List.set_cons_succ]
          refine wpAnyH_take (i := 8) (oi := _) (v := undef) rfl (by kernel_rfl) (by kernel_rfl) (by kernel_rfl) (fun _ _ _ h => h) (Or.inr ⟨rfl, rfl⟩) hH ?_
          try simp only [Act.put, List.getElem_toArray, List.getElem_cons_succ, List.getElem_cons_zero, List.setIfInBounds_toArray, List.set_cons_zero, List.set_cons_succ]
          refine wpAnyH_take (i := 9) (oi := _) (v := undef) rfl (by kernel_rfl) (by kernel_rfl) (by kernel_rfl) (fun _ _ _ h => h) (Or.inr ⟨rfl, rfl⟩) hH ?_
          try simp only [Act.put, List.getElem_toArray, List.getElem_cons_succ, List.getElem_cons_zero, List.setIfInBounds_toArray, List.set_cons_zero, List.set_cons_succ]
          refine wpAnyH_take (i := 10) (oi := _) (v := undef) rfl (by kernel_rfl) (by kernel_rfl) (by kernel_rfl) (fun _ _ _ h => h) (Or.inr ⟨rfl, rfl⟩) hH ?_
          try simp only [Act.put, List.getElem_toArray, List.getElem_cons_succ, List.getElem_cons_zero, List.setIfInBounds_toArray, List.set_cons_zero, List.set_cons_succ]
          refine wpAnyH_take (i := 11) (oi := _) (v := undef) rfl (by kernel_rfl) (by kernel_rfl) (by kernel_rfl) (fun _ _ _ h => h) (Or.inr ⟨rfl, rfl⟩) hH ?_
          try simp only [Act.put, List.getElem_toArray, List.getElem_cons_succ, List.getElem_cons_zero, List.setIfInBounds_toArray, List.set_cons_zero, List.set_cons_succ]
          refine wpAnyH_take (i := 12) (oi := _) (v := undef) rfl (by kernel_rfl) (by kernel_rfl) (by kernel_rfl) (fun _ _ _ h => h) (Or.inr ⟨rfl, rfl⟩) hH ?_
          try simp only [Act.put, List.getElem_toArray, List.getElem_cons_succ, List.getElem_cons_zero, List.setIfInBounds_toArray, List.set_cons_zero, List.set_cons_succ]
          refine wpAnyH_take (i := 13) (oi := _) (v := undef) rfl (by kernel_rfl) (by kernel_rfl) (by kernel_rfl) (fun _ _ _ h => h) (Or.inr ⟨rfl, rfl⟩) hH ?_
          try simp only [Act.put, List.getElem_toArray, List.getElem_cons_succ, List.getElem_cons_zero, List.setIfInBounds_toArray, List.set_cons_zero, List.set_cons_succ]
          refine wpAnyH_take (i := 14) (oi := _) (v := undef) rfl (by kernel_rfl) (by kernel_rfl) (by kernel_rfl) (fun _ _ _ h => h) (Or.inr ⟨rfl, rfl⟩) hH ?_
          try simp only [Act.put, List.getElem_toArray, List.getElem_cons_succ, List.getElem_cons_zero, List.setIfInBounds_toArray, List.set_cons_zero, List.set_cons_succ]
          refine wpAnyH_take (i := 15) (oi := _) (v := undef) rfl (by kernel_rfl) (by kernel_rfl) (by kernel_rfl) (fun _ _ _ h => h) (Or.inr ⟨rfl, rfl⟩) hH ?_
          try simp only [Act.put, List.getElem_toArray, List.getElem_cons_succ, List.getElem_cons_zero, List.setIfInBounds_toArray, List.set_cons_zero, List.set_cons_succ]
          refine wpAnyH_take (i := 16) (oi := _) (v := ?_) rfl (by kernel_rfl) (by kernel_rfl) (by kernel_rfl) (fun _ _ _ h => h) (Or.inl ⟨by rfl, ?_⟩) hH ?_
          rotate_left
          · (intro w hSw; (try dsimp only at hSw); go_simp <;> (with_reducible rfl))
          try simp only [Act.put, List.getElem_toArray, List.getElem_cons_succ, List.getElem_cons_zero, List.setIfInBounds_toArray, List.set_cons_zero, List.set_cons_succ]
          refine wpAnyH_take (i := 17) (oi := _) (v := ?_) rfl (by kernel_rfl) (by kernel_rfl) (by kernel_rfl) (fun _ _ _ h => h) (Or.inl ⟨by rfl, ?_⟩) hH ?_
          rotate_left
          · (intro w hSw; (try dsimp only at hSw); go_simp <;> (with_reducible rfl))
          try simp only [Act.put, List.getElem_toArray, List.getElem_cons_succ, List.getElem_cons_zero, List.setIfInBounds_toArray, List.set_cons_zero, List.set_cons_succ]
          refine wpAnyH_done (by kernel_rfl) ?_ _
          have hd := hH.2.2
          have hok : upTo n l (0 + 1) = true := by rw [upTo_succ, Hup.out, Hok.out, hx]; simp [anyCross]
          have Hok2 := Lib.hid hok
          clear hH hb1 hb hok
          go_wp2
          refine wp_loop_rounds 1 ?_
          rw [rounds_succ]
          go_wp2
          go_roundw
          case rel => exact ⟨1, by omega, rfl, hd, Hok2.out⟩
          case measure => simp [intOf]; omega
        · have hk1 : 0 < k := by omega
          have hA2 := h.below (hb.mono hB)
          obtain ⟨b2, off2, e2, hbB2, hc2⟩ := hA2 (by omega)
          cases e2
          obtain ⟨r0, r1⟩ := hc2 (k - 1) (by omega)
          have j0 : (0 : Int) ≤ (k : Int) - 1 := by omega
          have j1 : (k : Int) - 1 < (l.length : Int) := by omega
          have j2 : (0 : Int) < (k : Int) := by omega
          have j3 : ((k : Int) - 1).toNat = k - 1 := by omega
          have j5 : (1 : Int) ≤ (k : Int) := by omega
          have j6 : (k : Int) ≤ (l.length : Int) := by omega
          have j7 : (k : Int) < (l.length : Int) + 1 := by omega
          have z0 := cell_kept ((Below.refl wr.heap.size wr).alloc (Nat.le_refl _) (.cells #[.int .i64 x, .int .i64 y] 65)).drew r0
          have z1 := cell_kept ((Below.refl wr.heap.size wr).alloc (Nat.le_refl _) (.cells #[.int .i64 x, .int .i64 y] 65)).drew r1
          generalize hp : l.getD (k - 1) (0, 0) = p at *
          obtain ⟨u, v⟩ := p
          dsimp only at r0 r1 z0 z1 Hok
          have j4 : IntKind.i64.wrap ((k : Int) - 1) = (k : Int) - 1 := IntWalk.i64_in _ (by omega)
          clear hc2 hp hA2
          go_region_held3 (fun w' => w'.cell? ⟨wr.heap.size, 0, none⟩ = some (.int .i64 x) ∧ w'.cell? ⟨wr.heap.size, 1, none⟩ = some (.int .i64 y) ∧
              w'.cell? ⟨b', off + (k - 1) * 2, none⟩ = some (.int .i64 u) ∧ w'.cell? ⟨b', off + (k - 1) * 2 + 1, none⟩ = some (.int .i64 v) ∧ Below w.heap.size w w')
            (first
              | exact kept4 (by assumption) hb1 (Nat.le_refl _)
              | exact ⟨by simp [go_sem], by simp [go_sem], z0, z1, (hb.alloc hb.size _).drew⟩)
            (first
              | (go_at_call 93; refine (spec_poDiagonal _ _ _ _).mono ?_; rintro e w1 ⟨rfl, hb1⟩)
              | (go_at_call 94; refine (spec_poLess _ _ _ _ _).mono ?_; rintro e w1 ⟨rfl, hb1⟩))
          clear j4 j3 z0 z1 r0 r1
          rename_i hS
          have q0 := hS.1
          have q1 := hS.2.1
          have hd := hS.2.2.2.2
          have hsz := hb.size
          clear hS hb1 hb
          cases hz : ltB u v x y
          · have hno : okAt n l k = false := by rw [Hok.out, hx, hz]; simp; omega
            have Hno := Lib.hid hno
            clear hno
            go_wp2
            go_ret
            exact ⟨ret_bool (upTo_false n l k _ hlt Hno.out).symm, hd⟩
          · have Hok3 : Hid (anyCross (x, y) (l.take k) = false → okAt n l k = true) := Lib.hid (fun he => by rw [Hok.out, hx, hz, he]; simp)
            have Hok4 : Hid (anyCross (x, y) (l.take k) = true → okAt n l k = false) := Lib.hid (fun he => by rw [Hok.out, hx, hz, he]; simp)
            have hG : wr.heap.size < w1.heap.size := World.block_lt_of_cell? w1 _ q0
            have hG0 : w.heap.size ≤ wr.heap.size := hsz
            clear Hok hx
            simp only [Bool.not_true]
            go_wp2
            obtain ⟨wo, rfl⟩ : ∃ wo : World, wo = wr := ⟨_, rfl⟩
            obtain ⟨wp, rfl⟩ : ∃ wp : World, wp = w1 := ⟨_, rfl⟩
            go_loopw [8, 48] (fun _ i wr => ∃ j : Nat, j ≤ k ∧ i = .int .i64 j ∧ Below w.heap.size w wr ∧ Below wp.heap.size wp wr ∧ anyCross (x, y) (l.take j) = false) (fun _ i _ => k - (intOf i).toNat)
            case atStart => exact ⟨0, Nat.zero_le _, rfl, hd, Below.refl _ _, by simp [anyCross]⟩
            case round =>
              obtain ⟨j, hj, rfl, hb, hbp, hno⟩ := hrel
              by_cases hjk : j < k
              · obtain ⟨b3, off3, e3, hbB3, hc3⟩ := h.below (hb.mono hB) (by omega)
                cases e3
                obtain ⟨s0, s1⟩ := hc3 j (by omega)
                have m0 : (0 : Int) ≤ (j : Int) := by omega
                have m1 : (j : Int) < (k : Int) := by omega
                have q2 := cell_kept hbp q0
                have q3 := cell_kept hbp q1
                have hst := anyCross_take (x, y) l j (by omega)
                have hhit := cross_all (d := (x, y)) (l := l) j hjk hlt
                rw [hno, Bool.false_or] at hst
                dsimp only at hst hhit
                generalize (l.getD j (0, 0)).1 = a at *
                generalize (l.getD j (0, 0)).2 = b at *
                have Hst := Lib.hid hst
                have Hhit := Lib.hid hhit
                have hs : wo.heap.size < wr.heap.size := Nat.lt_of_lt_of_le hG hbp.size
                clear hst hhit hc3 hno q0 q1 g0 g1
                go_wp2_with fail
                refine (spec_poCross x y a b _).mono ?_
                rintro e w2 ⟨rfl, hb2⟩
                have hb3 := below_kept (hb.alloc hb.size (.cells #[.int .i64 a, .int .i64 b] 65)) (Nat.le_refl _) hb2
                have hb4 := below_kept (hbp.alloc hbp.size (.cells #[.int .i64 a, .int .i64 b] 65)) (Nat.le_refl _) hb2
                clear hb2 hb hbp q2 q3 s0 s1
                cases hcr : crB x y a b
                · go_wp2
                  go_roundw
                  case rel => exact ⟨j + 1, by omega, by go_num, hb3, hb4, by rw [Hst.out, hcr]⟩
                  case measure => simp [intOf]; omega
                · have hno : okAt n l k = false := Hok4.out (Hhit.out hcr)
                  have Hno := Lib.hid hno
                  clear hno
                  go_wp2
                  go_ret
                  exact ⟨ret_bool (upTo_false n l k _ hlt Hno.out).symm, hb3⟩
              · obtain rfl : j = k := by omega
                have hok : upTo n l (j + 1) = true := by rw [upTo_succ, Hup.out, Hok3.out hno]; rfl
                have Hok2 := Lib.hid hok
                clear hok hno q0 q1
                go_wp2
                go_roundw
                case rel => exact ⟨j + 1, by omega, by go_num, hb, Hok2.out⟩
                case measure => simp [intOf]; omega
    · obtain rfl : k = l.length := by omega
      go_wp2
      go_ret
      exact ⟨ret_bool Hup.out.symm, hb⟩

theorem spec_poGood (n : Int) (A : Option Addr) (c B : Nat) (l : List (Int × Int)) (w : World) (h : SlD w B A l) (hB : B ≤ w.heap.size) (hl : l.length ≤ 1048576) (hlc : l.length ≤ c) :
    Calls Try.prog 56 #[.int .i64 n, .slice A l.length c] w fun e w' => e = .returned (.bool (triB n l)) ∧ Below w.heap.size w w' := by
  by_cases h1 : 3 ≤ n ∧ n ≤ 12
  · have k1 : poB n = true := poB_iff.2 h1
    by_cases h2 : (l.length : Int) = n - 3
    · rw [show triB n l = uncB n l by simp [triB, k1, h2]]
      exact spec_poGood_loop n A c B l w h hB hl hlc h1.1 h1.2 (by simpa using h2)
    · have h2' : ((l.length : Int) != n - 3) = true := by simpa using h2
      have hfin : triB n l = false := by simp [triB, k1, h2]
      have Hfin := Lib.hid hfin
      obtain ⟨_, _⟩ := h1
      clear h2 hfin h
      go_enter Try.func56, Try.ntmps56
      go_wp2_with (go_at_call 92; ((with_reducible refine (spec_poIs _ _ _ k1).mono ?_); rintro e w' ⟨rfl, rfl⟩))
      go_ret
      exact ⟨ret_bool Hfin.out.symm, Below.refl _ _⟩
  · have k1 : poB n = false := by
      cases hp : poB n
      · rfl
      · exact absurd (poB_iff.1 hp) h1
    have hfin : triB n l = false := by simp [triB, k1]
    have Hfin := Lib.hid hfin
    clear hfin h
    go_enter Try.func56, Try.ntmps56
    go_wp2_with (go_at_call 92; ((with_reducible refine (spec_poIs _ _ _ k1).mono ?_); rintro e w' ⟨rfl, rfl⟩))
    go_ret
    exact ⟨ret_bool Hfin.out.symm, Below.refl _ _⟩

end Go.Proofs.Ytbpaaoeefcebeab
