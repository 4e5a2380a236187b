/- Polygons of fractions: the model's test and the program's. -/
import Derived.Test.YtaifgfmkkgndkabNbS
import Derived.Test.YtaifgfmkkgndkabNbE
import Derived.Test.YtaifgfmkkgndkabPolM
import Derived.Test.YtaifgfmkkgndkabLawF
import Derived.Test.YtaifgfmkkgndkabTriI
import Derived.Deep.DeepCutAuto
namespace Go.Proofs.Ytaifgfmkkgndkab
set_option linter.unusedVariables false
open Go.RowKit

def frG (p : Int × Int) : Bool := nbB p.1 p.2
/-- all are fractions -/
def allG (l : List (Int × Int)) : Bool := l.all frG
/-- some is no fraction -/
def anyB (l : List (Int × Int)) : Bool := l.any fun p => !frG p
theorem anyB_all (l : List (Int × Int)) : anyB l = !allG l := by
  unfold anyB allG
  rw [Bool.eq_iff_iff]
  simp
theorem anyB_take (l : List (Int × Int)) (k : Nat) (h : k < l.length) : anyB (l.take (k + 1)) = (anyB (l.take k) || !nbB (l.getD k (0, 0)).1 (l.getD k (0, 0)).2) := by
  unfold anyB
  rw [List.take_succ_eq_append_getElem h, List.any_append]
  simp [frG, h]
theorem anyB_hit (l : List (Int × Int)) (k : Nat) (h : k < l.length) (hx : nbB (l.getD k (0, 0)).1 (l.getD k (0, 0)).2 = false) : anyB l = true := by
  unfold anyB
  rw [List.any_eq_true]
  exact ⟨l[k], List.getElem_mem h, by simp [frG]; simpa [h] using hx⟩
/-- those ahead of k are near to the one behind each, and less -/
def riseT (l : List (Int × Int)) (k : Nat) : Bool := (List.range k).all fun i => decide (crs (l.getD i (0, 0)) (l.getD (i + 1) (0, 0)) = 1)
theorem riseT_zero (l : List (Int × Int)) : riseT l 0 = true := rfl
theorem riseT_succ (l : List (Int × Int)) (k : Nat) : riseT l (k + 1) = (riseT l k && decide (crs (l.getD k (0, 0)) (l.getD (k + 1) (0, 0)) = 1)) := by
  unfold riseT
  rw [List.range_succ, List.all_append]
  simp
theorem riseT_miss {l : List (Int × Int)} {k m : Nat} (hk : k < m) (h : ¬ crs (l.getD k (0, 0)) (l.getD (k + 1) (0, 0)) = 1) : riseT l m = false := by
  unfold riseT
  rw [Bool.eq_false_iff]
  intro e
  rw [List.all_eq_true] at e
  have := e k (List.mem_range.2 hk)
  simp at this
  exact h (by simpa using this)
/-- a polygon of fractions -/
def polB (l : List (Int × Int)) : Bool := decide (3 ≤ l.length ∧ l.length ≤ 12) && allG l && riseT l (l.length - 1) && decide (l.getD 0 (0, 0) = (0, 1)) && decide (l.getD (l.length - 1) (0, 0) = (1, 0))
theorem allGT {l : List (Int × Int)} {m : Nat} (h : anyB (l.take m) = false) (k : Nat) (hk : k < m) (hm : m ≤ l.length) : nbB (l.getD k (0, 0)).1 (l.getD k (0, 0)).2 = true := by
  unfold anyB at h
  rw [List.any_eq_false] at h
  have := h l[k] (by rw [List.mem_take_iff_getElem]; exact ⟨k, by omega, rfl⟩)
  simpa [frG, show k < l.length by omega] using this
theorem polB_len {l : List (Int × Int)} (h : ¬ (3 ≤ l.length ∧ l.length ≤ 12)) : polB l = false := by
  unfold polB
  rw [show decide (3 ≤ l.length ∧ l.length ≤ 12) = false by simpa using h]
  rfl
theorem polB_bad {l : List (Int × Int)} (h : allG l = false) : polB l = false := by
  unfold polB
  rw [h]
  simp
theorem polB_rise {l : List (Int × Int)} (h : riseT l (l.length - 1) = false) : polB l = false := by
  unfold polB
  rw [h]
  simp
theorem polB_all {l : List (Int × Int)} (h1 : 3 ≤ l.length ∧ l.length ≤ 12) (h2 : allG l = true) (h3 : riseT l (l.length - 1) = true) : polB l = (decide (l.getD 0 (0, 0) = (0, 1)) && decide (l.getD (l.length - 1) (0, 0) = (1, 0))) := by
  unfold polB
  rw [show decide (3 ≤ l.length ∧ l.length ≤ 12) = true by simpa using h1, h2, h3]
  rfl
theorem polB_ends {l : List (Int × Int)} (h : (decide (l.getD 0 (0, 0) = (0, 1)) && decide (l.getD (l.length - 1) (0, 0) = (1, 0))) = false) : polB l = false := by
  unfold polB
  rw [Bool.and_assoc, h, Bool.and_false]
theorem polB_iff {l : List (Int × Int)} : polB l = true ↔ (3 ≤ l.length ∧ l.length ≤ 12) ∧ allG l = true ∧ riseT l (l.length - 1) = true ∧ l.getD 0 (0, 0) = (0, 1) ∧ l.getD (l.length - 1) (0, 0) = (1, 0) := by
  unfold polB
  simp only [Bool.and_eq_true, decide_eq_true_eq, and_assoc]
theorem allG_at {l : List (Int × Int)} (h : allG l = true) {k : Nat} (hk : k < l.length) : nbB (l.getD k (0, 0)).1 (l.getD k (0, 0)).2 = true := by
  unfold allG at h
  rw [List.all_eq_true] at h
  have := h l[k] (List.getElem_mem hk)
  simpa [frG, hk] using this
theorem riseT_at {l : List (Int × Int)} {m k : Nat} (h : riseT l m = true) (hk : k < m) : crs (l.getD k (0, 0)) (l.getD (k + 1) (0, 0)) = 1 := by
  unfold riseT at h
  rw [List.all_eq_true] at h
  simpa using h k (List.mem_range.2 hk)

set_option maxRecDepth 100000 in
set_option maxHeartbeats 3200000 in
theorem spec_nbPolygon (A : Option Addr) (c B : Nat) (l : List (Int × Int)) (w : World) (h : SlD w B A l) (hB : B ≤ w.heap.size) (hl : l.length ≤ 1048576) :
    Calls Try.prog 60 #[.slice A l.length c] w fun e w' => e = .returned (.bool (polB l)) ∧ Below w.heap.size w w' := by
  by_cases hn : 3 ≤ l.length ∧ l.length ≤ 12
  · have hin : inB (l.length : Int) 3 12 = true := by unfold inB; rw [decide_eq_true_eq]; omega
    obtain ⟨n3, n12⟩ := hn
    have H := Lib.hid h
    clear h
    go_enter Try.func60, Try.ntmps60
    go_wp2_with fail
    refine (spec_l1In' _ _ _ _).mono ?_
    rintro e w1 ⟨rfl, rfl⟩
    rw [hin]
    clear hin
    go_wp2
    go_loopw [4, 5, 13] (fun _ _ i wr => ∃ k : Nat, k ≤ l.length ∧ i = .int .i64 k ∧ anyB (l.take k) = false ∧ riseT l (k - 1) = true ∧ Below w.heap.size w wr) (fun _ _ i _ => l.length - (intOf i).toNat)
    case atStart => exact ⟨0, Nat.zero_le _, rfl, rfl, rfl, Below.refl _ _⟩
    case round =>
      obtain ⟨k, hk, rfl, hno, hri, hb⟩ := hrel
      have hA := H.out.below (hb.mono hB)
      obtain ⟨b, off, rfl, hbB, hc⟩ := hA (by omega)
      by_cases hlt : k < l.length
      · obtain ⟨g0, g1⟩ := hc k hlt
        have i0 : (0 : Int) ≤ (k : Int) := by omega
        have i1 : (k : Int) < (l.length : Int) := by omega
        have hbw : b < wr.heap.size := World.block_lt_of_cell? wr _ g0
        have hst := anyB_take l k hlt
        have hhit := anyB_hit l k hlt
        rw [hno, Bool.false_or] at hst
        obtain ⟨x, hx0⟩ : ∃ x, (l.getD k (0, 0)).1 = x := ⟨_, rfl⟩
        obtain ⟨y, hy0⟩ : ∃ y, (l.getD k (0, 0)).2 = y := ⟨_, rfl⟩
        rw [hx0] at g0 hst hhit
        rw [hy0] at g1 hst hhit
        have HG := Lib.hid (fun w => spec_nbGood x y w)
        have Hst := Lib.hid hst
        have Hhit := Lib.hid hhit
        have Hri := Lib.hid hri
        have Hxy := Lib.hid (show l.getD k (0, 0) = (x, y) from Prod.ext hx0 hy0)
        have Hc := Lib.hid hc
        clear hst hhit hri hno hx0 hy0 hc
        cases hgd : nbB x y
        · rw [hgd] at HG
          have HE := Lib.hid (show polB l = false from polB_bad (by have := Hhit.out hgd; rw [anyB_all] at this; simpa using this))
          clear Hst Hhit hgd Hri Hxy Hc
          go_wp2
          refine wp_region_held_drew (S := (fun w' => w'.cell? ⟨wr.heap.size, 0, none⟩ = some (.int .i64 x) ∧ w'.cell? ⟨wr.heap.size, 1, none⟩ = some (.int .i64 y) ∧ Below w.heap.size w w')) (by kernel_rfl) ?_ (fun hH => ?_)
          · exact ⟨by simp [go_sem], by simp [go_sem], (hb.alloc hb.size _).drew⟩
          refine wpAnyH_take (i := 0) (oi := _) (v := ?_) rfl (by kernel_rfl) (by kernel_rfl) (by kernel_rfl) (fun _ _ _ h => h) (Or.inl ⟨by rfl, ?_⟩) hH ?_
          rotate_left
          · (intro w hSw; (try dsimp only at hSw); go_simp <;> (with_reducible rfl))
          try simp only [Act.put, List.getElem_toArray, List.getElem_cons_zero, List.setIfInBounds_toArray, List.set_cons_zero, List.set_cons_succ]
          refine wpAnyH_ready (rs := [1]) (by kernel_rfl) (by simp) ?_
          refine AllReadyH.cons rfl (fun K hK => ?_) AllReadyH.nil
          go_simp
          refine (HG.out _).mono ?_
          rintro e w1 ⟨rfl, hb1⟩
          refine hK.out _ _ ?_ (fun hH => ?_)
          · exact kept2 hH hb1 (Nat.le_refl _)
          clear hK K
          try simp only [Act.put, List.getElem_toArray, List.getElem_cons_succ, List.getElem_cons_zero, List.setIfInBounds_toArray, List.set_cons_zero, List.set_cons_succ]
          refine wpAnyH_take (i := 2) (oi := _) (v := ?_) rfl (by kernel_rfl) (by kernel_rfl) (by kernel_rfl) (fun _ _ _ h => h) (Or.inl ⟨by rfl, ?_⟩) hH ?_
          rotate_left
          · (intro w hSw; (try dsimp only at hSw); go_simp <;> (with_reducible rfl))
          try simp only [Act.put, List.getElem_toArray, List.getElem_cons_succ, List.getElem_cons_zero, List.setIfInBounds_toArray, List.set_cons_zero, List.set_cons_succ]
          refine wpAnyH_take (i := 3) (oi := _) (v := ?_) rfl (by kernel_rfl) (by kernel_rfl) (by kernel_rfl) (fun _ _ _ h => h) (Or.inl ⟨by rfl, ?_⟩) hH ?_
          rotate_left
          · (intro w hSw; (try dsimp only at hSw); go_simp <;> (with_reducible rfl))
          try simp only [Act.put, List.getElem_toArray, List.getElem_cons_succ, List.getElem_cons_zero, List.setIfInBounds_toArray, List.set_cons_zero, List.set_cons_succ]
          refine wpAnyH_take (i := 4) (oi := _) (v := undef) rfl (by kernel_rfl) (by kernel_rfl) (by kernel_rfl) (fun _ _ _ h => h) (Or.inr ⟨rfl, rfl⟩) hH ?_
          try simp only [Act.put, List.getElem_toArray, List.getElem_cons_succ, List.getElem_cons_zero, List.setIfInBounds_toArray, List.set_cons_zero, List.set_cons_succ]
          refine wpAnyH_take (i := 5) (oi := _) (v := undef) rfl (by kernel_rfl) (by kernel_rfl) (by kernel_rfl) (fun _ _ _ h => h) (Or.inr ⟨rfl, rfl⟩) hH ?_
          try simp only [Act.put, List.getElem_toArray, List.getElem_cons_succ, List.getElem_cons_zero, List.setIfInBounds_toArray, List.set_cons_zero, List.set_cons_succ]
          refine wpAnyH_take (i := 6) (oi := _) (v := undef) rfl (by kernel_rfl) (by kernel_rfl) (by kernel_rfl) (fun _ _ _ h => h) (Or.inr ⟨rfl, rfl⟩) hH ?_
          try simp only [Act.put, List.getElem_toArray, List.getElem_cons_succ, List.getElem_cons_zero, List.setIfInBounds_toArray, List.set_cons_zero, List.set_cons_succ]
          refine wpAnyH_take (i := 7) (oi := _) (v := undef) rfl (by kernel_rfl) (by kernel_rfl) (by kernel_rfl) (fun _ _ _ h => h) (Or.inr ⟨rfl, rfl⟩) hH ?_
          try simp only [Act.put, List.getElem_toArray, List.getElem_cons_succ, List.getElem_cons_zero, List.setIfInBounds_toArray, List.set_cons_zero, List.set_cons_succ]
          refine wpAnyH_take (i := 8) (oi := _) (v := undef) rfl (by kernel_rfl) (by kernel_rfl) (by kernel_rfl) (fun _ _ _ h => h) (Or.inr ⟨rfl, rfl⟩) hH ?_
          try simp only [Act.put, List.getElem_toArray, List.getElem_cons_succ, List.getElem_cons_zero, List.setIfInBounds_toArray, List.set_cons_zero, List.set_cons_succ]
          refine wpAnyH_take (i := 9) (oi := _) (v := undef) rfl (by kernel_rfl) (by kernel_rfl) (by kernel_rfl) (fun _ _ _ h => h) (Or.inr ⟨rfl, rfl⟩) hH ?_
          try simp only [Act.put, List.getElem_toArray, List.getElem_cons_succ, List.getElem_cons_zero, List.setIfInBounds_toArray, List.set_cons_zero, List.set_cons_succ]
          refine wpAnyH_take (i := 10) (oi := _) (v := undef) rfl (by kernel_rfl) (by kernel_rfl) (by kernel_rfl) (fun _ _ _ h => h) (Or.inr ⟨rfl, rfl⟩) hH ?_
          try simp only [Act.put, List.getElem_toArray, List.getElem_cons_succ, List.getElem_cons_zero, List.setIfInBounds_toArray, List.set_cons_zero, List.set_cons_succ]
          refine wpAnyH_take (i := 11) (oi := _) (v := undef) rfl (by kernel_rfl) (by kernel_rfl) (by kernel_rfl) (fun _ _ _ h => h) (Or.inr ⟨rfl, rfl⟩) hH ?_
          try simp only [Act.put, List.getElem_toArray, List.getElem_cons_succ, List.getElem_cons_zero, List.setIfInBounds_toArray, List.set_cons_zero, List.set_cons_succ]
          refine wpAnyH_take (i := 12) (oi := _) (v := undef) rfl (by kernel_rfl) (by kernel_rfl) (by kernel_rfl) (fun _ _ _ h => h) (Or.inr ⟨rfl, rfl⟩) hH ?_
          try simp only [Act.put, List.getElem_toArray, List.getElem_cons_succ, List.getElem_cons_zero, List.setIfInBounds_toArray, List.set_cons_zero, List.set_cons_succ]
          refine wpAnyH_take (i := 13) (oi := _) (v := undef) rfl (by kernel_rfl) (by kernel_rfl) (by kernel_rfl) (fun _ _ _ h => h) (Or.inr ⟨rfl, rfl⟩) hH ?_
          try simp only [Act.put, List.getElem_toArray, List.getElem_cons_succ, List.getElem_cons_zero, List.setIfInBounds_toArray, List.set_cons_zero, List.set_cons_succ]
          refine wpAnyH_take (i := 14) (oi := _) (v := undef) rfl (by kernel_rfl) (by kernel_rfl) (by kernel_rfl) (fun _ _ _ h => h) (Or.inr ⟨rfl, rfl⟩) hH ?_
          try simp only [Act.put, List.getElem_toArray, List.getElem_cons_succ, List.getElem_cons_zero, List.setIfInBounds_toArray, List.set_cons_zero, List.set_cons_succ]
          refine wpAnyH_take (i := 15) (oi := _) (v := undef) rfl (by kernel_rfl) (by kernel_rfl) (by kernel_rfl) (fun _ _ _ h => h) (Or.inr ⟨rfl, rfl⟩) hH ?_
          try simp only [Act.put, List.getElem_toArray, List.getElem_cons_succ, List.getElem_cons_zero, List.setIfInBounds_toArray, List.set_cons_zero, List.set_cons_succ]
          refine wpAnyH_take (i := 16) (oi := _) (v := ?_) rfl (by kernel_rfl) (by kernel_rfl) (by kernel_rfl) (fun _ _ _ h => h) (Or.inl ⟨by rfl, ?_⟩) hH ?_
          rotate_left
          · (intro w hSw; (try dsimp only at hSw); go_simp <;> (with_reducible rfl))
          try simp only [Act.put, List.getElem_toArray, List.getElem_cons_succ, List.getElem_cons_zero, List.setIfInBounds_toArray, List.set_cons_zero, List.set_cons_succ]
          refine wpAnyH_done (by kernel_rfl) ?_ _
          have hd := Lib.hid hH.2.2
          clear hH hb1 hb
          go_wp2
          go_ret
          exact ⟨ret_bool HE.out.symm, hd.out⟩
        · rw [hgd] at HG
          have hno2 := Hst.out
          rw [hgd] at hno2
          have Hno2 := Lib.hid hno2
          have Hsm := Lib.hid (nbB_sm hgd)
          clear Hst Hhit hgd hno2
          by_cases hk0 : k = 0
          · subst hk0
            simp only [Nat.zero_mul, Nat.add_zero] at g0 g1
            clear Hxy Hc Hri
            go_wp2
            refine wp_region_held_drew (S := (fun w' => w'.cell? ⟨wr.heap.size, 0, none⟩ = some (.int .i64 x) ∧ w'.cell? ⟨wr.heap.size, 1, none⟩ = some (.int .i64 y) ∧ Below w.heap.size w w')) (by kernel_rfl) ?_ (fun hH => ?_)
            · exact ⟨by simp [go_sem], by simp [go_sem], (hb.alloc hb.size _).drew⟩
            refine wpAnyH_take (i := 0) (oi := _) (v := ?_) rfl (by kernel_rfl) (by kernel_rfl) (by kernel_rfl) (fun _ _ _ h => h) (Or.inl ⟨by rfl, ?_⟩) hH ?_
            rotate_left
            · (intro w hSw; (try dsimp only at hSw); go_simp <;> (with_reducible rfl))
            try simp only [Act.put, List.getElem_toArray, List.getElem_cons_zero, List.setIfInBounds_toArray, List.set_cons_zero, List.set_cons_succ]
            refine wpAnyH_ready (rs := [1]) (by kernel_rfl) (by simp) ?_
            refine AllReadyH.cons rfl (fun K hK => ?_) AllReadyH.nil
            go_simp
            refine (HG.out _).mono ?_
            rintro e w1 ⟨rfl, hb1⟩
            refine hK.out _ _ ?_ (fun hH => ?_)
            · exact kept2 hH hb1 (Nat.le_refl _)
            clear hK K
            try simp only [Act.put, List.getElem_toArray, List.getElem_cons_succ, List.getElem_cons_zero, List.setIfInBounds_toArray, List.set_cons_zero, List.set_cons_succ]
            refine wpAnyH_take (i := 2) (oi := _) (v := ?_) rfl (by kernel_rfl) (by kernel_rfl) (by kernel_rfl) (fun _ _ _ h => h) (Or.inl ⟨by rfl, ?_⟩) hH ?_
            rotate_left
            · (intro w hSw; (try dsimp only at hSw); go_simp <;> (with_reducible rfl))
            try simp only [Act.put, List.getElem_toArray, List.getElem_cons_succ, List.getElem_cons_zero, List.setIfInBounds_toArray, List.set_cons_zero, List.set_cons_succ]
            refine wpAnyH_take (i := 3) (oi := _) (v := ?_) rfl (by kernel_rfl) (by kernel_rfl) (by kernel_rfl) (fun _ _ _ h => h) (Or.inl ⟨by rfl, ?_⟩) hH ?_
            rotate_left
            · (intro w hSw; (try dsimp only at hSw); go_simp <;> (with_reducible rfl))
            try simp only [Act.put, List.getElem_toArray, List.getElem_cons_succ, List.getElem_cons_zero, List.setIfInBounds_toArray, List.set_cons_zero, List.set_cons_succ]
            refine wpAnyH_take (i := 4) (oi := _) (v := ?_) rfl (by kernel_rfl) (by kernel_rfl) (by kernel_rfl) (fun _ _ _ h => h) (Or.inl ⟨by rfl, ?_⟩) hH ?_
            rotate_left
            · (intro w hSw; (try dsimp only at hSw); go_simp <;> (with_reducible rfl))
            try simp only [Act.put, List.getElem_toArray, List.getElem_cons_succ, List.getElem_cons_zero, List.setIfInBounds_toArray, List.set_cons_zero, List.set_cons_succ]
            refine wpAnyH_take (i := 5) (oi := _) (v := ?_) rfl (by kernel_rfl) (by kernel_rfl) (by kernel_rfl) (fun _ _ _ h => h) (Or.inl ⟨by rfl, ?_⟩) hH ?_
            rotate_left
            · (intro w hSw; (try dsimp only at hSw); go_simp <;> (with_reducible rfl))
            try simp only [Act.put, List.getElem_toArray, List.getElem_cons_succ, List.getElem_cons_zero, List.setIfInBounds_toArray, List.set_cons_zero, List.set_cons_succ]
            refine wpAnyH_take (i := 6) (oi := _) (v := ?_) rfl (by kernel_rfl) (by kernel_rfl) (by kernel_rfl) (fun _ _ _ h => h) (Or.inl ⟨by rfl, ?_⟩) hH ?_
            rotate_left
            · (intro w hSw; (try dsimp only at hSw); go_simp <;> (with_reducible rfl))
            try simp only [Act.put, List.getElem_toArray, List.getElem_cons_succ, List.getElem_cons_zero, List.setIfInBounds_toArray, List.set_cons_zero, List.set_cons_succ]
            refine wpAnyH_take (i := 7) (oi := _) (v := undef) rfl (by kernel_rfl) (by kernel_rfl) (by kernel_rfl) (fun _ _ _ h => h) (Or.inr ⟨rfl, rfl⟩) hH ?_
            try simp only [Act.put, List.getElem_toArray, List.getElem_cons_succ, List.getElem_cons_zero, List.setIfInBounds_toArray, List.set_cons_zero, List.set_cons_succ]
            refine wpAnyH_take (i := 8) (oi := _) (v := undef) rfl (by kernel_rfl) (by kernel_rfl) (by kernel_rfl) (fun _ _ _ h => h) (Or.inr ⟨rfl, rfl⟩) hH ?_
            try simp only [Act.put, List.getElem_toArray, List.getElem_cons_succ, List.getElem_cons_zero, List.setIfInBounds_toArray, List.set_cons_zero, List.set_cons_succ]
            refine wpAnyH_take (i := 9) (oi := _) (v := undef) rfl (by kernel_rfl) (by kernel_rfl) (by kernel_rfl) (fun _ _ _ h => h) (Or.inr ⟨rfl, rfl⟩) hH ?_
            try simp only [Act.put, List.getElem_toArray, List.getElem_cons_succ, List.getElem_cons_zero, List.setIfInBounds_toArray, List.set_cons_zero, List.set_cons_succ]
            refine wpAnyH_take (i := 10) (oi := _) (v := undef) rfl (by kernel_rfl) (by kernel_rfl) (by kernel_rfl) (fun _ _ _ h => h) (Or.inr ⟨rfl, rfl⟩) hH ?_
            try simp only [Act.put, List.getElem_toArray, List.getElem_cons_succ, List.getElem_cons_zero, List.setIfInBounds_toArray, List.set_cons_zero, List.set_cons_succ]
            refine wpAnyH_take (i := 11) (oi := _) (v := undef) rfl (by kernel_rfl) (by kernel_rfl) (by kernel_rfl) (fun _ _ _ h => h) (Or.inr ⟨rfl, rfl⟩) hH ?_
            try simp only [Act.put, List.getElem_toArray, List.getElem_cons_succ, List.getElem_cons_zero, List.setIfInBounds_toArray, List.set_cons_zero, List.set_cons_succ]
            refine wpAnyH_take (i := 12) (oi := _) (v := undef) rfl (by kernel_rfl) (by kernel_rfl) (by kernel_rfl) (fun _ _ _ h => h) (Or.inr ⟨rfl, rfl⟩) hH ?_
            try simp only [Act.put, List.getElem_toArray, List.getElem_cons_succ, List.getElem_cons_zero, List.setIfInBounds_toArray, List.set_cons_zero, List.set_cons_succ]
            refine wpAnyH_take (i := 13) (oi := _) (v := undef) rfl (by kernel_rfl) (by kernel_rfl) (by kernel_rfl) (fun _ _ _ h => h) (Or.inr ⟨rfl, rfl⟩) hH ?_
            try simp only [Act.put, List.getElem_toArray, List.getElem_cons_succ, List.getElem_cons_zero, List.setIfInBounds_toArray, List.set_cons_zero, List.set_cons_succ]
            refine wpAnyH_take (i := 14) (oi := _) (v := undef) rfl (by kernel_rfl) (by kernel_rfl) (by kernel_rfl) (fun _ _ _ h => h) (Or.inr ⟨rfl, rfl⟩) hH ?_
            try simp only [Act.put, List.getElem_toArray, List.getElem_cons_succ, List.getElem_cons_zero, List.setIfInBounds_toArray, List.set_cons_zero, List.set_cons_succ]
            refine wpAnyH_take (i := 15) (oi := _) (v := ?_) rfl (by kernel_rfl) (by kernel_rfl) (by kernel_rfl) (fun _ _ _ h => h) (Or.inl ⟨by rfl, ?_⟩) hH ?_
            rotate_left
            · (intro w hSw; (try dsimp only at hSw); go_simp <;> (with_reducible rfl))
            try simp only [Act.put, List.getElem_toArray, List.getElem_cons_succ, List.getElem_cons_zero, List.setIfInBounds_toArray, List.set_cons_zero, List.set_cons_succ]
            refine wpAnyH_take (i := 16) (oi := _) (v := ?_) rfl (by kernel_rfl) (by kernel_rfl) (by kernel_rfl) (fun _ _ _ h => h) (Or.inl ⟨by rfl, ?_⟩) hH ?_
            rotate_left
            · (intro w hSw; (try dsimp only at hSw); go_simp <;> (with_reducible rfl))
            try simp only [Act.put, List.getElem_toArray, List.getElem_cons_succ, List.getElem_cons_zero, List.setIfInBounds_toArray, List.set_cons_zero, List.set_cons_succ]
            refine wpAnyH_done (by kernel_rfl) ?_ _
            have hd := Lib.hid hH.2.2
            clear hH hb1 hb
            go_wp2
            go_roundw
            case rel => exact ⟨1, by omega, rfl, Hno2.out, rfl, hd.out⟩
            case measure => simp [intOf]; omega
          · have hk1 : 0 < k := by omega
            obtain ⟨r0, r1⟩ := Hc.out (k - 1) (by omega)
            have j0 : (0 : Int) ≤ (k : Int) - 1 := by omega
            have j1 : (k : Int) - 1 < (l.length : Int) := by omega
            have j2 : (0 : Int) < (k : Int) := by omega
            have j3 : ((k : Int) - 1).toNat = k - 1 := by omega
            have j4 : IntKind.i64.wrap ((k : Int) - 1) = (k : Int) - 1 := IntWalk.i64_in _ (by omega)
            have j5 : (1 : Int) ≤ (k : Int) := by omega
            have hsm2 : Sm (l.getD (k - 1) (0, 0)).1 ∧ Sm (l.getD (k - 1) (0, 0)).2 := by
              have hg := allGT Hno2.out (k - 1) (by omega) (by omega)
              exact nbB_sm hg
            obtain ⟨u, hu0⟩ : ∃ u, (l.getD (k - 1) (0, 0)).1 = u := ⟨_, rfl⟩
            obtain ⟨v, hv0⟩ : ∃ v, (l.getD (k - 1) (0, 0)).2 = v := ⟨_, rfl⟩
            have Huv := Lib.hid (show l.getD (k - 1) (0, 0) = (u, v) from Prod.ext hu0 hv0)
            rw [hu0] at r0 hsm2
            rw [hv0] at r1 hsm2
            have HC := Lib.hid (fun w => spec_nbCross u v x y w hsm2.1 hsm2.2 Hsm.out.1 Hsm.out.2)
            have hrs := riseT_succ l (k - 1)
            have hrm := @riseT_miss l (k - 1) (l.length - 1) (by omega)
            rw [show k - 1 + 1 = k by omega, Huv.out, Hxy.out] at hrs hrm
            rw [Hri.out, Bool.true_and] at hrs
            have Hrs := Lib.hid hrs
            have Hrm := Lib.hid hrm
            clear hrs hrm hsm2 hu0 hv0 Hc Huv Hxy Hsm Hri
            generalize crs (u, v) (x, y) = z at *
            go_wp2
            refine wp_region_held_drew (S := (fun w' => w'.cell? ⟨wr.heap.size, 0, none⟩ = some (.int .i64 x) ∧ w'.cell? ⟨wr.heap.size, 1, none⟩ = some (.int .i64 y) ∧ w'.cell? ⟨b, off + (k - 1) * 2, none⟩ = some (.int .i64 u) ∧ w'.cell? ⟨b, off + (k - 1) * 2 + 1, none⟩ = some (.int .i64 v) ∧ Below w.heap.size w w')) (by kernel_rfl) ?_ (fun hH => ?_)
            · exact ⟨by simp [go_sem], by simp [go_sem], by simp [go_sem, hbw, r0], by simp [go_sem, hbw, r1], (hb.alloc hb.size _).drew⟩
            refine wpAnyH_take (i := 0) (oi := _) (v := ?_) rfl (by kernel_rfl) (by kernel_rfl) (by kernel_rfl) (fun _ _ _ h => h) (Or.inl ⟨by rfl, ?_⟩) hH ?_
            rotate_left
            · (intro w hSw; (try dsimp only at hSw); go_simp <;> (with_reducible rfl))
            try simp only [Act.put, List.getElem_toArray, List.getElem_cons_zero, List.setIfInBounds_toArray, List.set_cons_zero, List.set_cons_succ]
            refine wpAnyH_ready (rs := [1]) (by kernel_rfl) (by simp) ?_
            refine AllReadyH.cons rfl (fun K hK => ?_) AllReadyH.nil
            go_simp
            refine (HG.out _).mono ?_
            rintro e w1 ⟨rfl, hb1⟩
            refine hK.out _ _ ?_ (fun hH => ?_)
            · exact kept4 hH hb1 (Nat.le_refl _)
            clear hK K
            try simp only [Act.put, List.getElem_toArray, List.getElem_cons_succ, List.getElem_cons_zero, List.setIfInBounds_toArray, List.set_cons_zero, List.set_cons_succ]
            refine wpAnyH_take (i := 2) (oi := _) (v := ?_) rfl (by kernel_rfl) (by kernel_rfl) (by kernel_rfl) (fun _ _ _ h => h) (Or.inl ⟨by rfl, ?_⟩) hH ?_
            rotate_left
            · (intro w hSw; (try dsimp only at hSw); go_simp <;> (with_reducible rfl))
            try simp only [Act.put, List.getElem_toArray, List.getElem_cons_succ, List.getElem_cons_zero, List.setIfInBounds_toArray, List.set_cons_zero, List.set_cons_succ]
            refine wpAnyH_take (i := 3) (oi := _) (v := ?_) rfl (by kernel_rfl) (by kernel_rfl) (by kernel_rfl) (fun _ _ _ h => h) (Or.inl ⟨by rfl, ?_⟩) hH ?_
            rotate_left
            · (intro w hSw; (try dsimp only at hSw); go_simp <;> (with_reducible rfl))
            try simp only [Act.put, List.getElem_toArray, List.getElem_cons_succ, List.getElem_cons_zero, List.setIfInBounds_toArray, List.set_cons_zero, List.set_cons_succ]
            refine wpAnyH_take (i := 4) (oi := _) (v := ?_) rfl (by kernel_rfl) (by kernel_rfl) (by kernel_rfl) (fun _ _ _ h => h) (Or.inl ⟨by rfl, ?_⟩) hH ?_
            rotate_left
            · (intro w hSw; (try dsimp only at hSw); go_simp <;> (with_reducible rfl))
            try simp only [Act.put, List.getElem_toArray, List.getElem_cons_succ, List.getElem_cons_zero, List.setIfInBounds_toArray, List.set_cons_zero, List.set_cons_succ]
            refine wpAnyH_take (i := 5) (oi := _) (v := ?_) rfl (by kernel_rfl) (by kernel_rfl) (by kernel_rfl) (fun _ _ _ h => h) (Or.inl ⟨by rfl, ?_⟩) hH ?_
            rotate_left
            · (intro w hSw; (try dsimp only at hSw); go_simp <;> (with_reducible rfl))
            try simp only [Act.put, List.getElem_toArray, List.getElem_cons_succ, List.getElem_cons_zero, List.setIfInBounds_toArray, List.set_cons_zero, List.set_cons_succ]
            refine wpAnyH_take (i := 6) (oi := _) (v := ?_) rfl (by kernel_rfl) (by kernel_rfl) (by kernel_rfl) (fun _ _ _ h => h) (Or.inl ⟨by rfl, ?_⟩) hH ?_
            rotate_left
            · (intro w hSw; (try dsimp only at hSw); go_simp <;> (with_reducible rfl))
            try simp only [Act.put, List.getElem_toArray, List.getElem_cons_succ, List.getElem_cons_zero, List.setIfInBounds_toArray, List.set_cons_zero, List.set_cons_succ]
            refine wpAnyH_take (i := 7) (oi := _) (v := ?_) rfl (by kernel_rfl) (by kernel_rfl) (by kernel_rfl) (fun _ _ _ h => h) (Or.inl ⟨by rfl, ?_⟩) hH ?_
            rotate_left
            · (intro w hSw; (try dsimp only at hSw); go_simp <;> (with_reducible rfl))
            try simp only [Act.put, List.getElem_toArray, List.getElem_cons_succ, List.getElem_cons_zero, List.setIfInBounds_toArray, List.set_cons_zero, List.set_cons_succ]
            refine wpAnyH_take (i := 8) (oi := _) (v := ?_) rfl (by kernel_rfl) (by kernel_rfl) (by kernel_rfl) (fun _ _ _ h => h) (Or.inl ⟨by rfl, ?_⟩) hH ?_
            rotate_left
            · (intro w hSw; (try dsimp only at hSw); go_simp <;> (with_reducible rfl))
            try simp only [Act.put, List.getElem_toArray, List.getElem_cons_succ, List.getElem_cons_zero, List.setIfInBounds_toArray, List.set_cons_zero, List.set_cons_succ]
            refine wpAnyH_take (i := 9) (oi := _) (v := ?_) rfl (by kernel_rfl) (by kernel_rfl) (by kernel_rfl) (fun _ _ _ h => h) (Or.inl ⟨by rfl, ?_⟩) hH ?_
            rotate_left
            · (intro w hSw; (try dsimp only at hSw); go_simp <;> (with_reducible rfl))
            try simp only [Act.put, List.getElem_toArray, List.getElem_cons_succ, List.getElem_cons_zero, List.setIfInBounds_toArray, List.set_cons_zero, List.set_cons_succ]
            refine wpAnyH_take (i := 10) (oi := _) (v := ?_) rfl (by kernel_rfl) (by kernel_rfl) (by kernel_rfl) (fun _ _ _ h => h) (Or.inl ⟨by rfl, ?_⟩) hH ?_
            rotate_left
            · (intro w hSw; (try dsimp only at hSw); go_simp <;> (with_reducible rfl))
            try simp only [Act.put, List.getElem_toArray, List.getElem_cons_succ, List.getElem_cons_zero, List.setIfInBounds_toArray, List.set_cons_zero, List.set_cons_succ]
            refine wpAnyH_take (i := 11) (oi := _) (v := ?_) rfl (by kernel_rfl) (by kernel_rfl) (by kernel_rfl) (fun _ _ _ h => h) (Or.inl ⟨by rfl, ?_⟩) hH ?_
            rotate_left
            · (intro w hSw; (try dsimp only at hSw); go_simp <;> (with_reducible rfl))
            try simp only [Act.put, List.getElem_toArray, List.getElem_cons_succ, List.getElem_cons_zero, List.setIfInBounds_toArray, List.set_cons_zero, List.set_cons_succ]
            refine wpAnyH_take (i := 12) (oi := _) (v := ?_) rfl (by kernel_rfl) (by kernel_rfl) (by kernel_rfl) (fun _ _ _ h => h) (Or.inl ⟨by rfl, ?_⟩) hH ?_
            rotate_left
            · (intro w hSw; (try dsimp only at hSw); go_simp <;> (with_reducible rfl))
            try simp only [Act.put, List.getElem_toArray, List.getElem_cons_succ, List.getElem_cons_zero, List.setIfInBounds_toArray, List.set_cons_zero, List.set_cons_succ]
            refine wpAnyH_ready (rs := [13]) (by kernel_rfl) (by simp) ?_
            refine AllReadyH.cons rfl (fun K hK => ?_) AllReadyH.nil
            go_simp
            refine (HC.out _).mono ?_
            rintro e w2 ⟨rfl, hb2⟩
            refine hK.out _ _ ?_ (fun hH => ?_)
            · exact kept4 hH hb2 (Nat.le_refl _)
            clear hK K
            try simp only [Act.put, List.getElem_toArray, List.getElem_cons_succ, List.getElem_cons_zero, List.setIfInBounds_toArray, List.set_cons_zero, List.set_cons_succ]
            refine wpAnyH_take (i := 14) (oi := _) (v := ?_) rfl (by kernel_rfl) (by kernel_rfl) (by kernel_rfl) (fun _ _ _ h => h) (Or.inl ⟨by rfl, ?_⟩) hH ?_
            rotate_left
            · (intro w hSw; (try dsimp only at hSw); go_simp <;> (with_reducible rfl))
            try simp only [Act.put, List.getElem_toArray, List.getElem_cons_succ, List.getElem_cons_zero, List.setIfInBounds_toArray, List.set_cons_zero, List.set_cons_succ]
            refine wpAnyH_take (i := 15) (oi := _) (v := ?_) rfl (by kernel_rfl) (by kernel_rfl) (by kernel_rfl) (fun _ _ _ h => h) (Or.inl ⟨by rfl, ?_⟩) hH ?_
            rotate_left
            · (intro w hSw; (try dsimp only at hSw); go_simp <;> (with_reducible rfl))
            try simp only [Act.put, List.getElem_toArray, List.getElem_cons_succ, List.getElem_cons_zero, List.setIfInBounds_toArray, List.set_cons_zero, List.set_cons_succ]
            refine wpAnyH_take (i := 16) (oi := _) (v := ?_) rfl (by kernel_rfl) (by kernel_rfl) (by kernel_rfl) (fun _ _ _ h => h) (Or.inl ⟨by rfl, ?_⟩) hH ?_
            rotate_left
            · (intro w hSw; (try dsimp only at hSw); go_simp <;> (with_reducible rfl))
            try simp only [Act.put, List.getElem_toArray, List.getElem_cons_succ, List.getElem_cons_zero, List.setIfInBounds_toArray, List.set_cons_zero, List.set_cons_succ]
            refine wpAnyH_done (by kernel_rfl) ?_ _
            have hd := Lib.hid hH.2.2.2.2
            by_cases hz : z = 1
            · have hz1 : (z != 1) = false := by simpa using hz
              have hr3 := Hrs.out
              rw [show decide (z = 1) = true by simpa using hz] at hr3
              have Hr3 := Lib.hid hr3
              clear hH hb1 hb2 hb Hrs Hrm hr3 hz
              go_wp2
              go_roundw
              case rel => exact ⟨k + 1, by omega, by go_num, Hno2.out, by rw [show k + 1 - 1 = k by omega]; exact Hr3.out, hd.out⟩
              case measure => simp [intOf]; omega
            · have hz1 : (z != 1) = true := by simpa using hz
              have HE := Lib.hid (polB_rise (Hrm.out hz))
              clear hH hb1 hb2 hb Hrs Hrm hz
              go_wp2
              go_ret
              exact ⟨ret_bool HE.out.symm, hd.out⟩
      · obtain rfl : k = l.length := by omega
        rw [List.take_length] at hno
        have hall : allG l = true := by rw [anyB_all] at hno; simpa using hno
        obtain ⟨p0, p1⟩ := hc 0 (by omega)
        simp only [Nat.zero_mul, Nat.add_zero] at p0 p1
        obtain ⟨q0, q1⟩ := hc (l.length - 1) (by omega)
        have hE := polB_all ⟨n3, n12⟩ hall hri
        have j0 : (0 : Int) ≤ (l.length : Int) - 1 := by omega
        have j1 : (l.length : Int) - 1 < (l.length : Int) := by omega
        have j3 : ((l.length : Int) - 1).toNat = l.length - 1 := by omega
        have j5 : (1 : Int) ≤ (l.length : Int) := by omega
        have HE := Lib.hid hE
        have Hb := Lib.hid hb
        clear hall hri hno hE hc hb
        generalize l.getD 0 (0, 0) = P at *
        generalize l.getD (l.length - 1) (0, 0) = Q at *
        obtain ⟨p, p'⟩ := P
        obtain ⟨q, q'⟩ := Q
        dsimp only at p0 p1 q0 q1
        have hE1 := run_fr_eq p p' 0 1
        have hE2 := run_fr_eq q q' 1 0
        have f1 : decide ((p, p') = ((0 : Int), (1 : Int))) = ((p == 0) && (p' == 1)) := by rw [Bool.eq_iff_iff, frEq_iff, decide_eq_true_eq]
        have f2 : decide ((q, q') = ((1 : Int), (0 : Int))) = ((q == 1) && (q' == 0)) := by rw [Bool.eq_iff_iff, frEq_iff, decide_eq_true_eq]
        rw [f1, f2] at HE
        clear f1 f2
        generalize ((p == 0) && (p' == 1)) = z1 at *
        generalize ((q == 1) && (q' == 0)) = z2 at *
        cases z1
        · go_wp2
          go_ret
          exact ⟨ret_bool (by rw [HE.out]; rfl), Hb.out⟩
        · go_wp2
          go_ret
          exact ⟨ret_bool (by rw [HE.out]; rfl), Hb.out⟩
  · have hin : inB (l.length : Int) 3 12 = false := by unfold inB; rw [decide_eq_false_iff_not]; omega
    have HE := Lib.hid (polB_len hn)
    clear h hn
    go_enter Try.func60, Try.ntmps60
    go_wp2_with fail
    refine (spec_l1In' _ _ _ _).mono ?_
    rintro e w1 ⟨rfl, rfl⟩
    rw [hin]
    clear hin
    go_wp2
    go_ret
    exact ⟨ret_bool HE.out.symm, Below.refl _ _⟩
end Go.Proofs.Ytaifgfmkkgndkab
