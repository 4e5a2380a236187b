/- CrossingsBetween: the model's and the program's contract, and the law's walk. -/
import Derived.Test.YtbpaaoeefcebeaaTwoT
import Derived.Test.YtbpaaoeefcebeaaCrossingsBetweenC
namespace Go.Proofs.Ytbpaaoeefcebeaa
set_option linter.unusedVariables false
open Go.RowKit

/-- how many of the first k diagonals of b are crossed by d; the same of the first k of a, and all of b -/
def cntC (d : Int × Int) (b : List (Int × Int)) (k : Nat) : Nat := (b.take k).countP fun e => crB d.1 d.2 e.1 e.2
def crA (a b : List (Int × Int)) (k : Nat) : Nat := ((a.take k).map fun d => cntC d b b.length).sum
theorem cntC_zero (d : Int × Int) (b : List (Int × Int)) : cntC d b 0 = 0 := by simp [cntC]
theorem cntC_succ (d : Int × Int) (b : List (Int × Int)) (k : Nat) (h : k < b.length) : cntC d b (k + 1) = cntC d b k + (if crB d.1 d.2 (b.getD k (0, 0)).1 (b.getD k (0, 0)).2 = true then 1 else 0) := by
  unfold cntC
  rw [List.take_succ_eq_append_getElem h, List.countP_append, getD_at h]
  simp [List.countP_cons]
theorem cntC_le (d : Int × Int) (b : List (Int × Int)) (k : Nat) : cntC d b k ≤ k := by
  unfold cntC
  exact Nat.le_trans List.countP_le_length (by simp; omega)
theorem crA_zero (a b : List (Int × Int)) : crA a b 0 = 0 := by simp [crA]
theorem crA_succ (a b : List (Int × Int)) (k : Nat) (h : k < a.length) : crA a b (k + 1) = crA a b k + cntC (a.getD k (0, 0)) b b.length := by
  unfold crA
  rw [List.take_succ_eq_append_getElem h, List.map_append, List.sum_append, getD_at h]
  simp
theorem crA_le (a b : List (Int × Int)) (k : Nat) (h : k ≤ a.length) : crA a b k ≤ k * b.length := by
  induction k with
  | zero => rw [crA_zero]; omega
  | succ k ih =>
    rw [crA_succ a b k (by omega), Nat.succ_mul]
    have := ih (by omega)
    have := cntC_le (a.getD k (0, 0)) b b.length
    omega
def crR (n : Int) (a b : List (Int × Int)) : Int := if twoB n a b = true then (crA a b a.length : Int) else 0
def CrsEnd (n : Int) (a b : List (Int × Int)) (w : World) (e : Ending) (w' : World) : Prop := e = .returned (.tuple #[.int .i64 (crR n a b), .bool (twoB n a b)]) ∧ Below w.heap.size w w'

set_option maxRecDepth 100000 in
set_option maxHeartbeats 3200000 in
theorem spec_CrossingsBetween (n : Int) (A A2 : Option Addr) (c c2 B B2 : Nat) (l r : List (Int × Int)) (w : World) (h : SlD w B A l) (h2 : SlD w B2 A2 r) (hB : B ≤ w.heap.size) (hB2 : B2 ≤ w.heap.size) (hl : l.length ≤ 1048576) (hl2 : r.length ≤ 1048576) (hlc : l.length ≤ c) (hlc2 : r.length ≤ c2) :
    Calls Try.prog 53 #[.int .i64 n, .slice A l.length c, .slice A2 r.length c2] w (CrsEnd n l r w) := by
  obtain ⟨m, hm⟩ : ∃ m, l.length = m := ⟨_, rfl⟩
  obtain ⟨m2, hm2⟩ : ∃ m2, r.length = m2 := ⟨_, rfl⟩
  rw [hm, hm2]
  rw [hm] at hl hlc
  rw [hm2] at hl2 hlc2
  have H := Lib.hid h
  have H2 := Lib.hid h2
  have Hl := Lib.hid hm
  have Hr := Lib.hid hm2
  clear h h2 hm hm2
  go_enter Try.func53, Try.ntmps53
  go_wp2_with fail
  refine (spec_flTwo n A A2 m m2 c c2 B B2 l r _ H.out H2.out Hl.out Hr.out hB hB2 hl hl2 hlc hlc2).mono ?_
  rintro e w1 ⟨rfl, hb1⟩
  cases ht : twoB n l r
  · have hres : CrsEnd n l r w (.returned (.tuple #[.int .i64 0, .bool false])) w1 := by
      unfold CrsEnd crR
      rw [ht]
      exact ⟨rfl, hb1⟩
    have Hres := Lib.hid hres
    clear hres hb1
    go_wp2
    go_ret2
    exact Hres.out
  · obtain ⟨hm9, hm9'⟩ := twoB_len ht
    rw [Hl.out] at hm9
    rw [Hr.out] at hm9'
    have hfin : ∀ wr, Below w1.heap.size w1 wr → CrsEnd n l r w (.returned (.tuple #[.int .i64 (crA l r m : Int), .bool true])) wr := fun wr hb => by
      unfold CrsEnd crR
      rw [ht, if_pos rfl, Hl.out]
      exact ⟨rfl, below_kept hb1 (Nat.le_refl _) hb⟩
    have Hfin := Lib.hid hfin
    have Hb1 := Lib.hid hb1
    clear hfin hb1 ht
    go_wp2
    go_loopw [8, 20] (fun q i wr => ∃ k : Nat, k ≤ m ∧ i = .int .i64 k ∧ q = .int .i64 (crA l r k : Int) ∧ Below w1.heap.size w1 wr) (fun _ i _ => m - (intOf i).toNat)
    case atStart => exact ⟨0, Nat.zero_le _, rfl, by rw [crA_zero]; rfl, Below.refl _ _⟩
    case round =>
      obtain ⟨k, hk, rfl, rfl, hb⟩ := hrel
      by_cases hlt : k < m
      · have hd := below_kept Hb1.out (Nat.le_refl _) hb
        obtain ⟨b, off, rfl, hbB, hc⟩ := H.out.below (hd.mono hB) (by have := Hl.out; omega)
        obtain ⟨g0, g1⟩ := hc k (by rw [Hl.out]; exact hlt)
        have i0 : (0 : Int) ≤ (k : Int) := by omega
        have i1 : (k : Int) < (m : Int) := by omega
        have hs := crA_succ l r k (by rw [Hl.out]; exact hlt)
        have hle := crA_le l r k (by rw [Hl.out]; exact hk)
        rw [Hr.out] at hs hle
        have hle2 : crA l r k ≤ 81 := Nat.le_trans hle (Nat.mul_le_mul (show k ≤ 9 by omega) hm9')
        generalize hd0 : l.getD k (0, 0) = d at *
        obtain ⟨x, y⟩ := d
        dsimp only at g0 g1
        generalize crA l r k = z at *
        have Hs := Lib.hid hs
        have hbA := hb.alloc hb.size (.cells #[.int .i64 x, .int .i64 y] 40)
        have HbA := Lib.hid hbA
        have HbW := Lib.hid (below_kept Hb1.out (Nat.le_refl _) hbA)
        clear hc hd0 hd hs hle hbA
        go_wp2
        obtain ⟨wo, hwo⟩ : ∃ wo, wo = wr.alloc (.cells #[.int .i64 x, .int .i64 y] 40) := ⟨_, rfl⟩
        have y0 : wo.cell? ⟨wr.heap.size, 0, none⟩ = some (.int .i64 x) := by rw [hwo]; simp [go_sem]
        have y1 : wo.cell? ⟨wr.heap.size, 1, none⟩ = some (.int .i64 y) := by rw [hwo]; simp [go_sem]
        have hgo : wr.heap.size < wo.heap.size := World.block_lt_of_cell? wo _ y0
        rw [← hwo] at HbA HbW ⊢
        clear hwo g0 g1 hb
        obtain ⟨gx, hgx⟩ : ∃ gx, gx = wr.heap.size := ⟨_, rfl⟩
        rw [← hgx] at y0 y1 hgo ⊢
        clear hgx
        go_loopw [8, 26] (fun q i wq => ∃ j : Nat, j ≤ m2 ∧ i = .int .i64 j ∧ q = .int .i64 ((z : Int) + (cntC (x, y) r j : Int)) ∧ Below wo.heap.size wo wq) (fun _ i _ => m2 - (intOf i).toNat)
        case atStart => exact ⟨0, Nat.zero_le _, rfl, by rw [cntC_zero]; simp, Below.refl _ _⟩
        case round =>
          obtain ⟨j, hj, rfl, rfl, hbj⟩ := hrel
          by_cases hjt : j < m2
          · have hd := below_kept HbW.out (Nat.le_refl _) hbj
            obtain ⟨b2, off2, rfl, hbB2, hc2⟩ := H2.out.below (hd.mono hB2) (by have := Hr.out; omega)
            obtain ⟨s0, s1⟩ := hc2 j (by rw [Hr.out]; exact hjt)
            have j0 : (0 : Int) ≤ (j : Int) := by omega
            have j1 : (j : Int) < (m2 : Int) := by omega
            have hst := cntC_succ (x, y) r j (by rw [Hr.out]; exact hjt)
            have hcl := cntC_le (x, y) r j
            have p0 := cell_kept hbj y0
            have p1 := cell_kept hbj y1
            have hgq : gx < wr.heap.size := World.block_lt_of_cell? wr _ p0
            dsimp only at hst
            generalize (r.getD j (0, 0)).1 = u at *
            generalize (r.getD j (0, 0)).2 = v at *
            generalize cntC (x, y) r j = t at *
            have Hst := Lib.hid hst
            have hbj2 := hbj.alloc hbj.size (.cells #[.int .i64 u, .int .i64 v] 40)
            have Hbj2 := Lib.hid hbj2
            clear hc2 hd hst hbj2 hbj
            go_wp2_with fail
            refine (spec_poCross x y u v _).mono ?_
            rintro e w5 ⟨rfl, hb5⟩
            have hb6 := below_kept Hbj2.out (Nat.le_refl _) hb5
            clear hb5 p0 p1 s0 s1
            cases hcr : crB x y u v
            · have hE : cntC (x, y) r (j + 1) = t := by rw [Hst.out, hcr]; simp
              have HE := Lib.hid hE
              clear hE
              go_wp2
              go_roundw
              case rel => exact ⟨j + 1, by omega, by go_num, by rw [HE.out], hb6⟩
              case measure => simp [intOf]; omega
            · have hE : cntC (x, y) r (j + 1) = t + 1 := by rw [Hst.out, hcr]; simp
              have HE := Lib.hid hE
              have t1 : (z : Int) + (t : Int) ≤ 1000 := by omega
              have e3 : (z : Int) + (((t + 1 : Nat)) : Int) = (z : Int) + (t : Int) + 1 := by omega
              have E3 := Lib.hid e3
              clear hE e3
              go_wp2
              go_roundw
              case rel => exact ⟨j + 1, by omega, by go_num, by rw [HE.out, E3.out], hb6⟩
              case measure => simp [intOf]; omega
          · obtain rfl : j = m2 := by omega
            have hE : (crA l r (k + 1) : Int) = (z : Int) + (cntC (x, y) r j : Int) := by rw [Hs.out]; omega
            have HE := Lib.hid hE
            have hb6 := below_kept HbA.out (Nat.le_refl _) hbj
            clear hE hbj y0 y1
            go_wp2
            go_roundw
            case rel => exact ⟨k + 1, by omega, by go_num, by rw [HE.out], hb6⟩
            case measure => simp [intOf]; omega
      · obtain rfl : k = m := by omega
        have Hres := Lib.hid (Hfin.out _ hb)
        clear hb
        go_wp2
        go_ret2
        exact Hres.out

set_option maxRecDepth 100000 in
set_option maxHeartbeats 3200000 in
theorem impl_CrossingsBetween (n : Int) (A A2 : Option Addr) (c c2 B B2 : Nat) (l r : List (Int × Int)) (w : World) (h : SlD w B A l) (h2 : SlD w B2 A2 r) (hB : B ≤ w.heap.size) (hB2 : B2 ≤ w.heap.size) (hl : l.length ≤ 1048576) (hl2 : r.length ≤ 1048576) (hlc : l.length ≤ c) (hlc2 : r.length ≤ c2) :
    Calls Try.prog 54 #[.int .i64 n, .slice A l.length c, .slice A2 r.length c2] w (CrsEnd n l r w) := by
  obtain ⟨m, hm⟩ : ∃ m, l.length = m := ⟨_, rfl⟩
  obtain ⟨m2, hm2⟩ : ∃ m2, r.length = m2 := ⟨_, rfl⟩
  rw [hm, hm2]
  rw [hm] at hl hlc
  rw [hm2] at hl2 hlc2
  have H := Lib.hid h
  have H2 := Lib.hid h2
  have Hl := Lib.hid hm
  have Hr := Lib.hid hm2
  clear h h2 hm hm2
  go_enter Try.func54, Try.ntmps54
  go_wp2_with fail
  refine (impl_areTriangulations n A A2 m m2 c c2 B B2 l r _ H.out H2.out Hl.out Hr.out hB hB2 hl hl2 hlc hlc2).mono ?_
  rintro e w1 ⟨rfl, hb1⟩
  cases ht : twoB n l r
  · have hres : CrsEnd n l r w (.returned (.tuple #[.int .i64 0, .bool false])) w1 := by
      unfold CrsEnd crR
      rw [ht]
      exact ⟨rfl, hb1⟩
    have Hres := Lib.hid hres
    clear hres hb1
    go_wp2
    go_ret2
    exact Hres.out
  · obtain ⟨hm9, hm9'⟩ := twoB_len ht
    rw [Hl.out] at hm9
    rw [Hr.out] at hm9'
    have hfin : ∀ wr, Below w1.heap.size w1 wr → CrsEnd n l r w (.returned (.tuple #[.int .i64 (crA l r m : Int), .bool true])) wr := fun wr hb => by
      unfold CrsEnd crR
      rw [ht, if_pos rfl, Hl.out]
      exact ⟨rfl, below_kept hb1 (Nat.le_refl _) hb⟩
    have Hfin := Lib.hid hfin
    have Hb1 := Lib.hid hb1
    clear hfin hb1 ht
    go_wp2
    go_loopw [8, 20] (fun q i wr => ∃ k : Nat, k ≤ m ∧ i = .int .i64 k ∧ q = .int .i64 (crA l r k : Int) ∧ Below w1.heap.size w1 wr) (fun _ i _ => m - (intOf i).toNat)
    case atStart => exact ⟨0, Nat.zero_le _, rfl, by rw [crA_zero]; rfl, Below.refl _ _⟩
    case round =>
      obtain ⟨k, hk, rfl, rfl, hb⟩ := hrel
      by_cases hlt : k < m
      · have hd := below_kept Hb1.out (Nat.le_refl _) hb
        obtain ⟨b, off, rfl, hbB, hc⟩ := H.out.below (hd.mono hB) (by have := Hl.out; omega)
        obtain ⟨g0, g1⟩ := hc k (by rw [Hl.out]; exact hlt)
        have i0 : (0 : Int) ≤ (k : Int) := by omega
        have i1 : (k : Int) < (m : Int) := by omega
        have hs := crA_succ l r k (by rw [Hl.out]; exact hlt)
        have hle := crA_le l r k (by rw [Hl.out]; exact hk)
        rw [Hr.out] at hs hle
        have hle2 : crA l r k ≤ 81 := Nat.le_trans hle (Nat.mul_le_mul (show k ≤ 9 by omega) hm9')
        generalize hd0 : l.getD k (0, 0) = d at *
        obtain ⟨x, y⟩ := d
        dsimp only at g0 g1
        generalize crA l r k = z at *
        have Hs := Lib.hid hs
        have hbA := hb.alloc hb.size (.cells #[.int .i64 x, .int .i64 y] 40)
        have HbA := Lib.hid hbA
        have HbW := Lib.hid (below_kept Hb1.out (Nat.le_refl _) hbA)
        clear hc hd0 hd hs hle hbA
        go_wp2
        obtain ⟨wo, hwo⟩ : ∃ wo, wo = wr.alloc (.cells #[.int .i64 x, .int .i64 y] 40) := ⟨_, rfl⟩
        have y0 : wo.cell? ⟨wr.heap.size, 0, none⟩ = some (.int .i64 x) := by rw [hwo]; simp [go_sem]
        have y1 : wo.cell? ⟨wr.heap.size, 1, none⟩ = some (.int .i64 y) := by rw [hwo]; simp [go_sem]
        have hgo : wr.heap.size < wo.heap.size := World.block_lt_of_cell? wo _ y0
        rw [← hwo] at HbA HbW ⊢
        clear hwo g0 g1 hb
        obtain ⟨gx, hgx⟩ : ∃ gx, gx = wr.heap.size := ⟨_, rfl⟩
        rw [← hgx] at y0 y1 hgo ⊢
        clear hgx
        go_loopw [8, 26] (fun q i wq => ∃ j : Nat, j ≤ m2 ∧ i = .int .i64 j ∧ q = .int .i64 ((z : Int) + (cntC (x, y) r j : Int)) ∧ Below wo.heap.size wo wq) (fun _ i _ => m2 - (intOf i).toNat)
        case atStart => exact ⟨0, Nat.zero_le _, rfl, by rw [cntC_zero]; simp, Below.refl _ _⟩
        case round =>
          obtain ⟨j, hj, rfl, rfl, hbj⟩ := hrel
          by_cases hjt : j < m2
          · have hd := below_kept HbW.out (Nat.le_refl _) hbj
            obtain ⟨b2, off2, rfl, hbB2, hc2⟩ := H2.out.below (hd.mono hB2) (by have := Hr.out; omega)
            obtain ⟨s0, s1⟩ := hc2 j (by rw [Hr.out]; exact hjt)
            have j0 : (0 : Int) ≤ (j : Int) := by omega
            have j1 : (j : Int) < (m2 : Int) := by omega
            have hst := cntC_succ (x, y) r j (by rw [Hr.out]; exact hjt)
            have hcl := cntC_le (x, y) r j
            have p0 := cell_kept hbj y0
            have p1 := cell_kept hbj y1
            have hgq : gx < wr.heap.size := World.block_lt_of_cell? wr _ p0
            dsimp only at hst
            generalize (r.getD j (0, 0)).1 = u at *
            generalize (r.getD j (0, 0)).2 = v at *
            generalize cntC (x, y) r j = t at *
            have Hst := Lib.hid hst
            have hbj2 := hbj.alloc hbj.size (.cells #[.int .i64 u, .int .i64 v] 40)
            have Hbj2 := Lib.hid hbj2
            clear hc2 hd hst hbj2 hbj
            go_wp2_with fail
            refine (impl_cross x y u v _).mono ?_
            rintro e w5 ⟨rfl, hb5⟩
            have hb6 := below_kept Hbj2.out (Nat.le_refl _) hb5
            clear hb5 p0 p1 s0 s1
            cases hcr : crB x y u v
            · have hE : cntC (x, y) r (j + 1) = t := by rw [Hst.out, hcr]; simp
              have HE := Lib.hid hE
              clear hE
              go_wp2
              go_roundw
              case rel => exact ⟨j + 1, by omega, by go_num, by rw [HE.out], hb6⟩
              case measure => simp [intOf]; omega
            · have hE : cntC (x, y) r (j + 1) = t + 1 := by rw [Hst.out, hcr]; simp
              have HE := Lib.hid hE
              have t1 : (z : Int) + (t : Int) ≤ 1000 := by omega
              have e3 : (z : Int) + (((t + 1 : Nat)) : Int) = (z : Int) + (t : Int) + 1 := by omega
              have E3 := Lib.hid e3
              clear hE e3
              go_wp2
              go_roundw
              case rel => exact ⟨j + 1, by omega, by go_num, by rw [HE.out, E3.out], hb6⟩
              case measure => simp [intOf]; omega
          · obtain rfl : j = m2 := by omega
            have hE : (crA l r (k + 1) : Int) = (z : Int) + (cntC (x, y) r j : Int) := by rw [Hs.out]; omega
            have HE := Lib.hid hE
            have hb6 := below_kept HbA.out (Nat.le_refl _) hbj
            clear hE hbj y0 y1
            go_wp2
            go_roundw
            case rel => exact ⟨k + 1, by omega, by go_num, by rw [HE.out], hb6⟩
            case measure => simp [intOf]; omega
      · obtain rfl : k = m := by omega
        have Hres := Lib.hid (Hfin.out _ hb)
        clear hb
        go_wp2
        go_ret2
        exact Hres.out

theorem WCrossingsBetween.walk (w : World) (n : Int) (wn : (Lit.int .i64 n).wf = true) (A : Option Addr) (c : Nat) (l : List (Int × Int)) (h : SlD w w.heap.size A l)
    (hj : l.length ≤ c ∧ c ≤ maxLen ∧ ∀ x ∈ l, (Lit.int .i64 x.1).wf = true ∧ (Lit.int .i64 x.2).wf = true) (A2 : Option Addr) (c2 : Nat) (r : List (Int × Int)) (h2 : SlD w w.heap.size A2 r)
    (hj2 : r.length ≤ c2 ∧ c2 ≤ maxLen ∧ ∀ x ∈ r, (Lit.int .i64 x.1).wf = true ∧ (Lit.int .i64 x.2).wf = true) :
    Calls Try.prog 14 #[.int .i64 n, .slice A l.length c, .slice A2 r.length c2] w fun e w' => e = .returned (.bool true) ∧ Below w.heap.size w w' :=
  WCrossingsBetween.core w n A c l A2 c2 r h hj.1 hj.2.1 h2 hj2.1 hj2.2.1 (crR n l r) (twoB n l r)
    (Lib.hid fun A c A2 c2 w h hl hlc h2 hl2 hlc2 => spec_CrossingsBetween n A A2 c c2 _ _ l r w h h2 (Nat.le_refl _) (Nat.le_refl _) hl hl2 hlc hlc2)
    (Lib.hid fun A c A2 c2 w h hl hlc h2 hl2 hlc2 => impl_CrossingsBetween n A A2 c c2 _ _ l r w h h2 (Nat.le_refl _) (Nat.le_refl _) hl hl2 hlc hlc2)
end Go.Proofs.Ytbpaaoeefcebeaa
