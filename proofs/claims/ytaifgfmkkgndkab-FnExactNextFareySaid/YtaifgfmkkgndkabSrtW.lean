/- The sort of fractions: its order, its closure, its worlds. -/
import Derived.Shelf.SlSortCmp.InsertionK
import Derived.Test.YtaifgfmkkgndkabFarM
import Derived.Test.YtaifgfmkkgndkabNbS
import Derived.Test.YtaifgfmkkgndkabAppF
namespace Go.Proofs.Ytaifgfmkkgndkab
set_option linter.unusedVariables false
open Go.RowKit

/-- a fraction's two cells, and what the closure tells of two -/
def encF (x : Fx) : List Value := [.int .i64 (fval x).1, .int .i64 (fval x).2]
def cmpF (x y : Fx) : Int := crs (fval y) (fval x)
theorem fval_bd (x : Fx) : (0 ≤ (fval x).1 ∧ (fval x).1 ≤ 40) ∧ 1 ≤ (fval x).2 ∧ (fval x).2 ≤ 40 := by unfold fval; dsimp only; omega
theorem crs_three (x y z : Int × Int) : crs z x * y.2 = crs z y * x.2 + crs y x * z.2 := by unfold crs; grind
theorem ltF_iff (x y : Fx) : Go.Proofs.ltOf cmpF x y = decide (crs (fval y) (fval x) < 0) := rfl
theorem swoF : Go.Sort.SWO (Go.Proofs.ltOf cmpF) where
  irrefl x := by rw [ltF_iff, crs_self]; simp
  trans x y z h1 h2 := by
    rw [ltF_iff, decide_eq_true_eq] at *
    have e := crs_three (fval x) (fval y) (fval z)
    have bx := fval_bd x
    have by' := fval_bd y
    have bz := fval_bd z
    generalize crs (fval y) (fval x) = p at *
    generalize crs (fval z) (fval y) = q at *
    generalize crs (fval z) (fval x) = r at *
    have k1 := Int.mul_neg_of_neg_of_pos h2 (show 0 < (fval x).2 by omega)
    have k2 := Int.mul_neg_of_neg_of_pos h1 (show 0 < (fval z).2 by omega)
    false_or_by_contra
    have k3 := Int.mul_nonneg (show 0 ≤ r by omega) (show 0 ≤ (fval y).2 by omega)
    omega
  ntrans x y z h1 h2 := by
    rw [ltF_iff, decide_eq_false_iff_not] at *
    have e := crs_three (fval x) (fval y) (fval z)
    have bx := fval_bd x
    have by' := fval_bd y
    have bz := fval_bd z
    generalize crs (fval y) (fval x) = p at *
    generalize crs (fval z) (fval y) = q at *
    generalize crs (fval z) (fval x) = r at *
    have k1 := Int.mul_nonneg (show 0 ≤ q by omega) (show 0 ≤ (fval x).2 by omega)
    have k2 := Int.mul_nonneg (show 0 ≤ p by omega) (show 0 ≤ (fval z).2 by omega)
    intro h3
    have k3 := Int.mul_neg_of_neg_of_pos h3 (show 0 < (fval y).2 by omega)
    omega
theorem flatF_size (d : Array Fx) : (Go.Sort.flatK encF 2 d).size = d.size * 2 := Go.Sort.size_flatK _ _ _
theorem flatF_get (d : Array Fx) (t : Nat) (h : t < d.size * 2) : some (Go.Sort.flatK encF 2 d)[t]! = (dcs (d.toList.map fval))[t]? := by
  rw [Go.Sort.get_flatK _ _ _ _ h]
  have hi : t / 2 < d.size := by omega
  have hl : t / 2 < (d.toList.map fval).length := by simpa using hi
  have hg : (d.toList.map fval).getD (t / 2) (0, 0) = fval d[t / 2]! := by
    rw [List.getD_eq_getElem?_getD, List.getElem?_eq_getElem hl, Option.getD_some, List.getElem_map, Array.getElem_toList, getElem!_pos d _ hi]
  rcases Nat.mod_two_eq_zero_or_one t with e | e
  · have h0 := dcs_get0 (d.toList.map fval) (t / 2) hl
    rw [show t / 2 * 2 = t by omega, hg] at h0
    rw [h0, e]
    rfl
  · have h0 := dcs_get1 (d.toList.map fval) (t / 2) hl
    rw [show t / 2 * 2 + 1 = t by omega, hg] at h0
    rw [h0, e]
    rfl
theorem own_holdsK {w : World} {B e blk n c : Nat} (d : Array Fx) (hn : d.size = n) (h : w.ownsRow B e 2 (.slice (some ⟨blk, 0, none⟩) n c) n (dcs (d.toList.map fval))) : Go.Sort.HoldsK encF 2 w blk 0 d := by
  intro j hj
  rw [flatF_size] at hj
  rw [Nat.zero_add]
  refine ⟨?_, h.frozenAt j⟩
  rw [h.cellAt j (by omega), ← flatF_get d j hj]
  rfl
theorem own_sortWorldK {w : World} {B e blk n c m : Nat} {os : Array Obj} {xs : List Value} (d : Array Fx) (hn : d.size = n) (h : w.ownsRow B e 2 (.slice (some ⟨blk, 0, none⟩) n c) n xs) :
    (Go.Proofs.sortWorldK encF 2 w blk 0 m d os).ownsRow B e 2 (.slice (some ⟨blk, 0, none⟩) n c) n (dcs (d.toList.map fval)) := by
  rcases h.2 with ⟨h', _⟩ | ⟨g', cap, cur, h', hb, hh, hc, hcm, hs, ht⟩
  · cases h'
  · cases h'
    refine ⟨by rw [dcs_length]; simp [hn], .inr ⟨blk, c, Go.Sort.putCells id 0 (Go.Sort.flatK encF 2 d) cur, rfl, hb, ?_, hc, hcm, ?_, ?_⟩⟩
    · have hlt : blk < w.heap.size := by
        have := Array.getElem?_eq_some_iff.1 hh
        exact this.1
      unfold Go.Proofs.sortWorldK Go.Sort.putRowK Go.Sort.putRow
      rw [Go.Sort.heap_grow_old _ _ (by simpa [Go.Sort.mapBlock] using hlt)]
      show (w.heap.modify blk _)[blk]? = _
      rw [Array.getElem?_modify, if_pos rfl, hh]
      rfl
    · simp [Go.Sort.putCells, hs]
    · refine List.ext_getElem? fun t => ?_
      by_cases hlt : t < n * 2
      · rw [List.getElem?_take_of_lt hlt, ← flatF_get d t (by omega)]
        have hcs : t < cur.size := by
          have := Nat.mul_le_mul_right 2 hc
          omega
        rw [Array.getElem?_toList]
        simp [Go.Sort.putCells, hcs, hn, hlt]
      · rw [List.getElem?_eq_none (by simp; omega), List.getElem?_eq_none (by rw [dcs_length]; simp; omega)]
theorem below_sortWorldK {w w0 : World} {B blk m : Nat} {os : Array Obj} (d : Array Fx) (hb : B ≤ blk) (hw : B ≤ w.heap.size) (h : Below B w0 w) : Below B w0 (Go.Proofs.sortWorldK encF 2 w blk 0 m d os) := by
  refine h.trans ⟨rfl, rfl, rfl, ?_, fun k hk => ?_⟩
  · exact Go.Proofs.size_sortWorldK_c encF 2 w blk 0 m d os
  · unfold Go.Proofs.sortWorldK Go.Sort.putRowK Go.Sort.putRow
    rw [Go.Sort.heap_grow_old _ _ (by simp [Go.Sort.mapBlock]; omega)]
    show (w.heap.modify blk _)[k]? = _
    rw [Array.getElem?_modify, if_neg (by omega)]

set_option maxHeartbeats 800000 in
theorem impl_crossG (a b c d : Int) (w : World) (ha : Sm a) (hb : Sm b) (hc : Sm c) (hd : Sm d) :
    Calls Try.prog 53 #[.agg #[.int .i64 a, .int .i64 b], .agg #[.int .i64 c, .int .i64 d]] w fun e w' => e = .returned (.int .i64 (crs (a, b) (c, d))) ∧ ∃ q os, w' = Go.Sort.grow (w.drewN q) os := by
  have P1 := prodSm hc hb
  have P2 := prodSm ha hd
  obtain ⟨p1, p2⟩ := P1
  obtain ⟨p3, p4⟩ := P2
  unfold Sm at *
  go_enter Try.func53, Try.ntmps53
  go_wp2
  go_ret
  exact ⟨rfl, 0, _, by rw [Go.Sort.alloc_eq_grow, Go.Sort.alloc_eq_grow, Go.Sort.grow_grow]; rfl⟩
theorem drewN_growF (w : World) (os : Array Obj) (q : Nat) : (Go.Sort.grow w os).drewN q = Go.Sort.grow (w.drewN q) os := rfl
set_option maxHeartbeats 800000 in
/-- the closure: its captured box holds the method -/
theorem impl_rising (a b c d : Int) (g : Nat) (w : World) (ha : Sm a) (hb : Sm b) (hc : Sm c) (hd : Sm d) (hg : w.cell? ⟨g, 0, none⟩ = some (.func (.func 53) #[] #[])) :
    Calls Try.prog 81 #[.agg #[.int .i64 a, .int .i64 b], .agg #[.int .i64 c, .int .i64 d], .pointer (some ⟨g, 0, none⟩)] w fun e w' => e = .returned (.int .i64 (crs (c, d) (a, b))) ∧ ∃ q os, w' = Go.Sort.grow (w.drewN q) os := by
  have CF := Lib.hid (fun w => impl_crossG c d a b w hc hd ha hb)
  have hgl := World.block_lt_of_cell? w _ hg
  clear ha hb hc hd
  go_enter Try.func81, Try.ntmps81
  go_wp2_with fail
  refine (CF.out _).mono ?_
  rintro e w1 ⟨rfl, q, os, rfl⟩
  go_wp2
  go_ret
  exact ⟨rfl, q, _, by rw [Go.Sort.alloc_eq_grow, Go.Sort.alloc_eq_grow, Go.Sort.grow_grow, drewN_growF, Go.Sort.grow_grow]⟩
theorem cell_sortWorldK {w : World} {blk m : Nat} {os : Array Obj} (d : Array Fx) {a : Addr} (ha : a.block ≠ blk) (hl : a.block < w.heap.size) : (Go.Proofs.sortWorldK encF 2 w blk 0 m d os).cell? a = w.cell? a := by
  unfold Go.Proofs.sortWorldK
  rw [Go.Sort.cell?_grow _ _ _ (by simpa [Go.Sort.putRowK, Go.Sort.putRow, Go.Sort.mapBlock] using hl), Go.Sort.cell?_putRowK_other _ _ _ _ _ _ _ ha]
  rfl
theorem cmpLaysF (w : World) (g blk size : Nat) (hg : w.cell? ⟨g, 0, none⟩ = some (.func (.func 53) #[] #[])) (hne : g ≠ blk) :
    Go.Proofs.CmpLays Try.prog 81 #[.pointer (some ⟨g, 0, none⟩)] encF 2 cmpF blk 0 size w := by
  intro m os dk _ x y
  have hx := fval_bd x
  have hy := fval_bd y
  have hgl := World.block_lt_of_cell? w _ hg
  have hc : (Go.Proofs.sortWorldK encF 2 w blk 0 m dk os).cell? ⟨g, 0, none⟩ = _ := (cell_sortWorldK dk hne hgl).trans hg
  exact impl_rising _ _ _ _ g _ (by unfold Sm; omega) (by unfold Sm; omega) (by unfold Sm; omega) (by unfold Sm; omega) hc
end Go.Proofs.Ytaifgfmkkgndkab
