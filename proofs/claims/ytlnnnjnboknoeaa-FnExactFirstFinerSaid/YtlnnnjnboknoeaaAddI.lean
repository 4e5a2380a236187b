/- The program's AddDiagonal. -/
import Derived.Test.YtlnnnjnboknoeaaBsdI
import Derived.Test.YtlnnnjnboknoeaaIsCutW
namespace Go.Proofs.Ytlnnnjnboknoeaa
set_option linter.unusedVariables false
open Go.RowKit

theorem addK {w0 w w' : World} {p0 p1 : Addr} {v0 v1 : Value} (h : w.cell? p0 = some v0 ∧ w.cell? p1 = some v1 ∧ Below w0.heap.size w0 w) (q0 : w0.cell? p0 = some v0) (q1 : w0.cell? p1 = some v1) (hb : Below w0.heap.size w w') :
    w'.cell? p0 = some v0 ∧ w'.cell? p1 = some v1 ∧ Below w0.heap.size w0 w' :=
  ⟨cell_kept (h.2.2.trans hb) q0, cell_kept (h.2.2.trans hb) q1, h.2.2.trans hb⟩
theorem addS {w0 w : World} {B : Nat} {A : Option Addr} {l : List (Int × Int)} {p0 p1 : Addr} {v0 v1 : Value} (h : SlD w0 B A l) (hB : B ≤ w0.heap.size) (hS : w.cell? p0 = some v0 ∧ w.cell? p1 = some v1 ∧ Below w0.heap.size w0 w) : SlD w B A l := h.below (hS.2.2.mono hB)
theorem addZ {w1 w : World} {p0 p1 : Addr} {v0 v1 : Value} (h : w.cell? p0 = some v0 ∧ w.cell? p1 = some v1 ∧ Below w1.heap.size w1 w) : w1.heap.size ≤ w.heap.size := h.2.2.size
theorem retD_add_no {n : Int} {l : List (Int × Int)} {d : Int × Int} {w w' : World} (h : addB n l d = false) (hb : Below w.heap.size w w') : RetD w (addR n l d) (addB n l d) (.returned (.tuple #[.slice none 0 0, .bool false])) w' := by
  rw [addR_no h, h]
  exact ⟨none, 0, rfl, World.ownsRow_nil _ _ _ _, hb⟩

set_option maxRecDepth 100000 in
set_option maxHeartbeats 3200000 in
theorem impl_AddDiagonal (n : Int) (A : Option Addr) (c B : Nat) (l : List (Int × Int)) (x y : Int) (w : World) (h : SlD w B A l) (hB : B ≤ w.heap.size) (hl : l.length ≤ 1048576) (hlc : l.length ≤ c) :
    Calls Try.prog 39 #[.int .i64 n, .slice A l.length c, .agg #[.int .i64 x, .int .i64 y]] w (RetD w (addR n l (x, y)) (addB n l (x, y))) := by
  obtain ⟨m, hm⟩ : ∃ m, l.length = m := ⟨_, rfl⟩
  have Hm := Lib.hid hm
  have H := Lib.hid h
  rw [hm] at hl hlc ⊢
  clear hm h
  go_enter Try.func39, Try.ntmps39
  go_wp2_with fail
  refine (slices_BinarySearchD A m c B l x y _ (H.out.below (((Below.refl _ _).alloc (Nat.le_refl _) _).mono hB)) Hm.out (by simp; omega) (by omega)).mono ?_
  rintro e w1 ⟨i, f, rfl, hp, hb⟩
  have q0 : w1.cell? ⟨w.heap.size, 0, none⟩ = some (.int .i64 x) := cell_kept hb (by simp [go_sem])
  have q1 : w1.cell? ⟨w.heap.size, 1, none⟩ = some (.int .i64 y) := cell_kept hb (by simp [go_sem])
  have hd1 : Below w.heap.size w w1 := ((Below.refl _ _).alloc (Nat.le_refl _) _).trans (hb.mono (by simp))
  have Hd1 := Lib.hid hd1
  have Hp := Lib.hid hp
  have hi : i ≤ m := by have := hp.1; rw [Hm.out] at this; exact this
  have zB : B ≤ w1.heap.size := Nat.le_trans hB hd1.size
  have Hs1 := Lib.hid (H.out.below (hd1.mono hB))
  clear hb hd1 hp H
  go_wp2
  go_region_held3 (fun w' => w'.cell? ⟨w.heap.size, 0, none⟩ = some (.int .i64 x) ∧ w'.cell? ⟨w.heap.size, 1, none⟩ = some (.int .i64 y) ∧ Below w1.heap.size w1 w')
    (first
      | exact addK (by assumption) q0 q1 hb6
      | exact kept2 (by assumption) hb5 (Nat.le_refl _)
      | exact kept2 (by assumption) ((Below.refl _ _).alloc (Nat.le_refl _) _) (Nat.le_refl _)
      | exact ⟨q0, q1, (Below.refl _ _).drew⟩)
    (first
      | (go_at_call 74; refine (slices_CloneDx A m c B l _ Hm.out ?_ ?_ (by omega)).mono ?_
         · exact addS Hs1.out zB (by assumption)
         · exact Nat.le_trans zB (addZ (by assumption))
         rintro e w5 ⟨A2, c2, rfl, own5, hb5⟩
         rw [Hm.out] at own5 ⊢
         have low5 := own5.lt
         replace own5 := own5.mono (addZ (by assumption)))
      | (go_at_call 73; with_reducible refine (insD_heap w1.heap.size m c2 i w5.heap.size A2 l x y (w5.alloc (.cells #[.int .i64 x, .int .i64 y] 49)) ?_ Hm.out hi ?_ ?_ ?_ ?_).mono ?_
         · exact own5.alloc _
         · omega
         · exact addZ (by assumption)
         · exact heap_alloc_new w5 _
         · intro k hk e
           have := (low5 k hk).2
           omega
         rintro e w6 ⟨A3, c3, rfl, own6, hb6⟩)
      | (go_at_call 73; with_reducible refine (insD_heap w1.heap.size m c2 i w1.heap.size A2 l x y w5 ?_ Hm.out hi ?_ ?_ ?_ ?_).mono ?_
         · exact own5
         · omega
         · exact addZ (by assumption)
         · exact (hb5.block w1.heap.size (by simp)).trans (heap_alloc_new _ _)
         · intro k hk e
           have := (low5 k hk).1
           simp at this
           omega
         rintro e w6 ⟨A3, c3, rfl, own6, hb6⟩))
  all_goals
    rename_i hS
    have hd6 := hS.2.2
    have Hd6 := Lib.hid (below_kept Hd1.out (Nat.le_refl _) hd6)
    have Own6 := Lib.hid (own6.mono (Hd1.out.size))
    have hlen : (insD l i (x, y)).length = m + 1 := by rw [insD_length _ _ _ (by rw [Hm.out]; exact hi), Hm.out]
    have hcap := own_cap own6
    have hown : w6.ownsRow w1.heap.size 49 2 (.slice A3 (insD l i (x, y)).length c3) (insD l i (x, y)).length (dcs (insD l i (x, y))) := by rw [hlen]; exact own6
    have hcall := impl_IsCut_x n A3 c3 w6.heap.size (insD l i (x, y)) w6 (SlD.of_own hown) (Nat.le_refl _) (by rw [hlen]; omega) (by rw [hlen]; exact hcap)
    rw [hlen] at hcall
    have Hcall := Lib.hid hcall
    have Hlen := Lib.hid hlen
    clear hS hd6 hown own6 hb6 own5 hb5 low5 hcall hlen hcap q0 q1
    go_wp2_with fail
    refine Hcall.out.mono ?_
    rintro e w7 ⟨rfl, hb7⟩
    have Hd7 := Lib.hid (below_kept Hd6.out (Nat.le_refl _) hb7)
    have Own7 := Lib.hid (own_kept Own6.out hb7)
    clear hb7 Hcall
    cases hc : cutB n (insD l i (x, y))
    · rw [cut_ins Hp.out] at hc
      have HE := Lib.hid (retD_add_no hc Hd7.out)
      clear hc
      go_wp2
      go_ret2
      exact HE.out
    · have ha : addB n l (x, y) = true := by rw [← cut_ins Hp.out]; exact hc
      have hr := ins_adr Hp.out hc
      have hE : RetD w (addR n l (x, y)) (addB n l (x, y)) (.returned (.tuple #[.slice A3 (m + 1) c3, .bool true])) w7 := by
        rw [← hr, ha]
        exact ⟨A3, c3, by rw [Hlen.out], by rw [Hlen.out]; exact Own7.out, Hd7.out⟩
      have HE := Lib.hid hE
      clear hE hr ha hc
      go_wp2
      go_ret2
      exact HE.out
end Go.Proofs.Ytlnnnjnboknoeaa
