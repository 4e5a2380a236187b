/- The program's bandOf: a row as a band. -/
import Derived.Test.YtbebalgleiafdabDoorRowOfFriezeW
import Derived.Test.YtbebalgleiafdabDoorTriOfI
import Derived.Test.YtbebalgleiafdabDoorQuidI
namespace Go.Proofs.YtbebalgleiafdabDoor
set_option linter.unusedVariables false
open Go.RowKit

theorem band_splice (q : List Int) : splice (List.replicate 12 0) 0 q = pad q := by
  unfold splice pad
  rw [List.take_zero, List.nil_append, Nat.zero_add, List.drop_replicate]
set_option maxRecDepth 100000 in
set_option maxHeartbeats 3200000 in
theorem impl_bandOf (A : Option Addr) (c B : Nat) (l : List Int) (w : World) (h : SlI w B A l) (hB : B ≤ w.heap.size) (hl : l.length ≤ 12) :
    Calls Tryd.prog 67 #[.slice A l.length c] w fun e w' => e = .returned (.agg (ics (pad l)).toArray) ∧ Below w.heap.size w w' := by
  have HZ1 : Hid (Blk ((w.alloc (.cells (ics (List.replicate 12 0)).toArray 98)).alloc (.cells (ics (List.replicate 12 0)).toArray 98)) (w.heap.size + 1) 98 (List.replicate 12 0)) := Lib.hid (Blk.new1 _ _ _ _)
  have HZ0 : Hid (Blk ((w.alloc (.cells (ics (List.replicate 12 0)).toArray 98)).alloc (.cells (ics (List.replicate 12 0)).toArray 98)) w.heap.size 98 (List.replicate 12 0)) := Lib.hid ((Blk.new _ _ _).alloc _)
  have hB0 : Below w.heap.size w ((w.alloc (.cells (ics (List.replicate 12 0)).toArray 98)).alloc (.cells (ics (List.replicate 12 0)).toArray 98)) := ((Below.refl _ _).alloc (Nat.le_refl _) _).alloc (by simp) _
  have HS : Hid (SlI ((w.alloc (.cells (ics (List.replicate 12 0)).toArray 98)).alloc (.cells (ics (List.replicate 12 0)).toArray 98)) B A l) := Lib.hid (h.below (hB0.mono hB))
  have HB := Lib.hid hB0
  have Hlen := Lib.hid (pad_length l hl)
  clear hB0 h
  go_enter Tryd.func67, Tryd.ntmps67
  go_wp2_with (first
    | (refine wpList_copyR rfl (.tmp 4) (.tmp 5) rfl (some ⟨w.heap.size + 1, 0, none⟩) A 12 12 l.length c rfl rfl (w.heap.size + 1) 0 (List.replicate 12 0) 98 HZ1.out l (min12 hl) (sl_pos HS.out) (by simp; omega) ?_
       intro w3 h3 g3
       rw [band_splice] at h3
       have hz3 := Blk.grown HZ0.out g3 (by omega)
       have hb3 := below_grown HB.out g3 (Nat.le_refl _) (fun k hk => by injection hk with hk; omega)
       have H3 := Lib.hid h3
       have Hz3 := Lib.hid hz3
       have Hb3 := Lib.hid hb3
       clear g3 HZ1 HZ0 HB HS h3 hz3 hb3)
    | (refine wpList_load_row rfl 98 (.tmp 3) rfl (w.heap.size + 1) rfl 98 (ics (pad l)).toArray (0, 0) _ H3.out Tryd.underlying98 rfl (by rw [band_size]; simp [ics_length, Hlen.out]) ?_)
    | (refine wpList_store_band rfl (.tmp 2) (.tmp 7) rfl rfl w.heap.size (pad l) rfl rfl 98 (List.replicate 12 0) Hz3.out rfl Hlen.out ?_
       intro w5 h5 g5
       have hb5 := below_grown Hb3.out g5 (Nat.le_refl _) (fun k hk => by injection hk with hk; omega)
       have H5 := Lib.hid h5
       clear g5 h5))
  exact bodyPost_ret (v := .agg (ics (pad l)).toArray) (results_cell_row (fn := Tryd.f67) rfl _ w5 w.heap.size 98 _ (0, 0) _ rfl H5.out Tryd.underlying98 rfl (by rw [band_size]; simp [ics_length, Hlen.out])) rfl ⟨rfl, hb5⟩

end Go.Proofs.YtbebalgleiafdabDoor
