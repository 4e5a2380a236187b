/- The program's onesBand and ExtendFrieze$1. -/
import Derived.Test.YtkekjcfhkecggabOnes
import Derived.Test.YtkekjcfhkecggabExtS
namespace Go.Proofs.Ytkekjcfhkecggab
set_option linter.unusedVariables false
open Go.RowKit

set_option maxRecDepth 100000 in
set_option maxHeartbeats 3200000 in
theorem impl_onesBand (n : Nat) (w : World) (hn1 : 1 ≤ n) (hn12 : n ≤ 12) :
    Calls Try.prog 57 #[.int .i64 n] w fun e w' => e = .returned (.agg (ics (pad (List.replicate n 1))).toArray) ∧ Below w.heap.size w w' := by
  have HZ : Hid (Blk ((w.alloc (.cells (ics (List.replicate 12 0)).toArray 47)).alloc (.cells #[.int .i64 1] 3)) w.heap.size 47 (List.replicate 12 0)) := Lib.hid ((Blk.new _ _ _).alloc _)
  have HB : Hid (Below w.heap.size w ((w.alloc (.cells (ics (List.replicate 12 0)).toArray 47)).alloc (.cells #[.int .i64 1] 3))) := Lib.hid (((Below.refl _ _).alloc (Nat.le_refl _) _).alloc (by simp) _)
  have Hlen : Hid ((pad (List.replicate n (1 : Int))).length = 12) := Lib.hid (pad_length _ (by simpa using hn12))
  have Hrl : Hid ((List.replicate n (1 : Int)).length = n) := Lib.hid (by simp)
  go_enter Try.func57, Try.ntmps57
  go_wp2_with fail
  refine (slices_Repeat1 (w.heap.size + 1) n _ (by simp [go_sem]) hn1 hn12).mono ?_
  rintro e w2 ⟨A2, c2, rfl, o2, b2⟩
  have Hz2 := Lib.hid (HZ.out.below b2)
  have Hb2 := Lib.hid (below_kept HB.out (Nat.le_refl _) b2)
  have Hs2 := Lib.hid (SlI.of_own o2)
  clear o2 b2 HZ HB
  go_wp2_with fail
  have hbo := impl_bandOf A2 c2 w2.heap.size (List.replicate n 1) w2 Hs2.out (Nat.le_refl _) (by rw [Hrl.out]; exact hn12)
  rw [Hrl.out] at hbo
  refine hbo.mono ?_
  clear hbo
  rintro e w3 ⟨rfl, b3⟩
  have Hz3 := Lib.hid (Hz2.out.below b3)
  have Hb3 := Lib.hid (below_kept Hb2.out (Nat.le_refl _) b3)
  clear b3 Hz2 Hb2 Hs2
  go_wp2_with (refine wpList_store_band rfl (.tmp 2) (.tmp 6) rfl rfl w.heap.size (pad (List.replicate n 1)) rfl rfl 47 (List.replicate 12 0) Hz3.out rfl Hlen.out ?_; intro w5 h5 g5; have hb5 := below_grown Hb3.out g5 (Nat.le_refl _) (fun k hk => by injection hk with hk; omega); have H5 := Lib.hid h5; clear g5 h5)
  exact bodyPost_ret (v := .agg (ics (pad (List.replicate n 1))).toArray) (results_cell_row (fn := Try.f57) rfl _ w5 w.heap.size 47 _ (0, 0) _ rfl H5.out Try.underlying47 rfl (by rw [band_size]; simp [ics_length, Hlen.out])) rfl ⟨rfl, hb5⟩

theorem impl_ext1 (gk : Nat) (k at' : Int) (L : List Int) (w : World) (h0 : w.cell? ⟨gk, 0, none⟩ = some (.int .i64 k)) :
    Calls Try.prog 55 #[.int .i64 at', .agg (ics L).toArray, .pointer (some ⟨gk, 0, none⟩)] w fun e w' => e = .returned (.bool (decide (at' = k))) ∧ Below w.heap.size w w' := by
  have hg : gk < w.heap.size := World.block_lt_of_cell? w _ h0
  have hb : Below w.heap.size w (w.alloc (.cells (ics L).toArray 47)) := (Below.refl _ _).alloc (Nat.le_refl _) _
  go_enter Try.func55, Try.ntmps55
  go_wp2
  go_ret
  exact ⟨rfl, hb⟩

end Go.Proofs.Ytkekjcfhkecggab
