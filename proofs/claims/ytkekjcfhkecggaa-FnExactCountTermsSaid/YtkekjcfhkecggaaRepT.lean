/- slices.Repeat of one number, no times. -/
import Derived.Test.YtkekjcfhkecggaaRepA
namespace Go.Proofs.Ytkekjcfhkecggaa.Rep
set_option linter.unusedVariables false
open Go.RowKit
set_option maxRecDepth 100000 in
set_option maxHeartbeats 3200000 in
theorem slices_Repeat0x (g : Nat) (w : World) (h0 : w.cell? ⟨g, 0, none⟩ = some (.int .i64 1)) :
    Calls Try.prog 50 #[.slice (some ⟨g, 0, none⟩) 1 1, .int .i64 0] w (fun e w' => ∃ A c, e = .returned (.slice A 0 c) ∧ Below w.heap.size w w') := by
  have hgw : g < w.heap.size := World.block_lt_of_cell? w _ h0
  obtain ⟨i0', hii, hz0, hz1, hz3⟩ := info_parts infoI
  have hbytes : i0'.bytes * 0 ≤ 281474976710656 := by simp
  have hmax : 0 ≤ maxLen := by unfold maxLen; omega
  go_enter Try.func50, Try.ntmps50
  go_wp2_with fail
  refine (bits_Mul 0 (by omega) _).mono ?_
  rintro e w1 ⟨rfl, rfl⟩
  go_wp2_with (first
    | (at_make; (refine wpList_make_full _ rfl _ _ _ rfl w.heap.size 3 i0' (.int .i64 0) 1 Try.underlying22 hii hz0 hz1 _ _ _ _ 0 rfl rfl rfl rfl hbytes hmax (Nat.le_refl _) ?_)
       intro w3 hown3 hgrow3
       have hb3 : Below w.heap.size w w3 := (Below.refl _ _).grown hgrow3 (Nat.le_refl _) (fun _ e => by cases e)
       have e1 : (madeCells (Value.int .i64 0).cells (0 * 1)).toList = ics [] := by
         rw [Nat.mul_one]
         show (madeCells #[Value.int .i64 0] 0).toList = _
         rw [toList_madeCells_one]
         simp [ics]
       rw [e1] at hown3
       have HB3 := Lib.hid (Blk.of_own hown3)
       have Hb3 := Lib.hid hb3
       have HS3 : Hid (SlI w3 w.heap.size (some ⟨g, 0, none⟩) [1]) := Lib.hid (fun _ => ⟨g, 0, rfl, hgw, fun j hj => by
         obtain rfl : j = 0 := by simpa using hj
         exact cell_kept hb3 h0⟩)
       clear hown3 hgrow3 e1 hb3)
    | (refine wpList_copyR rfl (.tmp 31) (.tmp 32) rfl (some ⟨w.heap.size, 0, none⟩) (some ⟨g, 0, none⟩) 0 0 1 1 rfl rfl w.heap.size 0 [] 3 HB3.out [] (by rfl) (fun h => by simp at h) (by simp) ?_
       intro w4 h4 g4
       have Hb4 := Lib.hid (below_grown Hb3.out g4 (Nat.le_refl _) (fun k hk => by injection hk with hk; omega))
       clear h4 g4 HB3 HS3 Hb3))
  refine wp_loop_rounds 1 ?_
  rw [rounds_succ]
  go_wp2
  go_ret
  exact ⟨_, _, rfl, Hb4.out⟩
end Go.Proofs.Ytkekjcfhkecggaa.Rep
