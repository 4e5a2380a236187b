/- strconv.Itoa at this seat, for numbers that are not negative; its table is kept. -/
import Derived.Test.YtbebalgleiafdabDoorItoL
import Derived.Test.YtbebalgleiafdabDoorNumW
import Derived.Lib.LaidTab
import Derived.Lib.ItoaMem
namespace Go.Proofs.YtbebalgleiafdabDoor
set_option linter.unusedVariables false
open Go.RowKit

def TabW (w : World) : Prop := Lib.TabIs Tryd.prog w "internal/strconv.uint64pow10" .u64 Lib.pow10Tab
theorem tab_name : Tryd.prog.globalNamed "internal/strconv.uint64pow10" = some 1 := by kernel_rfl
theorem tab_kept {w w' : World} (h : TabW w) (hb : Below w.heap.size w w') : TabW w' := by
  unfold TabW Lib.TabIs World.var? at *
  rw [tab_name] at *
  simp only [Option.bind_some] at *
  by_cases hl : 1 < w.heap.size
  · rw [hb.block _ hl]; exact h
  · rw [Array.getElem?_eq_none (by omega)] at h
    simp at h
theorem below_growN (w : World) (k : Nat) (os : Array Obj) : Below w.heap.size w (Go.Sort.grow (w.drewN k) os) :=
  ⟨rfl, rfl, rfl, by rw [Go.Sort.size_grow]; exact Nat.le_add_right _ _, fun j hj => Go.Sort.heap_grow_old (w.drewN k) os hj⟩
theorem impl_Itoa (n : Nat) (w : World) (hn : n ≤ 1000000000) (ht : TabW w) :
    Calls Tryd.prog 27 #[.int .i64 n] w fun e w' => e = .returned (.string (bsL (Lib.decDigits n))) ∧ Below w.heap.size w w' := by
  refine Calls.mono (Any.strconv_Itoa itoaL (n : Int) (by omega) (by omega) w ht) ?_
  rintro e w' ⟨rfl, k, os, rfl⟩
  rw [Lib.itoa_nonneg]
  exact ⟨rfl, below_growN w k os⟩
end Go.Proofs.YtbebalgleiafdabDoor
