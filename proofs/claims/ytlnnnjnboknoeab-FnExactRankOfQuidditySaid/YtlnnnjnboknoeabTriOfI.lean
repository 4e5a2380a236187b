/- The program's ringOf, TriangulationOf and IsQuiddity. -/
import Derived.Test.YtlnnnjnboknoeabQuidI
import Derived.Test.YtlnnnjnboknoeabApp
import Derived.Laws.Rows
import Derived.Great.BuildSlice
namespace Go.Proofs.Ytlnnnjnboknoeab
set_option linter.unusedVariables false
open Go.RowKit

/-- the first numbers of a list, zeros behind them: twelve -/
def pad (q : List Int) : List Int := q ++ List.replicate (12 - q.length) 0
theorem pad_length (q : List Int) (h : q.length ≤ 12) : (pad q).length = 12 := by simp [pad]; omega
theorem pad_take (q : List Int) : (pad q).take q.length = q := by simp [pad]
/-- corners numbered up to k -/
def iotaZ (k : Nat) : List Int := iota k ++ List.replicate (12 - k) 0
theorem iotaZ_length (k : Nat) (h : k ≤ 12) : (iotaZ k).length = 12 := by simp [iotaZ, iota_length]; omega
theorem iotaZ_set (k : Nat) (h : k < 12) : (iotaZ k).set k (k : Int) = iotaZ (k + 1) := by
  unfold iotaZ
  rw [List.set_append_right _ _ (by rw [iota_length]; omega), iota_length, Nat.sub_self, show 12 - k = (12 - (k + 1)) + 1 by omega, List.replicate_succ, List.set_cons_zero, iota_succ, List.append_assoc]
  rfl
theorem iotaZ_all : iotaZ 12 = iota 12 := by simp [iotaZ]
theorem ring_zero_splice (q : List Int) (h : q.length ≤ 12) (m : Int) (C : List Int) : splice (ringL m (List.replicate 12 0) C) 1 q = ringL m (pad q) C := by
  have := ringL_spliceN (m := m) (N := List.replicate 12 0) (C := C) (cs := q) (by simp) 0 (by omega)
  rw [Nat.add_zero] at this
  rw [this]
  unfold splice pad
  rw [List.take_zero, List.nil_append, Nat.zero_add, List.drop_replicate]

theorem ics_one (L : List Int) : (ics L).toArray.all (·.oneCell') = true := by
  rw [Array.all_eq_true_iff_forall_mem]
  intro v hv
  simp only [ics, List.mem_toArray, List.mem_map] at hv
  obtain ⟨x, _, rfl⟩ := hv
  rfl
/-- a block that holds these numbers -/
def Blk (w : World) (g : Nat) (t : TypeId) (L : List Int) : Prop := w.heap[g]? = some (.cells (ics L).toArray t (0, 0))
theorem Blk.grown {w w' : World} {g n : Nat} {t : TypeId} {L : List Int} (h : Blk w g t L) (hg : w.grownBy w' (some n)) (hne : g ≠ n) : Blk w' g t L := by
  have hlt : g < w.heap.size := by
    rcases Nat.lt_or_ge g w.heap.size with hlt | hge
    · exact hlt
    · unfold Blk at h; rw [Array.getElem?_eq_none hge] at h; cases h
  exact (hg.block g hlt (by intro e; injection e with e; exact hne e)).trans h
theorem Blk.new (w : World) (t : TypeId) (L : List Int) : Blk (w.alloc (.cells (ics L).toArray t)) w.heap.size t L := heap_alloc_new w _
theorem Blk.alloc {w : World} {g : Nat} {t : TypeId} {L : List Int} (h : Blk w g t L) (o : Obj) : Blk (w.alloc o) g t L := by
  have hlt : g < w.heap.size := by
    rcases Nat.lt_or_ge g w.heap.size with hlt | hge
    · exact hlt
    · unfold Blk at h; rw [Array.getElem?_eq_none hge] at h; cases h
  exact (Below.heap_alloc w o g hlt).trans h
theorem Blk.new1 (w : World) (o : Obj) (t : TypeId) (L : List Int) : Blk ((w.alloc o).alloc (.cells (ics L).toArray t)) (w.heap.size + 1) t L := by
  have := Blk.new (w.alloc o) t L
  simpa using this

theorem min12 {l : List Int} (h : l.length ≤ 12) : l.length = Nat.min l.length 12 := by
  show l.length = min l.length 12
  omega
theorem sl_pos {w : World} {B : Nat} {A : Option Addr} {l : List Int} {a0 : Addr} (h : SlI w B A l) : 0 < l.length → some a0 = some a0 ∧ ∃ ad, A = some ad ∧ ∀ j, j < l.length → w.cell? (ad.add j) = some (.int .i64 (l.getD j 0)) := by
  intro h0
  obtain ⟨b, off, e, _, hc⟩ := h h0
  refine ⟨rfl, _, e, fun j hj => ?_⟩
  rw [Addr.add_lit]
  exact hc j hj
end Go.Proofs.Ytlnnnjnboknoeab
