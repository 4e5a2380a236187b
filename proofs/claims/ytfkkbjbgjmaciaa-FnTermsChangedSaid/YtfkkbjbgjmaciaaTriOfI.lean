/- The program's ringOf, TriangulationOf and IsQuiddity. -/
import Derived.Test.YtfkkbjbgjmaciaaQuidI
import Derived.Test.YtfkkbjbgjmaciaaApp
import Derived.Laws.Rows
import Derived.Great.BuildSlice
namespace Go.Proofs.Ytfkkbjbgjmaciaa
set_option linter.unusedVariables false
open Go.RowKit

/-- the first numbers of a list, zeros behind them: twelve -/
def pad (q : List Int) : List Int := q ++ List.replicate (12 - q.length) 0
theorem pad_length (q : List Int) (h : q.length ≤ 12) : (pad q).length = 12 := by simp [pad]; omega
theorem pad_take (q : List Int) : (pad q).take q.length = q := by simp [pad]
/-- corners numbered up to k -/
def iotaZ (k : Nat) : List Int := iota k ++ List.replicate (12 - k) 0
theorem iotaZ_length (k : Nat) (h : k ≤ 12) : (iotaZ k).length = 12 := by simp [iotaZ, iota_length]; omega
theorem iotaZ_set (k : Nat) (h : k < 12) : (iotaZ k).set k (k : Int) = iotaZ (k + 1) := by
  unfold iotaZ
  rw [List.set_append_right _ _ (by rw [iota_length]; omega), iota_length, Nat.sub_self, show 12 - k = (12 - (k + 1)) + 1 by omega, List.replicate_succ, List.set_cons_zero, iota_succ, List.append_assoc]
  rfl
theorem iotaZ_all : iotaZ 12 = iota 12 := by simp [iotaZ]
theorem ring_zero_splice (q : List Int) (h : q.length ≤ 12) (m : Int) (C : List Int) : splice (ringL m (List.replicate 12 0) C) 1 q = ringL m (pad q) C := by
  have := ringL_spliceN (m := m) (N := List.replicate 12 0) (C := C) (cs := q) (by simp) 0 (by omega)
  rw [Nat.add_zero] at this
  rw [this]
  unfold splice pad
  rw [List.take_zero, List.nil_append, Nat.zero_add, List.drop_replicate]

theorem Ring.setC {w : World} {base g : Nat} {m : Int} {N C : List Int} (h : Ring w base g m N C) (hN : N.length = 12) (i : Nat) (x : Int) : Ring (w.setCell ⟨g, 13 + i, none⟩ (.int .i64 x)) base g m N (C.set i x) ∧ w.grownBy (w.setCell ⟨g, 13 + i, none⟩ (.int .i64 x)) (some g) := by
  have h2 := World.ownsRow.stored h (13 + i) (.int .i64 x)
  rw [ics_set, ringL_setC hN i x] at h2
  exact h2

theorem ring_size : (Try.prog.info? 168).map (·.size) = some 25 := by kernel_rfl
theorem ics_one (L : List Int) : (ics L).toArray.all (·.oneCell') = true := by
  rw [Array.all_eq_true_iff_forall_mem]
  intro v hv
  simp only [ics, List.mem_toArray, List.mem_map] at hv
  obtain ⟨x, _, rfl⟩ := hv
  rfl
/-- a whole ring stored into a block of its make -/
theorem wpList_store_ring {ops : Array Oper} {rest : List Oper} {o : Oper} {a : Act} {w : World} {Q : Exit → Act → World → Prop} (hgd : o.guard = none) (x y : Operand) (ho : o.op = .store 168 x y) (hd : o.dst = none)
    (g : Nat) (L : List Int) (hx : a.eval x = .pointer (some ⟨g, 0, none⟩)) (hy : a.eval y = .agg (ics L).toArray) (t : TypeId) (old : List Int) (hg : w.heap[g]? = some (.cells (ics old).toArray t (0, 0))) (hold : old.length = 25) (hL : L.length = 25)
    (h : ∀ w', w'.heap[g]? = some (.cells (ics L).toArray t (0, 0)) → w.grownBy w' (some g) → wpList Try.prog ops Q rest a w') : wpList Try.prog ops Q (o :: rest) a w := by
  refine wpList_store_rowTo hgd 168 x y ho hd g (ics L).toArray hx hy t (ics old).toArray hg (by rw [ring_size]; simp [ics_length, hL]) (by simp [ics_length, hold, hL]) (ics_one L) ?_
  exact h _ (setRow_heap w g _ _ t _ hg) ⟨rfl, rfl, rfl, by simp [World.setRow], fun k hk hne => setRow_other w g k _ (by intro e; exact hne (by rw [e]))⟩
/-- a block that holds these numbers -/
def Blk (w : World) (g : Nat) (t : TypeId) (L : List Int) : Prop := w.heap[g]? = some (.cells (ics L).toArray t (0, 0))
theorem Blk.grown {w w' : World} {g n : Nat} {t : TypeId} {L : List Int} (h : Blk w g t L) (hg : w.grownBy w' (some n)) (hne : g ≠ n) : Blk w' g t L := by
  have hlt : g < w.heap.size := by
    rcases Nat.lt_or_ge g w.heap.size with hlt | hge
    · exact hlt
    · unfold Blk at h; rw [Array.getElem?_eq_none hge] at h; cases h
  exact (hg.block g hlt (by intro e; injection e with e; exact hne e)).trans h
theorem Blk.new (w : World) (t : TypeId) (L : List Int) : Blk (w.alloc (.cells (ics L).toArray t)) w.heap.size t L := heap_alloc_new w _
theorem Blk.alloc {w : World} {g : Nat} {t : TypeId} {L : List Int} (h : Blk w g t L) (o : Obj) : Blk (w.alloc o) g t L := by
  have hlt : g < w.heap.size := by
    rcases Nat.lt_or_ge g w.heap.size with hlt | hge
    · exact hlt
    · unfold Blk at h; rw [Array.getElem?_eq_none hge] at h; cases h
  exact (Below.heap_alloc w o g hlt).trans h
theorem Blk.new1 (w : World) (o : Obj) (t : TypeId) (L : List Int) : Blk ((w.alloc o).alloc (.cells (ics L).toArray t)) (w.heap.size + 1) t L := by
  have := Blk.new (w.alloc o) t L
  simpa using this

theorem min12 {l : List Int} (h : l.length ≤ 12) : l.length = Nat.min l.length 12 := by
  show l.length = min l.length 12
  omega
theorem sl_pos {w : World} {B : Nat} {A : Option Addr} {l : List Int} {a0 : Addr} (h : SlI w B A l) : 0 < l.length → some a0 = some a0 ∧ ∃ ad, A = some ad ∧ ∀ j, j < l.length → w.cell? (ad.add j) = some (.int .i64 (l.getD j 0)) := by
  intro h0
  obtain ⟨b, off, e, _, hc⟩ := h h0
  refine ⟨rfl, _, e, fun j hj => ?_⟩
  rw [Addr.add_lit]
  exact hc j hj
/-- the ring in the making: k corners numbered; the result's block is still zero -/
def RingOf (w : World) (l : List Int) (k : Nat) (wr : World) : Prop :=
  Ring wr w.heap.size (w.heap.size + 1) l.length (pad l) (iotaZ k) ∧ Blk wr w.heap.size 168 (List.replicate 25 0) ∧ Below w.heap.size w wr

set_option maxRecDepth 100000 in
set_option maxHeartbeats 3200000 in
theorem impl_ringOf (A : Option Addr) (c B : Nat) (l : List Int) (w : World) (h : SlI w B A l) (hB : B ≤ w.heap.size) (hl3 : 3 ≤ l.length) (hl : l.length ≤ 12) :
    Calls Try.prog 191 #[.slice A l.length c] w fun e w' => e = .returned (.agg (ics (ringL l.length (pad l) (iota 12))).toArray) ∧ Below w.heap.size w w' := by
  have HZ1 : Hid (Blk ((w.alloc (.cells (ics (List.replicate 25 0)).toArray 168)).alloc (.cells (ics (List.replicate 25 0)).toArray 168)) (w.heap.size + 1) 168 (List.replicate 25 0)) := Lib.hid (Blk.new1 _ _ _ _)
  have HZ0 : Hid (Blk ((w.alloc (.cells (ics (List.replicate 25 0)).toArray 168)).alloc (.cells (ics (List.replicate 25 0)).toArray 168)) w.heap.size 168 (List.replicate 25 0)) := Lib.hid ((Blk.new _ _ _).alloc _)
  have HB : Hid (Below w.heap.size w ((w.alloc (.cells (ics (List.replicate 25 0)).toArray 168)).alloc (.cells (ics (List.replicate 25 0)).toArray 168))) := Lib.hid (((Below.refl _ _).alloc (Nat.le_refl _) _).alloc (by simp) _)
  go_enter Try.func191, Try.ntmps191
  go_wp2_with (first
    | (refine wpList_store_ring rfl (.tmp 3) (.tmp 7) rfl rfl (w.heap.size + 1) (ringL l.length (List.replicate 12 0) (List.replicate 12 0)) rfl rfl 168 (List.replicate 25 0) HZ1.out rfl rfl ?_
       intro w2 h2 g2
       have HZ2 := Lib.hid (Blk.grown HZ0.out g2 (by omega))
       have HB2 := Lib.hid (below_grown HB.out g2 (Nat.le_refl _) (fun k hk => by injection hk with hk; omega))
       have HS2 : Hid (SlI w2 B A l) := Lib.hid (h.keep fun b o hb => (HB2.out.cell (p := ⟨b, o, none⟩) (Nat.lt_of_lt_of_le hb hB)))
       clear g2 HZ1 HZ0 HB)
    | (refine wpList_copyR rfl (.tmp 9) (.tmp 10) rfl (some ⟨w.heap.size + 1, 1, none⟩) A 12 12 l.length c rfl rfl (w.heap.size + 1) 1 (ringL l.length (List.replicate 12 0) (List.replicate 12 0)) 168 h2 l (min12 hl) (sl_pos HS2.out) (by rw [ringL_length rfl rfl]; omega) ?_
       intro w3 h3 g3
       have hr3 := Ring.of_heap (base := w.heap.size) (N := pad l) (C := List.replicate 12 0) (by rw [← ring_zero_splice l hl]; exact h3) (pad_length l hl) rfl (by omega)
       have hz3 := Blk.grown HZ2.out g3 (by omega)
       have hb3 := below_grown HB2.out g3 (Nat.le_refl _) (fun k hk => by injection hk with hk; omega)
       have Hr3 := Lib.hid hr3
       have Hz3 := Lib.hid hz3
       have Hb3 := Lib.hid hb3
       clear g3 HZ2 HB2 HS2 h2 h3 hr3 hz3 hb3))
  have hp := pad_length l hl
  have Hp := Lib.hid hp
  clear hp h
  go_loopw [4, 12] (fun _ i wr => ∃ k : Nat, k ≤ 12 ∧ i = .int .i64 k ∧ RingOf w l k wr) (fun _ i _ => 12 - (intOf i).toNat)
  case atStart => exact ⟨0, by omega, rfl, Hr3.out, Hz3.out, Hb3.out⟩
  case round =>
    clear Hr3 Hz3 Hb3
    obtain ⟨k, hk, rfl, hr, hz, hb⟩ := hrel
    by_cases hlt : k < 12
    · have c0 := hr.cC Hp.out k (by omega)
      have f0 := hr.fro (13 + k)
      obtain ⟨hr2, hg2⟩ := hr.setC Hp.out k (k : Int)
      rw [iotaZ_set k hlt] at hr2
      have hz2 := Blk.grown hz hg2 (by omega)
      have hb2 := below_grown hb hg2 (Nat.le_refl _) (fun k hk => by injection hk with hk; omega)
      have hE : RingOf w l (k + 1) (wr.setCell ⟨w.heap.size + 1, 13 + k, none⟩ (.int .i64 k)) := ⟨hr2, hz2, hb2⟩
      have HE := Lib.hid hE
      generalize (iotaZ k).getD k 0 = z at *
      clear hr hz hb hr2 hg2 hz2 hb2 hE
      go_wp2
      go_roundw
      case rel => exact ⟨k + 1, by omega, by go_num, HE.out⟩
      case measure => simp [intOf]; omega
    · obtain rfl : k = 12 := by omega
      rw [iotaZ_all] at hr
      have hh := hr.heap Hp.out rfl
      have Hh := Lib.hid hh
      have Hz := Lib.hid hz
      have Hb := Lib.hid hb
      clear hr hh hz hb
      go_wp2_with (first
        | (refine wpList_load_row rfl 168 (.tmp 3) rfl (w.heap.size + 1) rfl 168 (ics (ringL l.length (pad l) (iota 12))).toArray (0, 0) _ Hh.out Try.underlying168 rfl (by rw [ring_size]; simp [ics_length, ringL_length Hp.out (iota_length 12)]) ?_)
        | (refine wpList_store_ring rfl (.tmp 2) (.tmp 20) rfl rfl w.heap.size (ringL l.length (pad l) (iota 12)) rfl rfl 168 (List.replicate 25 0) Hz.out rfl (ringL_length Hp.out (iota_length 12)) ?_
           intro w5 h5 g5
           have hb5 := below_grown Hb.out g5 (Nat.le_refl _) (fun k hk => by injection hk with hk; omega)
           have H5 := Lib.hid h5
           clear g5 h5))
      exact bodyPost_ret (v := .agg (ics (ringL l.length (pad l) (iota 12))).toArray) (results_cell_row (fn := Try.f191) rfl _ w5 w.heap.size 168 _ (0, 0) _ rfl H5.out Try.underlying168 rfl (by rw [ring_size]; simp [ics_length, ringL_length Hp.out (iota_length 12)])) rfl ⟨rfl, hb5⟩

end Go.Proofs.Ytfkkbjbgjmaciaa
