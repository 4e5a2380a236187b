/- RowOfFrieze: bands of twelve numbers; the model's and the program's contract, and the law's walk. -/
import Derived.Test.YtbebalgleiafdabDoorEntryOfW
namespace Go.Proofs.YtbebalgleiafdabDoor
set_option linter.unusedVariables false
open Go.RowKit

theorem band_size : (Tryd.prog.info? 98).map (·.size) = some 12 := by kernel_rfl
/-- a block that is a band -/
def Band (w : World) (base g : Nat) (L : List Int) : Prop := w.ownsRow base 98 1 (.slice (some ⟨g, 0, none⟩) 12 12) 12 (ics L)
section
variable {w w' : World} {base g : Nat} {L : List Int}
theorem Band.own (h : Band w base g L) : w.ownsRow base 98 1 (.slice (some ⟨g, 0, none⟩) 12 12) 12 (ics L) := h
theorem Band.len (h : Band w base g L) : L.length = 12 := by
  have h1 := h.1
  rw [ics_length] at h1
  omega
theorem Band.cell (h : Band w base g L) (i : Nat) (hi : i < 12) : w.cell? ⟨g, i, none⟩ = some (.int .i64 (L.getD i 0)) := by
  have h1 := h.len
  rw [World.ownsRow.cellAt h i (by omega), ics_get _ _ (by omega)]
theorem Band.fro (h : Band w base g L) (i : Nat) : w.frozen? ⟨g, i, none⟩ = false := World.ownsRow.frozenAt h i
theorem Band.set (h : Band w base g L) (i : Nat) (x : Int) : Band (w.setCell ⟨g, i, none⟩ (.int .i64 x)) base g (L.set i x) ∧ w.grownBy (w.setCell ⟨g, i, none⟩ (.int .i64 x)) (some g) := by
  have h2 := World.ownsRow.stored h i (.int .i64 x)
  rw [ics_set] at h2
  exact h2
theorem Band.kept (h : Band w base g L) (hb : Below w.heap.size w w') : Band w' base g L := own_kept h hb
theorem Band.heap (h : Band w base g L) : w.heap[g]? = some (.cells (ics L).toArray 98 (0, 0)) := by
  have hl := h.len
  rcases h.2 with ⟨h', _⟩ | ⟨g', cap, cur, h', _, hh, _, _, hs, ht⟩
  · cases h'
  · cases h'
    have e : cur = (ics L).toArray := by
      rw [← ht]
      apply Array.ext'
      rw [List.take_of_length_le]
      simp; omega
    rw [e] at hh
    exact hh
theorem Band.of_heap (hh : w.heap[g]? = some (.cells (ics L).toArray 98 (0, 0))) (hL : L.length = 12) (hb : base ≤ g) : Band w base g L := by
  refine ⟨by rw [ics_length, hL], .inr ⟨g, 12, _, rfl, hb, hh, Nat.le_refl _, by unfold maxLen; omega, by simp [ics_length, hL], ?_⟩⟩
  rw [List.take_of_length_le]
  simp [ics_length, hL]
theorem Band.lt (h : Band w base g L) : base ≤ g ∧ g < w.heap.size := World.ownsRow.lt h.own g rfl
theorem Band.sl (h : Band w base g L) (m : Nat) (hm : m ≤ 12) : SlI w w.heap.size (some ⟨g, 0, none⟩) (L.take m) := fun _ =>
  ⟨g, 0, rfl, h.lt.2, fun j hj => by
    have hj2 : j < m := by simp at hj; omega
    have e : (L.take m).getD j 0 = L.getD j 0 := by
      simp only [List.getD_eq_getElem?_getD, List.getElem?_take]
      rw [if_pos hj2]
    rw [e, Nat.zero_add]
    exact h.cell j (by omega)⟩
end
/-- a whole band stored into a block of its make -/
theorem wpList_store_band {ops : Array Oper} {rest : List Oper} {o : Oper} {a : Act} {w : World} {Q : Exit → Act → World → Prop} (hgd : o.guard = none) (x y : Operand) (ho : o.op = .store 98 x y) (hd : o.dst = none)
    (g : Nat) (L : List Int) (hx : a.eval x = .pointer (some ⟨g, 0, none⟩)) (hy : a.eval y = .agg (ics L).toArray) (t : TypeId) (old : List Int) (hg : w.heap[g]? = some (.cells (ics old).toArray t (0, 0))) (hold : old.length = 12) (hL : L.length = 12)
    (h : ∀ w', w'.heap[g]? = some (.cells (ics L).toArray t (0, 0)) → w.grownBy w' (some g) → wpList Tryd.prog ops Q rest a w') : wpList Tryd.prog ops Q (o :: rest) a w := by
  refine wpList_store_rowTo hgd 98 x y ho hd g (ics L).toArray hx hy t (ics old).toArray hg (by rw [band_size]; simp [ics_length, hL]) (by simp [ics_length, hold, hL]) (ics_one L) ?_
  exact h _ (setRow_heap w g _ _ t _ hg) ⟨rfl, rfl, rfl, by simp [World.setRow], fun k hk hne => setRow_other w g k _ (by intro e; exact hne (by rw [e]))⟩
theorem Blk.below {w w' : World} {g : Nat} {t : TypeId} {L : List Int} (h : Blk w g t L) (hb : Below w.heap.size w w') : Blk w' g t L := by
  have hlt : g < w.heap.size := by
    rcases Nat.lt_or_ge g w.heap.size with hlt | hge
    · exact hlt
    · unfold Blk at h; rw [Array.getElem?_eq_none hge] at h; cases h
  exact (hb.block g hlt).trans h

/-- the first m numbers of row k -/
def rowL (q : List Int) (k : Int) (m : Nat) : List Int := (List.range m).map fun (s : Nat) => ent q s ((s : Int) + k + 1)
theorem rowL_length (q : List Int) (k : Int) (m : Nat) : (rowL q k m).length = m := by simp [rowL]
theorem rowL_succ (q : List Int) (k : Int) (m : Nat) : rowL q k (m + 1) = rowL q k m ++ [ent q m ((m : Int) + k + 1)] := by simp [rowL, List.range_succ]
def okR (q : List Int) (k : Int) : Bool := isQ q && inB k 1 ((q.length : Int) - 3)
theorem okR_iff {q : List Int} {k : Int} : okR q k = true ↔ isQ q = true ∧ 1 ≤ k ∧ k ≤ (q.length : Int) - 3 := by
  unfold okR
  rw [Bool.and_eq_true, inB_iff']
def rowR (q : List Int) (k : Int) : List Int := if okR q k = true then rowL q k q.length else []
theorem rowR_length (q : List Int) (k : Int) : (rowR q k).length ≤ 1000000000 := by
  unfold rowR
  split
  · rename_i h
    have := isQ_len (okR_iff.1 h).1
    rw [rowL_length]; omega
  · simp
theorem retR_no {q : List Int} {k : Int} {w w' : World} (h : okR q k = false) (hb : Below w.heap.size w w') : RetI w (rowR q k) (okR q k) (.returned (.tuple #[.slice none 0 0, .bool false])) w' := by
  unfold rowR
  rw [h]
  exact ⟨none, 0, rfl, World.ownsRow_nil _ _ _ _, hb⟩
theorem retR_yes {q : List Int} {k : Int} {w w' : World} {A : Option Addr} {c : Nat} (h : okR q k = true) (ho : w'.ownsRow w.heap.size 3 1 (.slice A (rowL q k q.length).length c) (rowL q k q.length).length (ics (rowL q k q.length))) (hb : Below w.heap.size w w') :
    RetI w (rowR q k) (okR q k) (.returned (.tuple #[.slice A (rowL q k q.length).length c, .bool true])) w' := by
  unfold rowR
  rw [h]
  exact ⟨A, c, rfl, ho, hb⟩

set_option maxRecDepth 100000 in
set_option maxHeartbeats 1600000 in
theorem spec_frRow (A : Option Addr) (c B : Nat) (q : List Int) (k : Int) (w : World) (h : SlI w B A q) (hB : B ≤ w.heap.size) (hn3 : 3 ≤ q.length) (hn12 : q.length ≤ 12) (k0 : 1 ≤ k) (k9 : k ≤ 9) :
    Calls Tryd.prog 49 #[.slice A q.length c, .int .i64 k] w (GivI w (rowL q k q.length)) := by
  go_enter Tryd.func49, Tryd.ntmps49
  go_wp2
  go_loopw [5, 6, 9] (fun v _ i wr => ∃ (t : Nat) (A' : Option Addr) (c' : Nat), t ≤ q.length ∧ i = .int .i64 t ∧ v = .slice A' t c' ∧ wr.ownsRow w.heap.size 3 1 (.slice A' t c') t (ics (rowL q k t)) ∧ Below w.heap.size w wr) (fun _ _ i _ => q.length - (intOf i).toNat)
  case atStart => exact ⟨0, none, 0, Nat.zero_le _, rfl, rfl, World.ownsRow_nil _ _ _ _, Below.refl _ _⟩
  case round =>
    obtain ⟨t, A', c', ht, rfl, rfl, ho, hb⟩ := hrel
    have hob := ho.lt
    have Hob := Lib.hid hob
    have hsz := hb.size
    clear hob
    by_cases hlt : t < q.length
    · have hst := rowL_succ q k t
      have HLl := Lib.hid (rowL_length q k t)
      generalize rowL q k t = L at *
      have t1 : (t : Int) < (q.length : Int) := by omega
      have t2 : (t : Int) ≤ 11 := by omega
      have Hst := Lib.hid hst
      have Ho := Lib.hid ho
      have Hb := Lib.hid hb
      clear hst ho hb
      go_wp2_with fail
      refine (spec_frEntry A c B q t ((t : Int) + k + 1) _ (h.below (Hb.out.mono hB)) hn3 hn12 ⟨by omega, by omega⟩ (by omega) (by omega)).mono ?_
      rintro e w2 ⟨rfl, rfl⟩
      generalize ent q t ((t : Int) + k + 1) = x at *
      have own2 := Ho.out.alloc (.cells #[.int .i64 x] 3)
      have hb2 := Hb.out.alloc hsz (.cells #[.int .i64 x] 3)
      have Hb2 := Lib.hid hb2
      clear hb2
      go_wp2_with (at_builtin; refine append1In _ rfl _ _ rfl w.heap.size (.slice A' t c') t L HLl.out rfl own2 wr.heap.size x rfl ?c1 ?c2 Hb2.out.size ?_; (case c1 => simp [go_sem]); (case c2 => omega); intro A3 c3 w3 own3 hg3)
      have hb3 := below_grown Hb2.out hg3 (Nat.le_refl _) (fun j hj => (Hob.out j hj).1)
      rw [← Hst.out] at own3
      clear hg3 own2
      go_wp2
      go_roundw
      case rel => exact ⟨t + 1, A3, c3, by omega, by go_num, rfl, own3, hb3⟩
      case measure => simp [intOf]; omega
    · obtain rfl : t = q.length := by omega
      have hE : GivI w (rowL q k q.length) (.returned (.slice A' q.length c')) wr := by
        have e := rowL_length q k q.length
        exact ⟨A', c', by rw [e], by rw [e]; exact ho, hb⟩
      have HE := Lib.hid hE
      clear hE ho hb h
      generalize hkk : rowL q k q.length = R at *
      clear hkk
      go_wp2
      go_ret
      exact HE.out

def halfR (q : List Int) (k : Int) (t : Nat) : List Int := rowL q k t ++ List.replicate (12 - t) 0
theorem halfR_length (q : List Int) (k : Int) (t : Nat) (h : t ≤ 12) : (halfR q k t).length = 12 := by simp [halfR, rowL_length]; omega
theorem halfR_zero (q : List Int) (k : Int) : halfR q k 0 = List.replicate 12 0 := by simp [halfR, rowL]
theorem halfR_take (q : List Int) (k : Int) (t : Nat) : (halfR q k t).take t = rowL q k t := by
  unfold halfR
  rw [List.take_append_of_le_length (by rw [rowL_length]; omega), List.take_of_length_le (by rw [rowL_length]; omega)]
theorem halfR_set (q : List Int) (k : Int) (t : Nat) (h : t < 12) : (halfR q k t).set t (ent q t ((t : Int) + k + 1)) = halfR q k (t + 1) := by
  unfold halfR
  rw [List.set_append_right _ _ (by rw [rowL_length]; omega), rowL_length, Nat.sub_self, show 12 - t = (12 - (t + 1)) + 1 by omega, List.replicate_succ, List.set_cons_zero, rowL_succ, List.append_assoc]
  rfl
/-- the row in the making: t numbers told; the result's block is still zero -/
def RowAt (w : World) (q : List Int) (k : Int) (g : Nat) (w2 : World) (t : Nat) (wr : World) : Prop :=
  Band wr w.heap.size g (halfR q k t) ∧ Blk wr w.heap.size 98 (List.replicate 12 0) ∧ Below w.heap.size w wr ∧ Below w2.heap.size w2 wr

set_option maxRecDepth 100000 in
set_option maxHeartbeats 3200000 in
theorem impl_rowAt (A : Option Addr) (c B : Nat) (q : List Int) (k : Int) (w : World) (h : SlI w B A q) (hB : B ≤ w.heap.size) (hn3 : 3 ≤ q.length) (hn12 : q.length ≤ 12) (k0 : 1 ≤ k) (k9 : k ≤ 9) :
    Calls Tryd.prog 68 #[.slice A q.length c, .int .i64 k] w fun e w' => e = .returned (.agg (ics (halfR q k q.length)).toArray) ∧ Below w.heap.size w w' := by
  have HZ : Hid (Blk (w.alloc (.cells (ics (List.replicate 12 0)).toArray 98)) w.heap.size 98 (List.replicate 12 0)) := Lib.hid (Blk.new _ _ _)
  have HB0 : Hid (Below w.heap.size w (w.alloc (.cells (ics (List.replicate 12 0)).toArray 98))) := Lib.hid ((Below.refl _ _).alloc (Nat.le_refl _) _)
  go_enter Tryd.func68, Tryd.ntmps68
  go_wp2_with fail
  refine (impl_entriesOf A c q _).mono ?_
  rintro e w2 ⟨rfl, hcp, hb2⟩
  have hz := Blk.below HZ.out hb2
  have hd2 := below_kept HB0.out (Nat.le_refl _) hb2
  have hcp' : Caps w2 (w.heap.size + 1) (w.heap.size + 1 + 1) A c q := by simpa using hcp
  have hwn : w.heap.size ≤ w2.heap.size := hd2.size
  have hg1 : w.heap.size + 1 < w2.heap.size := World.block_lt_of_cell? w2 _ hcp'.1
  have hg2 : w.heap.size + 1 + 1 < w2.heap.size := World.block_lt_of_cell? w2 _ hcp'.2
  have Hcp := Lib.hid hcp'
  have hb3 : Band (w2.alloc (.cells (ics (List.replicate 12 0)).toArray 98)) w.heap.size w2.heap.size (halfR q k 0) := by
    rw [halfR_zero]
    exact Band.of_heap (heap_alloc_new w2 _) (by simp) hwn
  have HS : Hid (RowAt w q k w2.heap.size w2 0 (w2.alloc (.cells (ics (List.replicate 12 0)).toArray 98))) := Lib.hid ⟨hb3, hz.alloc _, hd2.alloc hwn _, (Below.refl _ _).alloc (Nat.le_refl _) _⟩
  clear hb3 hz hd2 hcp hcp' hb2 HZ HB0
  go_wp2
  go_loopw [7, 12] (fun _ i wr => ∃ t : Nat, t ≤ q.length ∧ i = .int .i64 t ∧ RowAt w q k w2.heap.size w2 t wr) (fun _ i _ => q.length - (intOf i).toNat)
  case atStart => exact ⟨0, Nat.zero_le _, rfl, HS.out⟩
  case round =>
    clear HS
    obtain ⟨t, ht, rfl, ho, hz, hb, hb2⟩ := hrel
    have Ho := Lib.hid ho
    have Hz := Lib.hid hz
    have Hb := Lib.hid hb
    have Hb2 := Lib.hid hb2
    have hzs := hb2.size
    by_cases hlt : t < q.length
    · have t1 : (t : Int) < (q.length : Int) := by omega
      have t2 : (t : Int) ≤ 11 := by omega
      have hcw : Hid (Caps wr (w.heap.size + 1) (w.heap.size + 1 + 1) A c q) := Lib.hid ⟨cell_kept hb2 Hcp.out.1, cell_kept hb2 Hcp.out.2⟩
      clear ho hz hb hb2
      go_wp2_with fail
      refine (impl_entries1 _ _ A c B q t ((t : Int) + k + 1) _ hcw.out (h.below (Hb.out.mono hB)) (by omega) hn3 hn12 ⟨by omega, by omega⟩ (by omega) (by omega)).mono ?_
      rintro e w5 ⟨rfl, hb5⟩
      have ho5 := Ho.out.kept hb5
      have hz5 := Hz.out.below hb5
      have hd5 := below_kept Hb.out (Nat.le_refl _) hb5
      have he5 := below_kept Hb2.out (Nat.le_refl _) hb5
      have hcell := ho5.cell t (by omega)
      have hfro := ho5.fro t
      obtain ⟨hs1, hs2⟩ := ho5.set t (ent q t ((t : Int) + k + 1))
      rw [halfR_set q k t (by omega)] at hs1
      have hE : RowAt w q k w2.heap.size w2 (t + 1) (w5.setCell ⟨w2.heap.size, t, none⟩ (.int .i64 (ent q t ((t : Int) + k + 1)))) :=
        ⟨hs1, hz5.grown hs2 (by omega), below_grown hd5 hs2 (Nat.le_refl _) (fun k hk => by injection hk with hk; omega), below_grown he5 hs2 (Nat.le_refl _) (fun k hk => by injection hk with hk; omega)⟩
      have HE := Lib.hid hE
      generalize ent q t ((t : Int) + k + 1) = x at *
      generalize (halfR q k t).getD t 0 = y at *
      clear ho5 hz5 hd5 he5 hs1 hs2 hb5 hcw Ho Hb Hb2 Hz hE
      go_wp2
      go_roundw
      case rel => exact ⟨t + 1, by omega, by go_num, HE.out⟩
      case measure => simp [intOf]; omega
    · obtain rfl : t = q.length := by omega
      have Hlen := Lib.hid (halfR_length q k q.length hn12)
      have hh := ho.heap
      have Hh := Lib.hid hh
      clear ho hz hb hb2 hh h
      go_wp2_with (first
        | (refine wpList_load_row rfl 98 (.tmp 6) rfl w2.heap.size rfl 98 (ics (halfR q k q.length)).toArray (0, 0) _ Hh.out Tryd.underlying98 rfl (by rw [band_size]; simp [ics_length, Hlen.out]) ?_)
        | (refine wpList_store_band rfl (.tmp 4) (.tmp 25) rfl rfl w.heap.size (halfR q k q.length) rfl rfl 98 (List.replicate 12 0) Hz.out rfl Hlen.out ?_
           intro w5 h5 g5
           have hb5 := below_grown Hb.out g5 (Nat.le_refl _) (fun k hk => by injection hk with hk; omega)
           have H5 := Lib.hid h5
           clear g5 h5))
      exact bodyPost_ret (v := .agg (ics (halfR q k q.length)).toArray) (results_cell_row (fn := Tryd.f68) rfl _ w5 w.heap.size 98 _ (0, 0) _ rfl H5.out Tryd.underlying98 rfl (by rw [band_size]; simp [ics_length, Hlen.out])) rfl ⟨rfl, hb5⟩

end Go.Proofs.YtbebalgleiafdabDoor
