/- DiagonalOfFrieze: the model's and the program's contract, and the law's walk. -/
import Derived.Test.YtbebalgleiafdabEntryOfW
import Derived.Test.YtbebalgleiafdabLawM
namespace Go.Proofs.Ytbebalgleiafdab
set_option linter.unusedVariables false
open Go.RowKit

/-- the first m entries of i -/
def diL (q : List Int) (i : Int) (m : Nat) : List Int := (List.range m).map fun (s : Nat) => ent q i (i + ((s : Int) + 1))
theorem diL_length (q : List Int) (i : Int) (m : Nat) : (diL q i m).length = m := by simp [diL]
theorem diL_succ (q : List Int) (i : Int) (m : Nat) : diL q i (m + 1) = diL q i m ++ [ent q i (i + ((m : Int) + 1))] := by simp [diL, List.range_succ]
def okD (q : List Int) (i : Int) : Bool := isQ q && inB i (-1000) 1000
def diR (q : List Int) (i : Int) : List Int := if okD q i = true then diL q i (q.length - 1) else []
theorem okE_self (q : List Int) (i : Int) : okE q i i = okD q i := by
  unfold okE okD
  have : inB i i (i + q.length) = true := inB_iff'.2 ⟨by omega, by omega⟩
  rw [this, Bool.and_true]
theorem diR_length (q : List Int) (i : Int) : (diR q i).length ≤ 1000000000 := by
  unfold diR
  split
  · rename_i h
    unfold okD at h
    rw [Bool.and_eq_true] at h
    have := isQ_len h.1
    rw [diL_length]; omega
  · simp
theorem retI_no {q : List Int} {i : Int} {w w' : World} (h : okD q i = false) (hb : Below w.heap.size w w') : RetI w (diR q i) (okD q i) (.returned (.tuple #[.slice none 0 0, .bool false])) w' := by
  unfold diR
  rw [h]
  exact ⟨none, 0, rfl, World.ownsRow_nil _ _ _ _, hb⟩

def halfDi (q : List Int) (i : Int) (m k : Nat) : List Int := diL q i k ++ List.replicate (m - k) 0
theorem halfDi_length (q : List Int) (i : Int) (m k : Nat) (h : k ≤ m) : (halfDi q i m k).length = m := by simp [halfDi, diL_length]; omega
theorem halfDi_set (q : List Int) (i : Int) (m k : Nat) (h : k < m) : (halfDi q i m k).set k (ent q i (i + ((k : Int) + 1))) = halfDi q i m (k + 1) := by
  unfold halfDi
  rw [List.set_append_right _ _ (by rw [diL_length]; omega), diL_length, Nat.sub_self, show m - k = (m - (k + 1)) + 1 by omega, List.replicate_succ, List.set_cons_zero, diL_succ, List.append_assoc]
  rfl

set_option maxRecDepth 100000 in
set_option maxHeartbeats 3200000 in
theorem impl_DiagonalOfFrieze (A : Option Addr) (c B : Nat) (q : List Int) (i : Int) (w : World) (h : SlI w B A q) (hB : B ≤ w.heap.size) (hl : q.length ≤ 1048576) (hlc : q.length ≤ c) :
    Calls Try.prog 66 #[.slice A q.length c, .int .i64 i] w (RetI w (diR q i) (okD q i)) := by
  go_enter Try.func66, Try.ntmps66
  go_wp2_with fail
  refine (impl_hasEntry A c B q i i _ h hB hl hlc).mono ?_
  rintro e w1 ⟨rfl, hb1⟩
  rw [okE_self]
  cases hok : okD q i
  · have hres := retI_no hok hb1
    have Hres := Lib.hid hres
    clear hres h hb1
    go_wp2
    go_ret2
    exact Hres.out
  · have hq : isQ q = true := by unfold okD at hok; rw [Bool.and_eq_true] at hok; exact hok.1
    have hi : inB i (-1000) 1000 = true := by unfold okD at hok; rw [Bool.and_eq_true] at hok; exact hok.2
    obtain ⟨i0, i1⟩ := inB_iff'.1 hi
    obtain ⟨hn3, hn12⟩ := isQ_len hq
    have hfin : ∀ e w', RetI w (diL q i (q.length - 1)) true e w' → RetI w (diR q i) (okD q i) e w' := fun e w' hh => by
      unfold diR
      rw [hok]
      exact hh
    have Hfin := Lib.hid hfin
    clear hfin hok hi hq
    go_wp2_with fail
    refine (impl_entriesOf A c q _).mono ?_
    rintro e w2 ⟨rfl, hcp, hb2⟩
    have hd2 := below_kept hb1 (Nat.le_refl _) hb2
    have hz2 := hb2.size
    obtain ⟨m, hm⟩ : ∃ m, q.length = m + 1 := ⟨q.length - 1, by omega⟩
    obtain ⟨i0', hii, hz0, hz1, hz3⟩ := info_parts infoI
    have hbytes : i0'.bytes * m ≤ 281474976710656 := by rw [hz3]; omega
    have hmax : m ≤ maxLen := by unfold maxLen; omega
    have hm1 : (q.length : Int) - 1 = (m : Int) := by omega
    have hg1 : w1.heap.size < w2.heap.size := World.block_lt_of_cell? w2 _ hcp.1
    have hg2 : w1.heap.size + 1 < w2.heap.size := World.block_lt_of_cell? w2 _ hcp.2
    have Hcp := Lib.hid hcp
    have Hd2 := Lib.hid hd2
    have Hm := Lib.hid hm
    have hwn : w.heap.size ≤ w2.heap.size := hd2.size
    generalize w1.heap.size = gq at *
    clear hcp hd2 hm hb1 hb2 hz2
    go_wp2_with (at_make; refine wpList_make_full _ rfl _ _ _ rfl w.heap.size 3 i0' (.int .i64 0) 1 Try.underlying25 hii hz0 hz1 _ _ _ _ m rfl rfl rfl rfl hbytes hmax hwn ?_; intro w3 hown3 hgrow3)
    have hd3 := below_grown Hd2.out hgrow3 (Nat.le_refl _) (fun _ e => by cases e)
    have hb3 : Below w2.heap.size w2 w3 := (Below.refl _ _).grown hgrow3 (Nat.le_refl _) (fun _ e => by cases e)
    have e1 : (madeCells (Value.int .i64 0).cells (m * 1)).toList = ics (halfDi q i m 0) := by
      rw [Nat.mul_one]
      show (madeCells #[Value.int .i64 0] m).toList = _
      rw [toList_madeCells_one]
      simp [ics, halfDi, diL]
    rw [e1] at hown3
    have Hd3 := Lib.hid hd3
    have Hb3 := Lib.hid hb3
    have Hown3 := Lib.hid hown3
    clear e1 hgrow3 hd3 hb3 hown3 hm1 hz0 hz1 hz3 hbytes hmax
    go_wp2
    go_loopw [8, 22] (fun _ k wr => ∃ t : Nat, t ≤ m ∧ k = .int .i64 t ∧ wr.ownsRow w.heap.size 3 1 (.slice (some ⟨w2.heap.size, 0, none⟩) m m) m (ics (halfDi q i m t)) ∧ Below w.heap.size w wr ∧ Below w2.heap.size w2 wr) (fun _ k _ => m - (intOf k).toNat)
    case atStart => exact ⟨0, Nat.zero_le _, rfl, Hown3.out, Hd3.out, Hb3.out⟩
    case round =>
      clear Hown3 Hd3 Hb3
      obtain ⟨t, ht, rfl, ho, hb, hb2⟩ := hrel
      by_cases hlt : t < m
      · have hset := halfDi_set q i m t hlt
        have Hset := Lib.hid hset
        have Hlen := Lib.hid (halfDi_length q i m t ht)
        have hz := hb2.size
        have Ho := Lib.hid ho
        have Hb := Lib.hid hb
        have Hb2 := Lib.hid hb2
        have t1 : (t : Int) ≤ 11 := by have := Hm.out; omega
        have hcw : Hid (Caps wr gq (gq + 1) A c q) := Lib.hid ⟨cell_kept hb2 Hcp.out.1, cell_kept hb2 Hcp.out.2⟩
        have hij : i + (t : Int) + 1 = i + ((t : Int) + 1) := by omega
        have Hij := Lib.hid hij
        clear hset ho hb hb2 hij
        go_wp2_with fail
        refine (impl_entries1 gq (gq + 1) A c B q i (i + (t : Int) + 1) _ hcw.out (h.below (Hb.out.mono hB)) (by omega) hn3 hn12 ⟨by omega, by omega⟩ (by omega) (by omega)).mono ?_
        rintro e w5 ⟨rfl, hb5⟩
        have ho5 := own_kept Ho.out hb5
        have hd5 := below_kept Hb.out (Nat.le_refl _) hb5
        have he5 := below_kept Hb2.out (Nat.le_refl _) hb5
        rw [Hij.out]
        have hcell : w5.cell? ⟨w2.heap.size, t, none⟩ = some (.int .i64 ((halfDi q i m t).getD t 0)) := by rw [ho5.cellAt t (by omega), ics_get _ _ (by rw [Hlen.out]; exact hlt)]
        have hfro := ho5.frozenAt t
        have hst := ho5.stored t (.int .i64 (ent q i (i + ((t : Int) + 1))))
        rw [ics_set, Hset.out] at hst
        obtain ⟨hs1, hs2⟩ := hst
        have hd6 := below_grown hd5 hs2 (Nat.le_refl _) (fun k hk => by injection hk with hk; omega)
        have he6 := below_grown he5 hs2 (Nat.le_refl _) (fun k hk => by injection hk with hk; omega)
        generalize ent q i (i + ((t : Int) + 1)) = x at *
        generalize (halfDi q i m t).getD t 0 = y at *
        clear ho5 hd5 he5 hs2 hb5 hcw Ho Hb Hb2
        go_wp2
        go_roundw
        case rel => exact ⟨t + 1, by omega, by go_num, hs1, hd6, he6⟩
        case measure => simp [intOf]; omega
      · obtain rfl : t = m := by omega
        have hE := Hfin.out (.returned (.tuple #[.slice (some ⟨w2.heap.size, 0, none⟩) t t, .bool true])) wr (by
          have hk : q.length - 1 = t := by have := Hm.out; omega
          rw [hk]
          have e := diL_length q i t
          have e2 : halfDi q i t t = diL q i t := by simp [halfDi]
          rw [e2] at ho
          exact ⟨some ⟨w2.heap.size, 0, none⟩, t, by rw [e], by rw [e]; exact ho, hb⟩)
        have HE := Lib.hid hE
        clear hE ho hb hb2 h
        go_wp2
        go_ret2
        exact HE.out

end Go.Proofs.Ytbebalgleiafdab
