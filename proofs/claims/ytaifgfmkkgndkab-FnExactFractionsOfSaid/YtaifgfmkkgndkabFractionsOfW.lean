/- The polygon of fractions of a quiddity. -/
import Derived.Test.YtaifgfmkkgndkabEntryOfW
import Derived.Test.YtaifgfmkkgndkabClo
import Derived.Test.YtaifgfmkkgndkabAppF
import Derived.Test.YtaifgfmkkgndkabFractionsOfC
namespace Go.Proofs.Ytaifgfmkkgndkab
set_option linter.unusedVariables false
open Go.RowKit

/-- the first k fractions -/
def frF (q : List Int) (k : Nat) : List (Int × Int) := (List.range k).map fun (t : Nat) => (ent q 1 ((t : Int) + 1), ent q 0 ((t : Int) + 1))
theorem frF_length (q : List Int) (k : Nat) : (frF q k).length = k := by simp [frF]
theorem frF_succ (q : List Int) (k : Nat) : frF q (k + 1) = frF q k ++ [(ent q 1 ((k : Int) + 1), ent q 0 ((k : Int) + 1))] := by simp [frF, List.range_succ]
theorem frF_get (q : List Int) (n k : Nat) (h : k < n) : (frF q n).getD k (0, 0) = (ent q 1 ((k : Int) + 1), ent q 0 ((k : Int) + 1)) := by
  simp [frF, List.getD_eq_getElem?_getD, h]
theorem frF_end {q : List Int} (h : isQ q = true) : frF q q.length = frF q (q.length - 1) ++ [(1, 0)] := by
  have hl := isQ_len h
  have e := frF_succ q (q.length - 1)
  rw [show q.length - 1 + 1 = q.length by omega, show ((q.length - 1 : Nat) : Int) + 1 = (q.length : Int) by omega, ent_end0 h, ent_end1 h] at e
  exact e
def frR (q : List Int) : List (Int × Int) := if isQ q = true then frF q q.length else []
theorem frR_no {q : List Int} (h : isQ q = false) : frR q = [] := if_neg (by rw [h]; simp)
theorem frR_yes {q : List Int} (h : isQ q = true) : frR q = frF q q.length := if_pos h
theorem frR_length (q : List Int) : (frR q).length ≤ 1000000000 := by
  cases h : isQ q
  · rw [frR_no h]; simp
  · have := isQ_len h
    rw [frR_yes h, frF_length]; omega

set_option maxRecDepth 100000 in
set_option maxHeartbeats 3200000 in
theorem spec_FractionsOf (A : Option Addr) (c B : Nat) (q : List Int) (w : World) (h : SlI w B A q) (hB : B ≤ w.heap.size) (hl : q.length ≤ 1048576) (hlc : q.length ≤ c) :
    Calls Try.prog 23 #[.slice A q.length c] w (RetF w (frR q) (isQ q)) := by
  have HQ := Lib.hid (spec_IsQuiddity A c B q w h hB hl hlc)
  cases hq : isQ q
  · rw [hq] at HQ
    rw [frR_no hq]
    clear h hq
    go_enter Try.func23, Try.ntmps23
    go_wp2_with fail
    refine HQ.out.mono ?_
    rintro e w1 ⟨rfl, hb⟩
    have HE := Lib.hid (show RetF w [] false (.returned (.tuple #[.slice none 0 0, .bool false])) w1 from ⟨none, 0, rfl, World.ownsRow_nil _ _ _ _, hb⟩)
    clear hb HQ
    go_wp2
    go_ret2
    exact HE.out
  · rw [hq] at HQ
    obtain ⟨h3, h12⟩ := isQ_len hq
    have HR := Lib.hid (show frR q = frF q (q.length - 1) ++ [(1, 0)] by rw [frR_yes hq, frF_end hq])
    have H := Lib.hid h
    clear hq h
    generalize frR q = R at *
    go_enter Try.func23, Try.ntmps23
    go_wp2_with fail
    refine HQ.out.mono ?_
    rintro e w1 ⟨rfl, hb⟩
    have Hb := Lib.hid hb
    clear hb HQ
    go_wp2
    go_loopw [4, 5] (fun v i wr => ∃ (k : Nat) (A' : Option Addr) (c' : Nat), k + 1 ≤ q.length ∧ i = .int .i64 ((k : Int) + 1) ∧ v = .slice A' k c' ∧ wr.ownsRow w.heap.size 32 2 (.slice A' k c') k (dcs (frF q k)) ∧ Below w.heap.size w wr) (fun _ i _ => q.length + 1 - (intOf i).toNat)
    case atStart => exact ⟨0, none, 0, by omega, rfl, rfl, World.ownsRow_nil _ _ _ _, Hb.out⟩
    case round =>
      clear Hb
      obtain ⟨k, A', c', hk, rfl, rfl, ho, hb⟩ := hrel
      by_cases hlt : k + 1 < q.length
      · have i1 : (k : Int) + 1 < (q.length : Int) := by omega
        have hs := H.out.below (hb.mono hB)
        have HF1 := Lib.hid (spec_frEntry A c B q 1 ((k : Int) + 1) wr hs h3 h12 (by omega) (by omega) (by omega))
        have HF0 := Lib.hid (spec_frEntry A c B q 0 ((k : Int) + 1) wr hs h3 h12 (by omega) (by omega) (by omega))
        have Hst := Lib.hid (frF_succ q k)
        have Hfl := Lib.hid (frF_length q k)
        generalize ent q 1 ((k : Int) + 1) = x at *
        generalize ent q 0 ((k : Int) + 1) = y at *
        have Ho := Lib.hid ho
        have HB := Lib.hid hb
        have hz := hb.size
        clear hs ho hb
        go_wp2_with fail
        refine HF1.out.mono ?_
        rintro e w2 ⟨rfl, rfl⟩
        go_wp2_with fail
        refine HF0.out.mono ?_
        rintro e w3 ⟨rfl, rfl⟩
        have own2 := Ho.out.alloc (.cells #[.int .i64 x, .int .i64 y] 32)
        have hb2 := HB.out.alloc hz (.cells #[.int .i64 x, .int .i64 y] 32)
        have hb6 := hb2.size
        have Hob5 := Lib.hid Ho.out.lt
        clear HF1 HF0
        go_wp2_with (first
          | (at_builtin; refine append1Fn _ rfl _ _ rfl w.heap.size (.slice A' k c') k (frF q k) Hfl.out rfl own2 _ x y rfl ?c1 ?c2 ?c3 hb6 ?_; (case c1 => simp [go_sem]); (case c2 => simp [go_sem]); (case c3 => omega); intro A3 c3 w6 own3 hg3))
        have hb7 := hb2.grown hg3 hb6 (fun j hj => (Hob5.out j hj).1)
        rw [← Hst.out] at own3
        have HO3 := Lib.hid own3
        have HB7 := Lib.hid hb7
        clear hg3 hb2 own2 own3 hb7
        go_wp2
        go_roundw
        case rel => exact ⟨k + 1, A3, c3, by omega, by go_num, rfl, HO3.out, HB7.out⟩
        case measure => simp [intOf]; omega
      · have hk1 : k = q.length - 1 := by omega
        have i1 : ¬ (k : Int) + 1 < (q.length : Int) := by omega
        have Hfl := Lib.hid (frF_length q k)
        have own2 := ho.alloc (.cells #[.int .i64 1, .int .i64 0] 32)
        have hb2 := hb.alloc hb.size (.cells #[.int .i64 1, .int .i64 0] 32)
        have hb6 := hb2.size
        have Hob5 := Lib.hid ho.lt
        have Hk1 := Lib.hid hk1
        clear ho hb hk1
        go_wp2_with (first
          | (at_builtin; refine append1Fn _ rfl _ _ rfl w.heap.size (.slice A' k c') k (frF q k) Hfl.out rfl own2 _ 1 0 rfl ?c1 ?c2 ?c3 hb6 ?_; (case c1 => simp [go_sem]); (case c2 => simp [go_sem]); (case c3 => omega); intro A3 c3 w6 own3 hg3))
        have hb7 := hb2.grown hg3 hb6 (fun j hj => (Hob5.out j hj).1)
        have HE := Lib.hid (show RetF w R true (.returned (.tuple #[.slice A3 (k + 1) c3, .bool true])) w6 from by
          have e : R = frF q k ++ [(1, 0)] := by rw [HR.out, Hk1.out]
          have el : R.length = k + 1 := by rw [e, List.length_append, frF_length]; rfl
          rw [← e, ← el] at own3
          rw [← el]
          exact ⟨A3, c3, rfl, own3, hb7⟩)
        clear hg3 hb2 own2 own3 hb7
        go_wp2
        go_ret2
        exact HE.out

set_option maxRecDepth 100000 in
set_option maxHeartbeats 3200000 in
theorem impl_FractionsOf (A : Option Addr) (c B : Nat) (q : List Int) (w : World) (h : SlI w B A q) (hB : B ≤ w.heap.size) (hl : q.length ≤ 1048576) (hlc : q.length ≤ c) :
    Calls Try.prog 25 #[.slice A q.length c] w (RetF w (frR q) (isQ q)) := by
  have HQ := Lib.hid (impl_IsQuiddity A c B q w h hB hl hlc)
  cases hq : isQ q
  · rw [hq] at HQ
    rw [frR_no hq]
    clear h hq
    go_enter Try.func25, Try.ntmps25
    go_wp2_with fail
    refine HQ.out.mono ?_
    rintro e w1 ⟨rfl, hb⟩
    have HE := Lib.hid (show RetF w [] false (.returned (.tuple #[.slice none 0 0, .bool false])) w1 from ⟨none, 0, rfl, World.ownsRow_nil _ _ _ _, hb⟩)
    clear hb HQ
    go_wp2
    go_ret2
    exact HE.out
  · rw [hq] at HQ
    obtain ⟨h3, h12⟩ := isQ_len hq
    have HR := Lib.hid (frR_yes hq)
    have H := Lib.hid h
    have HE0 := Lib.hid (fun w => impl_entriesOf A c q w)
    obtain ⟨i0, hi, hz0, hz1, hz2⟩ := info_parts infoF
    have hbytes : i0.bytes * q.length ≤ 281474976710656 := by rw [hz2]; omega
    have hmax : q.length ≤ maxLen := by unfold maxLen; omega
    clear hq h
    generalize frR q = R at *
    go_enter Try.func25, Try.ntmps25
    go_wp2_with fail
    refine HQ.out.mono ?_
    rintro e w1 ⟨rfl, hb⟩
    have Hb1 := Lib.hid hb
    clear hb HQ
    go_wp2_with fail
    refine (HE0.out _).mono ?_
    rintro e w2 ⟨rfl, hcp, hb⟩
    have Hb2 := Lib.hid (below_kept Hb1.out (Nat.le_refl _) hb)
    have Hcp := Lib.hid hcp
    clear hb HE0 hcp Hb1
    go_wp2_with (at_make; refine wpList_make_full _ rfl _ _ _ rfl w2.heap.size 32 i0 (.agg #[.int .i64 0, .int .i64 0]) 2 Try.underlying22 hi hz0 hz1 _ _ _ _ q.length rfl rfl rfl rfl hbytes hmax (Nat.le_refl _) ?_; intro w3 hown3 hgrow3)
    have hb3 : Below w2.heap.size w2 w3 := (Below.refl _ _).grown hgrow3 (Nat.le_refl _) (by simp)
    have e1 : List.replicate q.length ((0 : Int), (0 : Int)) = copyF (frF q q.length) 0 := by rw [copyF_zero, frF_length]
    rw [dcs_zeros, e1] at hown3
    have Ho3 := Lib.hid hown3
    have Hb3 := Lib.hid hb3
    clear e1 hgrow3 hown3 hb3 hbytes hmax hz0 hz1 hz2 hi
    have HL := Lib.hid (frF_length q q.length)
    obtain ⟨g, hg⟩ : ∃ g, g = w2.heap.size := ⟨_, rfl⟩
    rw [← hg] at Ho3 ⊢
    have Hg := Lib.hid hg
    clear hg
    go_wp2
    go_loopw [6, 7, 18] (fun _ _ i wr => ∃ k : Nat, k ≤ q.length ∧ i = .int .i64 k ∧ wr.ownsRow g 32 2 (.slice (some ⟨g, 0, none⟩) q.length q.length) q.length (dcs (copyF (frF q q.length) k)) ∧ Below w2.heap.size w2 wr) (fun _ _ i _ => q.length - (intOf i).toNat)
    case atStart => exact ⟨0, Nat.zero_le _, rfl, Ho3.out, Hb3.out⟩
    case round =>
      clear Ho3 Hb3
      obtain ⟨k, hk, rfl, ho, hb⟩ := hrel
      by_cases hlt : k < q.length
      · have j0 : (0 : Int) ≤ (k : Int) := by omega
        have j1 : (k : Int) < (q.length : Int) := by omega
        have HEn := Lib.hid (fun (i : Int) (hi : 0 ≤ i ∧ i ≤ 1) (w' : World) (hb : Below w2.heap.size w2 w') =>
          impl_entries1 w1.heap.size (w1.heap.size + 1) A c B q i ((k : Int) + 1) w' ⟨cell_kept hb Hcp.out.1, cell_kept hb Hcp.out.2⟩ (H.out.below ((Hb2.out.trans (hb.mono Hb2.out.size)).mono hB)) (Nat.le_trans hB (Nat.le_trans Hb2.out.size hb.size)) h3 h12 (by omega) (by omega) (by omega))
        have Hget := Lib.hid (frF_get q q.length k hlt)
        have Hcs := Lib.hid (copyF_succ (frF q q.length) k (by rw [HL.out]; exact hlt))
        have hkl : k < (copyF (frF q q.length) k).length := by rw [copyF_length _ k (by rw [HL.out]; exact hk), HL.out]; exact hlt
        have Hkl := Lib.hid hkl
        have HEn1 := Lib.hid (HEn.out 1 (by omega))
        have HEn0 := Lib.hid (HEn.out 0 (by omega))
        clear HEn
        generalize ent q 1 ((k : Int) + 1) = x at *
        generalize ent q 0 ((k : Int) + 1) = y at *
        have Ho := Lib.hid ho
        have HB := Lib.hid hb
        clear ho hb hkl
        go_wp2_with fail
        refine (HEn1.out _ HB.out).mono ?_
        rintro e w4 ⟨rfl, hb4⟩
        have Ho4 := Lib.hid (own_kept Ho.out hb4)
        have HB4 := Lib.hid (below_kept HB.out (Nat.le_refl _) hb4)
        clear hb4 Ho HB
        go_wp2_with fail
        refine (HEn0.out _ HB4.out).mono ?_
        rintro e w5 ⟨rfl, hb5⟩
        have ho5 := own_kept Ho4.out hb5
        have hd5 := below_kept HB4.out (Nat.le_refl _) hb5
        clear hb5 Ho4 HB4
        have c0 : w5.cell? ⟨g, k * 2, none⟩ = some (.int .i64 ((copyF (frF q q.length) k).getD k (0, 0)).1) := by rw [ho5.cellAt _ (by omega), dcs_get0 _ _ Hkl.out]
        have c1 : w5.cell? ⟨g, k * 2 + 1, none⟩ = some (.int .i64 ((copyF (frF q q.length) k).getD k (0, 0)).2) := by rw [ho5.cellAt _ (by omega), dcs_get1 _ _ Hkl.out]
        have f0 := ho5.frozenAt (k * 2)
        have f1 := ho5.frozenAt (k * 2 + 1)
        obtain ⟨hs1, hs2⟩ := stored2 ho5 k Hkl.out x y
        have hcs := Hcs.out
        rw [Hget.out] at hcs
        rw [hcs] at hs1
        have yg : g < w5.heap.size := World.block_lt_of_cell? w5 _ c0
        have hd6 := hd5.grown hs2 hd5.size (by rintro j hj; cases hj; exact Nat.le_of_eq Hg.out.symm)
        have HS1 := Lib.hid hs1
        have HD6 := Lib.hid hd6
        generalize ((copyF (frF q q.length) k).getD k (0, 0)).1 = z0 at *
        generalize ((copyF (frF q q.length) k).getD k (0, 0)).2 = z1 at *
        clear ho5 hd5 hs1 hs2 hcs hd6 HEn1 HEn0 Hcs Hget Hkl
        go_wp2
        go_roundw
        case rel => exact ⟨k + 1, by omega, by go_num, HS1.out, HD6.out⟩
        case measure => simp [intOf]; omega
      · obtain rfl : k = q.length := by omega
        rw [show copyF (frF q q.length) q.length = frF q q.length by have := copyF_all (frF q q.length); rw [HL.out] at this; exact this] at ho
        have hE : RetF w R true (.returned (.tuple #[.slice (some ⟨g, 0, none⟩) q.length q.length, .bool true])) wr := by
          have el : R.length = q.length := by rw [HR.out, HL.out]
          rw [← el] at ho ⊢
          rw [HR.out] at ho ⊢
          rw [HL.out] at ho ⊢
          exact ⟨_, _, by rw [HL.out], by rw [HL.out]; exact ho.mono (by rw [Hg.out]; exact Hb2.out.size), below_kept Hb2.out (Nat.le_refl _) hb⟩
        have HE := Lib.hid hE
        clear hE ho hb
        go_wp2
        go_ret2
        exact HE.out
theorem WFractionsOf.walk (w : World) (A : Option Addr) (c : Nat) (l : List Int) (h : SlI w w.heap.size A l)
    (hj : l.length ≤ c ∧ c ≤ maxLen ∧ ∀ x ∈ l, (Lit.int .i64 x).wf = true) :
    Calls Try.prog 6 #[.slice A l.length c] w fun e w' => e = .returned (.bool true) ∧ Below w.heap.size w w' :=
  WFractionsOf.core w A c l h hj.1 hj.2.1 (frR l) (isQ l) (frR_length l)
    (Lib.hid fun A c w h hl hlc => spec_FractionsOf A c _ l w h (Nat.le_refl _) hl hlc)
    (Lib.hid fun A c w h hl hlc => impl_FractionsOf A c _ l w h (Nat.le_refl _) hl hlc)
end Go.Proofs.Ytaifgfmkkgndkab
