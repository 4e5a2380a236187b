/- The text of diagonals: the program's, and the model's whole. -/
import Derived.Test.YtbebalgleiafdabDoorDtS
import Derived.Test.YtbebalgleiafdabDoorItoW
import Derived.Test.YtbebalgleiafdabDoorJoinL
import Derived.Test.YtbebalgleiafdabDoorLawM
namespace Go.Proofs.YtbebalgleiafdabDoor
set_option linter.unusedVariables false
open Go.RowKit

def DtE (l : List (Int × Int)) (w : World) (e : Ending) (w' : World) : Prop := e = .returned (.tuple #[.string (bsL (dtR l)), .bool (lisB l)]) ∧ Below w.heap.size w w'
theorem dtE_no {l : List (Int × Int)} {w w' : World} (h : lisB l = false) (hb : Below w.heap.size w w') : DtE l w (.returned (.tuple #[.string ⟨#[]⟩, .bool false])) w' := by
  unfold DtE dtR
  rw [h]
  exact ⟨rfl, hb⟩
theorem dtE_yes {l : List (Int × Int)} {w w' : World} (h : lisB l = true) (hb : Below w.heap.size w w') : DtE l w (.returned (.tuple #[.string (bsL (dtL l)), .bool true])) w' := by
  unfold DtE dtR
  rw [if_pos h, h]
  exact ⟨rfl, hb⟩
set_option maxRecDepth 100000 in
set_option maxHeartbeats 1600000 in
theorem spec_DiagonalsText (A : Option Addr) (c B : Nat) (l : List (Int × Int)) (w : World) (h : SlD w B A l) (hB : B ≤ w.heap.size) (hl : l.length ≤ 1048576) :
    Calls Tryd.prog 16 #[.slice A l.length c] w (DtE l w) := by
  go_enter Tryd.func16, Tryd.ntmps16
  go_wp2_with fail
  refine (spec_poListed A c B l _ h hB hl).mono ?_
  rintro e w1 ⟨rfl, hb1⟩
  cases hg : lisB l
  · have HE := Lib.hid (dtE_no (w := w) hg hb1)
    clear hg h hb1
    go_wp2
    go_ret2
    exact HE.out
  · have HT := Lib.hid (spec_poText A c B l w1 (h.below (hb1.mono hB)) (Nat.le_trans hB hb1.size) hg)
    have HE := Lib.hid (fun w' hb => dtE_yes (w := w) (w' := w') hg hb)
    have HB := Lib.hid hb1
    clear hg h hb1
    go_wp2_with fail
    refine HT.out.mono ?_
    rintro e w2 ⟨rfl, hb2⟩
    have HE2 := Lib.hid (HE.out _ (below_kept HB.out (Nat.le_refl _) hb2))
    clear HT HE HB hb2
    go_wp2
    go_ret2
    exact HE2.out

theorem infoT : (Tryd.prog.info? 9).map (fun i => (i.zero, i.size, i.bytes)) = some (some (.string ⟨#[]⟩), 1, 16) := by kernel_rfl
theorem impl_ItoaS2 {n : Nat} {w0 w : World} {P Q : Prop} (hn : n ≤ 1000000000) (ht : TabW w0) (hS : P ∧ Q ∧ Below w0.heap.size w0 w) :
    Calls Tryd.prog 27 #[.int .i64 n] w fun e w' => e = .returned (.string (bsL (Lib.decDigits n))) ∧ Below w.heap.size w w' := impl_Itoa n w hn (tab_kept ht hS.2.2)
theorem setB2 {B : Nat} {w0 w : World} {b g k : Nat} {v0 v1 v : Value} (hne : g ≠ b) (hB : B ≤ g) (h : w.cell? ⟨b, 0, none⟩ = some v0 ∧ w.cell? ⟨b, 1, none⟩ = some v1 ∧ Below B w0 w) :
    (w.setCell ⟨g, k, none⟩ v).cell? ⟨b, 0, none⟩ = some v0 ∧ (w.setCell ⟨g, k, none⟩ v).cell? ⟨b, 1, none⟩ = some v1 ∧ Below B w0 (w.setCell ⟨g, k, none⟩ v) :=
  ⟨by simp [go_sem, hne, h.1], by simp [go_sem, hne, h.2.1], h.2.2.setCell (p := ⟨g, k, none⟩) hB _⟩
theorem okP_no {x y : Int} (h : x < 0 ∨ y ≤ x ∨ 12 ≤ y) : okP (x, y) = false := by
  rw [Bool.eq_false_iff]
  intro e
  have := okP_iff.1 e
  dsimp only at this
  omega
theorem okP_yes {x y : Int} (h : 0 ≤ x ∧ x < y ∧ y < 12) : okP (x, y) = true := okP_iff.2 (by dsimp only; omega)
theorem stR_cell {l : List (Int × Int)} {n j : Nat} {x : ByteArray} (hn : l.length = n) (h : (l.map fun d => bsL (elD d))[j]? = some x) : (stR l n n)[j]? = some (.string x) := by
  unfold stR
  rw [Nat.sub_self, List.replicate_zero, List.append_nil, ← hn, List.take_length, List.getElem?_map]
  rw [List.getElem?_map] at h
  cases hj : l[j]? with
  | none => rw [hj] at h; simp at h
  | some d => rw [hj] at h; simp at h ⊢; exact h
theorem join_bytes (l : List (Int × Int)) : (Lib.join ((l.map fun d => bsL (elD d)).map (·.data.toList)) (⟨#[44]⟩ : ByteArray).data.toList) = txD l l.length := by
  rw [txD_join l l.length (Nat.le_refl _), List.take_length, List.map_map]
  congr 1
set_option maxRecDepth 100000 in
set_option maxHeartbeats 3200000 in
theorem impl_DiagonalsText (A : Option Addr) (c B : Nat) (l : List (Int × Int)) (w : World) (h : SlD w B A l) (hB : B ≤ w.heap.size) (hl : l.length ≤ 1048576) (ht : TabW w) :
    Calls Tryd.prog 18 #[.slice A l.length c] w (DtE l w) := by
  by_cases h12 : 12 < l.length
  · have HE := Lib.hid (dtE_no (w := w) (lisB_len h12) (Below.refl _ _))
    clear h ht
    generalize l.length = n at *
    go_enter Tryd.func18, Tryd.ntmps18
    go_wp2
    go_ret2
    exact HE.out
  · by_cases h0 : l.length = 0
    · have hy : lisB l = true := by
        have : l = [] := List.eq_nil_of_length_eq_zero h0
        subst this
        rfl
      have HE := Lib.hid (dtE_yes (w := w) hy (Below.refl _ _))
      have e : dtL l = [46] := if_pos h0
      rw [e] at HE
      clear h ht hy e
      rw [h0]
      go_enter Tryd.func18, Tryd.ntmps18
      go_wp2
      go_ret2
      exact HE.out
    · obtain ⟨n, hn⟩ : ∃ n, l.length = n := ⟨_, rfl⟩
      obtain ⟨i0', hii, hz0, hz1, hz2⟩ := info_parts infoT
      rw [hn] at h0 h12 hl ⊢
      have n0 : ((n : Int) == 0) = false := by simpa using h0
      have hbytes : i0'.bytes * n ≤ 281474976710656 := by rw [hz2]; omega
      have hmax : n ≤ maxLen := by unfold maxLen; omega
      have Hn := Lib.hid hn
      have HT := Lib.hid ht
      clear hn ht
      go_enter Tryd.func18, Tryd.ntmps18
      go_wp2_with (first
        | (at_make; refine wpList_make_full _ rfl _ _ _ rfl w.heap.size 9 i0' (.string ⟨#[]⟩) 1 Tryd.underlying53 hii hz0 hz1 _ _ _ _ n rfl rfl rfl rfl hbytes hmax (Nat.le_refl _) ?_
           intro w3 hown3 hgrow3
           have b3 : Below w.heap.size w w3 := (Below.refl _ _).grown hgrow3 (Nat.le_refl _) (by simp)
           have e1 : (madeCells (Value.string ⟨#[]⟩).cells (n * 1)).toList = stR l 0 n := (by
             rw [Nat.mul_one, stR_zero]
             show (madeCells #[Value.string ⟨#[]⟩] n).toList = _
             rw [toList_madeCells_one])
           rw [e1] at hown3
           have O0 := Lib.hid hown3
           have B0 := Lib.hid b3
           clear e1 hgrow3 hown3 b3))
      clear hbytes hmax hii hz0 hz1 hz2
      go_loopw [5, 6, 18] (fun _ _ i wr => ∃ k : Nat, k ≤ n ∧ i = .int .i64 k ∧ lisA l k = true ∧ wr.ownsRow w.heap.size 9 1 (.slice (some ⟨w.heap.size, 0, none⟩) n n) n (stR l k n) ∧ Below w.heap.size w wr) (fun _ _ i _ => n - (intOf i).toNat)
      case atStart => exact ⟨0, Nat.zero_le _, rfl, by simp [lisA], O0.out, B0.out⟩
      case round =>
        clear O0 B0
        obtain ⟨k, hk, rfl, ha, ho, hb⟩ := hrel
        by_cases hlt : k < n
        · obtain ⟨b, off, rfl, hbB, hc⟩ := h.below (hb.mono hB) (by rw [Hn.out]; omega)
          obtain ⟨g0, g1⟩ := hc k (by rw [Hn.out]; exact hlt)
          have i0 : (0 : Int) ≤ (k : Int) := by omega
          have i1 : (k : Int) < (n : Int) := by omega
          have hsu := lisA_succ (l := l) (k := k) (by rw [Hn.out]; exact hlt)
          rw [ha, Bool.true_and] at hsu
          have hno := lisA_no (l := l) (k := k) (by rw [Hn.out]; exact hlt)
          have hset := stR_set l k n (by rw [Hn.out]; exact hlt) hlt
          have hat := stR_at l k n hlt (by rw [Hn.out]; exact hk)
          have hsz := hb.size
          have hgw : w.heap.size < wr.heap.size := (ho.lt _ rfl).2
          clear hc ha
          generalize l.getD k (0, 0) = d at *
          obtain ⟨x, y⟩ := d
          dsimp only at g0 g1
          have D := Lib.hid (hb.alloc hsz (.cells #[.int .i64 x, .int .i64 y] 60))
          have Hsu := Lib.hid hsu
          have Hno := Lib.hid hno
          have Hset := Lib.hid hset
          have Hat := Lib.hid hat
          clear hsu hno hset hat hb
          by_cases c1 : x < 0
          · have HE := Lib.hid (dtE_no (w := w) (Hno.out (okP_no (by omega))) D.out)
            clear ho
            go_wp2
            go_ret2
            exact HE.out
          · by_cases c2 : y ≤ x
            · have HE := Lib.hid (dtE_no (w := w) (Hno.out (okP_no (by omega))) D.out)
              clear ho
              go_wp2
              go_ret2
              exact HE.out
            · by_cases c3 : 12 ≤ y
              · have HE := Lib.hid (dtE_no (w := w) (Hno.out (okP_no (by omega))) D.out)
                clear ho
                go_wp2
                go_ret2
                exact HE.out
              · have Hyes := Lib.hid (Hsu.out.trans (okP_yes (by omega)))
                obtain ⟨x, rfl⟩ := Int.eq_ofNat_of_zero_le (show 0 ≤ x by omega)
                obtain ⟨y, rfl⟩ := Int.eq_ofNat_of_zero_le (show 0 ≤ y by omega)
                have lx := dig_two (n := x) (by omega)
                have ly := dig_two (n := y) (by omega)
                have x9 : x ≤ 1000000000 := by omega
                have y9 : y ≤ 1000000000 := by omega
                have hel : bsL (elD ((x : Int), (y : Int))) = bsL (Lib.decDigits x) ++ ⟨#[45]⟩ ++ bsL (Lib.decDigits y) := by rw [show elD ((x : Int), (y : Int)) = Lib.decDigits x ++ [45] ++ Lib.decDigits y by simp [elD], bsL_app, bsL_snoc]
                rw [hel] at Hset
                have sX := bsL_size (Lib.decDigits x)
                have sY := bsL_size (Lib.decDigits y)
                have q2 : ¬ 9223372036854775807 < (Lib.decDigits x).length + 1 := by omega
                have q3 : ¬ 9223372036854775807 < (Lib.decDigits x).length + 1 + (Lib.decDigits y).length := by omega
                have D2 := Lib.hid D.out.drew
                have O2 := Lib.hid ((ho.alloc (.cells #[.int .i64 (x : Int), .int .i64 (y : Int)] 60)).drew)
                have Hx := Lib.hid (Bx2.new wr 60 (x : Int) (y : Int))
                obtain ⟨⟨a0, a1⟩, a2, a3⟩ := Hx.out
                have hne : w.heap.size ≠ wr.heap.size := by omega
                clear ho D hel c1 Hx Hsu Hno
                go_wp2_with fail
                go_region_held3 (fun w' => w'.cell? ⟨wr.heap.size, 0, none⟩ = some (.int .i64 (x : Int)) ∧ w'.cell? ⟨wr.heap.size, 1, none⟩ = some (.int .i64 (y : Int)) ∧ Below w.heap.size w w')
                  (first
                    | with_reducible exact keptB2 (by assumption) hb2 (Nat.le_refl _)
                    | with_reducible exact keptB2 (by assumption) hb1 (Nat.le_refl _)
                    | with_reducible exact setB2 hne (Nat.le_refl _) (by assumption)
                    | exact ⟨a0, a1, D2.out⟩)
                  (first
                    | (go_at_call 27; refine (impl_ItoaS2 (by assumption) HT.out (by assumption)).mono ?_; rintro e w4 ⟨rfl, hb2⟩; (replace o9 := own_kept o9 hb2); (have hcell : _ = some (Value.string ⟨#[]⟩) := (o9.cellAt k (by omega)).trans Hat.out); (have hfro := o9.frozenAt k))
                    | (go_at_call 27; refine (impl_ItoaS2 (by assumption) HT.out (by assumption)).mono ?_; rintro e w4 ⟨rfl, hb1⟩; (have o9 := own_kept O2.out hb1)))
                rename_i hS
                have hst := o9.stored k (.string (bsL (Lib.decDigits x) ++ ⟨#[45]⟩ ++ bsL (Lib.decDigits y)))
                rw [Hset.out] at hst
                have Hst := Lib.hid hst.1
                have HS2 := Lib.hid hS.2.2
                clear hst hS o9 hcell hfro hb1 hb2 a0 a1 a2 a3 O2 D2 Hset Hat
                go_wp2
                go_roundw
                case rel => exact ⟨k + 1, by omega, by go_num, Hyes.out, Hst.out, HS2.out⟩
                case measure => simp [intOf] <;> omega
        · obtain rfl : k = n := by omega
          have hy : lisB l = true := lisA_all (by rw [Hn.out]; exact ha) (by rw [Hn.out]; omega)
          have hgw : w.heap.size < wr.heap.size := (ho.lt _ rfl).2
          have hsl := stR_length l k k (by rw [Hn.out]; exact Nat.le_refl _) (Nat.le_refl _)
          have htl := txD_len hy l.length (Nat.le_refl _)
          have HJ := impl_Join w.heap.size 0 k k (l.map fun d => bsL (elD d)) ⟨#[44]⟩ wr (by rw [List.length_map]; exact Hn.out) (fun j x hx => by
            have hj : j < k := by
              have := (List.getElem?_eq_some_iff.1 hx).1
              rw [List.length_map, Hn.out] at this
              exact this
            rw [Nat.zero_add]
            exact (ho.cellAt j (by omega)).trans (stR_cell Hn.out hx)) hgw (by omega) (Nat.le_refl _) (by rw [join_bytes]; rw [Hn.out] at htl ⊢; omega)
          rw [join_bytes] at HJ
          have HJ2 := Lib.hid HJ
          have HE := Lib.hid (fun w' hb => dtE_yes (w := w) (w' := w') hy hb)
          rw [show dtL l = txD l l.length from if_neg (by rw [Hn.out]; exact h0)] at HE
          have HB := Lib.hid hb
          clear HJ htl hsl hy ho hb ha h
          go_wp2_with fail
          refine HJ2.out.mono ?_
          rintro e w2 ⟨rfl, hb2⟩
          have HE2 := Lib.hid (HE.out _ (below_kept HB.out (Nat.le_refl _) hb2))
          clear HJ2 HE HB hb2
          go_wp2
          go_ret2
          exact HE2.out
end Go.Proofs.YtbebalgleiafdabDoor
