/- FillGap, OpenGap: the model's and the program's contracts, and the laws' walks. -/
import Derived.Test.YtnoddecligmjbaaPzD
import Derived.Test.YtnoddecligmjbaaFillGapC
import Derived.Test.YtnoddecligmjbaaOpenGapC
namespace Go.Proofs.Ytnoddecligmjbaa
set_option linter.unusedVariables false
open Go.RowKit

theorem retP_no {w w1 : World} {b : Nat} (hb : Below w.heap.size w w1) (hz : w.heap.size ≤ b) (u : Value) : RetP w [] false (.returned (.tuple #[.agg #[.slice none 0 0], .bool false])) (w1.setCell ⟨b, 0, none⟩ u) :=
  ⟨none, 0, rfl, World.ownsRow_nil _ _ _ _, hb.setCell (p := ⟨b, 0, none⟩) hz u⟩
theorem retP_yes {w w1 w2 : World} {b : Nat} {L : List Int} {A : Option Addr} {c : Nat} (hb : Below w.heap.size w w1) (hz : w.heap.size ≤ b) (hlt : b < w1.heap.size) (ho : w2.ownsRow w1.heap.size 3 1 (.slice A L.length c) L.length (ics L)) (hb2 : Below w1.heap.size w1 w2) (u : Value) :
    RetP w L true (.returned (.tuple #[.agg #[.slice A L.length c], .bool true])) (w2.setCell ⟨b, 0, none⟩ u) :=
  ⟨A, c, rfl, (ownsRow_setCell_below ho (a := ⟨b, 0, none⟩) hlt u).mono hb.size, (below_kept hb (Nat.le_refl _) hb2).setCell (p := ⟨b, 0, none⟩) hz u⟩

theorem plB_iff {l : List Int} {i : Int} : plB l i = true ↔ pzB l = true ∧ 0 ≤ i ∧ i < (l.length : Int) := by
  unfold plB
  simp
def fillOk (l : List Int) (i x : Int) : Bool := plB l i && decide (l.getD i.toNat 0 = 0) && inB x 1 ((l.length : Int) - 2)
def fillR (l : List Int) (i x : Int) : List Int := if fillOk l i x = true then l.set i.toNat x else []
def openOk (l : List Int) (i : Int) : Bool := plB l i && decide (l.getD i.toNat 0 ≠ 0)
def openR (l : List Int) (i : Int) : List Int := if openOk l i = true then l.set i.toNat 0 else []
theorem fillR_length (l : List Int) (i x : Int) : (fillR l i x).length ≤ 1000000000 := by
  unfold fillR
  split
  · next h =>
    unfold fillOk at h
    simp only [Bool.and_eq_true] at h
    have := pzB_len (plB_iff.1 h.1.1).1
    simp
    omega
  · simp
theorem openR_length (l : List Int) (i : Int) : (openR l i).length ≤ 1000000000 := by
  unfold openR
  split
  · next h =>
    unfold openOk at h
    simp only [Bool.and_eq_true] at h
    have := pzB_len (plB_iff.1 h.1).1
    simp
    omega
  · simp
def FillE (l : List Int) (i x : Int) (w : World) (e : Ending) (w' : World) : Prop := RetP w (fillR l i x) (fillOk l i x) e w'
theorem fillE_no {l : List Int} {i x : Int} {w : World} {e : Ending} {w' : World} (h : fillOk l i x = false) (hr : RetP w [] false e w') : FillE l i x w e w' := by
  unfold FillE fillR
  rw [h]
  exact hr
theorem fillE_yes {l : List Int} {i x : Int} {w : World} {e : Ending} {w' : World} (h : fillOk l i x = true) (hr : RetP w (l.set i.toNat x) true e w') : FillE l i x w e w' := by
  unfold FillE fillR
  rw [h]
  exact hr
def OpenE (l : List Int) (i : Int) (w : World) (e : Ending) (w' : World) : Prop := RetP w (openR l i) (openOk l i) e w'
theorem openE_no {l : List Int} {i : Int} {w : World} {e : Ending} {w' : World} (h : openOk l i = false) (hr : RetP w [] false e w') : OpenE l i w e w' := by
  unfold OpenE openR
  rw [h]
  exact hr
theorem openE_yes {l : List Int} {i : Int} {w : World} {e : Ending} {w' : World} (h : openOk l i = true) (hr : RetP w (l.set i.toNat 0) true e w') : OpenE l i w e w' := by
  unfold OpenE openR
  rw [h]
  exact hr
theorem inB_lo {x n lo : Int} (h : x < lo) : inB x lo n = false := by unfold inB; simp; omega
theorem inB_hi {x n lo : Int} (h : n < x) : inB x lo n = false := by unfold inB; simp; omega
theorem inBe_iff {n lo hi : Int} : inB n lo hi = true ↔ lo ≤ n ∧ n ≤ hi := by unfold inB; simp

theorem plB_out {l : List Int} {i : Int} (hi : inB i 0 ((l.length : Int) - 1) = false) : plB l i = false := by
  rw [Bool.eq_false_iff]
  intro e
  obtain ⟨_, e1, e2⟩ := plB_iff.1 e
  rw [inBe_iff.2 (by omega)] at hi
  cases hi

set_option maxRecDepth 100000 in
set_option maxHeartbeats 6400000 in
theorem spec_FillGap (A : Option Addr) (c B : Nat) (l : List Int) (i : Int) (x : Int) (w : World) (h : SlI w B A l) (hB : B ≤ w.heap.size) (hl : l.length ≤ 1048576) :
    Calls Try.prog 26 #[.agg #[.slice A l.length c], .int .i64 i, .int .i64 x] w (FillE l i x w) := by
  obtain ⟨w2, hw2⟩ : ∃ w2, w2 = (w.alloc (.cells #[.slice A l.length c] 27)).alloc (.cells #[.slice none 0 0] 27) := ⟨_, rfl⟩
  obtain ⟨hd, q3, q6⟩ := box_two w (.slice A l.length c) (.slice none 0 0) 27 27
  rw [← hw2] at hd q3 q6
  have hs := h.below (hd.mono hB)
  have Hw2 := Lib.hid hw2
  have hov : fillOk l i x = (plB l i && decide (l.getD i.toNat 0 = 0) && inB x 1 ((l.length : Int) - 2)) := rfl
  have Hov := Lib.hid hov
  clear h hw2 hov
  go_enter Try.func26, Try.ntmps26
  go_wp2_with fail
  rw [← Hw2.out]
  clear Hw2
  refine (spec_pzGood A _ c B l _ rfl hs (Nat.le_trans hB hd.size) hl).mono ?_
  rintro e w1 ⟨rfl, hb⟩
  have k3 := q3.kept hb
  have k6 := q6.kept hb
  have l6 := k6.lt
  have c3 := k3.cell
  have c6 := k6.cell
  have f6 := k6.frozen
  have hs1 := hs.below (hb.mono (Nat.le_trans hB hd.size))
  have hd1 := below_kept hd (Nat.le_refl _) hb
  have hz1 := hd1.size
  clear q3 q6 hb hs hd k3
  have HNo : Hid (fillOk l i x = false → FillE l i x w (.returned (.tuple #[.agg #[.slice none 0 0], .bool false])) (w1.setCell ⟨w.heap.size + 1, 0, none⟩ (.slice none 0 0))) := Lib.hid fun e => fillE_no e (retP_no hd1 (Nat.le_add_right _ _) _)
  have C8 := Lib.hid fun (u : Value) => (k6.set u).cell
  cases hp : pzB l
  · have HE := Lib.hid (HNo.out (by rw [Hov.out]; unfold plB; rw [hp]; rfl))
    have c8 := C8.out (.slice none 0 0)
    clear HNo Hov k6 hd1 hs1
    go_wp2
    exact bodyPost_ret (v := .tuple #[.agg #[.slice none 0 0], .bool false]) (by simp [results, Try.results26, go_sem, c8]) rfl HE.out
  · obtain ⟨n3, n9⟩ := pzB_len hp
    have hn1 : IntKind.i64.wrap ((l.length : Int) - 1) = (l.length : Int) - 1 := IntWalk.i64_in _ (by omega)
    go_wp2_with fail
    refine (spec_l1In' _ _ _ _).mono ?_
    rintro e w1 ⟨rfl, rfl⟩
    cases hi : inB i 0 ((l.length : Int) - 1)
    · have HE := Lib.hid (HNo.out (by rw [Hov.out, plB_out hi]; rfl))
      have c8 := C8.out (.slice none 0 0)
      clear HNo Hov k6 hd1 hs1
      go_wp2
      exact bodyPost_ret (v := .tuple #[.agg #[.slice none 0 0], .bool false]) (by simp [results, Try.results26, go_sem, c8]) rfl HE.out
    · obtain ⟨i0, i1⟩ := inBe_iff.1 hi
      have hpl : plB l i = true := plB_iff.2 ⟨hp, by omega, by omega⟩
      clear hi
      obtain ⟨k, rfl⟩ := Int.eq_ofNat_of_zero_le (show 0 ≤ i by omega)
      have hkt : ((k : Int)).toNat = k := Int.toNat_natCast k
      have hk : k < l.length := by omega
      rw [hpl, hkt, Bool.true_and] at Hov
      have HP := Lib.hid (spec_pzPut A c B l k x w1 hs1 (Nat.le_trans hB hz1) n9 hk)
      obtain ⟨b', off, rfl, hbB, hc⟩ := hs1 (by omega)
      have g0 := hc k hk
      have j1 : (k : Int) < (l.length : Int) := by omega
      have HYes : Hid (fillOk l k x = true → ∀ A2 c2 w2, w2.ownsRow w1.heap.size 3 1 (.slice A2 (l.set k x).length c2) (l.set k x).length (ics (l.set k x)) → Below w1.heap.size w1 w2 → FillE l k x w (.returned (.tuple #[.agg #[.slice A2 (l.set k x).length c2], .bool true])) (w2.setCell ⟨w.heap.size + 1, 0, none⟩ (.slice A2 (l.set k x).length c2))) := Lib.hid fun e A2 c2 w2 o2 b2 => fillE_yes e (retP_yes hd1 (Nat.le_add_right _ _) l6 o2 b2 _)
      have K6 := Lib.hid fun w2 (b2 : Below w1.heap.size w1 w2) => k6.kept b2
      clear hc hs1 hd1 k6 hpl hp
      go_wp2_with fail
      refine (spec_l1In' _ _ _ _).mono ?_
      rintro e w1 ⟨rfl, rfl⟩
      cases hx : inB x 1 ((l.length : Int) - 2)
      · have HE := Lib.hid (HNo.out (by rw [Hov.out, hx]; simp))
        have c8 := C8.out (.slice none 0 0)
        clear HNo Hov HP HYes K6
        go_wp2
        exact bodyPost_ret (v := .tuple #[.agg #[.slice none 0 0], .bool false]) (by simp [results, Try.results26, go_sem, c8]) rfl HE.out
      · by_cases hg : l.getD k 0 = 0
        · rw [hg] at g0
          have HE := Lib.hid (HYes.out (by rw [Hov.out, hx, hg]; rfl))
          clear HNo Hov HYes C8
          go_wp2_with fail
          refine HP.out.mono ?_
          rintro e w2 ⟨A2, c2, rfl, o2, b2⟩
          have k8 := K6.out _ b2
          have c9 := k8.cell
          have f9 := k8.frozen
          have c8 := (k8.set (.slice A2 l.length c2)).cell
          have hf := HE.out _ _ _ o2 b2
          simp only [List.length_set] at hf
          have HF := Lib.hid hf
          clear o2 b2 k8 HE HP K6 hf
          go_wp2
          exact bodyPost_ret (v := .tuple #[.agg #[.slice A2 l.length c2], .bool true]) (by simp [results, Try.results26, go_sem, c8]) rfl HF.out
        · have hg' : (l.getD k 0 != 0) = true := by simpa using hg
          have HE := Lib.hid (HNo.out (by rw [Hov.out]; simp only [List.getD_eq_getElem?_getD] at hg ⊢; simp [hg]))
          have c8 := C8.out (.slice none 0 0)
          generalize l.getD k 0 = y at *
          clear HNo Hov HP HYes K6 hg
          go_wp2
          exact bodyPost_ret (v := .tuple #[.agg #[.slice none 0 0], .bool false]) (by simp [results, Try.results26, go_sem, c8]) rfl HE.out

set_option maxRecDepth 100000 in
set_option maxHeartbeats 6400000 in
theorem impl_FillGap (A : Option Addr) (c B : Nat) (l : List Int) (i : Int) (x : Int) (w : World) (h : SlI w B A l) (hB : B ≤ w.heap.size) (hl : l.length ≤ 1048576) :
    Calls Try.prog 27 #[.agg #[.slice A l.length c], .int .i64 i, .int .i64 x] w (FillE l i x w) := by
  obtain ⟨w2, hw2⟩ : ∃ w2, w2 = (w.alloc (.cells #[.slice A l.length c] 27)).alloc (.cells #[.slice none 0 0] 27) := ⟨_, rfl⟩
  obtain ⟨hd, q3, q6⟩ := box_two w (.slice A l.length c) (.slice none 0 0) 27 27
  rw [← hw2] at hd q3 q6
  have hs := h.below (hd.mono hB)
  have Hw2 := Lib.hid hw2
  have hov : fillOk l i x = (plB l i && decide (l.getD i.toNat 0 = 0) && inB x 1 ((l.length : Int) - 2)) := rfl
  have Hov := Lib.hid hov
  clear h hw2 hov
  go_enter Try.func27, Try.ntmps27
  go_wp2_with fail
  rw [← Hw2.out]
  clear Hw2
  refine (impl_hasPlace A c B l i _ hs (Nat.le_trans hB hd.size) hl).mono ?_
  rintro e w1 ⟨rfl, hb⟩
  have k3 := q3.kept hb
  have k6 := q6.kept hb
  have l6 := k6.lt
  have c3 := k3.cell
  have c6 := k6.cell
  have f6 := k6.frozen
  have hs1 := hs.below (hb.mono (Nat.le_trans hB hd.size))
  have hd1 := below_kept hd (Nat.le_refl _) hb
  have hz1 := hd1.size
  clear q3 q6 hb hs hd k3
  have HNo : Hid (fillOk l i x = false → FillE l i x w (.returned (.tuple #[.agg #[.slice none 0 0], .bool false])) (w1.setCell ⟨w.heap.size + 1, 0, none⟩ (.slice none 0 0))) := Lib.hid fun e => fillE_no e (retP_no hd1 (Nat.le_add_right _ _) _)
  have C8 := Lib.hid fun (u : Value) => (k6.set u).cell
  cases hpl : plB l i
  · have HE := Lib.hid (HNo.out (by rw [Hov.out, hpl]; rfl))
    have c8 := C8.out (.slice none 0 0)
    clear HNo Hov k6 hd1 hs1
    go_wp2
    exact bodyPost_ret (v := .tuple #[.agg #[.slice none 0 0], .bool false]) (by simp [results, Try.results27, go_sem, c8]) rfl HE.out
  · obtain ⟨hp, i0, i1⟩ := plB_iff.1 hpl
    obtain ⟨n3, n9⟩ := pzB_len hp
    obtain ⟨k, rfl⟩ := Int.eq_ofNat_of_zero_le (show 0 ≤ i by omega)
    have hkt : ((k : Int)).toNat = k := Int.toNat_natCast k
    have hk : k < l.length := by omega
    rw [hpl, hkt, Bool.true_and] at Hov
    have HP := Lib.hid (impl_withNumber A c B l k x w1 hs1 (Nat.le_trans hB hz1) n9 hk)
    obtain ⟨b', off, rfl, hbB, hc⟩ := hs1 (by omega)
    have g0 := hc k hk
    have j1 : (k : Int) < (l.length : Int) := by omega
    have HYes : Hid (fillOk l k x = true → ∀ A2 c2 w2, w2.ownsRow w1.heap.size 3 1 (.slice A2 (l.set k x).length c2) (l.set k x).length (ics (l.set k x)) → Below w1.heap.size w1 w2 → FillE l k x w (.returned (.tuple #[.agg #[.slice A2 (l.set k x).length c2], .bool true])) (w2.setCell ⟨w.heap.size + 1, 0, none⟩ (.slice A2 (l.set k x).length c2))) := Lib.hid fun e A2 c2 w2 o2 b2 => fillE_yes e (retP_yes hd1 (Nat.le_add_right _ _) l6 o2 b2 _)
    have K6 := Lib.hid fun w2 (b2 : Below w1.heap.size w1 w2) => k6.kept b2
    clear hc hs1 hd1 k6 hpl hp
    by_cases hg : l.getD k 0 = 0
    · rw [hg] at g0
      by_cases h1 : x < 1
      · have HE := Lib.hid (HNo.out (by rw [Hov.out, inB_lo h1]; simp))
        have c8 := C8.out (.slice none 0 0)
        clear HNo Hov HP HYes K6
        go_wp2
        exact bodyPost_ret (v := .tuple #[.agg #[.slice none 0 0], .bool false]) (by simp [results, Try.results27, go_sem, c8]) rfl HE.out
      · by_cases h2 : (l.length : Int) - 2 < x
        · have HE := Lib.hid (HNo.out (by rw [Hov.out, inB_hi h2]; simp))
          have c8 := C8.out (.slice none 0 0)
          clear HNo Hov HP HYes K6
          go_wp2
          exact bodyPost_ret (v := .tuple #[.agg #[.slice none 0 0], .bool false]) (by simp [results, Try.results27, go_sem, c8]) rfl HE.out
        · have hx : inB x 1 ((l.length : Int) - 2) = true := by unfold inB; simp; omega
          have HE := Lib.hid (HYes.out (by rw [Hov.out, hx, hg]; rfl))
          clear HNo Hov HYes C8
          go_wp2_with fail
          refine HP.out.mono ?_
          rintro e w2 ⟨A2, c2, rfl, o2, b2⟩
          have k8 := K6.out _ b2
          have c9 := k8.cell
          have f9 := k8.frozen
          have c8 := (k8.set (.slice A2 l.length c2)).cell
          have hf := HE.out _ _ _ o2 b2
          simp only [List.length_set] at hf
          have HF := Lib.hid hf
          clear o2 b2 k8 HE HP K6 hf
          go_wp2
          exact bodyPost_ret (v := .tuple #[.agg #[.slice A2 l.length c2], .bool true]) (by simp [results, Try.results27, go_sem, c8]) rfl HF.out
    · have hg' : (l.getD k 0 != 0) = true := by simpa using hg
      have HE := Lib.hid (HNo.out (by rw [Hov.out]; simp only [List.getD_eq_getElem?_getD] at hg ⊢; simp [hg]))
      have c8 := C8.out (.slice none 0 0)
      generalize l.getD k 0 = y at *
      clear HNo Hov HP HYes K6 hg
      go_wp2
      exact bodyPost_ret (v := .tuple #[.agg #[.slice none 0 0], .bool false]) (by simp [results, Try.results27, go_sem, c8]) rfl HE.out

set_option maxRecDepth 100000 in
set_option maxHeartbeats 6400000 in
theorem spec_OpenGap (A : Option Addr) (c B : Nat) (l : List Int) (i : Int) (w : World) (h : SlI w B A l) (hB : B ≤ w.heap.size) (hl : l.length ≤ 1048576) :
    Calls Try.prog 30 #[.agg #[.slice A l.length c], .int .i64 i] w (OpenE l i w) := by
  obtain ⟨w2, hw2⟩ : ∃ w2, w2 = (w.alloc (.cells #[.slice A l.length c] 27)).alloc (.cells #[.slice none 0 0] 27) := ⟨_, rfl⟩
  obtain ⟨hd, q3, q6⟩ := box_two w (.slice A l.length c) (.slice none 0 0) 27 27
  rw [← hw2] at hd q3 q6
  have hs := h.below (hd.mono hB)
  have Hw2 := Lib.hid hw2
  have hov : openOk l i = (plB l i && decide (l.getD i.toNat 0 ≠ 0)) := rfl
  have Hov := Lib.hid hov
  clear h hw2 hov
  go_enter Try.func30, Try.ntmps30
  go_wp2_with fail
  rw [← Hw2.out]
  clear Hw2
  refine (spec_pzGood A _ c B l _ rfl hs (Nat.le_trans hB hd.size) hl).mono ?_
  rintro e w1 ⟨rfl, hb⟩
  have k3 := q3.kept hb
  have k6 := q6.kept hb
  have l6 := k6.lt
  have c3 := k3.cell
  have c6 := k6.cell
  have f6 := k6.frozen
  have hs1 := hs.below (hb.mono (Nat.le_trans hB hd.size))
  have hd1 := below_kept hd (Nat.le_refl _) hb
  have hz1 := hd1.size
  clear q3 q6 hb hs hd k3
  have HNo : Hid (openOk l i = false → OpenE l i w (.returned (.tuple #[.agg #[.slice none 0 0], .bool false])) (w1.setCell ⟨w.heap.size + 1, 0, none⟩ (.slice none 0 0))) := Lib.hid fun e => openE_no e (retP_no hd1 (Nat.le_add_right _ _) _)
  have C8 := Lib.hid fun (u : Value) => (k6.set u).cell
  cases hp : pzB l
  · have HE := Lib.hid (HNo.out (by rw [Hov.out]; unfold plB; rw [hp]; rfl))
    have c8 := C8.out (.slice none 0 0)
    clear HNo Hov k6 hd1 hs1
    go_wp2
    exact bodyPost_ret (v := .tuple #[.agg #[.slice none 0 0], .bool false]) (by simp [results, Try.results30, go_sem, c8]) rfl HE.out
  · obtain ⟨n3, n9⟩ := pzB_len hp
    have hn1 : IntKind.i64.wrap ((l.length : Int) - 1) = (l.length : Int) - 1 := IntWalk.i64_in _ (by omega)
    go_wp2_with fail
    refine (spec_l1In' _ _ _ _).mono ?_
    rintro e w1 ⟨rfl, rfl⟩
    cases hi : inB i 0 ((l.length : Int) - 1)
    · have HE := Lib.hid (HNo.out (by rw [Hov.out, plB_out hi]; rfl))
      have c8 := C8.out (.slice none 0 0)
      clear HNo Hov k6 hd1 hs1
      go_wp2
      exact bodyPost_ret (v := .tuple #[.agg #[.slice none 0 0], .bool false]) (by simp [results, Try.results30, go_sem, c8]) rfl HE.out
    · obtain ⟨i0, i1⟩ := inBe_iff.1 hi
      have hpl : plB l i = true := plB_iff.2 ⟨hp, by omega, by omega⟩
      clear hi
      obtain ⟨k, rfl⟩ := Int.eq_ofNat_of_zero_le (show 0 ≤ i by omega)
      have hkt : ((k : Int)).toNat = k := Int.toNat_natCast k
      have hk : k < l.length := by omega
      rw [hpl, hkt, Bool.true_and] at Hov
      have HP := Lib.hid (spec_pzPut A c B l k 0 w1 hs1 (Nat.le_trans hB hz1) n9 hk)
      obtain ⟨b', off, rfl, hbB, hc⟩ := hs1 (by omega)
      have g0 := hc k hk
      have j1 : (k : Int) < (l.length : Int) := by omega
      have HYes : Hid (openOk l k = true → ∀ A2 c2 w2, w2.ownsRow w1.heap.size 3 1 (.slice A2 (l.set k 0).length c2) (l.set k 0).length (ics (l.set k 0)) → Below w1.heap.size w1 w2 → OpenE l k w (.returned (.tuple #[.agg #[.slice A2 (l.set k 0).length c2], .bool true])) (w2.setCell ⟨w.heap.size + 1, 0, none⟩ (.slice A2 (l.set k 0).length c2))) := Lib.hid fun e A2 c2 w2 o2 b2 => openE_yes e (retP_yes hd1 (Nat.le_add_right _ _) l6 o2 b2 _)
      have K6 := Lib.hid fun w2 (b2 : Below w1.heap.size w1 w2) => k6.kept b2
      clear hc hs1 hd1 k6 hpl hp
      by_cases hg : l.getD k 0 = 0
      · have HE := Lib.hid (HNo.out (by rw [Hov.out, hg]; rfl))
        rw [hg] at g0
        have c8 := C8.out (.slice none 0 0)
        clear HNo Hov HP HYes K6 hg
        go_wp2
        exact bodyPost_ret (v := .tuple #[.agg #[.slice none 0 0], .bool false]) (by simp [results, Try.results30, go_sem, c8]) rfl HE.out
      · have hg' : (l.getD k 0 == 0) = false := by simpa using hg
        have hok : openOk l k = true := by rw [Hov.out]; simp only [List.getD_eq_getElem?_getD] at hg ⊢; simp [hg]
        generalize l.getD k 0 = y at *
        clear hg
        have HE := Lib.hid (HYes.out (hok))
        clear HNo Hov HYes C8
        go_wp2_with fail
        refine HP.out.mono ?_
        rintro e w2 ⟨A2, c2, rfl, o2, b2⟩
        have k8 := K6.out _ b2
        have c9 := k8.cell
        have f9 := k8.frozen
        have c8 := (k8.set (.slice A2 l.length c2)).cell
        have hf := HE.out _ _ _ o2 b2
        simp only [List.length_set] at hf
        have HF := Lib.hid hf
        clear o2 b2 k8 HE HP K6 hf
        go_wp2
        exact bodyPost_ret (v := .tuple #[.agg #[.slice A2 l.length c2], .bool true]) (by simp [results, Try.results30, go_sem, c8]) rfl HF.out

set_option maxRecDepth 100000 in
set_option maxHeartbeats 6400000 in
theorem impl_OpenGap (A : Option Addr) (c B : Nat) (l : List Int) (i : Int) (w : World) (h : SlI w B A l) (hB : B ≤ w.heap.size) (hl : l.length ≤ 1048576) :
    Calls Try.prog 31 #[.agg #[.slice A l.length c], .int .i64 i] w (OpenE l i w) := by
  obtain ⟨w2, hw2⟩ : ∃ w2, w2 = (w.alloc (.cells #[.slice A l.length c] 27)).alloc (.cells #[.slice none 0 0] 27) := ⟨_, rfl⟩
  obtain ⟨hd, q3, q6⟩ := box_two w (.slice A l.length c) (.slice none 0 0) 27 27
  rw [← hw2] at hd q3 q6
  have hs := h.below (hd.mono hB)
  have Hw2 := Lib.hid hw2
  have hov : openOk l i = (plB l i && decide (l.getD i.toNat 0 ≠ 0)) := rfl
  have Hov := Lib.hid hov
  clear h hw2 hov
  go_enter Try.func31, Try.ntmps31
  go_wp2_with fail
  rw [← Hw2.out]
  clear Hw2
  refine (impl_hasPlace A c B l i _ hs (Nat.le_trans hB hd.size) hl).mono ?_
  rintro e w1 ⟨rfl, hb⟩
  have k3 := q3.kept hb
  have k6 := q6.kept hb
  have l6 := k6.lt
  have c3 := k3.cell
  have c6 := k6.cell
  have f6 := k6.frozen
  have hs1 := hs.below (hb.mono (Nat.le_trans hB hd.size))
  have hd1 := below_kept hd (Nat.le_refl _) hb
  have hz1 := hd1.size
  clear q3 q6 hb hs hd k3
  have HNo : Hid (openOk l i = false → OpenE l i w (.returned (.tuple #[.agg #[.slice none 0 0], .bool false])) (w1.setCell ⟨w.heap.size + 1, 0, none⟩ (.slice none 0 0))) := Lib.hid fun e => openE_no e (retP_no hd1 (Nat.le_add_right _ _) _)
  have C8 := Lib.hid fun (u : Value) => (k6.set u).cell
  cases hpl : plB l i
  · have HE := Lib.hid (HNo.out (by rw [Hov.out, hpl]; rfl))
    have c8 := C8.out (.slice none 0 0)
    clear HNo Hov k6 hd1 hs1
    go_wp2
    exact bodyPost_ret (v := .tuple #[.agg #[.slice none 0 0], .bool false]) (by simp [results, Try.results31, go_sem, c8]) rfl HE.out
  · obtain ⟨hp, i0, i1⟩ := plB_iff.1 hpl
    obtain ⟨n3, n9⟩ := pzB_len hp
    obtain ⟨k, rfl⟩ := Int.eq_ofNat_of_zero_le (show 0 ≤ i by omega)
    have hkt : ((k : Int)).toNat = k := Int.toNat_natCast k
    have hk : k < l.length := by omega
    rw [hpl, hkt, Bool.true_and] at Hov
    have HP := Lib.hid (impl_withNumber A c B l k 0 w1 hs1 (Nat.le_trans hB hz1) n9 hk)
    obtain ⟨b', off, rfl, hbB, hc⟩ := hs1 (by omega)
    have g0 := hc k hk
    have j1 : (k : Int) < (l.length : Int) := by omega
    have HYes : Hid (openOk l k = true → ∀ A2 c2 w2, w2.ownsRow w1.heap.size 3 1 (.slice A2 (l.set k 0).length c2) (l.set k 0).length (ics (l.set k 0)) → Below w1.heap.size w1 w2 → OpenE l k w (.returned (.tuple #[.agg #[.slice A2 (l.set k 0).length c2], .bool true])) (w2.setCell ⟨w.heap.size + 1, 0, none⟩ (.slice A2 (l.set k 0).length c2))) := Lib.hid fun e A2 c2 w2 o2 b2 => openE_yes e (retP_yes hd1 (Nat.le_add_right _ _) l6 o2 b2 _)
    have K6 := Lib.hid fun w2 (b2 : Below w1.heap.size w1 w2) => k6.kept b2
    clear hc hs1 hd1 k6 hpl hp
    by_cases hg : l.getD k 0 = 0
    · have HE := Lib.hid (HNo.out (by rw [Hov.out, hg]; rfl))
      rw [hg] at g0
      have c8 := C8.out (.slice none 0 0)
      clear HNo Hov HP HYes K6 hg
      go_wp2
      exact bodyPost_ret (v := .tuple #[.agg #[.slice none 0 0], .bool false]) (by simp [results, Try.results31, go_sem, c8]) rfl HE.out
    · have hg' : (l.getD k 0 == 0) = false := by simpa using hg
      have hok : openOk l k = true := by rw [Hov.out]; simp only [List.getD_eq_getElem?_getD] at hg ⊢; simp [hg]
      generalize l.getD k 0 = y at *
      clear hg
      have HE := Lib.hid (HYes.out (hok))
      clear HNo Hov HYes C8
      go_wp2_with fail
      refine HP.out.mono ?_
      rintro e w2 ⟨A2, c2, rfl, o2, b2⟩
      have k8 := K6.out _ b2
      have c9 := k8.cell
      have f9 := k8.frozen
      have c8 := (k8.set (.slice A2 l.length c2)).cell
      have hf := HE.out _ _ _ o2 b2
      simp only [List.length_set] at hf
      have HF := Lib.hid hf
      clear o2 b2 k8 HE HP K6 hf
      go_wp2
      exact bodyPost_ret (v := .tuple #[.agg #[.slice A2 l.length c2], .bool true]) (by simp [results, Try.results31, go_sem, c8]) rfl HF.out

theorem WFillGap.walk (w : World) (A : Option Addr) (c : Nat) (l : List Int) (h : SlI w w.heap.size A l)
    (hj : l.length ≤ c ∧ c ≤ maxLen ∧ ∀ x ∈ l, (Lit.int .i64 x).wf = true) (i : Int) (wi : (Lit.int .i64 i).wf = true) (x : Int) (wx : (Lit.int .i64 x).wf = true) :
    Calls Try.prog 6 #[.agg #[.slice A l.length c], .int .i64 i, .int .i64 x] w fun e w' => e = .returned (.bool true) ∧ Below w.heap.size w w' :=
  WFillGap.core w A c l i x h hj.1 hj.2.1 (fillR l i x) (fillOk l i x) (fillR_length l i x)
    (Lib.hid fun A c w h hl hlc => spec_FillGap A c _ l i x w h (Nat.le_refl _) hl)
    (Lib.hid fun A c w h hl hlc => impl_FillGap A c _ l i x w h (Nat.le_refl _) hl)
theorem WOpenGap.walk (w : World) (A : Option Addr) (c : Nat) (l : List Int) (h : SlI w w.heap.size A l)
    (hj : l.length ≤ c ∧ c ≤ maxLen ∧ ∀ x ∈ l, (Lit.int .i64 x).wf = true) (i : Int) (wi : (Lit.int .i64 i).wf = true) :
    Calls Try.prog 7 #[.agg #[.slice A l.length c], .int .i64 i] w fun e w' => e = .returned (.bool true) ∧ Below w.heap.size w w' :=
  WOpenGap.core w A c l i h hj.1 hj.2.1 (openR l i) (openOk l i) (openR_length l i)
    (Lib.hid fun A c w h hl hlc => spec_OpenGap A c _ l i w h (Nat.le_refl _) hl)
    (Lib.hid fun A c w h hl hlc => impl_OpenGap A c _ l i w h (Nat.le_refl _) hl)
end Go.Proofs.Ytnoddecligmjbaa
