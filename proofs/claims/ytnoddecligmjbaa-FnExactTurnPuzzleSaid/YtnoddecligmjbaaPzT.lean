/- TurnPuzzle: the model's and the program's contracts, and the law's walk. -/
import Derived.Test.YtnoddecligmjbaaPzE
import Derived.Test.YtnoddecligmjbaaTurnPuzzleC
import Derived.Test.YtnoddecligmjbaaPutA
import Derived.Test.YtnoddecligmjbaaCatW
import Derived.Deep.RegionHeld3
namespace Go.Proofs.Ytnoddecligmjbaa
set_option linter.unusedVariables false
open Go.RowKit

def tpL (l : List Int) (i : Int) : List Int := l.drop i.toNat ++ l.take i.toNat
def tpR (l : List Int) (i : Int) : List Int := if plB l i = true then tpL l i else []
theorem tpL_length (l : List Int) (k : Nat) (hk : k ≤ l.length) : (tpL l k).length = l.length := by
  unfold tpL
  simp
  omega
theorem tpR_length (l : List Int) (i : Int) : (tpR l i).length ≤ 1000000000 := by
  unfold tpR
  split
  · next h =>
    obtain ⟨hp, _, _⟩ := plB_iff.1 h
    have := pzB_len hp
    unfold tpL
    simp
    omega
  · simp
def TurnE (l : List Int) (i : Int) (w : World) (e : Ending) (w' : World) : Prop := RetP w (tpR l i) (plB l i) e w'
theorem turnE_no {l : List Int} {i : Int} {w : World} {e : Ending} {w' : World} (h : plB l i = false) (hr : RetP w [] false e w') : TurnE l i w e w' := by
  unfold TurnE tpR
  rw [h]
  exact hr
theorem turnE_yes {l : List Int} {i : Int} {w : World} {e : Ending} {w' : World} (h : plB l i = true) (hr : RetP w (tpL l i) true e w') : TurnE l i w e w' := by
  unfold TurnE tpR
  rw [h]
  exact hr

set_option maxRecDepth 100000 in
set_option maxHeartbeats 6400000 in
theorem spec_TurnPuzzle (A : Option Addr) (n c B : Nat) (l : List Int) (i : Int) (w : World) (hn : l.length = n) (h : SlI w B A l) (hB : B ≤ w.heap.size) (hl : n ≤ 1048576) (hlc : n ≤ c) :
    Calls Try.prog 34 #[.agg #[.slice A n c], .int .i64 i] w (TurnE l i w) := by
  obtain ⟨w2, hw2⟩ : ∃ w2, w2 = (w.alloc (.cells #[.slice A n c] 27)).alloc (.cells #[.slice none 0 0] 27) := ⟨_, rfl⟩
  obtain ⟨hd, q3, q6⟩ := box_two w (.slice A n c) (.slice none 0 0) 27 27
  rw [← hw2] at hd q3 q6
  have hs := h.below (hd.mono hB)
  have Hw2 := Lib.hid hw2
  have Hn := Lib.hid hn
  clear h hw2 hn
  go_enter Try.func34, Try.ntmps34
  go_wp2_with fail
  rw [← Hw2.out]
  clear Hw2
  refine (spec_pzGood A n c B l _ Hn.out hs (Nat.le_trans hB hd.size) hl).mono ?_
  rintro e w1 ⟨rfl, hb⟩
  have k3 := q3.kept hb
  have k6 := q6.kept hb
  have l3 := k3.lt
  have l6 := k6.lt
  have c3 := k3.cell
  have c6 := k6.cell
  have f6 := k6.frozen
  have hs1 := hs.below (hb.mono (Nat.le_trans hB hd.size))
  have hd1 := below_kept hd (Nat.le_refl _) hb
  have hz1 := hd1.size
  clear q3 q6 hb hs hd
  have HNo : Hid (plB l i = false → TurnE l i w (.returned (.tuple #[.agg #[.slice none 0 0], .bool false])) (w1.setCell ⟨w.heap.size + 1, 0, none⟩ (.slice none 0 0))) := Lib.hid fun e => turnE_no e (retP_no hd1 (Nat.le_add_right _ _) _)
  have C8 := Lib.hid fun (u : Value) => (k6.set u).cell
  cases hp : pzB l
  · have HE := Lib.hid (HNo.out (by unfold plB; rw [hp]; rfl))
    have c8 := C8.out (.slice none 0 0)
    clear HNo k6 hd1 hs1
    go_wp2
    exact bodyPost_ret (v := .tuple #[.agg #[.slice none 0 0], .bool false]) (by simp [results, Try.results34, go_sem, c8]) rfl HE.out
  · obtain ⟨n3, n9⟩ := pzB_len hp
    rw [Hn.out] at n3 n9
    have hn1 : IntKind.i64.wrap ((n : Int) - 1) = (n : Int) - 1 := IntWalk.i64_in _ (by omega)
    go_wp2_with fail
    refine (spec_l1In' _ _ _ _).mono ?_
    rintro e w1 ⟨rfl, rfl⟩
    cases hi : inB i 0 ((n : Int) - 1)
    · have HE := Lib.hid (HNo.out (plB_out (by rw [Hn.out]; exact hi)))
      have c8 := C8.out (.slice none 0 0)
      clear HNo k6 hd1 hs1
      go_wp2
      exact bodyPost_ret (v := .tuple #[.agg #[.slice none 0 0], .bool false]) (by simp [results, Try.results34, go_sem, c8]) rfl HE.out
    · obtain ⟨i0, i1⟩ := inBe_iff.1 hi
      have hpl : plB l i = true := plB_iff.2 ⟨hp, by omega, by rw [Hn.out]; omega⟩
      clear hi
      obtain ⟨k, rfl⟩ := Int.eq_ofNat_of_zero_le (show 0 ≤ i by omega)
      have hkt : ((k : Int)).toNat = k := Int.toNat_natCast k
      have hk : k < n := by omega
      obtain ⟨b', off, rfl, hbB, hc⟩ := id hs1 (by rw [Hn.out]; omega)
      have H := Lib.hid hs1
      have HT : Hid ((l.take k).length = k) := Lib.hid (by simp; have := Hn.out; omega)
      have HD : Hid ((l.drop k).length = n - k) := Lib.hid (by simp; have := Hn.out; omega)
      have HN : Hid (n = (n - k) + k) := Lib.hid (by omega)
      have HYes : Hid (∀ e w', RetP w (l.drop k ++ l.take k) true e w' → TurnE l k w e w') := Lib.hid fun e w' hr => turnE_yes hpl (by unfold tpL; rw [hkt]; exact hr)
      have j1 : (k : Int) ≤ (n : Int) := by omega
      have j2 : (n : Int) ≤ (c : Int) := by omega
      have j3 : ¬ c = k := by omega
      have j4 : (k : Int) ≤ (c : Int) := by omega
      have k6' : k ≤ 1000000 := by omega
      have k7' : n - k ≤ 1000000 := by omega
      have Q3 := Lib.hid k3
      have Q6 := Lib.hid k6
      have Hd1 := Lib.hid hd1
      clear hc hs1 hpl hp HNo C8 k3 k6 hd1 hkt i0 i1
      go_wp2
      go_region_held3 (fun w' => w'.cell? ⟨w.heap.size, 0, none⟩ = some (.slice (some ⟨b', off, none⟩) n c) ∧ Below w.heap.size w w')
        (first
          | assumption
          | exact ⟨c3, Hd1.out.drew⟩
          | exact S6
          | exact S7
          | exact S8)
        (first
          | (refine step_ownP w1.drew rfl _ rfl (some ⟨b', off + k, none⟩) (n - k) _ B (l.drop k) rfl HD.out (H.out.cutAt k).drw (Nat.le_trans hB hz1) k7' ?_; intro A6 c6' w6 o6 b6
             have q3 := Bo.kept (w := w1.drew) Q3.out b6
             have q6 := Bo.kept (w := w1.drew) Q6.out b6
             have S6 : w6.cell? ⟨w.heap.size, 0, none⟩ = some (.slice (some ⟨b', off, none⟩) n c) ∧ Below w.heap.size w w6 := ⟨q3.cell, below_kept Hd1.out.drew (Nat.le_refl _) b6⟩)
          | (refine step_appendNI _ rfl _ _ rfl w1.heap.size (.slice A6 (n - k) c6') (n - k) (l.drop k) HD.out rfl o6 _ k _ (l.take k) B n ?_ rfl HT.out ?_ ?_ ?_ b6.size ?_
             · exact HN.out
             · exact ((H.out.take k).drw.below (b6.mono (Nat.le_trans hB hz1)))
             · exact k7'
             · exact k6'
             intro A7 c7 w7 o7 g7
             have r3 := q3.far g7 (bo_ne q3 o6 (by decide))
             have r6 := q6.far g7 (bo_ne q6 o6 (by decide))
             have d6 := r6.cell
             have e6 := r6.frozen
             have S7 : w7.cell? ⟨w.heap.size, 0, none⟩ = some (.slice (some ⟨b', off, none⟩) n c) ∧ Below w.heap.size w w7 := ⟨r3.cell, below_grown S6.2 g7 (Nat.le_refl _) (fun j hj => Nat.le_trans hz1 (o6.lt j hj).1)⟩
             have S8 : (w7.setCell ⟨w.heap.size + 1, 0, none⟩ (.slice A7 n c7)).cell? ⟨w.heap.size, 0, none⟩ = some (.slice (some ⟨b', off, none⟩) n c) ∧ Below w.heap.size w (w7.setCell ⟨w.heap.size + 1, 0, none⟩ (.slice A7 n c7)) := ⟨(r3.setFar (a := ⟨w.heap.size + 1, 0, none⟩) (by simp) _).cell, S7.2.setCell (p := ⟨w.heap.size + 1, 0, none⟩) (Nat.le_add_right _ _) _⟩))
      rename_i hS7
      have c8 := (r6.set (.slice A7 n c7)).cell
      have hln : (l.drop k ++ l.take k).length = n := by rw [List.length_append, HT.out, HD.out]; omega
      have HE := Lib.hid (HYes.out (.returned (.tuple #[.agg #[.slice A7 n c7], .bool true])) _ ⟨A7, c7, by rw [hln], by rw [hln]; exact (ownsRow_setCell_below o7 (a := ⟨w.heap.size + 1, 0, none⟩) l6 (.slice A7 n c7)).mono hz1, S8.2⟩)
      clear hS7 g7 o7 o6 b6 q3 q6 r3 r6 S6 S7 S8 H HT HD HN HYes Q3 Q6 Hd1 hln
      go_wp2
      exact bodyPost_ret (v := .tuple #[.agg #[.slice A7 n c7], .bool true]) (by simp [results, Try.results34, go_sem, c8]) rfl HE.out

theorem concat_two (b' off k n c B : Nat) (l : List Int) (W : World) (hW : W.heap.size = B) (H : SlI W B (some ⟨b', off, none⟩) l) (hn : l.length = n) (hk : k < n) (hn9 : n ≤ 9) (u : World) (t : TypeId)
    (hu : u = W.alloc (.cells #[.slice (some ⟨b', off + k, none⟩) (n - k) (c - k), .slice (some ⟨b', off, none⟩) k c] t)) :
    Calls Try.prog 114 #[.slice (some ⟨B, 0, none⟩) 2 2] u fun e w' => ∃ A' c', e = .returned (.slice A' n c') ∧ w'.ownsRow u.heap.size 3 1 (.slice A' n c') n (ics (l.drop k ++ l.take k)) ∧ Below u.heap.size u w' := by
  have hb : Below W.heap.size W u := by rw [hu]; exact (Below.refl _ _).alloc (Nat.le_refl _) _
  have hus : u.heap.size = B + 1 := by rw [hu]; simp [hW]
  have h1 : (rowOf [l.drop k, l.take k] 0).length = n - k := by simp [rowOf, hn]
  have h2 : (rowOf [l.drop k, l.take k] 1).length = k := by simp [rowOf]; omega
  have hcat : catL [l.drop k, l.take k] 2 = l.drop k ++ l.take k := by simp [catL]
  have hlen : (l.drop k ++ l.take k).length = n := by simp; omega
  have hs0 : SlI u B (some ⟨b', off + k, none⟩) (l.drop k) := (H.cutAt k).below (hb.mono (by omega))
  have hs1 : SlI u B (some ⟨b', off, none⟩) (l.take k) := (H.take k).below (hb.mono (by omega))
  have g0 : u.cell? ⟨B, 0, none⟩ = some (.slice (some ⟨b', off + k, none⟩) (n - k) (c - k)) := by rw [hu, ← hW]; simp [go_sem]
  have g1 : u.cell? ⟨B, 0 + 1, none⟩ = some (.slice (some ⟨b', off, none⟩) k c) := by rw [hu, ← hW]; simp [go_sem]
  have hSl : SlSS u (B + 1) (some ⟨B, 0, none⟩) [l.drop k, l.take k] := by
    intro _
    refine ⟨B, 0, rfl, by omega, fun j hj => ?_⟩
    match j, hj with
    | 0, _ => exact ⟨_, _, by rw [h1]; exact g0, hs0.mono (by omega)⟩
    | 1, _ => exact ⟨_, _, by rw [h2]; exact g1, hs1.mono (by omega)⟩
  refine (slices_Concat_any (some ⟨B, 0, none⟩) 2 (B + 1) 2 [l.drop k, l.take k] u rfl hSl (by omega) (by omega) (by omega) (by rw [h1]; omega) ?_).mono ?_
  · intro j hj
    match j, hj with
    | 0, _ => rw [h1]; omega
    | 1, _ => rw [h2]; omega
  · rintro e w' ⟨A', c', rfl, ho, hb'⟩
    rw [hcat] at ho ⊢
    rw [hlen] at ho ⊢
    exact ⟨A', c', rfl, ho, hb'⟩

set_option maxRecDepth 100000 in
set_option maxHeartbeats 6400000 in
theorem impl_TurnPuzzle (A : Option Addr) (n c B : Nat) (l : List Int) (i : Int) (w : World) (hn : l.length = n) (h : SlI w B A l) (hB : B ≤ w.heap.size) (hl : n ≤ 1048576) (hlc : n ≤ c) :
    Calls Try.prog 35 #[.agg #[.slice A n c], .int .i64 i] w (TurnE l i w) := by
  obtain ⟨w2, hw2⟩ : ∃ w2, w2 = (w.alloc (.cells #[.slice A n c] 27)).alloc (.cells #[.slice none 0 0] 27) := ⟨_, rfl⟩
  obtain ⟨hd, q3, q6⟩ := box_two w (.slice A n c) (.slice none 0 0) 27 27
  rw [← hw2] at hd q3 q6
  have hs := h.below (hd.mono hB)
  have Hw2 := Lib.hid hw2
  have Hn := Lib.hid hn
  have HC := Lib.hid (impl_hasPlace A c B l i w2 hs (Nat.le_trans hB hd.size) (by omega))
  rw [hn] at HC
  clear h hw2 hn
  go_enter Try.func35, Try.ntmps35
  go_wp2_with fail
  rw [← Hw2.out]
  clear Hw2
  refine HC.out.mono ?_
  rintro e w1 ⟨rfl, hb⟩
  clear HC
  have k3 := q3.kept hb
  have k6 := q6.kept hb
  have l3 := k3.lt
  have l6 := k6.lt
  have c3 := k3.cell
  have c6 := k6.cell
  have f6 := k6.frozen
  have hs1 := hs.below (hb.mono (Nat.le_trans hB hd.size))
  have hd1 := below_kept hd (Nat.le_refl _) hb
  have hz1 := hd1.size
  clear q3 q6 hb hs hd
  have HNo : Hid (plB l i = false → TurnE l i w (.returned (.tuple #[.agg #[.slice none 0 0], .bool false])) (w1.setCell ⟨w.heap.size + 1, 0, none⟩ (.slice none 0 0))) := Lib.hid fun e => turnE_no e (retP_no hd1 (Nat.le_add_right _ _) _)
  have C8 := Lib.hid fun (u : Value) => (k6.set u).cell
  cases hpl : plB l i
  · have HE := Lib.hid (HNo.out hpl)
    have c8 := C8.out (.slice none 0 0)
    clear HNo k6 hd1 hs1 hpl
    go_wp2
    exact bodyPost_ret (v := .tuple #[.agg #[.slice none 0 0], .bool false]) (by simp [results, Try.results35, go_sem, c8]) rfl HE.out
  · obtain ⟨hp, i0, i1⟩ := plB_iff.1 hpl
    obtain ⟨n3, n9⟩ := pzB_len hp
    rw [Hn.out] at n3 n9 i1
    obtain ⟨k, rfl⟩ := Int.eq_ofNat_of_zero_le (show 0 ≤ i by omega)
    have hkt : ((k : Int)).toNat = k := Int.toNat_natCast k
    have hk : k < n := by omega
    obtain ⟨b', off, rfl, hbB, hc⟩ := id hs1 (by rw [Hn.out]; omega)
    have HYes : Hid (∀ e w', RetP w (l.drop k ++ l.take k) true e w' → TurnE l k w e w') := Lib.hid fun e w' hr => turnE_yes hpl (by unfold tpL; rw [hkt]; exact hr)
    have HC := Lib.hid (concat_two b' off k n c w1.heap.size l w1.drew rfl (hs1.mono (Nat.le_trans hB hz1)) Hn.out hk n9 _ 22 rfl)
    have hln : (l.drop k ++ l.take k).length = n := by have := Hn.out; simp; omega
    have Hln := Lib.hid hln
    have j1 : (k : Int) ≤ (n : Int) := by omega
    have j2 : (n : Int) ≤ (c : Int) := by omega
    have j3 : ¬ c = k := by omega
    have j4 : (k : Int) ≤ (c : Int) := by omega
    have Q3 := Lib.hid k3
    have Q6 := Lib.hid k6
    have Hd1 := Lib.hid hd1
    clear hc hs1 hpl hp HNo C8 k3 k6 hd1 hkt i0 i1 hln
    go_wp2
    go_region_held3 (fun w' => w'.cell? ⟨w.heap.size, 0, none⟩ = some (.slice (some ⟨b', off, none⟩) n c) ∧ Below w.heap.size w w')
      (first
        | assumption
        | exact ⟨c3, Hd1.out.drew⟩
        | exact S6
        | exact S8
        | exact ⟨(Bo.alloc (w := w1.drew) Q3.out _).cell, Hd1.out.drew.alloc hz1 _⟩)
      (first
        | (go_at_call 114; refine HC.out.mono ?_; rintro e w6 ⟨A6, c6', rfl, o6, b6⟩
           have r3 := (Bo.alloc (w := w1.drew) Q3.out _).kept b6
           have r6 := (Bo.alloc (w := w1.drew) Q6.out _).kept b6
           have d6 := r6.cell
           have e6 := r6.frozen
           have S6 : w6.cell? ⟨w.heap.size, 0, none⟩ = some (.slice (some ⟨b', off, none⟩) n c) ∧ Below w.heap.size w w6 := ⟨r3.cell, below_kept (Hd1.out.drew.alloc hz1 _) (Nat.le_refl _) b6⟩
           have S8 : (w6.setCell ⟨w.heap.size + 1, 0, none⟩ (.slice A6 n c6')).cell? ⟨w.heap.size, 0, none⟩ = some (.slice (some ⟨b', off, none⟩) n c) ∧ Below w.heap.size w (w6.setCell ⟨w.heap.size + 1, 0, none⟩ (.slice A6 n c6')) := ⟨(r3.setFar (a := ⟨w.heap.size + 1, 0, none⟩) (by simp) _).cell, S6.2.setCell (p := ⟨w.heap.size + 1, 0, none⟩) (Nat.le_add_right _ _) _⟩))
    rename_i hS7
    have c8 := (r6.set (.slice A6 n c6')).cell
    have hlu : w.heap.size + 1 < (w1.drew.alloc (.cells #[.slice (some ⟨b', off + k, none⟩) (n - k) (c - k), .slice (some ⟨b', off, none⟩) k c] 22)).heap.size := by simp; omega
    have hzu : w.heap.size ≤ (w1.drew.alloc (.cells #[.slice (some ⟨b', off + k, none⟩) (n - k) (c - k), .slice (some ⟨b', off, none⟩) k c] 22)).heap.size := by simp; omega
    have HE := Lib.hid (HYes.out (.returned (.tuple #[.agg #[.slice A6 n c6'], .bool true])) _ ⟨A6, c6', by rw [Hln.out], by rw [Hln.out]; exact (ownsRow_setCell_below o6 (a := ⟨w.heap.size + 1, 0, none⟩) hlu (.slice A6 n c6')).mono hzu, S8.2⟩)
    clear hS7 o6 b6 r3 r6 S6 S8 HC HYes Q3 Q6 Hd1 hlu hzu
    go_wp2
    exact bodyPost_ret (v := .tuple #[.agg #[.slice A6 n c6'], .bool true]) (by simp [results, Try.results35, go_sem, c8]) rfl HE.out

theorem WTurnPuzzle.walk (w : World) (A : Option Addr) (c : Nat) (l : List Int) (h : SlI w w.heap.size A l)
    (hj : l.length ≤ c ∧ c ≤ maxLen ∧ ∀ x ∈ l, (Lit.int .i64 x).wf = true) (i : Int) (wi : (Lit.int .i64 i).wf = true) :
    Calls Try.prog 9 #[.agg #[.slice A l.length c], .int .i64 i] w fun e w' => e = .returned (.bool true) ∧ Below w.heap.size w w' :=
  WTurnPuzzle.core w A c l i h hj.1 hj.2.1 (tpR l i) (plB l i) (tpR_length l i)
    (Lib.hid fun A c w h hl hlc => spec_TurnPuzzle A _ c _ l i w rfl h (Nat.le_refl _) hl hlc)
    (Lib.hid fun A c w h hl hlc => impl_TurnPuzzle A _ c _ l i w rfl h (Nat.le_refl _) hl hlc)
end Go.Proofs.Ytnoddecligmjbaa
