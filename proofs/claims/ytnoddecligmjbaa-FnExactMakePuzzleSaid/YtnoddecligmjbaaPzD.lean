/- A puzzle with another number at a place: the model's and the program's. -/
import Derived.Test.YtnoddecligmjbaaPzB
import Derived.Test.YtnoddecligmjbaaClone
import Derived.IntWalk
namespace Go.Proofs.Ytnoddecligmjbaa
set_option linter.unusedVariables false
open Go.RowKit

/-- two boxes made one behind the other -/
theorem box_two (w : World) (u v : Value) (s t : TypeId) : Below w.heap.size w ((w.alloc (.cells #[u] s)).alloc (.cells #[v] t)) ∧ Bo ((w.alloc (.cells #[u] s)).alloc (.cells #[v] t)) w.heap.size u s ∧ Bo ((w.alloc (.cells #[u] s)).alloc (.cells #[v] t)) (w.heap.size + 1) v t := by
  refine ⟨below_box (below_box (Below.refl _ _) (Nat.le_refl _) _) (Nat.le_refl _) _, (Bo.new w u s).alloc _, ?_⟩
  simpa using Bo.new (w.alloc (.cells #[u] s)) v t
theorem own_below {B : Nat} {w0 w w' : World} {g : Nat} (h : Below B w0 w) (hg : w.grownBy w' (some g)) (hB : B ≤ w0.heap.size) (hr : B ≤ g) : Below B w0 w' := below_grown h hg hB (fun k hk => by injection hk with hk; omega)

set_option maxRecDepth 100000 in
set_option maxHeartbeats 3200000 in
theorem spec_pzPut (A : Option Addr) (c B : Nat) (l : List Int) (k : Nat) (x : Int) (w : World) (h : SlI w B A l) (hB : B ≤ w.heap.size) (hl : l.length ≤ 9) (hk : k < l.length) :
    Calls Try.prog 105 #[.agg #[.slice A l.length c], .int .i64 k, .int .i64 x] w (GivP w (l.set k x)) := by
  obtain ⟨w2, hw2⟩ : ∃ w2, w2 = (w.alloc (.cells #[.slice A l.length c] 27)).alloc (.cells #[.slice none 0 0] 27) := ⟨_, rfl⟩
  obtain ⟨hd, _, q6⟩ := box_two w (.slice A l.length c) (.slice none 0 0) 27 27
  rw [← hw2] at hd q6
  have hs := h.below (hd.mono hB)
  have Q := Lib.hid q6
  have L2 := Lib.hid q6.lt
  have Hw2 := Lib.hid hw2
  clear h hw2 q6
  go_enter Try.func105, Try.ntmps105
  go_wp2_with fail
  rw [← Hw2.out]
  clear Hw2
  have hz2 := hd.size
  refine (spec_l1Own A _ c B l _ rfl hs (Nat.le_trans hB hz2) (by omega)).mono ?_
  rintro e w3 ⟨A3, c3, rfl, ho, hb⟩
  replace Q := Lib.hid (Q.out.kept hb)
  replace hd := below_kept hd (Nat.le_refl _) hb
  obtain ⟨g, cap0, hv, hgg, hlt⟩ := ho.form (by omega)
  cases hv
  have hsz := hd.size
  have fk := ho.frozenAt k
  have ck : w3.cell? ⟨g, k, none⟩ = some (.int .i64 (l.getD k 0)) := by rw [ho.cellAt _ (by omega), ics_get _ _ hk]
  obtain ⟨o5, g5⟩ := ho.stored k (.int .i64 x)
  rw [ics_set] at o5
  have nb : w.heap.size + 1 ≠ g := by have := L2.out; omega
  have Q5 := Q.out.setFar (a := ⟨g, k, none⟩) nb (.int .i64 x)
  have hb5 := own_below hd g5 (Nat.le_refl _) (by omega)
  have hb5a := below_box hb5 (Nat.le_refl _) (.cells #[.slice (some ⟨g, 0, none⟩) l.length c3] 27)
  have o5a := own_kept o5 (below_box (Below.refl _ _) (Nat.le_refl _) (.cells #[.slice (some ⟨g, 0, none⟩) l.length c3] 27))
  have Q5a := Q5.alloc (.cells #[.slice (some ⟨g, 0, none⟩) l.length c3] 27)
  have Q6a := Q5a.set (.slice (some ⟨g, 0, none⟩) l.length c3)
  have o6 := (ownsRow_setCell_below o5a (a := ⟨w.heap.size + 1, 0, none⟩) (by show w.heap.size + 1 < w2.heap.size; exact L2.out) (.slice (some ⟨g, 0, none⟩) l.length c3)).mono hz2
  have hb6 := hb5a.setCell (p := ⟨w.heap.size + 1, 0, none⟩) (Nat.le_add_right _ _) (.slice (some ⟨g, 0, none⟩) l.length c3)
  have HE : Hid (GivP w (l.set k x) (.returned (.agg #[.slice (some ⟨g, 0, none⟩) l.length c3])) (((w3.setCell ⟨g, k, none⟩ (.int .i64 x)).alloc (.cells #[.slice (some ⟨g, 0, none⟩) l.length c3] 27)).setCell ⟨w.heap.size + 1, 0, none⟩ (.slice (some ⟨g, 0, none⟩) l.length c3))) :=
    Lib.hid ⟨some ⟨g, 0, none⟩, c3, by simp, by simpa using o6, hb6⟩
  have ne1 : g ≠ w3.heap.size := by omega
  have c6 := Q5a.cell
  have f6 := Q5a.frozen
  have c8 := Q6a.cell
  have hlk : (k : Int) < (l.length : Int) := by omega
  clear o6 hb6 o5 g5 hb5 Q5 ho hb hd Q hs L2 Q5a Q6a hb5a o5a
  go_wp2
  exact bodyPost_ret (v := .agg #[.slice (some ⟨g, 0, none⟩) l.length c3]) (by simp [results, Try.results105, go_sem, c8]) rfl HE.out

set_option maxRecDepth 100000 in
set_option maxHeartbeats 3200000 in
theorem impl_withNumber (A : Option Addr) (c B : Nat) (l : List Int) (k : Nat) (x : Int) (w : World) (h : SlI w B A l) (hB : B ≤ w.heap.size) (hl : l.length ≤ 9) (hk : k < l.length) :
    Calls Try.prog 107 #[.agg #[.slice A l.length c], .int .i64 k, .int .i64 x] w (GivP w (l.set k x)) := by
  obtain ⟨w2, hw2⟩ : ∃ w2, w2 = (w.alloc (.cells #[.slice A l.length c] 27)).alloc (.cells #[.slice none 0 0] 27) := ⟨_, rfl⟩
  obtain ⟨hd, _, q6⟩ := box_two w (.slice A l.length c) (.slice none 0 0) 27 27
  rw [← hw2] at hd q6
  have hs := h.below (hd.mono hB)
  have Q := Lib.hid q6
  have L2 := Lib.hid q6.lt
  have Hw2 := Lib.hid hw2
  clear h hw2 q6
  go_enter Try.func107, Try.ntmps107
  go_wp2_with fail
  rw [← Hw2.out]
  clear Hw2
  have hz2 := hd.size
  refine (slices_Clone A c B l _ hs (Nat.le_trans hB hz2) (by omega) (by omega)).mono ?_
  rintro e w3 ⟨A3, c3, rfl, ho, hb⟩
  replace Q := Lib.hid (Q.out.kept hb)
  replace hd := below_kept hd (Nat.le_refl _) hb
  obtain ⟨g, cap0, hv, hgg, hlt⟩ := ho.form (by omega)
  cases hv
  have fk := ho.frozenAt k
  have ck : w3.cell? ⟨g, k, none⟩ = some (.int .i64 (l.getD k 0)) := by rw [ho.cellAt _ (by omega), ics_get _ _ hk]
  obtain ⟨o5, g5⟩ := ho.stored k (.int .i64 x)
  rw [ics_set] at o5
  have nb : w.heap.size + 1 ≠ g := by have := L2.out; omega
  have Q5 := Q.out.setFar (a := ⟨g, k, none⟩) nb (.int .i64 x)
  have hb5 := own_below hd g5 (Nat.le_refl _) (by omega)
  have Q6 := Q5.set (.slice (some ⟨g, 0, none⟩) l.length c3)
  have o6 := (ownsRow_setCell_below o5 (a := ⟨w.heap.size + 1, 0, none⟩) (by show w.heap.size + 1 < w2.heap.size; exact L2.out) (.slice (some ⟨g, 0, none⟩) l.length c3)).mono hz2
  have hb6 := hb5.setCell (p := ⟨w.heap.size + 1, 0, none⟩) (Nat.le_add_right _ _) (.slice (some ⟨g, 0, none⟩) l.length c3)
  have HE : Hid (GivP w (l.set k x) (.returned (.agg #[.slice (some ⟨g, 0, none⟩) l.length c3])) ((w3.setCell ⟨g, k, none⟩ (.int .i64 x)).setCell ⟨w.heap.size + 1, 0, none⟩ (.slice (some ⟨g, 0, none⟩) l.length c3))) :=
    Lib.hid ⟨some ⟨g, 0, none⟩, c3, by simp, by simpa using o6, hb6⟩
  have c6 := Q5.cell
  have f6 := Q5.frozen
  have c8 := Q6.cell
  have hlk : (k : Int) < (l.length : Int) := by omega
  clear o6 hb6 o5 g5 hb5 Q5 Q6 ho hb hd Q hs L2
  go_wp2
  exact bodyPost_ret (v := .agg #[.slice (some ⟨g, 0, none⟩) l.length c3]) (by simp [results, Try.results107, go_sem, c8]) rfl HE.out

/-- a puzzle, and a place of it -/
def plB (l : List Int) (i : Int) : Bool := pzB l && decide (0 ≤ i ∧ i < (l.length : Int))
set_option maxRecDepth 100000 in
theorem impl_hasPlace (A : Option Addr) (c B : Nat) (l : List Int) (i : Int) (w : World) (h : SlI w B A l) (hB : B ≤ w.heap.size) (hl : l.length ≤ 1048576) :
    Calls Try.prog 106 #[.agg #[.slice A l.length c], .int .i64 i] w fun e w' => e = .returned (.bool (plB l i)) ∧ Below w.heap.size w w' := by
  have hd := below_box (Below.refl w.heap.size w) (Nat.le_refl _) (.cells #[.slice A l.length c] 27)
  have Q := Lib.hid (Bo.new w (.slice A l.length c) 27)
  have hs := h.below (hd.mono hB)
  have hfin : plB l i = (pzB l && decide (0 ≤ i ∧ i < (l.length : Int))) := rfl
  have Hfin := Lib.hid hfin
  clear h hfin
  go_enter Try.func106, Try.ntmps106
  go_wp2_with fail
  refine (impl_IsPuzzle A _ c B l _ rfl hs (Nat.le_trans hB hd.size) hl).mono ?_
  rintro e w1 ⟨rfl, hb⟩
  have cq := (Q.out.kept hb).cell
  have HD := Lib.hid (below_kept hd (Nat.le_refl _) hb)
  clear hb hd hs Q
  cases hp : pzB l
  · go_wp2
    go_ret
    exact ⟨ret_bool (by rw [Hfin.out, hp]; rfl), HD.out⟩
  · go_wp2
    all_goals go_ret
    all_goals refine ⟨ret_bool ?_, HD.out⟩
    all_goals (rw [Hfin.out, hp, Bool.eq_iff_iff]; simp; try omega)
end Go.Proofs.Ytnoddecligmjbaa
