/- The walk of MediantOf's law, out of the contracts of the model's function and of the program's. -/
import Derived.Test.YtaifgfmkkgndkaaLawF
import Derived.Test.YtaifgfmkkgndkaaNearW
import Derived.Deep.RegionHeld3
import Derived.Deep.DeepCutAuto
namespace Go.Proofs.Ytaifgfmkkgndkaa
set_option linter.unusedVariables false
open Go.RowKit

theorem twoOfF {wa w' : World} {ga gb : Nat} {a b c d : Int} (hA : Bx2 wa ga a b) (hB : Bx2 wa gb c d) (hb : Below wa.heap.size wa w') :
    w'.cell? ⟨ga, 0, none⟩ = some (.int .i64 a) ∧ w'.cell? ⟨ga, 1, none⟩ = some (.int .i64 b) ∧ w'.cell? ⟨gb, 0, none⟩ = some (.int .i64 c) ∧ w'.cell? ⟨gb, 1, none⟩ = some (.int .i64 d) ∧ Below wa.heap.size wa w' :=
  ⟨(hA.kept hb).1.1, (hA.kept hb).1.2, (hB.kept hb).1.1, (hB.kept hb).1.2, hb⟩
theorem twoBelowF {wa w' : World} {p0 p1 p2 p3 : Addr} {v0 v1 v2 v3 : Value} (h : w'.cell? p0 = some v0 ∧ w'.cell? p1 = some v1 ∧ w'.cell? p2 = some v2 ∧ w'.cell? p3 = some v3 ∧ Below wa.heap.size wa w') : Below wa.heap.size wa w' := h.2.2.2.2
theorem below_alloc1F {B : Nat} {w0 w : World} (h : Below B w0 w) (hB : B ≤ w0.heap.size) (o : Obj) : Below B w0 (w.alloc o) := h.alloc (Nat.le_trans hB h.size) o
theorem below_set2F {B g : Nat} {w0 w : World} {v0 v1 : Value} (h : Below B w0 w) (hg : B ≤ g) : Below B w0 ((w.setCell ⟨g, 0, none⟩ v0).setCell ⟨g, 1, none⟩ v1) := (h.setCell (p := ⟨g, 0, none⟩) hg v0).setCell (p := ⟨g, 1, none⟩) hg v1

set_option maxHeartbeats 3200000 in
theorem WMediantOf.core (w : World) (a b c d : Int) (p q : Int) (ok : Bool)
    (hs : Hid (∀ w : World, Calls Try.prog 22 #[.agg #[.int .i64 a, .int .i64 b], .agg #[.int .i64 c, .int .i64 d]] w fun e w' => e = .returned (.tuple #[.agg #[.int .i64 p, .int .i64 q], .bool ok]) ∧ Below w.heap.size w w'))
    (hi : Hid (∀ w : World, Calls Try.prog 23 #[.agg #[.int .i64 a, .int .i64 b], .agg #[.int .i64 c, .int .i64 d]] w fun e w' => e = .returned (.tuple #[.agg #[.int .i64 p, .int .i64 q], .bool ok]) ∧ Below w.heap.size w w')) :
    Calls Try.prog 6 #[.agg #[.int .i64 a, .int .i64 b], .agg #[.int .i64 c, .int .i64 d]] w fun e w' => e = .returned (.bool true) ∧ Below w.heap.size w w' := by
  go_enter Try.func6, Try.ntmps6
  go_upto_region 1 with fail
  obtain ⟨wa, hwa⟩ : ∃ wa, wa = (w.alloc (.cells #[.int .i64 a, .int .i64 b] 23)).alloc (.cells #[.int .i64 c, .int .i64 d] 23) := ⟨_, rfl⟩
  have A : Bx2 wa w.heap.size a b := by rw [hwa]; exact (Bx2.new w _ a b).alloc _
  have B : Bx2 wa (w.heap.size + 1) c d := by rw [hwa]; simp [Bx2, go_sem]
  have hd : Below w.heap.size w wa := by rw [hwa]; exact below_two _ _ _
  have hsz : w.heap.size + 2 = wa.heap.size := by rw [hwa]; simp
  rw [← hwa]
  clear hwa
  obtain ⟨ga, hga⟩ : ∃ ga, ga = w.heap.size := ⟨_, rfl⟩
  obtain ⟨gb, hgb⟩ : ∃ gb, gb = w.heap.size + 1 := ⟨_, rfl⟩
  have hA : Hid (Bx2 wa ga a b) := Lib.hid (by rw [hga]; exact A)
  have hB : Hid (Bx2 wa gb c d) := Lib.hid (by rw [hgb]; exact B)
  have hD := Lib.hid hd
  rw [← hgb, ← hga]
  have ya : ga < wa.heap.size := by omega
  have yb : gb < wa.heap.size := by omega
  have hS0 := Lib.hid (twoOfF (w' := wa.drew) hA.out hB.out (Below.refl _ _).drew)
  have yw : w.heap.size ≤ wa.heap.size := by omega
  clear hgb hga A B hd hsz
  go_cut [5, 6] (fun s5 s6 wx => ∃ gr, wa.heap.size ≤ gr ∧ s5 = .pointer (some ⟨gr, 0, none⟩) ∧ s6 = .bool ok ∧ Bx2 wx gr p q ∧ Below wa.heap.size wa wx)
  case first =>
    go_region_held3 (fun w' => w'.cell? ⟨ga, 0, none⟩ = some (.int .i64 a) ∧ w'.cell? ⟨ga, 1, none⟩ = some (.int .i64 b) ∧ w'.cell? ⟨gb, 0, none⟩ = some (.int .i64 c) ∧ w'.cell? ⟨gb, 1, none⟩ = some (.int .i64 d) ∧ Below wa.heap.size wa w')
      (first
        | with_reducible exact hS0.out
        | with_reducible exact twoOfF hA.out hB.out D1
        | with_reducible exact twoOfF hA.out hB.out (below_alloc1F D1 (Nat.le_refl _) _)
        | with_reducible exact twoOfF hA.out hB.out (below_alloc1F (Below.refl _ _) (Nat.le_refl _) _).drew
        | with_reducible exact twoOfF hA.out hB.out (below_alloc1F (twoBelowF hS0.out) (Nat.le_refl _) _)
        | with_reducible exact twoOfF hA.out hB.out (below_set2F D1 (Nat.le_refl _))
        | with_reducible exact twoOfF hA.out hB.out (below_set2F D1 (by assumption)))
      (first
        | (go_at_call 16; refine (laws_toFraction _ _ _).mono ?_; rintro e w1 ⟨rfl, hb1⟩; (have D1 := below_kept (twoBelowF (by assumption)) (Nat.le_refl _) hb1); (have Z1 : wa.heap.size ≤ w1.heap.size := D1.size); (first | (have X1 := (Bx2.newd _ 25 0 0).kept hb1; have X2 := X1; obtain ⟨⟨x0, x1⟩, f0, f1⟩ := X2) | (have X1 := (Bx2.new _ 25 0 0).kept hb1; have X2 := X1; obtain ⟨⟨x0, x1⟩, f0, f1⟩ := X2) | (have X1 := Bx2.kept (by assumption) hb1; have X2 := X1; obtain ⟨⟨x0, x1⟩, f0, f1⟩ := X2) | skip))
        | (go_at_call 22; refine (hs.out _).mono ?_; rintro e w1 ⟨rfl, hb1⟩; (have D1 := below_kept (twoBelowF (by assumption)) (Nat.le_refl _) hb1); (have Z1 : wa.heap.size ≤ w1.heap.size := D1.size); (first | (have X1 := (Bx2.newd _ 25 0 0).kept hb1; have X2 := X1; obtain ⟨⟨x0, x1⟩, f0, f1⟩ := X2) | (have X1 := (Bx2.new _ 25 0 0).kept hb1; have X2 := X1; obtain ⟨⟨x0, x1⟩, f0, f1⟩ := X2) | (have X1 := Bx2.kept (by assumption) hb1; have X2 := X1; obtain ⟨⟨x0, x1⟩, f0, f1⟩ := X2) | skip)))
    all_goals go_wp2_with fail
    all_goals go_meet
    all_goals refine ⟨_, ?_, rfl, rfl, ?_, ?_⟩
    all_goals first
      | with_reducible exact D1.size
      | with_reducible exact Nat.le_refl _
      | with_reducible assumption
      | with_reducible exact Bx2.new _ _ p q
      | with_reducible exact bx2_set X1 p q
      | with_reducible exact below_alloc1F D1 (Nat.le_refl _) _
      | with_reducible exact below_set2F D1 (Nat.le_refl _)
      | with_reducible exact below_set2F D1 (by assumption)
  case rest =>
    obtain ⟨gr, hgr, rfl, rfl, S, hd⟩ := hcut
    obtain ⟨wb, hwb⟩ : ∃ wb, wb = wc := ⟨_, rfl⟩
    subst hwb
    have hA2 := Lib.hid (hA.out.kept hd)
    have hB2 := Lib.hid (hB.out.kept hd)
    have hR2 := Lib.hid S
    have hD2 := Lib.hid (hD.out.trans (hd.mono yw))
    have zb := hd.size
    have ya2 : ga < wb.heap.size := by omega
    have yb2 : gb < wb.heap.size := by omega
    have yr2 : gr < wb.heap.size := S.lt
    have yw2 : w.heap.size ≤ wb.heap.size := by omega
    have hS2 := Lib.hid (twoOfF (w' := wb.drew) hA2.out hB2.out (Below.refl _ _).drew)
    clear hd S hs hA hB hD hS0 ya yb yw zb hgr
    go_upto_region 2 with fail
    go_cut [7, 8] (fun s7 s8 wx => ∃ gi, wb.heap.size ≤ gi ∧ s7 = .pointer (some ⟨gi, 0, none⟩) ∧ s8 = .bool ok ∧ Bx2 wx gi p q ∧ Below wb.heap.size wb wx)
    case first =>
      go_region_held3 (fun w' => w'.cell? ⟨ga, 0, none⟩ = some (.int .i64 a) ∧ w'.cell? ⟨ga, 1, none⟩ = some (.int .i64 b) ∧ w'.cell? ⟨gb, 0, none⟩ = some (.int .i64 c) ∧ w'.cell? ⟨gb, 1, none⟩ = some (.int .i64 d) ∧ Below wb.heap.size wb w')
        (first
          | with_reducible exact hS2.out
          | with_reducible exact twoOfF hA2.out hB2.out D1
          | with_reducible exact twoOfF hA2.out hB2.out (below_alloc1F D1 (Nat.le_refl _) _)
          | with_reducible exact twoOfF hA2.out hB2.out (below_alloc1F (Below.refl _ _) (Nat.le_refl _) _).drew
          | with_reducible exact twoOfF hA2.out hB2.out (below_alloc1F (twoBelowF hS2.out) (Nat.le_refl _) _)
          | with_reducible exact twoOfF hA2.out hB2.out (below_set2F D1 (Nat.le_refl _))
          | with_reducible exact twoOfF hA2.out hB2.out (below_set2F D1 (by assumption)))
        (first
          | (go_at_call 16; refine (laws_toFraction _ _ _).mono ?_; rintro e w1 ⟨rfl, hb1⟩; (have D1 := below_kept (twoBelowF (by assumption)) (Nat.le_refl _) hb1); (have Z1 : wb.heap.size ≤ w1.heap.size := D1.size); (first | (have X1 := (Bx2.newd _ 25 0 0).kept hb1; have X2 := X1; obtain ⟨⟨x0, x1⟩, f0, f1⟩ := X2) | (have X1 := (Bx2.new _ 25 0 0).kept hb1; have X2 := X1; obtain ⟨⟨x0, x1⟩, f0, f1⟩ := X2) | (have X1 := Bx2.kept (by assumption) hb1; have X2 := X1; obtain ⟨⟨x0, x1⟩, f0, f1⟩ := X2) | skip))
          | (go_at_call 23; refine (hi.out _).mono ?_; rintro e w1 ⟨rfl, hb1⟩; (have D1 := below_kept (twoBelowF (by assumption)) (Nat.le_refl _) hb1); (have Z1 : wb.heap.size ≤ w1.heap.size := D1.size); (first | (have X1 := (Bx2.newd _ 25 0 0).kept hb1; have X2 := X1; obtain ⟨⟨x0, x1⟩, f0, f1⟩ := X2) | (have X1 := (Bx2.new _ 25 0 0).kept hb1; have X2 := X1; obtain ⟨⟨x0, x1⟩, f0, f1⟩ := X2) | (have X1 := Bx2.kept (by assumption) hb1; have X2 := X1; obtain ⟨⟨x0, x1⟩, f0, f1⟩ := X2) | skip)))
      all_goals go_wp2_with fail
      all_goals go_meet
      all_goals refine ⟨_, ?_, rfl, rfl, ?_, ?_⟩
      all_goals first
        | with_reducible exact D1.size
        | with_reducible exact Nat.le_refl _
        | with_reducible assumption
        | with_reducible exact Bx2.new _ _ p q
        | with_reducible exact bx2_set X1 p q
        | with_reducible exact below_alloc1F D1 (Nat.le_refl _) _
        | with_reducible exact below_set2F D1 (Nat.le_refl _)
        | with_reducible exact below_set2F D1 (by assumption)
    case rest =>
      obtain ⟨gi, hgi, rfl, rfl, I, hd⟩ := hcut
      have R := hR2.out.kept hd
      have hD3 := Lib.hid (hD2.out.trans (hd.mono yw2))
      have yi := I.lt
      have yr := R.lt
      obtain ⟨⟨i0, i1⟩, i2, i3⟩ := I
      obtain ⟨⟨r0, r1⟩, r2, r3⟩ := R
      clear hd hA2 hB2 hR2 hD2 hS2 hi ya2 yb2 yr2 hgi
      go_wp2_with fail
      refine (laws_eqFraction p q _).mono ?_
      rintro e wz ⟨rfl, hb⟩
      have hE := Lib.hid (below_kept hD3.out (Nat.le_refl _) hb)
      clear hb i0 i1 i2 i3 r0 r1 r2 r3 yi yr
      go_wp2
      go_ret
      exact ⟨rfl, hE.out⟩
end Go.Proofs.Ytaifgfmkkgndkaa
