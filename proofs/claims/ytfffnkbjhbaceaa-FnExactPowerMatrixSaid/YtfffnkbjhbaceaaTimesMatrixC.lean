/- The walk of TimesMatrix's law, out of the contracts of the model's function and of the program's. -/
import Derived.Test.YtfffnkbjhbaceaaMatP
import Derived.Deep.DeepCutAuto
namespace Go.Proofs.Ytfffnkbjhbaceaa
set_option linter.unusedVariables false
open Go.RowKit

/-- two boxes, and the world below which they lie -/
theorem twoOf {wa w' : World} {ga gb : Nat} {a b c d e f g h : Int} (hA : Bx wa ga a b c d) (hB : Bx wa gb e f g h) (hb : Below wa.heap.size wa w') :
    w'.cell? ⟨ga, 0, none⟩ = some (.int .i64 a) ∧ w'.cell? ⟨ga, 1, none⟩ = some (.int .i64 b) ∧ w'.cell? ⟨ga, 2, none⟩ = some (.int .i64 c) ∧ w'.cell? ⟨ga, 3, none⟩ = some (.int .i64 d) ∧
      w'.cell? ⟨gb, 0, none⟩ = some (.int .i64 e) ∧ w'.cell? ⟨gb, 1, none⟩ = some (.int .i64 f) ∧ w'.cell? ⟨gb, 2, none⟩ = some (.int .i64 g) ∧ w'.cell? ⟨gb, 3, none⟩ = some (.int .i64 h) ∧ Below wa.heap.size wa w' := by
  obtain ⟨a0, a1, a2, a3⟩ := hA.kept hb
  obtain ⟨b0, b1, b2, b3⟩ := hB.kept hb
  exact ⟨a0, a1, a2, a3, b0, b1, b2, b3, hb⟩
theorem twoBelow {wa w' : World} {p0 p1 p2 p3 p4 p5 p6 p7 : Addr} {v0 v1 v2 v3 v4 v5 v6 v7 : Value} (h : w'.cell? p0 = some v0 ∧ w'.cell? p1 = some v1 ∧ w'.cell? p2 = some v2 ∧ w'.cell? p3 = some v3 ∧
      w'.cell? p4 = some v4 ∧ w'.cell? p5 = some v5 ∧ w'.cell? p6 = some v6 ∧ w'.cell? p7 = some v7 ∧ Below wa.heap.size wa w') : Below wa.heap.size wa w' := h.2.2.2.2.2.2.2.2

/-- a new box of zeros, which may be written -/
def Zb (w : World) (g : Nat) : Prop := Bx w g 0 0 0 0 ∧ Fz w g
theorem Zb.new (w : World) (t : TypeId) : Zb (w.alloc (.cells #[.int .i64 0, .int .i64 0, .int .i64 0, .int .i64 0] t)) w.heap.size := ⟨Bx.new w t 0 0 0 0, Fz.new w t 0 0 0 0⟩
theorem Zb.newd (w : World) (t : TypeId) : Zb (w.alloc (.cells #[.int .i64 0, .int .i64 0, .int .i64 0, .int .i64 0] t)).drew w.heap.size := ⟨Bx.new w t 0 0 0 0, Fz.new w t 0 0 0 0⟩
theorem Zb.bx {w : World} {g : Nat} (h : Zb w g) : Bx w g 0 0 0 0 := h.1
theorem Zb.kept {w w' : World} {g : Nat} (h : Zb w g) (hb : Below w.heap.size w w') : Zb w' g := ⟨h.1.kept hb, h.2.kept h.1.lt hb⟩

theorem bx_set4 {w : World} {g : Nat} {a b c d : Int} (h : Bx w g a b c d) (e f i j : Int) : Bx ((((w.setCell ⟨g, 0, none⟩ (.int .i64 e)).setCell ⟨g, 1, none⟩ (.int .i64 f)).setCell ⟨g, 2, none⟩ (.int .i64 i)).setCell ⟨g, 3, none⟩ (.int .i64 j)) g e f i j := bx_sto4 h e f i j

set_option maxHeartbeats 3200000 in
theorem WTimesMatrix.core (w : World) (a b c d e f g h : Int) (p q r s : Int) (ok : Bool)
    (hs : Hid (∀ w : World, Calls Try.prog 18 #[.agg #[.int .i64 a, .int .i64 b, .int .i64 c, .int .i64 d], .agg #[.int .i64 e, .int .i64 f, .int .i64 g, .int .i64 h]] w fun e w' => e = .returned (.tuple #[.agg #[.int .i64 p, .int .i64 q, .int .i64 r, .int .i64 s], .bool ok]) ∧ Below w.heap.size w w'))
    (hi : Hid (∀ w : World, Calls Try.prog 19 #[.agg #[.int .i64 a, .int .i64 b, .int .i64 c, .int .i64 d], .agg #[.int .i64 e, .int .i64 f, .int .i64 g, .int .i64 h]] w fun e w' => e = .returned (.tuple #[.agg #[.int .i64 p, .int .i64 q, .int .i64 r, .int .i64 s], .bool ok]) ∧ Below w.heap.size w w')) :
    Calls Try.prog 4 #[.agg #[.int .i64 a, .int .i64 b, .int .i64 c, .int .i64 d], .agg #[.int .i64 e, .int .i64 f, .int .i64 g, .int .i64 h]] w fun e w' => e = .returned (.bool true) ∧ Below w.heap.size w w' := by
  go_enter Try.func4, Try.ntmps4
  go_upto_region 1 with fail
  obtain ⟨wa, hwa⟩ : ∃ wa, wa = (w.alloc (.cells #[.int .i64 a, .int .i64 b, .int .i64 c, .int .i64 d] 23)).alloc (.cells #[.int .i64 e, .int .i64 f, .int .i64 g, .int .i64 h] 23) := ⟨_, rfl⟩
  have A : Bx wa w.heap.size a b c d := by rw [hwa]; exact (Bx.new w _ a b c d).alloc _
  have B : Bx wa (w.heap.size + 1) e f g h := by rw [hwa]; simp [Bx, go_sem]
  have hd : Below w.heap.size w wa := by rw [hwa]; exact below2 _ _ _
  have hsz : w.heap.size + 2 = wa.heap.size := by rw [hwa]; simp
  rw [← hwa]
  clear hwa
  obtain ⟨ga, hga⟩ : ∃ ga, ga = w.heap.size := ⟨_, rfl⟩
  obtain ⟨gb, hgb⟩ : ∃ gb, gb = w.heap.size + 1 := ⟨_, rfl⟩
  have hA : Hid (Bx wa ga a b c d) := Lib.hid (by rw [hga]; exact A)
  have hB : Hid (Bx wa gb e f g h) := Lib.hid (by rw [hgb]; exact B)
  have hD := Lib.hid hd
  rw [← hgb, ← hga]
  have ya : ga < wa.heap.size := by omega
  have yb : gb < wa.heap.size := by omega
  have hS0 := Lib.hid (twoOf (w' := wa.drew) hA.out hB.out (Below.refl _ _).drew)
  have yw : w.heap.size ≤ wa.heap.size := by omega
  clear hgb hga A B hd hsz
  go_cut [5, 6] (fun s5 s6 wx => ∃ gr, wa.heap.size ≤ gr ∧ s5 = .pointer (some ⟨gr, 0, none⟩) ∧ s6 = .bool ok ∧ Bx wx gr p q r s ∧ Below wa.heap.size wa wx)
  case first =>
    go_region_held3 (fun w' => w'.cell? ⟨ga, 0, none⟩ = some (.int .i64 a) ∧ w'.cell? ⟨ga, 1, none⟩ = some (.int .i64 b) ∧ w'.cell? ⟨ga, 2, none⟩ = some (.int .i64 c) ∧ w'.cell? ⟨ga, 3, none⟩ = some (.int .i64 d) ∧
        w'.cell? ⟨gb, 0, none⟩ = some (.int .i64 e) ∧ w'.cell? ⟨gb, 1, none⟩ = some (.int .i64 f) ∧ w'.cell? ⟨gb, 2, none⟩ = some (.int .i64 g) ∧ w'.cell? ⟨gb, 3, none⟩ = some (.int .i64 h) ∧ Below wa.heap.size wa w')
      (first
        | with_reducible exact hS0.out
        | with_reducible exact twoOf hA.out hB.out D1
        | with_reducible exact twoOf hA.out hB.out (below_alloc1 D1 (Nat.le_refl _) _)
        | with_reducible exact twoOf hA.out hB.out (below_alloc1 (Below.refl _ _) (Nat.le_refl _) _).drew
        | with_reducible exact twoOf hA.out hB.out (below_alloc1 (twoBelow hS0.out) (Nat.le_refl _) _)
        | with_reducible exact twoOf hA.out hB.out (below_set4 D1 (Nat.le_refl _))
        | with_reducible exact twoOf hA.out hB.out (below_set4 D1 (by assumption)))
      (first
        | (go_at_call 16; refine (laws_toMatrix _ _ _ _ _).mono ?_; rintro e w1 ⟨rfl, hb1⟩; (have D1 := below_kept (twoBelow (by assumption)) (Nat.le_refl _) hb1); (have Z1 : wa.heap.size ≤ w1.heap.size := D1.size); (first | (have X1 := (Zb.newd _ 25).kept hb1; have X2 := X1; obtain ⟨⟨x0, x1, x2, x3⟩, ⟨f0, f1, f2, f3⟩⟩ := X2) | (have X1 := (Zb.new _ 25).kept hb1; have X2 := X1; obtain ⟨⟨x0, x1, x2, x3⟩, ⟨f0, f1, f2, f3⟩⟩ := X2) | (have X1 := Zb.kept (by assumption) hb1; have X2 := X1; obtain ⟨⟨x0, x1, x2, x3⟩, ⟨f0, f1, f2, f3⟩⟩ := X2) | skip))
        | (go_at_call 18; refine (hs.out _).mono ?_; rintro e w1 ⟨rfl, hb1⟩; (have D1 := below_kept (twoBelow (by assumption)) (Nat.le_refl _) hb1); (have Z1 : wa.heap.size ≤ w1.heap.size := D1.size); (first | (have X1 := (Zb.newd _ 25).kept hb1; have X2 := X1; obtain ⟨⟨x0, x1, x2, x3⟩, ⟨f0, f1, f2, f3⟩⟩ := X2) | (have X1 := (Zb.new _ 25).kept hb1; have X2 := X1; obtain ⟨⟨x0, x1, x2, x3⟩, ⟨f0, f1, f2, f3⟩⟩ := X2) | (have X1 := Zb.kept (by assumption) hb1; have X2 := X1; obtain ⟨⟨x0, x1, x2, x3⟩, ⟨f0, f1, f2, f3⟩⟩ := X2) | skip)))
    all_goals go_wp2_with fail
    all_goals go_meet
    all_goals refine ⟨_, ?_, rfl, rfl, ?_, ?_⟩
    all_goals first
      | with_reducible exact D1.size
      | with_reducible exact Nat.le_refl _
      | with_reducible assumption
      | with_reducible exact Bx.new _ _ p q r s
      | with_reducible exact bx_set4 X1.bx p q r s
      | with_reducible exact below_alloc1 D1 (Nat.le_refl _) _
      | with_reducible exact below_set4 D1 (Nat.le_refl _)
      | with_reducible exact below_set4 D1 (by assumption)
  case rest =>
    obtain ⟨gr, hgr, rfl, rfl, S, hd⟩ := hcut
    obtain ⟨wb, hwb⟩ : ∃ wb, wb = wc := ⟨_, rfl⟩
    subst hwb
    have hA2 := Lib.hid (hA.out.kept hd)
    have hB2 := Lib.hid (hB.out.kept hd)
    have hR2 := Lib.hid S
    have hD2 := Lib.hid (hD.out.trans (hd.mono yw))
    have zb := hd.size
    have ya2 : ga < wb.heap.size := by omega
    have yb2 : gb < wb.heap.size := by omega
    have yr2 : gr < wb.heap.size := S.lt
    have yw2 : w.heap.size ≤ wb.heap.size := by omega
    have hS2 := Lib.hid (twoOf (w' := wb.drew) hA2.out hB2.out (Below.refl _ _).drew)
    clear hd S hs hA hB hD hS0 ya yb yw zb hgr
    go_upto_region 2 with fail
    go_cut [7, 8] (fun s7 s8 wx => ∃ gi, wb.heap.size ≤ gi ∧ s7 = .pointer (some ⟨gi, 0, none⟩) ∧ s8 = .bool ok ∧ Bx wx gi p q r s ∧ Below wb.heap.size wb wx)
    case first =>
      go_region_held3 (fun w' => w'.cell? ⟨ga, 0, none⟩ = some (.int .i64 a) ∧ w'.cell? ⟨ga, 1, none⟩ = some (.int .i64 b) ∧ w'.cell? ⟨ga, 2, none⟩ = some (.int .i64 c) ∧ w'.cell? ⟨ga, 3, none⟩ = some (.int .i64 d) ∧
          w'.cell? ⟨gb, 0, none⟩ = some (.int .i64 e) ∧ w'.cell? ⟨gb, 1, none⟩ = some (.int .i64 f) ∧ w'.cell? ⟨gb, 2, none⟩ = some (.int .i64 g) ∧ w'.cell? ⟨gb, 3, none⟩ = some (.int .i64 h) ∧ Below wb.heap.size wb w')
        (first
          | with_reducible exact hS2.out
          | with_reducible exact twoOf hA2.out hB2.out D1
          | with_reducible exact twoOf hA2.out hB2.out (below_alloc1 D1 (Nat.le_refl _) _)
          | with_reducible exact twoOf hA2.out hB2.out (below_alloc1 (Below.refl _ _) (Nat.le_refl _) _).drew
          | with_reducible exact twoOf hA2.out hB2.out (below_alloc1 (twoBelow hS2.out) (Nat.le_refl _) _)
          | with_reducible exact twoOf hA2.out hB2.out (below_set4 D1 (Nat.le_refl _))
          | with_reducible exact twoOf hA2.out hB2.out (below_set4 D1 (by assumption)))
        (first
          | (go_at_call 16; refine (laws_toMatrix _ _ _ _ _).mono ?_; rintro e w1 ⟨rfl, hb1⟩; (have D1 := below_kept (twoBelow (by assumption)) (Nat.le_refl _) hb1); (have Z1 : wb.heap.size ≤ w1.heap.size := D1.size); (first | (have X1 := (Zb.newd _ 25).kept hb1; have X2 := X1; obtain ⟨⟨x0, x1, x2, x3⟩, ⟨f0, f1, f2, f3⟩⟩ := X2) | (have X1 := (Zb.new _ 25).kept hb1; have X2 := X1; obtain ⟨⟨x0, x1, x2, x3⟩, ⟨f0, f1, f2, f3⟩⟩ := X2) | (have X1 := Zb.kept (by assumption) hb1; have X2 := X1; obtain ⟨⟨x0, x1, x2, x3⟩, ⟨f0, f1, f2, f3⟩⟩ := X2) | skip))
          | (go_at_call 19; refine (hi.out _).mono ?_; rintro e w1 ⟨rfl, hb1⟩; (have D1 := below_kept (twoBelow (by assumption)) (Nat.le_refl _) hb1); (have Z1 : wb.heap.size ≤ w1.heap.size := D1.size); (first | (have X1 := (Zb.newd _ 25).kept hb1; have X2 := X1; obtain ⟨⟨x0, x1, x2, x3⟩, ⟨f0, f1, f2, f3⟩⟩ := X2) | (have X1 := (Zb.new _ 25).kept hb1; have X2 := X1; obtain ⟨⟨x0, x1, x2, x3⟩, ⟨f0, f1, f2, f3⟩⟩ := X2) | (have X1 := Zb.kept (by assumption) hb1; have X2 := X1; obtain ⟨⟨x0, x1, x2, x3⟩, ⟨f0, f1, f2, f3⟩⟩ := X2) | skip)))
      all_goals go_wp2_with fail
      all_goals go_meet
      all_goals refine ⟨_, ?_, rfl, rfl, ?_, ?_⟩
      all_goals first
        | with_reducible exact D1.size
        | with_reducible exact Nat.le_refl _
        | with_reducible assumption
        | with_reducible exact Bx.new _ _ p q r s
        | with_reducible exact bx_set4 X1.bx p q r s
        | with_reducible exact below_alloc1 D1 (Nat.le_refl _) _
        | with_reducible exact below_set4 D1 (Nat.le_refl _)
        | with_reducible exact below_set4 D1 (by assumption)
    case rest =>
      obtain ⟨gi, hgi, rfl, rfl, I, hd⟩ := hcut
      have R := hR2.out.kept hd
      have hD3 := Lib.hid (hD2.out.trans (hd.mono yw2))
      have yi := I.lt
      have yr := R.lt
      obtain ⟨i0, i1, i2, i3⟩ := I
      obtain ⟨r0, r1, r2, r3⟩ := R
      clear hd hA2 hB2 hR2 hD2 hS2 hi ya2 yb2 yr2 hgi
      go_wp2_with fail
      refine (laws_eqMatrix_same p q r s _).mono ?_
      rintro e wz ⟨rfl, hb⟩
      have hE := Lib.hid (below_kept hD3.out (Nat.le_refl _) hb)
      clear hb i0 i1 i2 i3 r0 r1 r2 r3 yi yr
      go_wp2
      go_ret
      exact ⟨rfl, hE.out⟩
end Go.Proofs.Ytfffnkbjhbaceaa
