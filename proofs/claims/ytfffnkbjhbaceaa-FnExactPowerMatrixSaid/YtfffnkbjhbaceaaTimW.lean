/- TimesMatrix: the model's and the program's contracts, and the law's walk. -/
import Derived.Test.YtfffnkbjhbaceaaTimesMatrixC
namespace Go.Proofs.Ytfffnkbjhbaceaa
set_option linter.unusedVariables false
open Go.RowKit

theorem below3 (w : World) (x y z : Obj) : Below w.heap.size w (((w.alloc x).alloc y).alloc z) := (below2 w x y).alloc (by simp; omega) _
/-- a matrix comes back, if it is one -/
def RetMx (m : M4) (w : World) (e : Ending) (w' : World) : Prop := e = .returned (.tuple #[.agg #[.int .i64 m.fit.a, .int .i64 m.fit.b, .int .i64 m.fit.c, .int .i64 m.fit.d], .bool m.ok]) ∧ Below w.heap.size w w'
theorem retMx_no {m : M4} {w w' : World} (h : m.ok = false) (hb : Below w.heap.size w w') : RetMx m w (.returned (.tuple #[.agg #[.int .i64 0, .int .i64 0, .int .i64 0, .int .i64 0], .bool false])) w' := by
  unfold RetMx; rw [M4.fit_no h, h]; exact ⟨rfl, hb⟩
theorem retMx_yes {m : M4} {p q r s : Int} {w w' : World} (e : m = ⟨p, q, r, s⟩) (h : m.ok = true) (hb : Below w.heap.size w w') : RetMx m w (.returned (.tuple #[.agg #[.int .i64 p, .int .i64 q, .int .i64 r, .int .i64 s], .bool true])) w' := by
  unfold RetMx; rw [M4.fit_yes h, h, e]; exact ⟨rfl, hb⟩
theorem retMx_any {m : M4} {w w' : World} (hb : Below w.heap.size w w') : RetMx m w (.returned (.tuple #[.agg #[.int .i64 m.fit.a, .int .i64 m.fit.b, .int .i64 m.fit.c, .int .i64 m.fit.d], .bool m.ok])) w' := ⟨rfl, hb⟩
theorem spec_mxIf (m : M4) (w : World) : Calls Try.prog 46 #[.agg #[.int .i64 m.a, .int .i64 m.b, .int .i64 m.c, .int .i64 m.d]] w (RetMx m w) := by
  obtain ⟨a, b, c, d⟩ := m
  cases h : (M4.mk a b c d).ok
  · exact (spec_mxIf_no a b c d w h).mono fun _ _ ⟨e, hb⟩ => e ▸ retMx_no h hb
  · exact (spec_mxIf_yes a b c d w h).mono fun _ _ ⟨e, hb⟩ => e ▸ retMx_yes rfl h hb
theorem impl_matrixOf (m : M4) (w : World) : Calls Try.prog 48 #[.agg #[.int .i64 m.a, .int .i64 m.b, .int .i64 m.c, .int .i64 m.d]] w (RetMx m w) := by
  obtain ⟨a, b, c, d⟩ := m
  cases h : (M4.mk a b c d).ok
  · exact (impl_matrixOf_no a b c d w h).mono fun _ _ ⟨e, hb⟩ => e ▸ retMx_no h hb
  · exact (impl_matrixOf_yes a b c d w h).mono fun _ _ ⟨e, hb⟩ => e ▸ retMx_yes rfl h hb
theorem spec_mxIf_as (m F : M4) (ok : Bool) (hF : m.fit = F) (hk : m.ok = ok) (w : World) : Calls Try.prog 46 #[.agg #[.int .i64 m.a, .int .i64 m.b, .int .i64 m.c, .int .i64 m.d]] w fun r w' => r = .returned (.tuple #[.agg #[.int .i64 F.a, .int .i64 F.b, .int .i64 F.c, .int .i64 F.d], .bool ok]) ∧ Below w.heap.size w w' := by
  subst hF hk
  exact spec_mxIf m w
theorem impl_matrixOf_as (m F : M4) (ok : Bool) (hF : m.fit = F) (hk : m.ok = ok) (w : World) : Calls Try.prog 48 #[.agg #[.int .i64 m.a, .int .i64 m.b, .int .i64 m.c, .int .i64 m.d]] w fun r w' => r = .returned (.tuple #[.agg #[.int .i64 F.a, .int .i64 F.b, .int .i64 F.c, .int .i64 F.d], .bool ok]) ∧ Below w.heap.size w w' := by
  subst hF hk
  exact impl_matrixOf m w
theorem spec_TimesMatrix_no1 (a b c d e f g h : Int) (w : World) (h1 : mxB a b c d = false) : Calls Try.prog 18 #[.agg #[.int .i64 a, .int .i64 b, .int .i64 c, .int .i64 d], .agg #[.int .i64 e, .int .i64 f, .int .i64 g, .int .i64 h]] w fun r w' => r = .returned (.tuple #[.agg #[.int .i64 0, .int .i64 0, .int .i64 0, .int .i64 0], .bool false]) ∧ Below w.heap.size w w' := by
  have hc := spec_mxGood a b c d
  rw [h1] at hc
  have Hc := Lib.hid hc
  clear hc h1
  go_enter Try.func18, Try.ntmps18
  go_wp2_with fail
  refine (Hc.out _).mono ?_
  rintro e w1 ⟨rfl, hb1⟩
  obtain ⟨hc1, hf1, hz1⟩ := bcell hb1
  have hy1_2 : w.heap.size + 2 < w1.heap.size := by simp at hz1; omega
  have hy1_1 : w.heap.size + 1 < w1.heap.size := by omega
  have hy1_0 : w.heap.size < w1.heap.size := by omega
  have hd := (below3 w _ _ _).trans (hb1.mono (by simp; omega))
  clear hb1
  clear Hc
  go_wp2
  exact bodyPost_ret (v := .tuple #[.agg #[.int .i64 0, .int .i64 0, .int .i64 0, .int .i64 0], .bool false]) (by simp [results, Try.results18, go_sem, hc1, hf1, hy1_0, hy1_1, hy1_2]) rfl ⟨rfl, below_set4 hd (by omega)⟩
theorem spec_TimesMatrix_no2 (a b c d e f g h : Int) (w : World) (h1 : mxB a b c d = true) (h2 : mxB e f g h = false) : Calls Try.prog 18 #[.agg #[.int .i64 a, .int .i64 b, .int .i64 c, .int .i64 d], .agg #[.int .i64 e, .int .i64 f, .int .i64 g, .int .i64 h]] w fun r w' => r = .returned (.tuple #[.agg #[.int .i64 0, .int .i64 0, .int .i64 0, .int .i64 0], .bool false]) ∧ Below w.heap.size w w' := by
  have hc := spec_mxGood a b c d
  rw [h1] at hc
  have Hc := Lib.hid hc
  clear hc h1
  have hc := spec_mxGood e f g h
  rw [h2] at hc
  have Hk := Lib.hid hc
  clear hc h2
  go_enter Try.func18, Try.ntmps18
  go_wp2_with fail
  refine (Hc.out _).mono ?_
  rintro e w1 ⟨rfl, hb1⟩
  obtain ⟨hc1, hf1, hz1⟩ := bcell hb1
  have hy1_2 : w.heap.size + 2 < w1.heap.size := by simp at hz1; omega
  have hy1_1 : w.heap.size + 1 < w1.heap.size := by omega
  have hy1_0 : w.heap.size < w1.heap.size := by omega
  have hd := (below3 w _ _ _).trans (hb1.mono (by simp; omega))
  clear hb1
  go_wp2_with fail
  refine (Hk.out _).mono ?_
  rintro e w2 ⟨rfl, hb2⟩
  obtain ⟨hc2, hf2, hz2⟩ := bcell hb2
  have hy2_2 : w.heap.size + 2 < w2.heap.size := by omega
  have hy2_1 : w.heap.size + 1 < w2.heap.size := by omega
  have hy2_0 : w.heap.size < w2.heap.size := by omega
  replace hd := below_kept hd (Nat.le_refl _) hb2
  clear hb2
  clear Hc Hk
  go_wp2
  exact bodyPost_ret (v := .tuple #[.agg #[.int .i64 0, .int .i64 0, .int .i64 0, .int .i64 0], .bool false]) (by simp [results, Try.results18, go_sem, hc1, hf1, hy1_0, hy1_1, hy1_2, hc2, hf2, hy2_0, hy2_1, hy2_2]) rfl ⟨rfl, below_set4 hd (by omega)⟩
theorem impl_TimesMatrix_no1 (a b c d e f g h : Int) (w : World) (h1 : mxB a b c d = false) : Calls Try.prog 19 #[.agg #[.int .i64 a, .int .i64 b, .int .i64 c, .int .i64 d], .agg #[.int .i64 e, .int .i64 f, .int .i64 g, .int .i64 h]] w fun r w' => r = .returned (.tuple #[.agg #[.int .i64 0, .int .i64 0, .int .i64 0, .int .i64 0], .bool false]) ∧ Below w.heap.size w w' := by
  have hc := impl_IsMatrix a b c d
  rw [h1] at hc
  have Hc := Lib.hid hc
  clear hc h1
  go_enter Try.func19, Try.ntmps19
  go_wp2_with fail
  refine (Hc.out _).mono ?_
  rintro e w1 ⟨rfl, hb1⟩
  obtain ⟨hc1, hf1, hz1⟩ := bcell hb1
  have hy1_2 : w.heap.size + 2 < w1.heap.size := by simp at hz1; omega
  have hy1_1 : w.heap.size + 1 < w1.heap.size := by omega
  have hy1_0 : w.heap.size < w1.heap.size := by omega
  have hd := (below3 w _ _ _).trans (hb1.mono (by simp; omega))
  clear hb1
  clear Hc
  go_wp2
  exact bodyPost_ret (v := .tuple #[.agg #[.int .i64 0, .int .i64 0, .int .i64 0, .int .i64 0], .bool false]) (by simp [results, Try.results19, go_sem, hc1, hf1, hy1_0, hy1_1, hy1_2]) rfl ⟨rfl, below_set4 hd (by omega)⟩
theorem impl_TimesMatrix_no2 (a b c d e f g h : Int) (w : World) (h1 : mxB a b c d = true) (h2 : mxB e f g h = false) : Calls Try.prog 19 #[.agg #[.int .i64 a, .int .i64 b, .int .i64 c, .int .i64 d], .agg #[.int .i64 e, .int .i64 f, .int .i64 g, .int .i64 h]] w fun r w' => r = .returned (.tuple #[.agg #[.int .i64 0, .int .i64 0, .int .i64 0, .int .i64 0], .bool false]) ∧ Below w.heap.size w w' := by
  have hc := impl_IsMatrix a b c d
  rw [h1] at hc
  have Hc := Lib.hid hc
  clear hc h1
  have hc := impl_IsMatrix e f g h
  rw [h2] at hc
  have Hk := Lib.hid hc
  clear hc h2
  go_enter Try.func19, Try.ntmps19
  go_wp2_with fail
  refine (Hc.out _).mono ?_
  rintro e w1 ⟨rfl, hb1⟩
  obtain ⟨hc1, hf1, hz1⟩ := bcell hb1
  have hy1_2 : w.heap.size + 2 < w1.heap.size := by simp at hz1; omega
  have hy1_1 : w.heap.size + 1 < w1.heap.size := by omega
  have hy1_0 : w.heap.size < w1.heap.size := by omega
  have hd := (below3 w _ _ _).trans (hb1.mono (by simp; omega))
  clear hb1
  go_wp2_with fail
  refine (Hk.out _).mono ?_
  rintro e w2 ⟨rfl, hb2⟩
  obtain ⟨hc2, hf2, hz2⟩ := bcell hb2
  have hy2_2 : w.heap.size + 2 < w2.heap.size := by omega
  have hy2_1 : w.heap.size + 1 < w2.heap.size := by omega
  have hy2_0 : w.heap.size < w2.heap.size := by omega
  replace hd := below_kept hd (Nat.le_refl _) hb2
  clear hb2
  clear Hc Hk
  go_wp2
  exact bodyPost_ret (v := .tuple #[.agg #[.int .i64 0, .int .i64 0, .int .i64 0, .int .i64 0], .bool false]) (by simp [results, Try.results19, go_sem, hc1, hf1, hy1_0, hy1_1, hy1_2, hc2, hf2, hy2_0, hy2_1, hy2_2]) rfl ⟨rfl, below_set4 hd (by omega)⟩
set_option maxHeartbeats 1600000 in
theorem spec_TimesMatrix_yes (a b c d e f g h : Int) (w : World) (h1 : mxB a b c d = true) (h2 : mxB e f g h = true) : Calls Try.prog 18 #[.agg #[.int .i64 a, .int .i64 b, .int .i64 c, .int .i64 d], .agg #[.int .i64 e, .int .i64 f, .int .i64 g, .int .i64 h]] w (RetMx (M4.mul ⟨a, b, c, d⟩ ⟨e, f, g, h⟩) w) := by
  have hc := spec_mxGood a b c d
  rw [h1] at hc
  have Hc := Lib.hid hc
  have hk := spec_mxGood e f g h
  rw [h2] at hk
  have Hk := Lib.hid hk
  have Ht := Lib.hid (fun w => spec_mxTimes a b c d e f g h 1000000000 1000000000 w (M4.ok_in (m := ⟨a, b, c, d⟩) h1) (M4.ok_in (m := ⟨e, f, g, h⟩) h2) (by omega))
  have hE2 : M4.mul ⟨a, b, c, d⟩ ⟨e, f, g, h⟩ = ⟨a * e + b * g, a * f + b * h, c * e + d * g, c * f + d * h⟩ := rfl
  rw [hE2]
  clear hc hk h1 h2 hE2
  generalize a * e + b * g = p at *
  generalize a * f + b * h = q at *
  generalize c * e + d * g = r at *
  generalize c * f + d * h = s at *
  obtain ⟨okm, hok⟩ : ∃ x, (M4.mk p q r s).ok = x := ⟨_, rfl⟩
  obtain ⟨F, hF⟩ : ∃ x, (M4.mk p q r s).fit = x := ⟨_, rfl⟩
  have Hm := Lib.hid (fun w => spec_mxIf_as ⟨p, q, r, s⟩ F okm hF hok w)
  have HE := Lib.hid (fun w' (hb : Below w.heap.size w w') => retMx_any (m := ⟨p, q, r, s⟩) hb)
  rw [hF, hok] at HE
  clear hF hok
  go_enter Try.func18, Try.ntmps18
  go_wp2_with fail
  refine (Hc.out _).mono ?_
  rintro e w1 ⟨rfl, hb1⟩
  obtain ⟨hc1, hf1, hz1⟩ := bcell hb1
  have hy1_2 : w.heap.size + 2 < w1.heap.size := by simp at hz1; omega
  have hy1_1 : w.heap.size + 1 < w1.heap.size := by omega
  have hy1_0 : w.heap.size < w1.heap.size := by omega
  have hd := (below3 w _ _ _).trans (hb1.mono (by simp; omega))
  clear hb1
  go_wp2_with fail
  refine (Hk.out _).mono ?_
  rintro e w2 ⟨rfl, hb2⟩
  obtain ⟨hc2, hf2, hz2⟩ := bcell hb2
  have hy2_2 : w.heap.size + 2 < w2.heap.size := by omega
  have hy2_1 : w.heap.size + 1 < w2.heap.size := by omega
  have hy2_0 : w.heap.size < w2.heap.size := by omega
  replace hd := below_kept hd (Nat.le_refl _) hb2
  clear hb2
  go_wp2_with fail
  refine (Ht.out _).mono ?_
  rintro e w3 ⟨rfl, hb3⟩
  obtain ⟨hc3, hf3, hz3⟩ := bcell hb3
  have hy3_2 : w.heap.size + 2 < w3.heap.size := by omega
  have hy3_1 : w.heap.size + 1 < w3.heap.size := by omega
  have hy3_0 : w.heap.size < w3.heap.size := by omega
  replace hd := below_kept hd (Nat.le_refl _) hb3
  clear hb3
  go_wp2_with fail
  refine (Hm.out _).mono ?_
  rintro e w4 ⟨rfl, hb4⟩
  obtain ⟨hc4, hf4, hz4⟩ := bcell hb4
  have hy4_2 : w.heap.size + 2 < w4.heap.size := by omega
  have hy4_1 : w.heap.size + 1 < w4.heap.size := by omega
  have hy4_0 : w.heap.size < w4.heap.size := by omega
  replace hd := below_kept hd (Nat.le_refl _) hb4
  clear hb4
  clear Hc Hk Ht Hm
  go_wp2
  refine bodyPost_ret (v := .tuple #[.agg #[.int .i64 F.a, .int .i64 F.b, .int .i64 F.c, .int .i64 F.d], .bool okm]) ?hr rfl ?hR
  case hr => simp [results, Try.results18, go_sem, hc1, hf1, hy1_0, hy1_1, hy1_2, hc2, hf2, hy2_0, hy2_1, hy2_2, hc3, hf3, hy3_0, hy3_1, hy3_2, hc4, hf4, hy4_0, hy4_1, hy4_2]
  case hR => exact HE.out _ (below_set4 hd (by omega))
theorem twoIn {w wa w' : World} {ga gb : Nat} {a b c d e f g h : Int} (hA : Bx wa ga a b c d) (hB : Bx wa gb e f g h) (hd : Below w.heap.size w wa) (hw : w.heap.size ≤ wa.heap.size) (hb : Below wa.heap.size wa w') :
    w'.cell? ⟨ga, 0, none⟩ = some (.int .i64 a) ∧ w'.cell? ⟨ga, 1, none⟩ = some (.int .i64 b) ∧ w'.cell? ⟨ga, 2, none⟩ = some (.int .i64 c) ∧ w'.cell? ⟨ga, 3, none⟩ = some (.int .i64 d) ∧
      w'.cell? ⟨gb, 0, none⟩ = some (.int .i64 e) ∧ w'.cell? ⟨gb, 1, none⟩ = some (.int .i64 f) ∧ w'.cell? ⟨gb, 2, none⟩ = some (.int .i64 g) ∧ w'.cell? ⟨gb, 3, none⟩ = some (.int .i64 h) ∧ Below w.heap.size w w' := by
  obtain ⟨a0, a1, a2, a3⟩ := hA.kept hb
  obtain ⟨b0, b1, b2, b3⟩ := hB.kept hb
  exact ⟨a0, a1, a2, a3, b0, b1, b2, b3, hd.trans (hb.mono hw)⟩
theorem twoSet {w wa w' : World} {ga gb gr : Nat} {a b c d e f g h x0 x1 x2 x3 : Int} (hA : Bx wa ga a b c d) (hB : Bx wa gb e f g h) (hd : Below w.heap.size w wa) (hw : w.heap.size ≤ wa.heap.size) (hb : Below wa.heap.size wa w')
    (ha : ga ≠ gr) (hb2 : gb ≠ gr) (hr : w.heap.size ≤ gr) :
    ((((w'.setCell ⟨gr, 0, none⟩ (.int .i64 x0)).setCell ⟨gr, 1, none⟩ (.int .i64 x1)).setCell ⟨gr, 2, none⟩ (.int .i64 x2)).setCell ⟨gr, 3, none⟩ (.int .i64 x3)).cell? ⟨ga, 0, none⟩ = some (.int .i64 a) ∧
    ((((w'.setCell ⟨gr, 0, none⟩ (.int .i64 x0)).setCell ⟨gr, 1, none⟩ (.int .i64 x1)).setCell ⟨gr, 2, none⟩ (.int .i64 x2)).setCell ⟨gr, 3, none⟩ (.int .i64 x3)).cell? ⟨ga, 1, none⟩ = some (.int .i64 b) ∧
    ((((w'.setCell ⟨gr, 0, none⟩ (.int .i64 x0)).setCell ⟨gr, 1, none⟩ (.int .i64 x1)).setCell ⟨gr, 2, none⟩ (.int .i64 x2)).setCell ⟨gr, 3, none⟩ (.int .i64 x3)).cell? ⟨ga, 2, none⟩ = some (.int .i64 c) ∧
    ((((w'.setCell ⟨gr, 0, none⟩ (.int .i64 x0)).setCell ⟨gr, 1, none⟩ (.int .i64 x1)).setCell ⟨gr, 2, none⟩ (.int .i64 x2)).setCell ⟨gr, 3, none⟩ (.int .i64 x3)).cell? ⟨ga, 3, none⟩ = some (.int .i64 d) ∧
    ((((w'.setCell ⟨gr, 0, none⟩ (.int .i64 x0)).setCell ⟨gr, 1, none⟩ (.int .i64 x1)).setCell ⟨gr, 2, none⟩ (.int .i64 x2)).setCell ⟨gr, 3, none⟩ (.int .i64 x3)).cell? ⟨gb, 0, none⟩ = some (.int .i64 e) ∧
    ((((w'.setCell ⟨gr, 0, none⟩ (.int .i64 x0)).setCell ⟨gr, 1, none⟩ (.int .i64 x1)).setCell ⟨gr, 2, none⟩ (.int .i64 x2)).setCell ⟨gr, 3, none⟩ (.int .i64 x3)).cell? ⟨gb, 1, none⟩ = some (.int .i64 f) ∧
    ((((w'.setCell ⟨gr, 0, none⟩ (.int .i64 x0)).setCell ⟨gr, 1, none⟩ (.int .i64 x1)).setCell ⟨gr, 2, none⟩ (.int .i64 x2)).setCell ⟨gr, 3, none⟩ (.int .i64 x3)).cell? ⟨gb, 2, none⟩ = some (.int .i64 g) ∧
    ((((w'.setCell ⟨gr, 0, none⟩ (.int .i64 x0)).setCell ⟨gr, 1, none⟩ (.int .i64 x1)).setCell ⟨gr, 2, none⟩ (.int .i64 x2)).setCell ⟨gr, 3, none⟩ (.int .i64 x3)).cell? ⟨gb, 3, none⟩ = some (.int .i64 h) ∧
    Below w.heap.size w ((((w'.setCell ⟨gr, 0, none⟩ (.int .i64 x0)).setCell ⟨gr, 1, none⟩ (.int .i64 x1)).setCell ⟨gr, 2, none⟩ (.int .i64 x2)).setCell ⟨gr, 3, none⟩ (.int .i64 x3)) := by
  obtain ⟨a0, a1, a2, a3⟩ := bx_sto4_far (hA.kept hb) ha x0 x1 x2 x3
  obtain ⟨b0, b1, b2, b3⟩ := bx_sto4_far (hB.kept hb) hb2 x0 x1 x2 x3
  exact ⟨a0, a1, a2, a3, b0, b1, b2, b3, below_set4 (hd.trans (hb.mono hw)) hr⟩
/-- squares in a slice that has just been made -/
theorem slq_two (w : World) (t : TypeId) (a b c d e f g h : Int) : SlQ (w.alloc (.cells #[.int .i64 a, .int .i64 b, .int .i64 c, .int .i64 d, .int .i64 e, .int .i64 f, .int .i64 g, .int .i64 h] t)) (w.heap.size + 1) (some ⟨w.heap.size, 0, none⟩) [⟨a, b, c, d⟩, ⟨e, f, g, h⟩] := fun _ => ⟨_, _, rfl, by omega, fun j hj => by
  have h2 : j = 0 ∨ j = 1 := by simp at hj; omega
  rcases h2 with rfl | rfl <;> simp [go_sem]⟩
theorem impl_mulTwo (a b c d e f g h : Int) (w : World) (t : TypeId) (h1 : mxB a b c d = true) (h2 : mxB e f g h = true) :
    Calls Try.prog 49 #[.func (.func 50) #[] #[], .slice (some ⟨w.heap.size, 0, none⟩) 2 2] (w.alloc (.cells #[.int .i64 a, .int .i64 b, .int .i64 c, .int .i64 d, .int .i64 e, .int .i64 f, .int .i64 g, .int .i64 h] t))
      (RetQ (M4.mul ⟨a, b, c, d⟩ ⟨e, f, g, h⟩) (w.alloc (.cells #[.int .i64 a, .int .i64 b, .int .i64 c, .int .i64 d, .int .i64 e, .int .i64 f, .int .i64 g, .int .i64 h] t))) := by
  have hr := impl_mulAll_T (some ⟨w.heap.size, 0, none⟩) 2 2 (w.heap.size + 1) [⟨a, b, c, d⟩, ⟨e, f, g, h⟩] _ rfl (slq_two w t a b c d e f g h) (by simp) (by omega) (fun k hk => by
    have hk2 : k = 0 ∨ k = 1 := by simp at hk; omega
    rcases hk2 with rfl | rfl
    · exact ⟨1, 1000000000, M4.one_in, M4.ok_in (m := ⟨a, b, c, d⟩) h1, by omega⟩
    · refine ⟨1000000000, 1000000000, ?_, M4.ok_in (m := ⟨e, f, g, h⟩) h2, by omega⟩
      have e : prodF M4.mul (List.take 1 [⟨a, b, c, d⟩, ⟨e, f, g, h⟩]) = ⟨a, b, c, d⟩ := M4.one_mul _
      rw [e]
      exact M4.ok_in (m := ⟨a, b, c, d⟩) h1)
  have e : prodF M4.mul [⟨a, b, c, d⟩, ⟨e, f, g, h⟩] = M4.mul ⟨a, b, c, d⟩ ⟨e, f, g, h⟩ := by
    show (M4.one.mul _).mul _ = _
    rw [M4.one_mul]
  rw [e] at hr
  exact hr
set_option maxHeartbeats 1600000 in
theorem impl_TimesMatrix_yes (a b c d e f g h : Int) (w : World) (h1 : mxB a b c d = true) (h2 : mxB e f g h = true) : Calls Try.prog 19 #[.agg #[.int .i64 a, .int .i64 b, .int .i64 c, .int .i64 d], .agg #[.int .i64 e, .int .i64 f, .int .i64 g, .int .i64 h]] w (RetMx (M4.mul ⟨a, b, c, d⟩ ⟨e, f, g, h⟩) w) := by
  have hc := impl_IsMatrix a b c d
  rw [h1] at hc
  have Hc := Lib.hid hc
  have hk := impl_IsMatrix e f g h
  rw [h2] at hk
  have Hk := Lib.hid hk
  have Ht := Lib.hid (fun w t => impl_mulTwo a b c d e f g h w t h1 h2)
  clear hc hk h1 h2
  generalize M4.mul ⟨a, b, c, d⟩ ⟨e, f, g, h⟩ = R at *
  obtain ⟨okm, hok⟩ : ∃ x, R.ok = x := ⟨_, rfl⟩
  obtain ⟨F, hF⟩ : ∃ x, R.fit = x := ⟨_, rfl⟩
  have Hm := Lib.hid (fun w => impl_matrixOf_as R F okm hF hok w)
  have HE := Lib.hid (fun w' (hb : Below w.heap.size w w') => retMx_any (m := R) hb)
  rw [hF, hok] at HE
  clear hF hok
  go_enter Try.func19, Try.ntmps19
  go_wp2_with fail
  have A := (show Bx (((w.alloc (.cells #[.int .i64 a, .int .i64 b, .int .i64 c, .int .i64 d] 25)).alloc (.cells #[.int .i64 e, .int .i64 f, .int .i64 g, .int .i64 h] 25)).alloc (.cells #[.int .i64 0, .int .i64 0, .int .i64 0, .int .i64 0] 25)) w.heap.size a b c d by simp [Bx, go_sem])
  have B := (show Bx (((w.alloc (.cells #[.int .i64 a, .int .i64 b, .int .i64 c, .int .i64 d] 25)).alloc (.cells #[.int .i64 e, .int .i64 f, .int .i64 g, .int .i64 h] 25)).alloc (.cells #[.int .i64 0, .int .i64 0, .int .i64 0, .int .i64 0] 25)) (w.heap.size + 1) e f g h by simp [Bx, go_sem])
  have R0 := (show Zb (((w.alloc (.cells #[.int .i64 a, .int .i64 b, .int .i64 c, .int .i64 d] 25)).alloc (.cells #[.int .i64 e, .int .i64 f, .int .i64 g, .int .i64 h] 25)).alloc (.cells #[.int .i64 0, .int .i64 0, .int .i64 0, .int .i64 0] 25)) (w.heap.size + 2) from (by have := Zb.new ((w.alloc (.cells #[.int .i64 a, .int .i64 b, .int .i64 c, .int .i64 d] 25)).alloc (.cells #[.int .i64 e, .int .i64 f, .int .i64 g, .int .i64 h] 25)) 25; simpa using this))
  refine (Hc.out _).mono ?_
  rintro e w1 ⟨rfl, hb1⟩
  obtain ⟨hc1, hf1, hz1⟩ := bcell hb1
  have hy1_2 : w.heap.size + 2 < w1.heap.size := by simp at hz1; omega
  have hy1_1 : w.heap.size + 1 < w1.heap.size := by omega
  have hy1_0 : w.heap.size < w1.heap.size := by omega
  have hd := (below3 w _ _ _).trans (hb1.mono (by simp; omega))
  replace A := A.kept hb1
  replace B := B.kept hb1
  replace R0 := R0.kept hb1
  clear hb1
  go_wp2_with fail
  refine (Hk.out _).mono ?_
  rintro e w2 ⟨rfl, hb2⟩
  obtain ⟨hc2, hf2, hz2⟩ := bcell hb2
  have hy2_2 : w.heap.size + 2 < w2.heap.size := by omega
  have hy2_1 : w.heap.size + 1 < w2.heap.size := by omega
  have hy2_0 : w.heap.size < w2.heap.size := by omega
  replace hd := below_kept hd (Nat.le_refl _) hb2
  replace A := Lib.hid (A.kept hb2)
  replace B := Lib.hid (B.kept hb2)
  replace R0 := Lib.hid (R0.kept hb2)
  clear hb2 Hc Hk
  obtain ⟨ga, hga⟩ : ∃ ga, ga = w.heap.size := ⟨_, rfl⟩
  obtain ⟨gb, hgb⟩ : ∃ gb, gb = w.heap.size + 1 := ⟨_, rfl⟩
  obtain ⟨gr, hgr⟩ : ∃ gr, gr = w.heap.size + 1 + 1 := ⟨_, rfl⟩
  have hR0 : Hid (Zb w2.drew gr) := Lib.hid (by rw [hgr]; exact R0.out)
  have hS0 := Lib.hid (twoIn (wa := w2) (w' := w2.drew) (ga := ga) (gb := gb) (by rw [hga]; exact A.out) (by rw [hgb]; exact B.out) hd (by omega) (Below.refl _ _).drew)
  have hA : Hid (Bx w2 ga a b c d) := Lib.hid (by rw [hga]; exact A.out)
  have hB : Hid (Bx w2 gb e f g h) := Lib.hid (by rw [hgb]; exact B.out)
  have hD := Lib.hid hd
  have yr : w.heap.size ≤ gr := by omega
  have ar : ga ≠ gr := by omega
  have br : gb ≠ gr := by omega
  have yw : w.heap.size ≤ w2.heap.size := by omega
  go_upto_region 3 with fail
  rw [← hgr, ← hgb, ← hga]
  clear hgr hgb hga A B R0 hd hc1 hf1 hz1 hc2 hf2 hz2 hy1_0 hy1_1 hy1_2 hy2_0 hy2_1 hy2_2
  go_region_held3 (fun w' => w'.cell? ⟨ga, 0, none⟩ = some (.int .i64 a) ∧ w'.cell? ⟨ga, 1, none⟩ = some (.int .i64 b) ∧ w'.cell? ⟨ga, 2, none⟩ = some (.int .i64 c) ∧ w'.cell? ⟨ga, 3, none⟩ = some (.int .i64 d) ∧
      w'.cell? ⟨gb, 0, none⟩ = some (.int .i64 e) ∧ w'.cell? ⟨gb, 1, none⟩ = some (.int .i64 f) ∧ w'.cell? ⟨gb, 2, none⟩ = some (.int .i64 g) ∧ w'.cell? ⟨gb, 3, none⟩ = some (.int .i64 h) ∧ Below w.heap.size w w')
    (first
      | with_reducible exact hS0.out
      | with_reducible exact twoIn hA.out hB.out hD.out yw D1
      | with_reducible exact twoIn hA.out hB.out hD.out yw (below_alloc1 D1 (Nat.le_refl _) _)
      | with_reducible exact twoSet hA.out hB.out hD.out yw D1 ar br yr)
    (first
      | (go_at_call 45; refine (impl_squareOf _ _ _ _ _).mono ?_; rintro e1 w1 ⟨rfl, hb1⟩; (first | (have D1 := below_kept (Below.refl w2.heap.size w2).drew (Nat.le_refl _) hb1) | (have D1 := below_kept (B := w2.heap.size) (w0 := w2) (by assumption) (Nat.le_refl _) hb1) | (have D1 := below_kept (below_alloc1 (B := w2.heap.size) (w0 := w2) (by assumption) (Nat.le_refl _) _) (Nat.le_refl _) hb1)); (first | (have X1 := hR0.out.kept hb1; have X2 := X1; obtain ⟨⟨x0, x1, x2, x3⟩, ⟨f0, f1, f2, f3⟩⟩ := X2) | (have X1 := Zb.kept (g := gr) (by assumption) hb1; have X2 := X1; obtain ⟨⟨x0, x1, x2, x3⟩, ⟨f0, f1, f2, f3⟩⟩ := X2) | (have X1 := Zb.kept (Zb.kept (g := gr) (by assumption) ((Below.refl _ _).alloc (Nat.le_refl _) _)) hb1; have X2 := X1; obtain ⟨⟨x0, x1, x2, x3⟩, ⟨f0, f1, f2, f3⟩⟩ := X2)))
      | (go_at_call 49; refine (Ht.out _ _).mono ?_; rintro e1 w1 ⟨rfl, hb1⟩; (first | (have D1 := below_kept (Below.refl w2.heap.size w2).drew (Nat.le_refl _) hb1) | (have D1 := below_kept (B := w2.heap.size) (w0 := w2) (by assumption) (Nat.le_refl _) hb1) | (have D1 := below_kept (below_alloc1 (B := w2.heap.size) (w0 := w2) (by assumption) (Nat.le_refl _) _) (Nat.le_refl _) hb1)); (first | (have X1 := hR0.out.kept hb1; have X2 := X1; obtain ⟨⟨x0, x1, x2, x3⟩, ⟨f0, f1, f2, f3⟩⟩ := X2) | (have X1 := Zb.kept (g := gr) (by assumption) hb1; have X2 := X1; obtain ⟨⟨x0, x1, x2, x3⟩, ⟨f0, f1, f2, f3⟩⟩ := X2) | (have X1 := Zb.kept (Zb.kept (g := gr) (by assumption) ((Below.refl _ _).alloc (Nat.le_refl _) _)) hb1; have X2 := X1; obtain ⟨⟨x0, x1, x2, x3⟩, ⟨f0, f1, f2, f3⟩⟩ := X2)))
      | (go_at_call 48; refine (Hm.out _).mono ?_; rintro e1 w1 ⟨rfl, hb1⟩; (first | (have D1 := below_kept (Below.refl w2.heap.size w2).drew (Nat.le_refl _) hb1) | (have D1 := below_kept (B := w2.heap.size) (w0 := w2) (by assumption) (Nat.le_refl _) hb1) | (have D1 := below_kept (below_alloc1 (B := w2.heap.size) (w0 := w2) (by assumption) (Nat.le_refl _) _) (Nat.le_refl _) hb1)); (first | (have X1 := hR0.out.kept hb1; have X2 := X1; obtain ⟨⟨x0, x1, x2, x3⟩, ⟨f0, f1, f2, f3⟩⟩ := X2) | (have X1 := Zb.kept (g := gr) (by assumption) hb1; have X2 := X1; obtain ⟨⟨x0, x1, x2, x3⟩, ⟨f0, f1, f2, f3⟩⟩ := X2) | (have X1 := Zb.kept (Zb.kept (g := gr) (by assumption) ((Below.refl _ _).alloc (Nat.le_refl _) _)) hb1; have X2 := X1; obtain ⟨⟨x0, x1, x2, x3⟩, ⟨f0, f1, f2, f3⟩⟩ := X2))))
  have hE := Lib.hid (below_set4 (x0 := .int .i64 F.a) (x1 := .int .i64 F.b) (x2 := .int .i64 F.c) (x3 := .int .i64 F.d) (below_kept hD.out (Nat.le_refl _) D1) yr)
  go_wp2
  refine bodyPost_ret (v := .tuple #[.agg #[.int .i64 F.a, .int .i64 F.b, .int .i64 F.c, .int .i64 F.d], .bool okm]) ?hr rfl ?hR
  case hr => simp [results, Try.results19, go_sem, x0, x1, x2, x3]
  case hR => exact HE.out _ hE.out
theorem WTimesMatrix.walk (w : World) (a b c d e f g h : Int) : Calls Try.prog 4 #[.agg #[.int .i64 a, .int .i64 b, .int .i64 c, .int .i64 d], .agg #[.int .i64 e, .int .i64 f, .int .i64 g, .int .i64 h]] w fun e w' => e = .returned (.bool true) ∧ Below w.heap.size w w' := by
  cases h1 : mxB a b c d
  · exact WTimesMatrix.core w a b c d e f g h 0 0 0 0 false (Lib.hid fun w => spec_TimesMatrix_no1 a b c d e f g h w h1) (Lib.hid fun w => impl_TimesMatrix_no1 a b c d e f g h w h1)
  · cases h2 : mxB e f g h
    · exact WTimesMatrix.core w a b c d e f g h 0 0 0 0 false (Lib.hid fun w => spec_TimesMatrix_no2 a b c d e f g h w h1 h2) (Lib.hid fun w => impl_TimesMatrix_no2 a b c d e f g h w h1 h2)
    · exact WTimesMatrix.core w a b c d e f g h _ _ _ _ _ (Lib.hid fun w => spec_TimesMatrix_yes a b c d e f g h w h1 h2) (Lib.hid fun w => impl_TimesMatrix_yes a b c d e f g h w h1 h2)
end Go.Proofs.Ytfffnkbjhbaceaa
