/- Mediants: the model's and the program's contracts. -/
import Derived.Test.YtaifgfmkkgndkaaNearW
import Derived.Deep.DeepCutAuto
namespace Go.Proofs.Ytaifgfmkkgndkaa
set_option linter.unusedVariables false
open Go.RowKit

theorem below_three (w : World) (x y z : Obj) : Below w.heap.size w (((w.alloc x).alloc y).alloc z) := (below_two w x y).alloc (by simp; omega) _
theorem spec_nbMediant (a b c d : Int) (w : World) (ha : Sm a) (hb : Sm b) (hc : Sm c) (hd : Sm d) :
    Calls Try.prog 55 #[.agg #[.int .i64 a, .int .i64 b], .agg #[.int .i64 c, .int .i64 d]] w fun e w' => e = .returned (.agg #[.int .i64 (a + c), .int .i64 (b + d)]) ∧ Below w.heap.size w w' := by
  unfold Sm at *
  go_enter Try.func55, Try.ntmps55
  go_wp2
  exact bodyPost_ret (v := .agg #[.int .i64 (a + c), .int .i64 (b + d)]) (by simp [results, Try.results55, go_sem]) rfl ⟨rfl, below_three _ _ _ _⟩
theorem impl_plus (a b c d : Int) (w : World) (ha : Sm a) (hb : Sm b) (hc : Sm c) (hd : Sm d) :
    Calls Try.prog 56 #[.agg #[.int .i64 a, .int .i64 b], .agg #[.int .i64 c, .int .i64 d]] w fun e w' => e = .returned (.agg #[.int .i64 (a + c), .int .i64 (b + d)]) ∧ Below w.heap.size w w' := by
  unfold Sm at *
  go_enter Try.func56, Try.ntmps56
  go_wp2
  exact bodyPost_ret (v := .agg #[.int .i64 (a + c), .int .i64 (b + d)]) (by simp [results, Try.results56, go_sem]) rfl ⟨rfl, below_three _ _ _ _⟩

def medOk (a b c d : Int) : Bool := okk a b c d && nearB a b c d && nbB (a + c) (b + d)
def medR (a b c d : Int) : Int × Int := if medOk a b c d = true then (a + c, b + d) else (0, 0)
theorem medR_no {a b c d : Int} (h : medOk a b c d = false) : medR a b c d = (0, 0) := if_neg (by rw [h]; simp)
theorem medR_yes {a b c d : Int} (h : medOk a b c d = true) : medR a b c d = (a + c, b + d) := if_pos h
/-- a fraction and a bool are told -/
def MedE (R : Int × Int) (ok : Bool) (w : World) (e : Ending) (w' : World) : Prop := e = .returned (.tuple #[.agg #[.int .i64 R.1, .int .i64 R.2], .bool ok]) ∧ Below w.heap.size w w'
theorem medE_no {a b c d : Int} {w w' : World} (h : medOk a b c d = false) (hb : Below w.heap.size w w') : MedE (medR a b c d) (medOk a b c d) w (.returned (.tuple #[.agg #[.int .i64 0, .int .i64 0], .bool false])) w' := by
  rw [medR_no h, h]; exact ⟨rfl, hb⟩
theorem medE_yes {a b c d : Int} {w w' : World} (h : medOk a b c d = true) (hb : Below w.heap.size w w') : MedE (medR a b c d) (medOk a b c d) w (.returned (.tuple #[.agg #[.int .i64 (a + c), .int .i64 (b + d)], .bool true])) w' := by
  rw [medR_yes h, h]; exact ⟨rfl, hb⟩
theorem below_setP {B g : Nat} {w0 w : World} {v0 v1 : Value} (h : Below B w0 w) (hg : B ≤ g) : Below B w0 ((w.setCell ⟨g, 0, none⟩ v0).setCell ⟨g, 1, none⟩ v1) := (h.setCell (p := ⟨g, 0, none⟩) hg v0).setCell (p := ⟨g, 1, none⟩) hg v1
/-- the box of a result, made behind those of two arguments -/
theorem resBox (w : World) (t s : TypeId) (a b c d : Int) : Bx2 (((w.alloc (.cells #[.int .i64 a, .int .i64 b] t)).alloc (.cells #[.int .i64 c, .int .i64 d] t)).alloc (.cells #[.int .i64 0, .int .i64 0] s)) (w.heap.size + 2) 0 0 := by
  have h := Bx2.new ((w.alloc (.cells #[.int .i64 a, .int .i64 b] t)).alloc (.cells #[.int .i64 c, .int .i64 d] t)) s 0 0
  simpa using h

set_option maxHeartbeats 1600000 in
theorem spec_MediantOf_0 (a b c d : Int) (w : World) (h1 : nbB a b = false) : Calls Try.prog 22 #[.agg #[.int .i64 a, .int .i64 b], .agg #[.int .i64 c, .int .i64 d]] w (MedE (medR a b c d) (medOk a b c d) w) := by
  have HE := Lib.hid (fun w' => @medE_no a b c d w w' (show medOk a b c d = false by unfold medOk okk; simp [h1]))
  have G1 := Lib.hid (spec_nbGood a b)
  rw [h1] at G1
  generalize medR a b c d = R at *
  generalize medOk a b c d = ok at *
  clear h1
  go_enter Try.func22, Try.ntmps22
  go_wp2_with fail
  refine (G1.out _).mono ?_
  rintro e w1 ⟨rfl, hb⟩
  have S := Lib.hid (((TwoB.start w 25 25 a b c d).alloc _).kept hb)
  have Z := Lib.hid ((resBox w 25 25 a b c d).kept hb)
  clear hb
  obtain ⟨⟨s0, s1, s2, s3⟩, _⟩ := id S.out
  obtain ⟨⟨z0, z1⟩, z2, z3⟩ := id Z.out
  have zl := Z.out.lt
  go_wp2
  exact bodyPost_ret (v := .tuple #[.agg #[.int .i64 0, .int .i64 0], .bool false]) (by simp [results, Try.results22, go_sem, z0, z1, z2, z3]) rfl (HE.out _ (below_setP S.out.2 (by omega)))
set_option maxHeartbeats 1600000 in
theorem spec_MediantOf_1 (a b c d : Int) (w : World) (h1 : nbB a b = true) (h2 : nbB c d = false) : Calls Try.prog 22 #[.agg #[.int .i64 a, .int .i64 b], .agg #[.int .i64 c, .int .i64 d]] w (MedE (medR a b c d) (medOk a b c d) w) := by
  have HE := Lib.hid (fun w' => @medE_no a b c d w w' (show medOk a b c d = false by unfold medOk okk; simp [h1, h2]))
  have G1 := Lib.hid (spec_nbGood a b)
  rw [h1] at G1
  have G2 := Lib.hid (spec_nbGood c d)
  rw [h2] at G2
  generalize medR a b c d = R at *
  generalize medOk a b c d = ok at *
  clear h1 h2
  go_enter Try.func22, Try.ntmps22
  go_wp2_with fail
  refine (G1.out _).mono ?_
  rintro e w1 ⟨rfl, hb⟩
  have S := Lib.hid (((TwoB.start w 25 25 a b c d).alloc _).kept hb)
  have Z := Lib.hid ((resBox w 25 25 a b c d).kept hb)
  clear hb
  obtain ⟨⟨s0, s1, s2, s3⟩, _⟩ := id S.out
  obtain ⟨⟨z0, z1⟩, z2, z3⟩ := id Z.out
  have zl := Z.out.lt
  go_wp2_with fail
  clear s0 s1 s2 s3 z0 z1 z2 z3 zl
  refine (G2.out _).mono ?_
  rintro e w2 ⟨rfl, hb⟩
  replace S := Lib.hid (S.out.kept hb)
  replace Z := Lib.hid (Z.out.kept hb)
  clear hb
  obtain ⟨⟨s0, s1, s2, s3⟩, _⟩ := id S.out
  obtain ⟨⟨z0, z1⟩, z2, z3⟩ := id Z.out
  have zl := Z.out.lt
  go_wp2
  exact bodyPost_ret (v := .tuple #[.agg #[.int .i64 0, .int .i64 0], .bool false]) (by simp [results, Try.results22, go_sem, z0, z1, z2, z3]) rfl (HE.out _ (below_setP S.out.2 (by omega)))
set_option maxHeartbeats 1600000 in
theorem spec_MediantOf_2 (a b c d : Int) (w : World) (h1 : nbB a b = true) (h2 : nbB c d = true) (h3 : nearB a b c d = false) : Calls Try.prog 22 #[.agg #[.int .i64 a, .int .i64 b], .agg #[.int .i64 c, .int .i64 d]] w (MedE (medR a b c d) (medOk a b c d) w) := by
  have HE := Lib.hid (fun w' => @medE_no a b c d w w' (show medOk a b c d = false by unfold medOk okk; simp [h1, h2, h3]))
  have G1 := Lib.hid (spec_nbGood a b)
  rw [h1] at G1
  have G2 := Lib.hid (spec_nbGood c d)
  rw [h2] at G2
  have B1 := nbB_sm h1
  have B2 := nbB_sm h2
  have G3 := Lib.hid (fun w => spec_nbNear a b c d w B1.1 B1.2 B2.1 B2.2)
  rw [h3] at G3
  generalize medR a b c d = R at *
  generalize medOk a b c d = ok at *
  clear h1 h2 h3 B1 B2
  go_enter Try.func22, Try.ntmps22
  go_wp2_with fail
  refine (G1.out _).mono ?_
  rintro e w1 ⟨rfl, hb⟩
  have S := Lib.hid (((TwoB.start w 25 25 a b c d).alloc _).kept hb)
  have Z := Lib.hid ((resBox w 25 25 a b c d).kept hb)
  clear hb
  obtain ⟨⟨s0, s1, s2, s3⟩, _⟩ := id S.out
  obtain ⟨⟨z0, z1⟩, z2, z3⟩ := id Z.out
  have zl := Z.out.lt
  go_wp2_with fail
  clear s0 s1 s2 s3 z0 z1 z2 z3 zl
  refine (G2.out _).mono ?_
  rintro e w2 ⟨rfl, hb⟩
  replace S := Lib.hid (S.out.kept hb)
  replace Z := Lib.hid (Z.out.kept hb)
  clear hb
  obtain ⟨⟨s0, s1, s2, s3⟩, _⟩ := id S.out
  obtain ⟨⟨z0, z1⟩, z2, z3⟩ := id Z.out
  have zl := Z.out.lt
  go_wp2_with fail
  clear s0 s1 s2 s3 z0 z1 z2 z3 zl
  refine (G3.out _).mono ?_
  rintro e w3 ⟨rfl, hb⟩
  replace S := Lib.hid (S.out.kept hb)
  replace Z := Lib.hid (Z.out.kept hb)
  clear hb
  obtain ⟨⟨s0, s1, s2, s3⟩, _⟩ := id S.out
  obtain ⟨⟨z0, z1⟩, z2, z3⟩ := id Z.out
  have zl := Z.out.lt
  go_wp2
  exact bodyPost_ret (v := .tuple #[.agg #[.int .i64 0, .int .i64 0], .bool false]) (by simp [results, Try.results22, go_sem, z0, z1, z2, z3]) rfl (HE.out _ (below_setP S.out.2 (by omega)))
set_option maxHeartbeats 1600000 in
theorem spec_MediantOf_3 (a b c d : Int) (w : World) (h1 : nbB a b = true) (h2 : nbB c d = true) (h3 : nearB a b c d = true) (h4 : nbB (a + c) (b + d) = false) : Calls Try.prog 22 #[.agg #[.int .i64 a, .int .i64 b], .agg #[.int .i64 c, .int .i64 d]] w (MedE (medR a b c d) (medOk a b c d) w) := by
  have HE := Lib.hid (fun w' => @medE_no a b c d w w' (show medOk a b c d = false by unfold medOk okk; simp [h1, h2, h3, h4]))
  have G1 := Lib.hid (spec_nbGood a b)
  rw [h1] at G1
  have G2 := Lib.hid (spec_nbGood c d)
  rw [h2] at G2
  have B1 := nbB_sm h1
  have B2 := nbB_sm h2
  have G3 := Lib.hid (fun w => spec_nbNear a b c d w B1.1 B1.2 B2.1 B2.2)
  rw [h3] at G3
  have GM := Lib.hid (fun w => spec_nbMediant a b c d w B1.1 B1.2 B2.1 B2.2)
  have G4 := Lib.hid (spec_nbGood (a + c) (b + d))
  rw [h4] at G4
  generalize medR a b c d = R at *
  generalize medOk a b c d = ok at *
  generalize a + c = m at *
  generalize b + d = n at *
  clear h1 h2 h3 h4 B1 B2
  go_enter Try.func22, Try.ntmps22
  go_wp2_with fail
  refine (G1.out _).mono ?_
  rintro e w1 ⟨rfl, hb⟩
  have S := Lib.hid (((TwoB.start w 25 25 a b c d).alloc _).kept hb)
  have Z := Lib.hid ((resBox w 25 25 a b c d).kept hb)
  clear hb
  obtain ⟨⟨s0, s1, s2, s3⟩, _⟩ := id S.out
  obtain ⟨⟨z0, z1⟩, z2, z3⟩ := id Z.out
  have zl := Z.out.lt
  go_wp2_with fail
  clear s0 s1 s2 s3 z0 z1 z2 z3 zl
  refine (G2.out _).mono ?_
  rintro e w2 ⟨rfl, hb⟩
  replace S := Lib.hid (S.out.kept hb)
  replace Z := Lib.hid (Z.out.kept hb)
  clear hb
  obtain ⟨⟨s0, s1, s2, s3⟩, _⟩ := id S.out
  obtain ⟨⟨z0, z1⟩, z2, z3⟩ := id Z.out
  have zl := Z.out.lt
  go_wp2_with fail
  clear s0 s1 s2 s3 z0 z1 z2 z3 zl
  refine (G3.out _).mono ?_
  rintro e w3 ⟨rfl, hb⟩
  replace S := Lib.hid (S.out.kept hb)
  replace Z := Lib.hid (Z.out.kept hb)
  clear hb
  obtain ⟨⟨s0, s1, s2, s3⟩, _⟩ := id S.out
  obtain ⟨⟨z0, z1⟩, z2, z3⟩ := id Z.out
  have zl := Z.out.lt
  go_wp2_with fail
  clear s0 s1 s2 s3 z0 z1 z2 z3 zl
  refine (GM.out _).mono ?_
  rintro e w4 ⟨rfl, hb⟩
  replace S := Lib.hid (S.out.kept hb)
  replace Z := Lib.hid (Z.out.kept hb)
  clear hb
  obtain ⟨⟨s0, s1, s2, s3⟩, _⟩ := id S.out
  obtain ⟨⟨z0, z1⟩, z2, z3⟩ := id Z.out
  have zl := Z.out.lt
  go_wp2_with fail
  clear s0 s1 s2 s3 z0 z1 z2 z3 zl
  refine (G4.out _).mono ?_
  rintro e w5 ⟨rfl, hb⟩
  replace S := Lib.hid (S.out.kept hb)
  replace Z := Lib.hid (Z.out.kept hb)
  clear hb
  obtain ⟨⟨s0, s1, s2, s3⟩, _⟩ := id S.out
  obtain ⟨⟨z0, z1⟩, z2, z3⟩ := id Z.out
  have zl := Z.out.lt
  go_wp2
  exact bodyPost_ret (v := .tuple #[.agg #[.int .i64 0, .int .i64 0], .bool false]) (by simp [results, Try.results22, go_sem, z0, z1, z2, z3]) rfl (HE.out _ (below_setP S.out.2 (by omega)))
set_option maxHeartbeats 1600000 in
theorem spec_MediantOf_4 (a b c d : Int) (w : World) (h1 : nbB a b = true) (h2 : nbB c d = true) (h3 : nearB a b c d = true) (h4 : nbB (a + c) (b + d) = true) : Calls Try.prog 22 #[.agg #[.int .i64 a, .int .i64 b], .agg #[.int .i64 c, .int .i64 d]] w (MedE (medR a b c d) (medOk a b c d) w) := by
  have HE := Lib.hid (fun w' => @medE_yes a b c d w w' (show medOk a b c d = true by unfold medOk okk; simp [h1, h2, h3, h4]))
  have G1 := Lib.hid (spec_nbGood a b)
  rw [h1] at G1
  have G2 := Lib.hid (spec_nbGood c d)
  rw [h2] at G2
  have B1 := nbB_sm h1
  have B2 := nbB_sm h2
  have G3 := Lib.hid (fun w => spec_nbNear a b c d w B1.1 B1.2 B2.1 B2.2)
  rw [h3] at G3
  have GM := Lib.hid (fun w => spec_nbMediant a b c d w B1.1 B1.2 B2.1 B2.2)
  have G4 := Lib.hid (spec_nbGood (a + c) (b + d))
  rw [h4] at G4
  generalize medR a b c d = R at *
  generalize medOk a b c d = ok at *
  generalize a + c = m at *
  generalize b + d = n at *
  clear h1 h2 h3 h4 B1 B2
  go_enter Try.func22, Try.ntmps22
  go_wp2_with fail
  refine (G1.out _).mono ?_
  rintro e w1 ⟨rfl, hb⟩
  have S := Lib.hid (((TwoB.start w 25 25 a b c d).alloc _).kept hb)
  have Z := Lib.hid ((resBox w 25 25 a b c d).kept hb)
  clear hb
  obtain ⟨⟨s0, s1, s2, s3⟩, _⟩ := id S.out
  obtain ⟨⟨z0, z1⟩, z2, z3⟩ := id Z.out
  have zl := Z.out.lt
  go_wp2_with fail
  clear s0 s1 s2 s3 z0 z1 z2 z3 zl
  refine (G2.out _).mono ?_
  rintro e w2 ⟨rfl, hb⟩
  replace S := Lib.hid (S.out.kept hb)
  replace Z := Lib.hid (Z.out.kept hb)
  clear hb
  obtain ⟨⟨s0, s1, s2, s3⟩, _⟩ := id S.out
  obtain ⟨⟨z0, z1⟩, z2, z3⟩ := id Z.out
  have zl := Z.out.lt
  go_wp2_with fail
  clear s0 s1 s2 s3 z0 z1 z2 z3 zl
  refine (G3.out _).mono ?_
  rintro e w3 ⟨rfl, hb⟩
  replace S := Lib.hid (S.out.kept hb)
  replace Z := Lib.hid (Z.out.kept hb)
  clear hb
  obtain ⟨⟨s0, s1, s2, s3⟩, _⟩ := id S.out
  obtain ⟨⟨z0, z1⟩, z2, z3⟩ := id Z.out
  have zl := Z.out.lt
  go_wp2_with fail
  clear s0 s1 s2 s3 z0 z1 z2 z3 zl
  refine (GM.out _).mono ?_
  rintro e w4 ⟨rfl, hb⟩
  replace S := Lib.hid (S.out.kept hb)
  replace Z := Lib.hid (Z.out.kept hb)
  clear hb
  obtain ⟨⟨s0, s1, s2, s3⟩, _⟩ := id S.out
  obtain ⟨⟨z0, z1⟩, z2, z3⟩ := id Z.out
  have zl := Z.out.lt
  go_wp2_with fail
  clear s0 s1 s2 s3 z0 z1 z2 z3 zl
  refine (G4.out _).mono ?_
  rintro e w5 ⟨rfl, hb⟩
  replace S := Lib.hid (S.out.kept hb)
  replace Z := Lib.hid (Z.out.kept hb)
  clear hb
  obtain ⟨⟨s0, s1, s2, s3⟩, _⟩ := id S.out
  obtain ⟨⟨z0, z1⟩, z2, z3⟩ := id Z.out
  have zl := Z.out.lt
  go_wp2_with fail
  clear s0 s1 s2 s3 z0 z1 z2 z3 zl
  refine (GM.out _).mono ?_
  rintro e w6 ⟨rfl, hb⟩
  replace S := Lib.hid (S.out.kept hb)
  replace Z := Lib.hid (Z.out.kept hb)
  clear hb
  obtain ⟨⟨s0, s1, s2, s3⟩, _⟩ := id S.out
  obtain ⟨⟨z0, z1⟩, z2, z3⟩ := id Z.out
  have zl := Z.out.lt
  go_wp2
  exact bodyPost_ret (v := .tuple #[.agg #[.int .i64 m, .int .i64 n], .bool true]) (by simp [results, Try.results22, go_sem, z0, z1, z2, z3]) rfl (HE.out _ (below_setP S.out.2 (by omega)))
theorem spec_MediantOf (a b c d : Int) (w : World) : Calls Try.prog 22 #[.agg #[.int .i64 a, .int .i64 b], .agg #[.int .i64 c, .int .i64 d]] w (MedE (medR a b c d) (medOk a b c d) w) := by
  cases h1 : nbB a b
  · exact spec_MediantOf_0 a b c d w h1
  · cases h2 : nbB c d
    · exact spec_MediantOf_1 a b c d w h1 h2
    · cases h3 : nearB a b c d
      · exact spec_MediantOf_2 a b c d w h1 h2 h3
      · cases h4 : nbB (a + c) (b + d)
        · exact spec_MediantOf_3 a b c d w h1 h2 h3 h4
        · exact spec_MediantOf_4 a b c d w h1 h2 h3 h4
set_option maxHeartbeats 1600000 in
theorem impl_MediantOf_0 (a b c d : Int) (w : World) (h1 : nbB a b = false) : Calls Try.prog 23 #[.agg #[.int .i64 a, .int .i64 b], .agg #[.int .i64 c, .int .i64 d]] w (MedE (medR a b c d) (medOk a b c d) w) := by
  have HE := Lib.hid (fun w' => @medE_no a b c d w w' (show medOk a b c d = false by unfold medOk okk; simp [h1]))
  have G1 := Lib.hid (impl_IsFraction a b)
  rw [h1] at G1
  generalize medR a b c d = R at *
  generalize medOk a b c d = ok at *
  clear h1
  go_enter Try.func23, Try.ntmps23
  go_wp2_with fail
  refine (G1.out _).mono ?_
  rintro e w1 ⟨rfl, hb⟩
  have S := Lib.hid (((TwoB.start w 25 25 a b c d).alloc _).kept hb)
  have Z := Lib.hid ((resBox w 25 25 a b c d).kept hb)
  clear hb
  obtain ⟨⟨s0, s1, s2, s3⟩, _⟩ := id S.out
  obtain ⟨⟨z0, z1⟩, z2, z3⟩ := id Z.out
  have zl := Z.out.lt
  go_wp2
  exact bodyPost_ret (v := .tuple #[.agg #[.int .i64 0, .int .i64 0], .bool false]) (by simp [results, Try.results23, go_sem, z0, z1, z2, z3]) rfl (HE.out _ (below_setP S.out.2 (by omega)))
set_option maxHeartbeats 1600000 in
theorem impl_MediantOf_1 (a b c d : Int) (w : World) (h1 : nbB a b = true) (h2 : nbB c d = false) : Calls Try.prog 23 #[.agg #[.int .i64 a, .int .i64 b], .agg #[.int .i64 c, .int .i64 d]] w (MedE (medR a b c d) (medOk a b c d) w) := by
  have HE := Lib.hid (fun w' => @medE_no a b c d w w' (show medOk a b c d = false by unfold medOk okk; simp [h1, h2]))
  have G1 := Lib.hid (impl_IsFraction a b)
  rw [h1] at G1
  have G2 := Lib.hid (impl_IsFraction c d)
  rw [h2] at G2
  generalize medR a b c d = R at *
  generalize medOk a b c d = ok at *
  clear h1 h2
  go_enter Try.func23, Try.ntmps23
  go_wp2_with fail
  refine (G1.out _).mono ?_
  rintro e w1 ⟨rfl, hb⟩
  have S := Lib.hid (((TwoB.start w 25 25 a b c d).alloc _).kept hb)
  have Z := Lib.hid ((resBox w 25 25 a b c d).kept hb)
  clear hb
  obtain ⟨⟨s0, s1, s2, s3⟩, _⟩ := id S.out
  obtain ⟨⟨z0, z1⟩, z2, z3⟩ := id Z.out
  have zl := Z.out.lt
  go_wp2_with fail
  clear s0 s1 s2 s3 z0 z1 z2 z3 zl
  refine (G2.out _).mono ?_
  rintro e w2 ⟨rfl, hb⟩
  replace S := Lib.hid (S.out.kept hb)
  replace Z := Lib.hid (Z.out.kept hb)
  clear hb
  obtain ⟨⟨s0, s1, s2, s3⟩, _⟩ := id S.out
  obtain ⟨⟨z0, z1⟩, z2, z3⟩ := id Z.out
  have zl := Z.out.lt
  go_wp2
  exact bodyPost_ret (v := .tuple #[.agg #[.int .i64 0, .int .i64 0], .bool false]) (by simp [results, Try.results23, go_sem, z0, z1, z2, z3]) rfl (HE.out _ (below_setP S.out.2 (by omega)))
set_option maxHeartbeats 1600000 in
theorem impl_MediantOf_2 (a b c d : Int) (w : World) (h1 : nbB a b = true) (h2 : nbB c d = true) (h3 : nearB a b c d = false) : Calls Try.prog 23 #[.agg #[.int .i64 a, .int .i64 b], .agg #[.int .i64 c, .int .i64 d]] w (MedE (medR a b c d) (medOk a b c d) w) := by
  have HE := Lib.hid (fun w' => @medE_no a b c d w w' (show medOk a b c d = false by unfold medOk okk; simp [h1, h2, h3]))
  have G1 := Lib.hid (impl_IsFraction a b)
  rw [h1] at G1
  have G2 := Lib.hid (impl_IsFraction c d)
  rw [h2] at G2
  have B1 := nbB_sm h1
  have B2 := nbB_sm h2
  have G3 := Lib.hid (fun w => impl_isNear a b c d w B1.1 B1.2 B2.1 B2.2)
  rw [h3] at G3
  generalize medR a b c d = R at *
  generalize medOk a b c d = ok at *
  clear h1 h2 h3 B1 B2
  go_enter Try.func23, Try.ntmps23
  go_wp2_with fail
  refine (G1.out _).mono ?_
  rintro e w1 ⟨rfl, hb⟩
  have S := Lib.hid (((TwoB.start w 25 25 a b c d).alloc _).kept hb)
  have Z := Lib.hid ((resBox w 25 25 a b c d).kept hb)
  clear hb
  obtain ⟨⟨s0, s1, s2, s3⟩, _⟩ := id S.out
  obtain ⟨⟨z0, z1⟩, z2, z3⟩ := id Z.out
  have zl := Z.out.lt
  go_wp2_with fail
  clear s0 s1 s2 s3 z0 z1 z2 z3 zl
  refine (G2.out _).mono ?_
  rintro e w2 ⟨rfl, hb⟩
  replace S := Lib.hid (S.out.kept hb)
  replace Z := Lib.hid (Z.out.kept hb)
  clear hb
  obtain ⟨⟨s0, s1, s2, s3⟩, _⟩ := id S.out
  obtain ⟨⟨z0, z1⟩, z2, z3⟩ := id Z.out
  have zl := Z.out.lt
  go_wp2_with fail
  clear s0 s1 s2 s3 z0 z1 z2 z3 zl
  refine (G3.out _).mono ?_
  rintro e w3 ⟨rfl, hb⟩
  replace S := Lib.hid (S.out.kept hb)
  replace Z := Lib.hid (Z.out.kept hb)
  clear hb
  obtain ⟨⟨s0, s1, s2, s3⟩, _⟩ := id S.out
  obtain ⟨⟨z0, z1⟩, z2, z3⟩ := id Z.out
  have zl := Z.out.lt
  go_wp2
  exact bodyPost_ret (v := .tuple #[.agg #[.int .i64 0, .int .i64 0], .bool false]) (by simp [results, Try.results23, go_sem, z0, z1, z2, z3]) rfl (HE.out _ (below_setP S.out.2 (by omega)))
set_option maxHeartbeats 1600000 in
theorem impl_MediantOf_3 (a b c d : Int) (w : World) (h1 : nbB a b = true) (h2 : nbB c d = true) (h3 : nearB a b c d = true) (h4 : nbB (a + c) (b + d) = false) : Calls Try.prog 23 #[.agg #[.int .i64 a, .int .i64 b], .agg #[.int .i64 c, .int .i64 d]] w (MedE (medR a b c d) (medOk a b c d) w) := by
  have HE := Lib.hid (fun w' => @medE_no a b c d w w' (show medOk a b c d = false by unfold medOk okk; simp [h1, h2, h3, h4]))
  have G1 := Lib.hid (impl_IsFraction a b)
  rw [h1] at G1
  have G2 := Lib.hid (impl_IsFraction c d)
  rw [h2] at G2
  have B1 := nbB_sm h1
  have B2 := nbB_sm h2
  have G3 := Lib.hid (fun w => impl_isNear a b c d w B1.1 B1.2 B2.1 B2.2)
  rw [h3] at G3
  have GM := Lib.hid (fun w => impl_plus a b c d w B1.1 B1.2 B2.1 B2.2)
  have G4 := Lib.hid (impl_IsFraction (a + c) (b + d))
  rw [h4] at G4
  generalize medR a b c d = R at *
  generalize medOk a b c d = ok at *
  generalize a + c = m at *
  generalize b + d = n at *
  clear h1 h2 h3 h4 B1 B2
  go_enter Try.func23, Try.ntmps23
  go_wp2_with fail
  refine (G1.out _).mono ?_
  rintro e w1 ⟨rfl, hb⟩
  have S := Lib.hid (((TwoB.start w 25 25 a b c d).alloc _).kept hb)
  have Z := Lib.hid ((resBox w 25 25 a b c d).kept hb)
  clear hb
  obtain ⟨⟨s0, s1, s2, s3⟩, _⟩ := id S.out
  obtain ⟨⟨z0, z1⟩, z2, z3⟩ := id Z.out
  have zl := Z.out.lt
  go_wp2_with fail
  clear s0 s1 s2 s3 z0 z1 z2 z3 zl
  refine (G2.out _).mono ?_
  rintro e w2 ⟨rfl, hb⟩
  replace S := Lib.hid (S.out.kept hb)
  replace Z := Lib.hid (Z.out.kept hb)
  clear hb
  obtain ⟨⟨s0, s1, s2, s3⟩, _⟩ := id S.out
  obtain ⟨⟨z0, z1⟩, z2, z3⟩ := id Z.out
  have zl := Z.out.lt
  go_wp2_with fail
  clear s0 s1 s2 s3 z0 z1 z2 z3 zl
  refine (G3.out _).mono ?_
  rintro e w3 ⟨rfl, hb⟩
  replace S := Lib.hid (S.out.kept hb)
  replace Z := Lib.hid (Z.out.kept hb)
  clear hb
  obtain ⟨⟨s0, s1, s2, s3⟩, _⟩ := id S.out
  obtain ⟨⟨z0, z1⟩, z2, z3⟩ := id Z.out
  have zl := Z.out.lt
  go_wp2_with fail
  clear s0 s1 s2 s3 z0 z1 z2 z3 zl
  refine (GM.out _).mono ?_
  rintro e w4 ⟨rfl, hb⟩
  replace S := Lib.hid (S.out.kept hb)
  replace Z := Lib.hid (Z.out.kept hb)
  clear hb
  obtain ⟨⟨s0, s1, s2, s3⟩, _⟩ := id S.out
  obtain ⟨⟨z0, z1⟩, z2, z3⟩ := id Z.out
  have zl := Z.out.lt
  go_wp2_with fail
  clear s0 s1 s2 s3 z0 z1 z2 z3 zl
  have M := Lib.hid (Bx2.new w4 25 m n)
  replace S := Lib.hid (S.out.alloc (.cells #[.int .i64 m, .int .i64 n] 25))
  replace Z := Lib.hid (Z.out.alloc (.cells #[.int .i64 m, .int .i64 n] 25))
  refine (G4.out _).mono ?_
  rintro e w9 ⟨rfl, hb⟩
  replace S := Lib.hid (S.out.kept hb)
  replace Z := Lib.hid (Z.out.kept hb)
  replace M := Lib.hid (M.out.kept hb)
  clear hb
  obtain ⟨⟨s0, s1, s2, s3⟩, _⟩ := id S.out
  obtain ⟨⟨z0, z1⟩, z2, z3⟩ := id Z.out
  have zl := Z.out.lt
  obtain ⟨⟨M0, M1⟩, M2, M3⟩ := id M.out
  have Ml := M.out.lt
  go_wp2
  exact bodyPost_ret (v := .tuple #[.agg #[.int .i64 0, .int .i64 0], .bool false]) (by simp [results, Try.results23, go_sem, z0, z1, z2, z3]) rfl (HE.out _ (below_setP S.out.2 (by omega)))
set_option maxHeartbeats 1600000 in
theorem impl_MediantOf_4 (a b c d : Int) (w : World) (h1 : nbB a b = true) (h2 : nbB c d = true) (h3 : nearB a b c d = true) (h4 : nbB (a + c) (b + d) = true) : Calls Try.prog 23 #[.agg #[.int .i64 a, .int .i64 b], .agg #[.int .i64 c, .int .i64 d]] w (MedE (medR a b c d) (medOk a b c d) w) := by
  have HE := Lib.hid (fun w' => @medE_yes a b c d w w' (show medOk a b c d = true by unfold medOk okk; simp [h1, h2, h3, h4]))
  have G1 := Lib.hid (impl_IsFraction a b)
  rw [h1] at G1
  have G2 := Lib.hid (impl_IsFraction c d)
  rw [h2] at G2
  have B1 := nbB_sm h1
  have B2 := nbB_sm h2
  have G3 := Lib.hid (fun w => impl_isNear a b c d w B1.1 B1.2 B2.1 B2.2)
  rw [h3] at G3
  have GM := Lib.hid (fun w => impl_plus a b c d w B1.1 B1.2 B2.1 B2.2)
  have G4 := Lib.hid (impl_IsFraction (a + c) (b + d))
  rw [h4] at G4
  generalize medR a b c d = R at *
  generalize medOk a b c d = ok at *
  generalize a + c = m at *
  generalize b + d = n at *
  clear h1 h2 h3 h4 B1 B2
  go_enter Try.func23, Try.ntmps23
  go_wp2_with fail
  refine (G1.out _).mono ?_
  rintro e w1 ⟨rfl, hb⟩
  have S := Lib.hid (((TwoB.start w 25 25 a b c d).alloc _).kept hb)
  have Z := Lib.hid ((resBox w 25 25 a b c d).kept hb)
  clear hb
  obtain ⟨⟨s0, s1, s2, s3⟩, _⟩ := id S.out
  obtain ⟨⟨z0, z1⟩, z2, z3⟩ := id Z.out
  have zl := Z.out.lt
  go_wp2_with fail
  clear s0 s1 s2 s3 z0 z1 z2 z3 zl
  refine (G2.out _).mono ?_
  rintro e w2 ⟨rfl, hb⟩
  replace S := Lib.hid (S.out.kept hb)
  replace Z := Lib.hid (Z.out.kept hb)
  clear hb
  obtain ⟨⟨s0, s1, s2, s3⟩, _⟩ := id S.out
  obtain ⟨⟨z0, z1⟩, z2, z3⟩ := id Z.out
  have zl := Z.out.lt
  go_wp2_with fail
  clear s0 s1 s2 s3 z0 z1 z2 z3 zl
  refine (G3.out _).mono ?_
  rintro e w3 ⟨rfl, hb⟩
  replace S := Lib.hid (S.out.kept hb)
  replace Z := Lib.hid (Z.out.kept hb)
  clear hb
  obtain ⟨⟨s0, s1, s2, s3⟩, _⟩ := id S.out
  obtain ⟨⟨z0, z1⟩, z2, z3⟩ := id Z.out
  have zl := Z.out.lt
  go_wp2_with fail
  clear s0 s1 s2 s3 z0 z1 z2 z3 zl
  refine (GM.out _).mono ?_
  rintro e w4 ⟨rfl, hb⟩
  replace S := Lib.hid (S.out.kept hb)
  replace Z := Lib.hid (Z.out.kept hb)
  clear hb
  obtain ⟨⟨s0, s1, s2, s3⟩, _⟩ := id S.out
  obtain ⟨⟨z0, z1⟩, z2, z3⟩ := id Z.out
  have zl := Z.out.lt
  go_wp2_with fail
  clear s0 s1 s2 s3 z0 z1 z2 z3 zl
  have M := Lib.hid (Bx2.new w4 25 m n)
  replace S := Lib.hid (S.out.alloc (.cells #[.int .i64 m, .int .i64 n] 25))
  replace Z := Lib.hid (Z.out.alloc (.cells #[.int .i64 m, .int .i64 n] 25))
  refine (G4.out _).mono ?_
  rintro e w9 ⟨rfl, hb⟩
  replace S := Lib.hid (S.out.kept hb)
  replace Z := Lib.hid (Z.out.kept hb)
  replace M := Lib.hid (M.out.kept hb)
  clear hb
  obtain ⟨⟨s0, s1, s2, s3⟩, _⟩ := id S.out
  obtain ⟨⟨z0, z1⟩, z2, z3⟩ := id Z.out
  have zl := Z.out.lt
  obtain ⟨⟨M0, M1⟩, M2, M3⟩ := id M.out
  have Ml := M.out.lt
  go_wp2
  exact bodyPost_ret (v := .tuple #[.agg #[.int .i64 m, .int .i64 n], .bool true]) (by simp [results, Try.results23, go_sem, z0, z1, z2, z3]) rfl (HE.out _ (below_setP S.out.2 (by omega)))
theorem impl_MediantOf (a b c d : Int) (w : World) : Calls Try.prog 23 #[.agg #[.int .i64 a, .int .i64 b], .agg #[.int .i64 c, .int .i64 d]] w (MedE (medR a b c d) (medOk a b c d) w) := by
  cases h1 : nbB a b
  · exact impl_MediantOf_0 a b c d w h1
  · cases h2 : nbB c d
    · exact impl_MediantOf_1 a b c d w h1 h2
    · cases h3 : nearB a b c d
      · exact impl_MediantOf_2 a b c d w h1 h2 h3
      · cases h4 : nbB (a + c) (b + d)
        · exact impl_MediantOf_3 a b c d w h1 h2 h3 h4
        · exact impl_MediantOf_4 a b c d w h1 h2 h3 h4
end Go.Proofs.Ytaifgfmkkgndkaa
