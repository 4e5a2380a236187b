/- The walk of ParentsOf's law, out of the contracts of the model's function and of the program's. -/
import Derived.Test.YtaifgfmkkgndkaaLawF
import Derived.Test.YtaifgfmkkgndkaaBx2
namespace Go.Proofs.Ytaifgfmkkgndkaa
set_option linter.unusedVariables false
open Go.RowKit

set_option maxHeartbeats 1600000 in
theorem WParentsOf.core (w : World) (a b : Int) (p q r s : Int) (ok : Bool)
    (hs : Hid (∀ w : World, Calls Try.prog 25 #[.agg #[.int .i64 a, .int .i64 b]] w fun e w' => e = .returned (.tuple #[.agg #[.int .i64 p, .int .i64 q], .agg #[.int .i64 r, .int .i64 s], .bool ok]) ∧ Below w.heap.size w w'))
    (hi : Hid (∀ w : World, Calls Try.prog 26 #[.agg #[.int .i64 a, .int .i64 b]] w fun e w' => e = .returned (.tuple #[.agg #[.int .i64 p, .int .i64 q], .agg #[.int .i64 r, .int .i64 s], .bool ok]) ∧ Below w.heap.size w w')) :
    Calls Try.prog 7 #[.agg #[.int .i64 a, .int .i64 b]] w fun e w' => e = .returned (.bool true) ∧ Below w.heap.size w w' := by
  go_enter Try.func7, Try.ntmps7
  go_wp2_with fail
  refine (laws_toFraction a b _).mono ?_
  rintro e w1 ⟨rfl, hb⟩
  have A := Lib.hid ((Bx2.new w 23 a b).kept hb)
  have hd := Lib.hid ((below_one w _).trans (hb.mono (by simp)))
  clear hb
  have yA := A.out.lt
  obtain ⟨⟨A0, A1⟩, A2, A3⟩ := A.out
  go_wp2_with fail
  clear A0 A1 A2 A3 yA
  refine (hs.out _).mono ?_
  rintro e w2 ⟨rfl, hb⟩
  replace A := Lib.hid (A.out.kept hb)
  replace hd := Lib.hid (below_kept hd.out (Nat.le_refl _) hb)
  clear hb
  have yA := A.out.lt
  obtain ⟨⟨A0, A1⟩, A2, A3⟩ := A.out
  go_wp2_with fail
  clear A0 A1 A2 A3 yA
  replace A := Lib.hid ((A.out.alloc (.cells #[.int .i64 p, .int .i64 q] 25)).alloc (.cells #[.int .i64 r, .int .i64 s] 25))
  have S := Lib.hid ((Bx2.new w2 25 p q).alloc (.cells #[.int .i64 r, .int .i64 s] 25))
  have T := Lib.hid (show Bx2 ((w2.alloc (.cells #[.int .i64 p, .int .i64 q] 25)).alloc (.cells #[.int .i64 r, .int .i64 s] 25)) (w2.heap.size + 1) r s by have h := Bx2.new (w2.alloc (.cells #[.int .i64 p, .int .i64 q] 25)) 25 r s; simpa using h)
  replace hd := Lib.hid (below_kept hd.out (Nat.le_refl _) (below_two _ (.cells #[.int .i64 p, .int .i64 q] 25) (.cells #[.int .i64 r, .int .i64 s] 25)))
  refine (laws_toFraction a b _).mono ?_
  rintro e w3 ⟨rfl, hb⟩
  replace A := Lib.hid (A.out.kept hb)
  replace S := Lib.hid (S.out.kept hb)
  replace T := Lib.hid (T.out.kept hb)
  replace hd := Lib.hid (below_kept hd.out (Nat.le_refl _) hb)
  clear hb
  have yA := A.out.lt
  obtain ⟨⟨A0, A1⟩, A2, A3⟩ := A.out
  have yS := S.out.lt
  obtain ⟨⟨S0, S1⟩, S2, S3⟩ := S.out
  have yT := T.out.lt
  obtain ⟨⟨T0, T1⟩, T2, T3⟩ := T.out
  go_wp2_with fail
  clear A0 A1 A2 A3 yA
  clear S0 S1 S2 S3 yS
  clear T0 T1 T2 T3 yT
  refine (hi.out _).mono ?_
  rintro e w4 ⟨rfl, hb⟩
  replace A := Lib.hid (A.out.kept hb)
  replace S := Lib.hid (S.out.kept hb)
  replace T := Lib.hid (T.out.kept hb)
  replace hd := Lib.hid (below_kept hd.out (Nat.le_refl _) hb)
  clear hb
  replace A := Lib.hid ((A.out.alloc (.cells #[.int .i64 p, .int .i64 q] 25)).alloc (.cells #[.int .i64 r, .int .i64 s] 25))
  replace S := Lib.hid ((S.out.alloc (.cells #[.int .i64 p, .int .i64 q] 25)).alloc (.cells #[.int .i64 r, .int .i64 s] 25))
  replace T := Lib.hid ((T.out.alloc (.cells #[.int .i64 p, .int .i64 q] 25)).alloc (.cells #[.int .i64 r, .int .i64 s] 25))
  have U := Lib.hid ((Bx2.new w4 25 p q).alloc (.cells #[.int .i64 r, .int .i64 s] 25))
  have V := Lib.hid (show Bx2 ((w4.alloc (.cells #[.int .i64 p, .int .i64 q] 25)).alloc (.cells #[.int .i64 r, .int .i64 s] 25)) (w4.heap.size + 1) r s by have h := Bx2.new (w4.alloc (.cells #[.int .i64 p, .int .i64 q] 25)) 25 r s; simpa using h)
  replace hd := Lib.hid (below_kept hd.out (Nat.le_refl _) (below_two _ (.cells #[.int .i64 p, .int .i64 q] 25) (.cells #[.int .i64 r, .int .i64 s] 25)))
  have yA := A.out.lt
  obtain ⟨⟨A0, A1⟩, A2, A3⟩ := A.out
  have yS := S.out.lt
  obtain ⟨⟨S0, S1⟩, S2, S3⟩ := S.out
  have yT := T.out.lt
  obtain ⟨⟨T0, T1⟩, T2, T3⟩ := T.out
  have yU := U.out.lt
  obtain ⟨⟨U0, U1⟩, U2, U3⟩ := U.out
  have yV := V.out.lt
  obtain ⟨⟨V0, V1⟩, V2, V3⟩ := V.out
  go_wp2_with fail
  clear A0 A1 A2 A3 yA
  clear S0 S1 S2 S3 yS
  clear T0 T1 T2 T3 yT
  clear U0 U1 U2 U3 yU
  clear V0 V1 V2 V3 yV
  refine (laws_eqFraction p q _).mono ?_
  rintro e w5 ⟨rfl, hb⟩
  replace A := Lib.hid (A.out.kept hb)
  replace S := Lib.hid (S.out.kept hb)
  replace T := Lib.hid (T.out.kept hb)
  replace U := Lib.hid (U.out.kept hb)
  replace V := Lib.hid (V.out.kept hb)
  replace hd := Lib.hid (below_kept hd.out (Nat.le_refl _) hb)
  clear hb
  have yA := A.out.lt
  obtain ⟨⟨A0, A1⟩, A2, A3⟩ := A.out
  have yS := S.out.lt
  obtain ⟨⟨S0, S1⟩, S2, S3⟩ := S.out
  have yT := T.out.lt
  obtain ⟨⟨T0, T1⟩, T2, T3⟩ := T.out
  have yU := U.out.lt
  obtain ⟨⟨U0, U1⟩, U2, U3⟩ := U.out
  have yV := V.out.lt
  obtain ⟨⟨V0, V1⟩, V2, V3⟩ := V.out
  go_wp2_with fail
  clear A0 A1 A2 A3 yA
  clear S0 S1 S2 S3 yS
  clear T0 T1 T2 T3 yT
  clear U0 U1 U2 U3 yU
  clear V0 V1 V2 V3 yV
  refine (laws_eqFraction r s _).mono ?_
  rintro e w6 ⟨rfl, hb⟩
  replace A := Lib.hid (A.out.kept hb)
  replace S := Lib.hid (S.out.kept hb)
  replace T := Lib.hid (T.out.kept hb)
  replace U := Lib.hid (U.out.kept hb)
  replace V := Lib.hid (V.out.kept hb)
  replace hd := Lib.hid (below_kept hd.out (Nat.le_refl _) hb)
  clear hb
  have yA := A.out.lt
  obtain ⟨⟨A0, A1⟩, A2, A3⟩ := A.out
  have yS := S.out.lt
  obtain ⟨⟨S0, S1⟩, S2, S3⟩ := S.out
  have yT := T.out.lt
  obtain ⟨⟨T0, T1⟩, T2, T3⟩ := T.out
  have yU := U.out.lt
  obtain ⟨⟨U0, U1⟩, U2, U3⟩ := U.out
  have yV := V.out.lt
  obtain ⟨⟨V0, V1⟩, V2, V3⟩ := V.out
  go_wp2
  go_ret
  exact ⟨rfl, hd.out⟩

end Go.Proofs.Ytaifgfmkkgndkaa
