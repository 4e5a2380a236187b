/- The first one of a class, and whether a triangulation is its own mirrored one: the model's. -/
import Derived.Test.YtbpaaoeefcebeabLstS
namespace Go.Proofs.Ytbpaaoeefcebeab
set_option linter.unusedVariables false
open Go.RowKit

set_option maxRecDepth 100000 in
set_option maxHeartbeats 1600000 in
theorem spec_caClass (n : Nat) (A : Option Addr) (c B q : Nat) (l : List (Int × Int)) (w : World) (hl : l.length = q) (h : SlD w B A l) (hB : B ≤ w.heap.size) (ht : triB n l = true) :
    Calls Try.prog 69 #[.int .i64 n, .slice A q c] w (GivD w (classL n l)) := by
  have hn := tri_n ht
  have q9 : q ≤ 9 := by omega
  have n12 : n ≤ 12 := by omega
  have H := Lib.hid h
  have Hl := Lib.hid hl
  have HT := Lib.hid ht
  have HT2 := Lib.hid (mir_tri (tri_of ht)).toB
  have Hle := Lib.hid (show (leastL n l).length = q by rw [leastL_length, hl])
  have Hml := Lib.hid (show (mirL n l).length = q by rw [mirL_length, hl])
  have Hlm := Lib.hid (show (leastL n (mirL n l)).length = q by rw [leastL_length, mirL_length, hl])
  have Hcall := Lib.hid (spec_caLeast n q A c B l w hl ht h hB)
  clear hl h ht hn
  go_enter Try.func69, Try.ntmps69
  go_wp2_with fail
  refine Hcall.out.mono ?_
  rintro e w1 ⟨A1, c1, rfl, o1, b1⟩
  rw [Hle.out] at o1 ⊢
  have O1 := Lib.hid o1
  have B1 := Lib.hid b1
  clear o1 b1 Hcall
  have hc2 := spec_poMirror n n A c B l w1 rfl n12 HT.out (H.out.below (B1.out.mono hB)) (Nat.le_trans hB B1.out.size)
  rw [Hl.out] at hc2
  have Hc2 := Lib.hid hc2
  clear hc2
  go_wp2_with fail
  refine Hc2.out.mono ?_
  rintro e w2 ⟨A2, c2, rfl, o2, b2⟩
  rw [show sortD (mvL (mirrF n) l) = mirL n l from rfl, Hml.out] at o2 ⊢
  have O1' := Lib.hid (own_kept O1.out b2)
  have B2 := Lib.hid (below_kept B1.out (Nat.le_refl _) b2)
  have O2 := Lib.hid o2
  clear o2 b2 Hc2 O1
  have Hc3 := Lib.hid (spec_caLeast n q A2 c2 w2.heap.size (mirL n l) w2 Hml.out HT2.out (SlD.of_own O2.out) (Nat.le_refl _))
  go_wp2_with fail
  refine Hc3.out.mono ?_
  rintro e w3 ⟨A3, c3, rfl, o3, b3⟩
  rw [Hlm.out] at o3 ⊢
  have z2 := B2.out.size
  have P1 := Lib.hid (own_kept O1'.out b3)
  have P3 := Lib.hid (o3.mono z2)
  have B3 := Lib.hid (below_kept B2.out (Nat.le_refl _) b3)
  clear b3 o3 Hc3 O2 O1'
  go_wp2_with fail
  refine (spec_caBefore A3 A1 q q c3 c1 w3.heap.size w3.heap.size (leastL n (mirL n l)) (leastL n l) _ (SlD.of_own P3.out) (SlD.of_own P1.out) Hlm.out Hle.out rfl (Nat.le_refl _) (Nat.le_refl _) (by omega)).mono ?_
  rintro e w4 ⟨rfl, b4⟩
  have P1' := own_kept P1.out b4
  have P3' := own_kept P3.out b4
  have B4 := Lib.hid (below_kept B3.out (Nat.le_refl _) b4)
  cases hx : lexB (leastL n (mirL n l)) (leastL n l)
  · have e : classL n l = leastL n l := by unfold classL; rw [if_neg (by rw [hx]; simp)]
    have hres : GivD w (classL n l) (.returned (.slice A1 q c1)) w4 := by
      rw [e]
      exact ⟨A1, c1, by rw [Hle.out], by rw [Hle.out]; exact P1', B4.out⟩
    have Hres := Lib.hid hres
    clear hres e P1' P3' b4 hx
    go_wp2
    go_ret
    exact Hres.out
  · have e : classL n l = leastL n (mirL n l) := by unfold classL; rw [if_pos hx]
    have hres : GivD w (classL n l) (.returned (.slice A3 q c3)) w4 := by
      rw [e]
      exact ⟨A3, c3, by rw [Hlm.out], by rw [Hlm.out]; exact P3', B4.out⟩
    have Hres := Lib.hid hres
    clear hres e P1' P3' b4 hx
    go_wp2
    go_ret
    exact Hres.out

set_option maxRecDepth 100000 in
set_option maxHeartbeats 1600000 in
theorem spec_LeastOfClass (n : Int) (A : Option Addr) (c B : Nat) (l : List (Int × Int)) (w : World) (h : SlD w B A l) (hB : B ≤ w.heap.size) (hl : l.length ≤ 1048576) (hlc : l.length ≤ c) :
    Calls Try.prog 26 #[.int .i64 n, .slice A l.length c] w (RetD w (clR n l) (triB n l)) := by
  go_enter Try.func26, Try.ntmps26
  go_wp2_with fail
  refine (spec_poGood n A c B l _ h hB hl hlc).mono ?_
  rintro e w1 ⟨rfl, hb1⟩
  cases ht : triB n l
  · have hres : RetD w (clR n l) (triB n l) (.returned (.tuple #[.slice none 0 0, .bool false])) w1 := by
      rw [clR_no ht, ht]
      exact retD_nil hb1
    have Hres := Lib.hid hres
    clear hres h hb1
    go_wp2
    go_ret2
    exact Hres.out
  · have hn := tri_n ht
    obtain ⟨m, rfl⟩ := Int.eq_ofNat_of_zero_le (show 0 ≤ n by omega)
    clear hn
    go_wp2_with fail
    refine (spec_caClass m A c B l.length l _ rfl (h.below (hb1.mono hB)) (Nat.le_trans hB hb1.size) ht).mono ?_
    rintro e w2 ⟨A', c', rfl, ho, hb2⟩
    have hres : RetD w (clR m l) (triB m l) (.returned (.tuple #[.slice A' (classL m l).length c', .bool true])) w2 := by
      rw [clR_yes ht, ht]
      exact ⟨A', c', rfl, ho.mono hb1.size, below_kept hb1 (Nat.le_refl _) hb2⟩
    have Hres := Lib.hid hres
    clear hres h hb1 hb2 ho
    go_wp2
    go_ret2
    exact Hres.out

def OmEnd (n : Int) (l : List (Int × Int)) (w : World) (e : Ending) (w' : World) : Prop := e = .returned (.tuple #[.bool (omR n l), .bool (triB n l)]) ∧ Below w.heap.size w w'
set_option maxRecDepth 100000 in
set_option maxHeartbeats 1600000 in
theorem spec_IsOwnMirror (n : Int) (A : Option Addr) (c B : Nat) (l : List (Int × Int)) (w : World) (h : SlD w B A l) (hB : B ≤ w.heap.size) (hl : l.length ≤ 1048576) (hlc : l.length ≤ c) :
    Calls Try.prog 39 #[.int .i64 n, .slice A l.length c] w (OmEnd n l w) := by
  have H := Lib.hid h
  clear h
  go_enter Try.func39, Try.ntmps39
  go_wp2_with fail
  refine (spec_poGood n A c B l _ H.out hB hl hlc).mono ?_
  rintro e w1 ⟨rfl, hb1⟩
  cases ht : triB n l
  · have hres : OmEnd n l w (.returned (.tuple #[.bool false, .bool false])) w1 := by
      unfold OmEnd
      rw [omR_no ht, ht]
      exact ⟨rfl, hb1⟩
    have Hres := Lib.hid hres
    clear hres hb1
    go_wp2
    go_ret2
    exact Hres.out
  · have hn := tri_n ht
    obtain ⟨m, rfl⟩ := Int.eq_ofNat_of_zero_le (show 0 ≤ n by omega)
    have m12 : m ≤ 12 := by omega
    have hom := omR_yes ht
    obtain ⟨q, hq⟩ : ∃ q, l.length = q := ⟨_, rfl⟩
    have q9 : q ≤ 9 := by omega
    rw [hq]
    have Hq := Lib.hid hq
    have HT := Lib.hid ht
    have HT2 := Lib.hid (mir_tri (tri_of ht)).toB
    have Hle := Lib.hid (show (leastL m l).length = q by rw [leastL_length, hq])
    have Hml := Lib.hid (show (mirL m l).length = q by rw [mirL_length, hq])
    have Hlm := Lib.hid (show (leastL m (mirL m l)).length = q by rw [leastL_length, mirL_length, hq])
    have Hom := Lib.hid hom
    have B1 := Lib.hid hb1
    have H1 := Lib.hid (H.out.below (hb1.mono hB))
    have z1 := Nat.le_trans hB hb1.size
    clear hn hq hom hb1 ht H
    go_wp2_with fail
    refine (spec_caLeast m q A c B l _ Hq.out HT.out H1.out z1).mono ?_
    rintro e w2 ⟨A2, c2, rfl, o2, b2⟩
    rw [Hle.out] at o2 ⊢
    have O2 := Lib.hid o2
    have B2 := Lib.hid (below_kept B1.out (Nat.le_refl _) b2)
    have H2 := Lib.hid (H1.out.below (b2.mono z1))
    have z2 := Nat.le_trans z1 b2.size
    clear o2 b2
    have hc2 := spec_poMirror m m A c B l w2 rfl m12 HT.out H2.out z2
    rw [Hq.out] at hc2
    have Hc2 := Lib.hid hc2
    clear hc2
    go_wp2_with fail
    refine Hc2.out.mono ?_
    rintro e w3 ⟨A3, c3, rfl, o3, b3⟩
    rw [show sortD (mvL (mirrF m) l) = mirL m l from rfl, Hml.out] at o3 ⊢
    have O2' := Lib.hid (own_kept O2.out b3)
    have B3 := Lib.hid (below_kept B2.out (Nat.le_refl _) b3)
    have O3 := Lib.hid o3
    clear o3 b3 Hc2 O2
    go_wp2_with fail
    refine (spec_caLeast m q A3 c3 w3.heap.size (mirL m l) w3 Hml.out HT2.out (SlD.of_own O3.out) (Nat.le_refl _)).mono ?_
    rintro e w4 ⟨A4, c4, rfl, o4, b4⟩
    rw [Hlm.out] at o4 ⊢
    have P2 := Lib.hid (SlD.of_own (own_kept O2'.out b4))
    have P4 := Lib.hid (SlD.of_own o4)
    have B4 := Lib.hid (below_kept B3.out (Nat.le_refl _) b4)
    clear o4 b4 O3 O2'
    go_wp2_with fail
    refine (spec_poSame A2 A4 q q c2 c4 w4.heap.size w4.heap.size (leastL m l) (leastL m (mirL m l)) _ P2.out P4.out Hle.out Hlm.out rfl (Nat.le_refl _) (Nat.le_refl _) (by omega)).mono ?_
    rintro e w5 ⟨rfl, b5⟩
    have hres : OmEnd m l w (.returned (.tuple #[.bool (decide (leastL m l = leastL m (mirL m l))), .bool true])) w5 := by
      unfold OmEnd
      rw [Hom.out, HT.out]
      exact ⟨rfl, below_kept B4.out (Nat.le_refl _) b5⟩
    have Hres := Lib.hid hres
    generalize decide (leastL m l = leastL m (mirL m l)) = d at *
    clear hres b5
    go_wp2
    go_ret2
    exact Hres.out
end Go.Proofs.Ytbpaaoeefcebeab
