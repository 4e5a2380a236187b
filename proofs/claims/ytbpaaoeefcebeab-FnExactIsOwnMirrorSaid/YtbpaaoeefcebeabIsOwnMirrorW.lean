/- IsOwnMirror: the program's contract, and the law's walk. -/
import Derived.Test.YtbpaaoeefcebeabLstT
import Derived.Test.YtbpaaoeefcebeabLstJ
import Derived.Test.YtbpaaoeefcebeabEqlD
import Derived.Test.YtbpaaoeefcebeabIsOwnMirrorC
namespace Go.Proofs.Ytbpaaoeefcebeab
set_option linter.unusedVariables false
open Go.RowKit

set_option maxRecDepth 100000 in
set_option maxHeartbeats 1600000 in
theorem impl_IsOwnMirror (n : Int) (A : Option Addr) (c B : Nat) (l : List (Int × Int)) (w : World) (h : SlD w B A l) (hB : B ≤ w.heap.size) (hl : l.length ≤ 1048576) (hlc : l.length ≤ c) :
    Calls Try.prog 40 #[.int .i64 n, .slice A l.length c] w (OmEnd n l w) := by
  have H := Lib.hid h
  clear h
  go_enter Try.func40, Try.ntmps40
  go_wp2_with fail
  refine (impl_IsTriangulation n A c B l _ H.out hB hl hlc).mono ?_
  rintro e w1 ⟨rfl, hb1⟩
  cases ht : triB n l
  · have hres : OmEnd n l w (.returned (.tuple #[.bool false, .bool false])) w1 := by
      unfold OmEnd
      rw [omR_no ht, ht]
      exact ⟨rfl, hb1⟩
    have Hres := Lib.hid hres
    clear hres hb1
    go_wp2
    go_ret2
    exact Hres.out
  · have hn := tri_n ht
    obtain ⟨m, rfl⟩ := Int.eq_ofNat_of_zero_le (show 0 ≤ n by omega)
    have m12 : m ≤ 12 := by omega
    have hom := omR_yes ht
    obtain ⟨q, hq⟩ : ∃ q, l.length = q := ⟨_, rfl⟩
    have q9 : q ≤ 9 := by omega
    rw [hq]
    have Hq := Lib.hid hq
    have HT := Lib.hid ht
    have HT2 := Lib.hid (mir_tri (tri_of ht)).toB
    have Hle := Lib.hid (show (leastL m l).length = q by rw [leastL_length, hq])
    have Hml := Lib.hid (show (mirL m l).length = q by rw [mirL_length, hq])
    have Hlm := Lib.hid (show (leastL m (mirL m l)).length = q by rw [leastL_length, mirL_length, hq])
    have Hom := Lib.hid hom
    have B1 := Lib.hid hb1
    have H1 := Lib.hid (H.out.below (hb1.mono hB))
    have z1 := Nat.le_trans hB hb1.size
    clear hn hq hom hb1 ht H
    go_wp2_with fail
    refine (impl_leastTurned m A c B q l _ Hq.out H1.out z1 HT.out).mono ?_
    rintro e w2 ⟨A2, c2, rfl, o2, b2⟩
    rw [Hle.out] at o2 ⊢
    have O2 := Lib.hid o2
    have B2 := Lib.hid (below_kept B1.out (Nat.le_refl _) b2)
    have H2 := Lib.hid (H1.out.below (b2.mono z1))
    have z2 := Nat.le_trans z1 b2.size
    clear o2 b2
    have hc2 := impl_mirrored m A c B q l w2 Hq.out HT.out H2.out z2
    have Hc2 := Lib.hid hc2
    clear hc2
    go_wp2_with fail
    refine Hc2.out.mono ?_
    rintro e w3 ⟨A3, c3, rfl, o3, b3⟩
    rw [show sortD (mvL (mirrF m) l) = mirL m l from rfl, Hml.out] at o3 ⊢
    have O2' := Lib.hid (own_kept O2.out b3)
    have B3 := Lib.hid (below_kept B2.out (Nat.le_refl _) b3)
    have O3 := Lib.hid o3
    clear o3 b3 Hc2 O2
    go_wp2_with fail
    refine (impl_leastTurned m A3 c3 w3.heap.size q (mirL m l) w3 Hml.out (SlD.of_own O3.out) (Nat.le_refl _) HT2.out).mono ?_
    rintro e w4 ⟨A4, c4, rfl, o4, b4⟩
    rw [Hlm.out] at o4 ⊢
    have P2 := Lib.hid (SlD.of_own (own_kept O2'.out b4))
    have P4 := Lib.hid (SlD.of_own o4)
    have B4 := Lib.hid (below_kept B3.out (Nat.le_refl _) b4)
    clear o4 b4 O3 O2'
    go_wp2_with fail
    refine (slices_Equal A2 A4 q q c2 c4 w4.heap.size w4.heap.size (leastL m l) (leastL m (mirL m l)) _ P2.out P4.out Hle.out Hlm.out rfl (Nat.le_refl _) (Nat.le_refl _) (by omega)).mono ?_
    rintro e w5 ⟨rfl, b5⟩
    have hres : OmEnd m l w (.returned (.tuple #[.bool (decide (leastL m l = leastL m (mirL m l))), .bool true])) w5 := by
      unfold OmEnd
      rw [Hom.out, HT.out]
      exact ⟨rfl, below_kept B4.out (Nat.le_refl _) b5⟩
    have Hres := Lib.hid hres
    generalize decide (leastL m l = leastL m (mirL m l)) = d at *
    clear hres b5
    go_wp2
    go_ret2
    exact Hres.out

theorem WIsOwnMirror.walk (w : World) (n : Int) (wn : (Lit.int .i64 n).wf = true) (A : Option Addr) (c : Nat) (l : List (Int × Int)) (h : SlD w w.heap.size A l)
    (hj : l.length ≤ c ∧ c ≤ maxLen ∧ ∀ x ∈ l, (Lit.int .i64 x.1).wf = true ∧ (Lit.int .i64 x.2).wf = true) :
    Calls Try.prog 11 #[.int .i64 n, .slice A l.length c] w fun e w' => e = .returned (.bool true) ∧ Below w.heap.size w w' :=
  WIsOwnMirror.core w n A c l h hj.1 hj.2.1 (omR n l) (triB n l)
    (Lib.hid fun A c w h hl hlc => spec_IsOwnMirror n A c _ l w h (Nat.le_refl _) hl hlc)
    (Lib.hid fun A c w h hl hlc => impl_IsOwnMirror n A c _ l w h (Nat.le_refl _) hl hlc)
end Go.Proofs.Ytbpaaoeefcebeab
