/- Triangulations of one kind: the closure of AllClasses$1. -/
import Derived.Test.YtbpaaoeefcebeabDelU
import Derived.Test.YtbpaaoeefcebeabLstJ
import Derived.Test.YtbpaaoeefcebeabEqlD
namespace Go.Proofs.Ytbpaaoeefcebeab
set_option linter.unusedVariables false
open Go.RowKit

set_option maxRecDepth 100000 in
set_option maxHeartbeats 1600000 in
theorem impl_AllClasses1 (gn m : Nat) (A : Option Addr) (q c B : Nat) (l : List (Int × Int)) (w : World) (hn : w.cell? ⟨gn, 0, none⟩ = some (.int .i64 m)) (hl : l.length = q) (h : SlD w B A l) (hB : B ≤ w.heap.size) (ht : triB m l = true) :
    Calls Try.prog 75 #[.slice A q c, .pointer (some ⟨gn, 0, none⟩)] w (SameEnd (classL m l) l w) := by
  have hm := tri_n ht
  have Hc := Lib.hid (impl_leastOfClass m A c B q l w hl h hB ht)
  have HX := Lib.hid (show (classL m l).length = q by rw [classL_length, hl])
  have q9 : q ≤ 9 := by omega
  have H := Lib.hid h
  have Hl := Lib.hid hl
  clear h hl ht hm
  go_enter Try.func75, Try.ntmps75
  go_wp2_with fail
  refine Hc.out.mono ?_
  rintro e w1 ⟨A1, c1, rfl, o1, b1⟩
  rw [HX.out] at o1 ⊢
  have B1 := Lib.hid b1
  have S1 := Lib.hid (SlD.of_own o1)
  have S2 := Lib.hid (H.out.below (b1.mono hB))
  have z1 : B ≤ w1.heap.size := Nat.le_trans hB b1.size
  clear b1 o1 Hc H
  go_wp2_with fail
  refine (slices_Equal A A1 q q c c1 B w1.heap.size l (classL m l) w1 S2.out S1.out Hl.out HX.out rfl z1 (Nat.le_refl _) (by omega)).mono ?_
  rintro e w2 ⟨rfl, b2⟩
  have he : decide (l = classL m l) = decide (classL m l = l) := by rw [decide_eq_decide]; exact eq_comm
  rw [he]
  have hres : SameEnd (classL m l) l w (.returned (.bool (decide (classL m l = l)))) w2 := ⟨rfl, below_kept B1.out (Nat.le_refl _) b2⟩
  have Hres := Lib.hid hres
  obtain ⟨d, hd⟩ : ∃ d, decide (classL m l = l) = d := ⟨_, rfl⟩
  rw [hd] at Hres ⊢
  clear hres b2 he hd
  go_wp2
  go_ret
  exact Hres.out

theorem tells_AllClasses1 (n : Int) (gn gr : Nat) (w0 : World) (hgn : w0.cell? ⟨gn, 0, none⟩ = some (.int .i64 n)) (hlt : gn < gr + 1) (hgr : w0.cell? ⟨gr, 0, none⟩ = some (.func (.func 75) #[] #[.pointer (some ⟨gn, 0, none⟩)])) :
    Tells n gr (fun l => decide (classL n.toNat l = l)) w0 := by
  intro A q c l w hb hs hl ht
  have hm := tri_n ht
  obtain ⟨m, rfl⟩ := Int.eq_ofNat_of_zero_le (show 0 ≤ n by omega)
  have c1 := (hb.cell (p := ⟨gr, 0, none⟩) (Nat.lt_succ_self _)).trans hgr
  have c2 := (hb.cell (p := ⟨gn, 0, none⟩) hlt).trans hgn
  have Hc := Lib.hid (impl_AllClasses1 gn m A q c w.heap.size l w c2 hl hs (Nat.le_refl _) ht)
  clear hs hl ht hm c2
  go_enter Try.func109, Try.ntmps109
  go_wp2_with fail
  refine Hc.out.mono ?_
  rintro e w2 ⟨rfl, b2⟩
  have hres : (Ending.returned (.bool (!decide (classL m l = l))) = .returned (.bool (!(fun l => decide (classL (m : Int).toNat l = l)) l))) ∧ Below w.heap.size w w2 := ⟨rfl, b2⟩
  clear b2 Hc
  have Hres := Lib.hid hres
  clear hres
  cases hd : decide (classL m l = l)
  · go_wp2
    go_ret
    refine ⟨?_, Hres.out.2⟩
    show Ending.returned (.bool true) = .returned (.bool (!decide (classL m l = l)))
    rw [hd]; rfl
  · go_wp2
    go_ret
    refine ⟨?_, Hres.out.2⟩
    show Ending.returned (.bool false) = .returned (.bool (!decide (classL m l = l)))
    rw [hd]; rfl
end Go.Proofs.Ytbpaaoeefcebeab
