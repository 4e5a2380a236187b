/- Triangulations of one kind: the closure of CountSymmetric$1. -/
import Derived.Test.YtbpaaoeefcebeabDelU
import Derived.Test.YtbpaaoeefcebeabLstJ
import Derived.Test.YtbpaaoeefcebeabEqlD
namespace Go.Proofs.Ytbpaaoeefcebeab
set_option linter.unusedVariables false
open Go.RowKit

set_option maxRecDepth 100000 in
set_option maxHeartbeats 1600000 in
theorem impl_CountSymmetric1 (gn m gk k : Nat) (A : Option Addr) (q c B : Nat) (l : List (Int × Int)) (w : World) (hn : w.cell? ⟨gn, 0, none⟩ = some (.int .i64 m)) (hk : w.cell? ⟨gk, 0, none⟩ = some (.int .i64 k)) (hkm : k < m) (hl : l.length = q) (h : SlD w B A l) (hB : B ≤ w.heap.size) (ht : triB m l = true) :
    Calls Try.prog 77 #[.slice A q c, .pointer (some ⟨gn, 0, none⟩), .pointer (some ⟨gk, 0, none⟩)] w (SameEnd (trn m l k) l w) := by
  have hm := tri_n ht
  have hcall := impl_turned m (k : Int) A c B l w (by omega) (by omega) (by omega) ht h hB
  rw [hl] at hcall
  have Hc := Lib.hid hcall
  have HX := Lib.hid (show (trn m l k).length = q by rw [trn_length, hl])
  clear hcall
  have q9 : q ≤ 9 := by omega
  have H := Lib.hid h
  have Hl := Lib.hid hl
  clear h hl ht hm
  go_enter Try.func77, Try.ntmps77
  go_wp2_with fail
  refine Hc.out.mono ?_
  rintro e w1 ⟨A1, c1, rfl, o1, b1⟩
  rw [show sortD (mvL (turnF (m : Int) (k : Int)) l) = trn m l k from rfl] at o1 ⊢
  rw [HX.out] at o1 ⊢
  have B1 := Lib.hid b1
  have S1 := Lib.hid (SlD.of_own o1)
  have S2 := Lib.hid (H.out.below (b1.mono hB))
  have z1 : B ≤ w1.heap.size := Nat.le_trans hB b1.size
  clear b1 o1 Hc H
  go_wp2_with fail
  refine (slices_Equal A A1 q q c c1 B w1.heap.size l (trn m l k) w1 S2.out S1.out Hl.out HX.out rfl z1 (Nat.le_refl _) (by omega)).mono ?_
  rintro e w2 ⟨rfl, b2⟩
  have he : decide (l = trn m l k) = decide (trn m l k = l) := by rw [decide_eq_decide]; exact eq_comm
  rw [he]
  have hres : SameEnd (trn m l k) l w (.returned (.bool (decide (trn m l k = l)))) w2 := ⟨rfl, below_kept B1.out (Nat.le_refl _) b2⟩
  have Hres := Lib.hid hres
  obtain ⟨d, hd⟩ : ∃ d, decide (trn m l k = l) = d := ⟨_, rfl⟩
  rw [hd] at Hres ⊢
  clear hres b2 he hd
  go_wp2
  go_ret
  exact Hres.out

theorem tells_CountSymmetric1 (n : Int) (gn gr gk k : Nat) (w0 : World) (hgn : w0.cell? ⟨gn, 0, none⟩ = some (.int .i64 n)) (hgk : w0.cell? ⟨gk, 0, none⟩ = some (.int .i64 k)) (hltk : gk < gr + 1) (hkn : (k : Int) < n) (hlt : gn < gr + 1) (hgr : w0.cell? ⟨gr, 0, none⟩ = some (.func (.func 77) #[] #[.pointer (some ⟨gn, 0, none⟩), .pointer (some ⟨gk, 0, none⟩)])) :
    Tells n gr (fun l => decide (trn n.toNat l k = l)) w0 := by
  intro A q c l w hb hs hl ht
  have hm := tri_n ht
  obtain ⟨m, rfl⟩ := Int.eq_ofNat_of_zero_le (show 0 ≤ n by omega)
  have c1 := (hb.cell (p := ⟨gr, 0, none⟩) (Nat.lt_succ_self _)).trans hgr
  have c2 := (hb.cell (p := ⟨gn, 0, none⟩) hlt).trans hgn
  have c3 := (hb.cell (p := ⟨gk, 0, none⟩) hltk).trans hgk
  have Hc := Lib.hid (impl_CountSymmetric1 gn m gk k A q c w.heap.size l w c2 c3 (by omega) hl hs (Nat.le_refl _) ht)
  clear hs hl ht hm c2 c3
  go_enter Try.func109, Try.ntmps109
  go_wp2_with fail
  refine Hc.out.mono ?_
  rintro e w2 ⟨rfl, b2⟩
  have hres : (Ending.returned (.bool (!decide (trn m l k = l))) = .returned (.bool (!(fun l => decide (trn (m : Int).toNat l k = l)) l))) ∧ Below w.heap.size w w2 := ⟨rfl, b2⟩
  clear b2 Hc
  have Hres := Lib.hid hres
  clear hres
  cases hd : decide (trn m l k = l)
  · go_wp2
    go_ret
    refine ⟨?_, Hres.out.2⟩
    show Ending.returned (.bool true) = .returned (.bool (!decide (trn m l k = l)))
    rw [hd]; rfl
  · go_wp2
    go_ret
    refine ⟨?_, Hres.out.2⟩
    show Ending.returned (.bool false) = .returned (.bool (!decide (trn m l k = l)))
    rw [hd]; rfl
end Go.Proofs.Ytbpaaoeefcebeab
