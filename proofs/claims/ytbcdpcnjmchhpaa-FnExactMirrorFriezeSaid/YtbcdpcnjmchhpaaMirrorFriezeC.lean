/- The walk of MirrorFrieze's law, out of the contracts of the model's function and of the program's. -/
import Derived.Test.YtbcdpcnjmchhpaaLawS2
import Derived.Test.YtbcdpcnjmchhpaaCapS
namespace Go.Proofs.Ytbcdpcnjmchhpaa
set_option linter.unusedVariables false
open Go.RowKit

set_option maxRecDepth 100000 in
set_option maxHeartbeats 3200000 in
theorem WMirrorFrieze.core (w : World) (A : Option Addr) (c n : Nat) (Ls : List (List Int)) (hn : Ls.length = n) (h : SlSS w w.heap.size A Ls) (hm : n ≤ c) (hx : c ≤ maxLen) (hr : ∀ j, j < Ls.length → (rowOf Ls j).length ≤ maxLen)
    (L : List (List Int)) (ok : Bool) (hL : L.length ≤ 1000000) (hLr : ∀ j, j < L.length → (rowOf L j).length ≤ 1000000) (hLp : pre L L.length ≤ 1000000) (hs : Hid (∀ (A : Option Addr) (c : Nat) (w : World), SlSS w w.heap.size A Ls → CapSS w A n → n ≤ 1048576 → (∀ j, j < Ls.length → (rowOf Ls j).length ≤ 1048576) → Calls Try.prog 55 #[.slice A n c] w (RetSS w L ok)))
    (hi : Hid (∀ (A : Option Addr) (c : Nat) (w : World), SlSS w w.heap.size A Ls → CapSS w A n → n ≤ 1048576 → (∀ j, j < Ls.length → (rowOf Ls j).length ≤ 1048576) → Calls Try.prog 56 #[.slice A n c] w (RetSS w L ok))) :
    Calls Try.prog 14 #[.slice A n c] w fun e w' => e = .returned (.bool true) ∧ Below w.heap.size w w' := by
  have Hz := Lib.hid (laws_szIntSS A c w.heap.size n Ls w hn h (by omega) hr)
  have H := Lib.hid h
  have Hn := Lib.hid hn
  have hd := Below.refl w.heap.size w
  clear h hn
  have HLr := Lib.hid hLr
  have HLp := Lib.hid hLp
  clear hLr hLp
  go_enter Try.func14, Try.ntmps14
  go_wp2_with fail
  refine Hz.out.mono ?_
  rintro e wz ⟨r, rfl, rfl, hsz⟩
  clear Hz
  by_cases hr0 : r < 0
  · clear hs hi hsz
    go_wp2
    go_ret
    exact ⟨rfl, hd⟩
  · obtain ⟨_, hl, hp⟩ := hsz.resolve_left hr0
    rw [Hn.out] at hl
    have hrow : ∀ j, j < Ls.length → (rowOf Ls j).length ≤ 1048576 := fun j hj => by
      have h1 := pre_succ Ls j hj
      have h2 := pre_le Ls (j + 1) (Ls.length - (j + 1)) (by omega)
      rw [show j + 1 + (Ls.length - (j + 1)) = Ls.length by omega] at h2
      omega
    have Hp := Lib.hid hp
    have Hrow := Lib.hid hrow
    clear hp hrow hsz hr
    go_wp2_with fail
    refine (laws_toIntSS A c w.heap.size n Ls _ Hn.out (H.out.below hd) hd.size hl Hrow.out).mono ?_
    rintro e whT ⟨rshT, rfl, hT, hb⟩
    replace hd := below_kept hd (Nat.le_refl _) hb
    clear hb
    go_wp2_with fail
    refine (hs.out _ _ _ hT.sl (hT.cap Hn.out) hl Hrow.out).mono ?_
    rintro e whW ⟨AhW, chW, rshW, rfl, hW, hb⟩
    replace hd := below_kept hd (Nat.le_refl _) hb
    clear hb
    clear hT hs
    have sW := Lib.hid hW.sl
    have hdW := Below.refl whW.heap.size whW
    clear hW
    go_wp2_with fail
    have hx0 := hd.size
    have HxW := Lib.hid hdW.size
    refine (laws_toIntSS A c w.heap.size n Ls _ Hn.out (H.out.below hd) hd.size hl Hrow.out).mono ?_
    rintro e whX ⟨rshX, rfl, hX, hb⟩
    have HbX := Lib.hid hb.size
    replace hdW := below_kept hdW (Nat.le_refl _) hb
    replace hd := below_kept hd (Nat.le_refl _) hb
    clear hb
    go_wp2_with fail
    have XB := Lib.hid hX.blk
    have XL : Hid (∀ k, RowBlk rshX n k → whW.heap.size ≤ k) := Lib.hid (fun k hk => by
      obtain ⟨j, hj, e⟩ := hk
      exact ((hX.2.2.1 j (by rw [Hn.out]; exact hj)).lt k e).1)
    have Hgz := Lib.hid hd.size
    have HWG := Lib.hid hdW.size
    refine (hi.out _ _ _ hX.sl (hX.cap Hn.out) hl Hrow.out).mono ?_
    rintro e whG ⟨AhG, chG, rshG, rfl, hG, hb⟩
    have Hz := Lib.hid hb.size
    have HbG := Lib.hid hb.size
    have XG : Hid (∀ k, whX.heap.size ≤ k → ¬RowBlk rshX n k) := Lib.hid (fun k hk ⟨j, hj, e⟩ => by
      have := XB.out j (by rw [Hn.out]; exact hj) k e
      omega)
    replace hX := hX.kept hb
    replace hdW := below_kept hdW (Nat.le_refl _) hb
    replace hd := below_kept hd (Nat.le_refl _) hb
    clear hb
    go_wp2_with fail
    refine (laws_eqIntSS _ _ _ _ _ _ L _ hG.sl (sW.out.below hdW) hL HLr.out).mono ?_
    rintro e wq1 ⟨rfl, hb⟩
    replace hX := hX.kept hb
    replace hG := hG.kept hb
    replace hdW := below_kept hdW (Nat.le_refl _) hb
    replace Hz := Lib.hid (Nat.le_trans Hz.out hb.size)
    replace hd := below_kept hd (Nat.le_refl _) hb
    clear hb
    go_wp2_with fail
    refine (laws_toIntSS A c w.heap.size n Ls _ Hn.out (H.out.below hd) hd.size hl Hrow.out).mono ?_
    rintro e whY ⟨rshY, rfl, hY, hb⟩
    replace hX := hX.kept hb
    replace hG := hG.kept hb
    replace hdW := below_kept hdW (Nat.le_refl _) hb
    replace Hz := Lib.hid (Nat.le_trans Hz.out hb.size)
    replace hd := below_kept hd (Nat.le_refl _) hb
    clear hb
    go_wp2_with fail
    have SX := hX.sl
    have SY := hY.sl
    refine (laws_eqIntSS_n _ _ _ _ _ _ n Ls _ Hn.out SX SY hl Hrow.out).mono ?_
    rintro e wqx ⟨rfl, hb⟩
    replace hX := hX.kept hb
    replace hG := hG.kept hb
    replace hdW := below_kept hdW (Nat.le_refl _) hb
    replace Hz := Lib.hid (Nat.le_trans Hz.out hb.size)
    replace hd := below_kept hd (Nat.le_refl _) hb
    clear hb
    clear SX SY hY
    go_wp2_with fail
    refine (laws_markIntSS_n _ _ _ _ n Ls _ Hn.out hX (Nat.le_of_lt (hX.2.1.lt _ rfl).2) hl Hp.out).mono ?_
    rintro e wm ⟨rfl, ho⟩
    replace hG := hG.only ho XG.out
    replace hdW := below_only hdW ho (fun k hs => XL.out k hs)
    replace Hz := Lib.hid (Nat.le_trans Hz.out ho.size)
    replace hd := below_only hd ho (fun k hs => Nat.le_trans hx0 (XL.out k hs))
    clear ho hX
    go_wp2_with fail
    refine (laws_eqIntSS _ _ _ _ _ _ L _ hG.sl (sW.out.below hdW) hL HLr.out).mono ?_
    rintro e wq2 ⟨rfl, hb⟩
    replace hG := hG.kept hb
    replace hdW := below_kept hdW (Nat.le_refl _) hb
    replace Hz := Lib.hid (Nat.le_trans Hz.out hb.size)
    replace hd := below_kept hd (Nat.le_refl _) hb
    clear hb
    go_wp2_with fail
    have hlen := Lib.hid (mkd_length L L.length)
    refine (laws_markIntSS _ _ _ _ L _ hG Hz.out hL HLp.out).mono ?_
    rintro e wn ⟨rfl, hN, hbm⟩
    replace hdW := hdW.trans (hbm.mono HWG.out)
    replace Hz := Lib.hid (Nat.le_trans Hz.out hbm.size)
    replace hd := hd.trans (hbm.mono Hgz.out)
    clear hbm hG
    go_wp2_with fail
    have hG := hN
    clear hN
    have sG := hG.sl
    refine (laws_heldIntSS _ _ _ L _ sG hL HLp.out).mono ?_
    rintro e wh3 ⟨rfl, rfl⟩
    clear sG
    go_wp2_with fail
    refine (laws_toIntSS A c w.heap.size n Ls _ Hn.out (H.out.below hd) hd.size hl Hrow.out).mono ?_
    rintro e whU ⟨rshU, rfl, hU, hb⟩
    replace hG := hG.kept hb
    replace hdW := below_kept hdW (Nat.le_refl _) hb
    replace Hz := Lib.hid (Nat.le_trans Hz.out hb.size)
    replace hd := below_kept hd (Nat.le_refl _) hb
    clear hb
    go_wp2_with fail
    refine (hi.out _ _ _ hU.sl (hU.cap Hn.out) hl Hrow.out).mono ?_
    rintro e whH ⟨AhH, chH, rshH, rfl, hH, hb⟩
    replace hG := hG.kept hb
    replace hdW := below_kept hdW (Nat.le_refl _) hb
    replace Hz := Lib.hid (Nat.le_trans Hz.out hb.size)
    replace hd := below_kept hd (Nat.le_refl _) hb
    clear hb
    clear hU hi
    go_wp2_with fail
    refine (laws_eqIntSS _ _ _ _ _ _ L _ hH.sl (sW.out.below hdW) hL HLr.out).mono ?_
    rintro e wq4 ⟨rfl, hb⟩
    replace hG := hG.kept hb
    replace hH := hH.kept hb
    replace hdW := below_kept hdW (Nat.le_refl _) hb
    replace Hz := Lib.hid (Nat.le_trans Hz.out hb.size)
    replace hd := below_kept hd (Nat.le_refl _) hb
    clear hb
    go_wp2_with fail
    have sG := hG.sl
    refine (laws_heldIntSS _ _ _ L _ sG hL HLp.out).mono ?_
    rintro e wh5 ⟨rfl, rfl⟩
    clear sG
    go_wp2_with fail
    clear hG hH
    go_wp2
    go_ret
    exact ⟨rfl, hd⟩

end Go.Proofs.Ytbcdpcnjmchhpaa
