/- The walk of QuiddityOfFrieze's law, out of the contracts of the model's function and of the program's. -/
import Derived.Test.YtbcdpcnjmchhpaaLawS2
import Derived.Test.YtbcdpcnjmchhpaaCapS
namespace Go.Proofs.Ytbcdpcnjmchhpaa
set_option linter.unusedVariables false
open Go.RowKit

set_option maxRecDepth 100000 in
set_option maxHeartbeats 3200000 in
theorem WQuiddityOfFrieze.core (w : World) (A : Option Addr) (c n : Nat) (Ls : List (List Int)) (hn : Ls.length = n) (h : SlSS w w.heap.size A Ls) (hm : n ≤ c) (hx : c ≤ maxLen) (hr : ∀ j, j < Ls.length → (rowOf Ls j).length ≤ maxLen)
    (L : List Int) (ok : Bool) (hL : L.length ≤ 1000000000) (hs : Hid (∀ (A : Option Addr) (c : Nat) (w : World), SlSS w w.heap.size A Ls → CapSS w A n → n ≤ 1048576 → (∀ j, j < Ls.length → (rowOf Ls j).length ≤ 1048576) → Calls Try.prog 50 #[.slice A n c] w (RetI w L ok)))
    (hi : Hid (∀ (A : Option Addr) (c : Nat) (w : World), SlSS w w.heap.size A Ls → CapSS w A n → n ≤ 1048576 → (∀ j, j < Ls.length → (rowOf Ls j).length ≤ 1048576) → Calls Try.prog 52 #[.slice A n c] w (RetI w L ok))) :
    Calls Try.prog 13 #[.slice A n c] w fun e w' => e = .returned (.bool true) ∧ Below w.heap.size w w' := by
  have Hz := Lib.hid (laws_szIntSS A c w.heap.size n Ls w hn h (by omega) hr)
  have H := Lib.hid h
  have Hn := Lib.hid hn
  have hd := Below.refl w.heap.size w
  clear h hn
  go_enter Try.func13, Try.ntmps13
  go_wp2_with fail
  refine Hz.out.mono ?_
  rintro e wz ⟨r, rfl, rfl, hsz⟩
  clear Hz
  by_cases hr0 : r < 0
  · clear hs hi hsz
    go_wp2
    go_ret
    exact ⟨rfl, hd⟩
  · obtain ⟨_, hl, hp⟩ := hsz.resolve_left hr0
    rw [Hn.out] at hl
    have hrow : ∀ j, j < Ls.length → (rowOf Ls j).length ≤ 1048576 := fun j hj => by
      have h1 := pre_succ Ls j hj
      have h2 := pre_le Ls (j + 1) (Ls.length - (j + 1)) (by omega)
      rw [show j + 1 + (Ls.length - (j + 1)) = Ls.length by omega] at h2
      omega
    have Hp := Lib.hid hp
    have Hrow := Lib.hid hrow
    clear hp hrow hsz hr
    go_wp2_with fail
    refine (laws_toIntSS A c w.heap.size n Ls _ Hn.out (H.out.below hd) hd.size hl Hrow.out).mono ?_
    rintro e whT ⟨rshT, rfl, hT, hb⟩
    replace hd := below_kept hd (Nat.le_refl _) hb
    clear hb
    go_wp2_with fail
    refine (hs.out _ _ _ hT.sl (hT.cap Hn.out) hl Hrow.out).mono ?_
    rintro e whW ⟨AhW, chW, rfl, hW, hb⟩
    replace hd := below_kept hd (Nat.le_refl _) hb
    clear hb
    clear hT hs
    go_wp2_with fail
    have WL := Lib.hid hW.lt
    have hx0 := hd.size
    refine (laws_toIntSS A c w.heap.size n Ls _ Hn.out (H.out.below hd) hd.size hl Hrow.out).mono ?_
    rintro e whX ⟨rshX, rfl, hX, hb⟩
    have HbX := Lib.hid hb.size
    replace hW := own_kept hW hb
    replace hd := below_kept hd (Nat.le_refl _) hb
    clear hb
    go_wp2_with fail
    have XB := Lib.hid hX.blk
    have XL : Hid (∀ k, RowBlk rshX n k → whW.heap.size ≤ k) := Lib.hid (fun k hk => by
      obtain ⟨j, hj, e⟩ := hk
      exact ((hX.2.2.1 j (by rw [Hn.out]; exact hj)).lt k e).1)
    have Hgz := Lib.hid hd.size
    refine (hi.out _ _ _ hX.sl (hX.cap Hn.out) hl Hrow.out).mono ?_
    rintro e whG ⟨AhG, chG, rfl, hG, hb⟩
    have HbG := Lib.hid hb.size
    have XG : Hid (∀ k, whX.heap.size ≤ k → ¬RowBlk rshX n k) := Lib.hid (fun k hk ⟨j, hj, e⟩ => by
      have := XB.out j (by rw [Hn.out]; exact hj) k e
      omega)
    have GL := Lib.hid hG.lt
    have NeW : Hid (∀ k, (Value.slice AhW L.length chW).ownBlock = some k → some k ≠ (Value.slice AhG L.length chG).ownBlock) := Lib.hid (fun k hk e => by
      have h1 := (WL.out k hk).2
      have h2 := (hG.lt k e.symm).1
      have h3 := HbX.out
      omega)
    replace hW := own_kept hW hb
    replace hX := hX.kept hb
    replace hd := below_kept hd (Nat.le_refl _) hb
    clear hb
    go_wp2_with fail
    refine (laws_eqIntS _ _ _ _ _ _ _ _ (SlI.of_own hG) (SlI.of_own hW) (by omega)).mono ?_
    rintro e wq1 ⟨rfl, hb⟩
    replace hW := own_kept hW hb
    replace hX := hX.kept hb
    replace hG := own_kept hG hb
    replace hd := below_kept hd (Nat.le_refl _) hb
    clear hb
    go_wp2_with fail
    refine (laws_toIntSS A c w.heap.size n Ls _ Hn.out (H.out.below hd) hd.size hl Hrow.out).mono ?_
    rintro e whY ⟨rshY, rfl, hY, hb⟩
    replace hW := own_kept hW hb
    replace hX := hX.kept hb
    replace hG := own_kept hG hb
    replace hd := below_kept hd (Nat.le_refl _) hb
    clear hb
    go_wp2_with fail
    have SX := hX.sl
    have SY := hY.sl
    refine (laws_eqIntSS_n _ _ _ _ _ _ n Ls _ Hn.out SX SY hl Hrow.out).mono ?_
    rintro e wqx ⟨rfl, hb⟩
    replace hW := own_kept hW hb
    replace hX := hX.kept hb
    replace hG := own_kept hG hb
    replace hd := below_kept hd (Nat.le_refl _) hb
    clear hb
    clear SX SY hY
    go_wp2_with fail
    refine (laws_markIntSS_n _ _ _ _ n Ls _ Hn.out hX (Nat.le_of_lt (hX.2.1.lt _ rfl).2) hl Hp.out).mono ?_
    rintro e wm ⟨rfl, ho⟩
    replace hW := own_only hW ho (fun k hk hs => by
      have h1 := (WL.out k hk).2
      have h2 := XL.out k hs
      omega)
    replace hG := own_only hG ho (fun k hk hs => XG.out k (GL.out k hk).1 hs)
    replace hd := below_only hd ho (fun k hs => Nat.le_trans hx0 (XL.out k hs))
    clear ho hX
    go_wp2_with fail
    refine (laws_eqIntS _ _ _ _ _ _ _ _ (SlI.of_own hG) (SlI.of_own hW) (by omega)).mono ?_
    rintro e wq2 ⟨rfl, hb⟩
    replace hW := own_kept hW hb
    replace hG := own_kept hG hb
    replace hd := below_kept hd (Nat.le_refl _) hb
    clear hb
    go_wp2_with fail
    refine (laws_markIntS_any _ _ _ _ _ hG (by omega)).mono ?_
    rintro e wn ⟨rfl, hN, hg⟩
    replace hW := own_far hW hg NeW.out
    replace hd := below_grown hd hg (Nat.le_refl _) (fun k hk => Nat.le_trans Hgz.out (GL.out k hk).1)
    clear hg hG
    go_wp2_with fail
    have hG := hN
    clear hN
    refine (laws_heldIntS _ _ _ _ _ (SlI.of_own hG) (by omega)).mono ?_
    rintro e wh3 ⟨rfl, rfl⟩
    go_wp2_with fail
    refine (laws_toIntSS A c w.heap.size n Ls _ Hn.out (H.out.below hd) hd.size hl Hrow.out).mono ?_
    rintro e whU ⟨rshU, rfl, hU, hb⟩
    replace hW := own_kept hW hb
    replace hG := own_kept hG hb
    replace hd := below_kept hd (Nat.le_refl _) hb
    clear hb
    go_wp2_with fail
    refine (hi.out _ _ _ hU.sl (hU.cap Hn.out) hl Hrow.out).mono ?_
    rintro e whH ⟨AhH, chH, rfl, hH, hb⟩
    replace hW := own_kept hW hb
    replace hG := own_kept hG hb
    replace hd := below_kept hd (Nat.le_refl _) hb
    clear hb
    clear hU hi
    go_wp2_with fail
    refine (laws_eqIntS _ _ _ _ _ _ _ _ (SlI.of_own hH) (SlI.of_own hW) (by omega)).mono ?_
    rintro e wq4 ⟨rfl, hb⟩
    replace hW := own_kept hW hb
    replace hG := own_kept hG hb
    replace hH := own_kept hH hb
    replace hd := below_kept hd (Nat.le_refl _) hb
    clear hb
    go_wp2_with fail
    refine (laws_heldIntS _ _ _ _ _ (SlI.of_own hG) (by omega)).mono ?_
    rintro e wh5 ⟨rfl, rfl⟩
    go_wp2_with fail
    clear hW hG hH
    go_wp2
    go_ret
    exact ⟨rfl, hd⟩

end Go.Proofs.Ytbcdpcnjmchhpaa
