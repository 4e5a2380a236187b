/- The walk of IsFrieze's law, out of the contracts of the model's function and of the program's. -/
import Derived.Test.YtbcdpcnjmchhpabLawS2
import Derived.Test.YtbcdpcnjmchhpabCapS
namespace Go.Proofs.Ytbcdpcnjmchhpab
set_option linter.unusedVariables false
open Go.RowKit

set_option maxRecDepth 100000 in
set_option maxHeartbeats 3200000 in
theorem WIsFrieze.core (w : World) (A : Option Addr) (c n : Nat) (Ls : List (List Int)) (hn : Ls.length = n) (h : SlSS w w.heap.size A Ls) (hm : n ≤ c) (hx : c ≤ maxLen) (hr : ∀ j, j < Ls.length → (rowOf Ls j).length ≤ maxLen)
    (ok : Bool) (hs : Hid (∀ (A : Option Addr) (c : Nat) (w : World), SlSS w w.heap.size A Ls → CapSS w A n → n ≤ 1048576 → (∀ j, j < Ls.length → (rowOf Ls j).length ≤ 1048576) → Calls Try.prog 35 #[.slice A n c] w (fun e w' => e = .returned (.bool ok) ∧ Below w.heap.size w w')))
    (hi : Hid (∀ (A : Option Addr) (c : Nat) (w : World), SlSS w w.heap.size A Ls → CapSS w A n → n ≤ 1048576 → (∀ j, j < Ls.length → (rowOf Ls j).length ≤ 1048576) → Calls Try.prog 37 #[.slice A n c] w (fun e w' => e = .returned (.bool ok) ∧ Below w.heap.size w w'))) :
    Calls Try.prog 9 #[.slice A n c] w fun e w' => e = .returned (.bool true) ∧ Below w.heap.size w w' := by
  have Hz := Lib.hid (laws_szIntSS A c w.heap.size n Ls w hn h (by omega) hr)
  have H := Lib.hid h
  have Hn := Lib.hid hn
  have hd := Below.refl w.heap.size w
  clear h hn
  go_enter Try.func9, Try.ntmps9
  go_wp2_with fail
  refine Hz.out.mono ?_
  rintro e wz ⟨r, rfl, rfl, hsz⟩
  clear Hz
  by_cases hr0 : r < 0
  · clear hs hi hsz
    go_wp2
    go_ret
    exact ⟨rfl, hd⟩
  · obtain ⟨_, hl, hp⟩ := hsz.resolve_left hr0
    rw [Hn.out] at hl
    have hrow : ∀ j, j < Ls.length → (rowOf Ls j).length ≤ 1048576 := fun j hj => by
      have h1 := pre_succ Ls j hj
      have h2 := pre_le Ls (j + 1) (Ls.length - (j + 1)) (by omega)
      rw [show j + 1 + (Ls.length - (j + 1)) = Ls.length by omega] at h2
      omega
    have Hp := Lib.hid hp
    have Hrow := Lib.hid hrow
    clear hp hrow hsz hr
    go_wp2_with fail
    refine (laws_toIntSS A c w.heap.size n Ls _ Hn.out (H.out.below hd) hd.size hl Hrow.out).mono ?_
    rintro e whT ⟨rshT, rfl, hT, hb⟩
    replace hd := below_kept hd (Nat.le_refl _) hb
    clear hb
    go_wp2_with fail
    refine (hs.out _ _ _ hT.sl (hT.cap Hn.out) hl Hrow.out).mono ?_
    rintro e whW ⟨rfl, hb⟩
    replace hd := below_kept hd (Nat.le_refl _) hb
    clear hb
    clear hT hs
    go_wp2_with fail
    have hx0 := hd.size
    refine (laws_toIntSS A c w.heap.size n Ls _ Hn.out (H.out.below hd) hd.size hl Hrow.out).mono ?_
    rintro e whX ⟨rshX, rfl, hX, hb⟩
    have HbX := Lib.hid hb.size
    replace hd := below_kept hd (Nat.le_refl _) hb
    clear hb
    go_wp2_with fail
    refine (hi.out _ _ _ hX.sl (hX.cap Hn.out) hl Hrow.out).mono ?_
    rintro e whG ⟨rfl, hb⟩
    replace hX := hX.kept hb
    replace hd := below_kept hd (Nat.le_refl _) hb
    clear hb
    go_wp2_with fail
    refine (laws_toIntSS A c w.heap.size n Ls _ Hn.out (H.out.below hd) hd.size hl Hrow.out).mono ?_
    rintro e whY ⟨rshY, rfl, hY, hb⟩
    replace hX := hX.kept hb
    replace hd := below_kept hd (Nat.le_refl _) hb
    clear hb
    go_wp2_with fail
    have SX := hX.sl
    have SY := hY.sl
    refine (laws_eqIntSS_n _ _ _ _ _ _ n Ls _ Hn.out SX SY hl Hrow.out).mono ?_
    rintro e wqx ⟨rfl, hb⟩
    replace hX := hX.kept hb
    replace hd := below_kept hd (Nat.le_refl _) hb
    clear hb
    clear SX SY hY
    go_wp2_with fail
    clear hX hi
    go_wp2
    go_ret
    exact ⟨rfl, hd⟩

end Go.Proofs.Ytbcdpcnjmchhpab
