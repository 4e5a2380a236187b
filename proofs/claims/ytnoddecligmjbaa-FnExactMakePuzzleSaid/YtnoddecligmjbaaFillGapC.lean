/- The walk of FillGap's law, out of the contracts of the model's function and of the program's. -/
import Derived.Test.YtnoddecligmjbaaPuzH
namespace Go.Proofs.Ytnoddecligmjbaa
set_option linter.unusedVariables false
open Go.RowKit

set_option maxRecDepth 100000 in
set_option maxHeartbeats 6400000 in
theorem WFillGap.core (w : World) (A0 : Option Addr) (c0 : Nat) (l0 : List Int) (a1 : Int) (a2 : Int)
    (h0 : SlI w w.heap.size A0 l0) (hm0 : l0.length ≤ c0) (hx0 : c0 ≤ maxLen)
    (L : List Int) (ok : Bool) (hL : L.length ≤ 1000000000) (hs : Hid (∀ (A0 : Option Addr) (c0 : Nat) (w : World), SlI w w.heap.size A0 l0 → l0.length ≤ 1048576 → l0.length ≤ c0 → Calls Try.prog 26 #[.agg #[.slice A0 l0.length c0], .int .i64 a1, .int .i64 a2] w (RetP w L ok)))
    (hi : Hid (∀ (A0 : Option Addr) (c0 : Nat) (w : World), SlI w w.heap.size A0 l0 → l0.length ≤ 1048576 → l0.length ≤ c0 → Calls Try.prog 27 #[.agg #[.slice A0 l0.length c0], .int .i64 a1, .int .i64 a2] w (RetP w L ok))) :
    Calls Try.prog 6 #[.agg #[.slice A0 l0.length c0], .int .i64 a1, .int .i64 a2] w fun e w' => e = .returned (.bool true) ∧ Below w.heap.size w w' := by
  rcases Nat.lt_or_ge 1048576 l0.length with hl0 | hl0
  · have hdd := Below.refl w.heap.size w
    have hdd := below_box (Below.refl w.heap.size w) (Nat.le_refl _) (.cells #[.slice A0 l0.length c0] 24)
    clear h0 hs hi
    go_enter Try.func6, Try.ntmps6
    go_wp2_with fail
    refine (laws_szPuzzle_gt A0 l0.length c0 _ (by omega) (by omega)).mono ?_
    rintro e wz ⟨rfl, hb⟩
    replace hdd := below_kept hdd (Nat.le_refl _) hb
    clear hb
    go_wp2
    go_ret
    exact ⟨rfl, hdd⟩
  have hd := Below.refl w.heap.size w
  go_enter Try.func6, Try.ntmps6
  go_wp2_with fail
  have hb := below_box (Below.refl w.heap.size w) (Nat.le_refl _) (.cells #[.slice A0 l0.length c0] 24)
  replace hd := below_kept hd (Nat.le_refl _) hb
  clear hb
  have Q0 := Lib.hid (Bo.new w (.slice A0 l0.length c0) 24)
  refine (laws_szPuzzle_le A0 l0.length c0 _ (by omega)).mono ?_
  rintro e wz ⟨rfl, hb⟩
  replace Q0 := Lib.hid (Q0.out.kept hb)
  replace hd := below_kept hd (Nat.le_refl _) hb
  clear hb
  have cQ0 := Q0.out.cell
  have yQ0 := Q0.out.lt
  go_wp2_with fail
  clear cQ0 yQ0
  refine (laws_toPuzzle A0 c0 w.heap.size l0 _ (h0.below hd) hd.size hl0).mono ?_
  rintro e whT0 ⟨ghT0, rfl, hT0, hb⟩
  replace Q0 := Lib.hid (Q0.out.kept hb)
  replace hd := below_kept hd (Nat.le_refl _) hb
  clear hb
  have cQ0 := Q0.out.cell
  have yQ0 := Q0.out.lt
  go_wp2_with fail
  clear cQ0 yQ0
  refine (hs.out _ _ _ (SlI.of_own hT0) hl0 (Nat.le_refl _)).mono ?_
  rintro e whW ⟨AhW, chW, rfl, hW, hb⟩
  replace hT0 := own_kept hT0 hb
  replace Q0 := Lib.hid (Q0.out.kept hb)
  replace hd := below_kept hd (Nat.le_refl _) hb
  clear hb
  clear hT0
  have cQ0 := Q0.out.cell
  have yQ0 := Q0.out.lt
  go_wp2_with fail
  clear cQ0 yQ0
  have hb := below_box (Below.refl whW.heap.size whW) (Nat.le_refl _) (.cells #[.slice AhW L.length chW] 27)
  replace hW := own_kept hW hb
  replace Q0 := Lib.hid (Q0.out.kept hb)
  replace hd := below_kept hd (Nat.le_refl _) hb
  clear hb
  have QW := Lib.hid (Bo.new whW (.slice AhW L.length chW) 27)
  have NeWL := Lib.hid hW.lt
  have Hxz0 := hd.size
  refine (laws_toPuzzle A0 c0 w.heap.size l0 _ (h0.below hd) hd.size hl0).mono ?_
  rintro e whX0 ⟨ghX0, rfl, hX0, hb⟩
  replace hW := own_kept hW hb
  replace Q0 := Lib.hid (Q0.out.kept hb)
  replace QW := Lib.hid (QW.out.kept hb)
  replace hd := below_kept hd (Nat.le_refl _) hb
  clear hb
  have NeWX0 := Lib.hid (ne_two NeWL.out hX0)
  have XB0 := Lib.hid (above hX0 Hxz0)
  clear NeWL Hxz0
  have cQ0 := Q0.out.cell
  have yQ0 := Q0.out.lt
  have cQW := QW.out.cell
  have yQW := QW.out.lt
  go_wp2_with fail
  clear cQ0 yQ0 cQW yQW
  have hb := below_box (Below.refl whX0.heap.size whX0) (Nat.le_refl _) (.cells #[.slice (some ⟨ghX0, 0, none⟩) l0.length l0.length] 27)
  replace hW := own_kept hW hb
  replace hX0 := own_kept hX0 hb
  replace Q0 := Lib.hid (Q0.out.kept hb)
  replace QW := Lib.hid (QW.out.kept hb)
  replace hd := below_kept hd (Nat.le_refl _) hb
  clear hb
  have QX := Lib.hid (Bo.new whX0 (.slice (some ⟨ghX0, 0, none⟩) l0.length l0.length) 27)
  have NeWG := Lib.hid hW.lt
  have XG0 := (hX0.lt _ rfl).2
  have Hwz := hd.size
  refine (hi.out _ _ _ (SlI.of_own hX0) hl0 (Nat.le_refl _)).mono ?_
  rintro e whG ⟨AhG, chG, rfl, hG, hb⟩
  have NeGX0 := Lib.hid (ne_new hG XG0)
  have NeW := Lib.hid (ne_two NeWG.out hG)
  have GB := Lib.hid (above hG Hwz)
  clear NeWG XG0 Hwz
  replace hW := own_kept hW hb
  replace hX0 := own_kept hX0 hb
  replace Q0 := Lib.hid (Q0.out.kept hb)
  replace QW := Lib.hid (QW.out.kept hb)
  replace QX := Lib.hid (QX.out.kept hb)
  replace hd := below_kept hd (Nat.le_refl _) hb
  clear hb
  have cQ0 := Q0.out.cell
  have yQ0 := Q0.out.lt
  have cQW := QW.out.cell
  have yQW := QW.out.lt
  have cQX := QX.out.cell
  have yQX := QX.out.lt
  go_wp2_with fail
  clear cQ0 yQ0 cQW yQW cQX yQX
  have hb := below_box (Below.refl whG.heap.size whG) (Nat.le_refl _) (.cells #[.slice AhG L.length chG] 27)
  replace hW := own_kept hW hb
  replace hX0 := own_kept hX0 hb
  replace hG := own_kept hG hb
  replace Q0 := Lib.hid (Q0.out.kept hb)
  replace QW := Lib.hid (QW.out.kept hb)
  replace QX := Lib.hid (QX.out.kept hb)
  replace hd := below_kept hd (Nat.le_refl _) hb
  clear hb
  have QG := Lib.hid (Bo.new whG (.slice AhG L.length chG) 27)
  refine (laws_eqPuzzle _ _ _ _ _ _ _ _ (SlI.of_own hG) (Nat.le_refl _) (SlI.of_own hW) (Nat.le_refl _) (by omega)).mono ?_
  rintro e wq1 ⟨rfl, hb⟩
  replace hW := own_kept hW hb
  replace hX0 := own_kept hX0 hb
  replace hG := own_kept hG hb
  replace Q0 := Lib.hid (Q0.out.kept hb)
  replace QW := Lib.hid (QW.out.kept hb)
  replace QX := Lib.hid (QX.out.kept hb)
  replace QG := Lib.hid (QG.out.kept hb)
  replace hd := below_kept hd (Nat.le_refl _) hb
  clear hb
  have cQ0 := Q0.out.cell
  have yQ0 := Q0.out.lt
  have cQW := QW.out.cell
  have yQW := QW.out.lt
  have cQX := QX.out.cell
  have yQX := QX.out.lt
  have cQG := QG.out.cell
  have yQG := QG.out.lt
  go_wp2_with fail
  clear cQ0 yQ0 cQW yQW cQX yQX cQG yQG
  have HY : Hid (∀ w', Below wq1.heap.size wq1 w' → Calls Try.prog 17 #[.agg #[.slice A0 l0.length c0]] w' fun e w1 => ∃ g, e = .returned (.agg #[.slice (some ⟨g, 0, none⟩) l0.length l0.length]) ∧ w1.ownsRow w'.heap.size 3 1 (.slice (some ⟨g, 0, none⟩) l0.length l0.length) l0.length (ics l0) ∧ Below w'.heap.size w' w1) :=
    Lib.hid fun w' hb' => laws_toPuzzle A0 c0 w.heap.size l0 w' (h0.below (below_kept hd (Nat.le_refl _) hb')) (below_kept hd (Nat.le_refl _) hb').size hl0
  have HE : Hid (∀ (w' : World) (g base : Nat), Below wq1.heap.size wq1 w' → w'.ownsRow base 3 1 (.slice (some ⟨g, 0, none⟩) l0.length l0.length) l0.length (ics l0) → Calls Try.prog 19 #[.agg #[.slice (some ⟨ghX0, 0, none⟩) l0.length l0.length], .agg #[.slice (some ⟨g, 0, none⟩) l0.length l0.length]] w' fun e w1 => e = .returned (.bool true) ∧ Below w'.heap.size w' w1) :=
    Lib.hid fun w' g base hb' hy => laws_eqPuzzle _ _ _ _ _ _ _ _ (SlI.of_own (own_kept hX0 hb')) (Nat.le_refl _) (SlI.of_own hy) (Nat.le_refl _) (by omega)
  have yX := QX.out.cell
  have yP := Q0.out.cell
  go_region_held3 (fun w' => w'.cell? ⟨whX0.heap.size, 0, none⟩ = some (.slice (some ⟨ghX0, 0, none⟩) l0.length l0.length) ∧ w'.cell? ⟨w.heap.size, 0, none⟩ = some (.slice A0 l0.length c0) ∧ Below wq1.heap.size wq1 w')
    (first
      | with_reducible exact kept2 (by assumption) hb1 (Nat.le_refl _)
      | exact ⟨yX, yP, (Below.refl _ _).drew⟩)
    (first
      | (go_at_call 17; refine (HY.out _ (And.right (And.right (by assumption)))).mono ?_; rintro e w1 ⟨gY, rfl, hY, hb1⟩)
      | (go_at_call 19; refine (HE.out _ _ _ (And.right (And.right (by assumption))) hY).mono ?_; rintro e w1 ⟨rfl, hb1⟩))
  rename_i hS
  have hb := hS.2.2
  clear hS HY HE yX yP hb1 hY
  replace hW := own_kept hW hb
  replace hX0 := own_kept hX0 hb
  replace hG := own_kept hG hb
  replace Q0 := Lib.hid (Q0.out.kept hb)
  replace QW := Lib.hid (QW.out.kept hb)
  replace QX := Lib.hid (QX.out.kept hb)
  replace QG := Lib.hid (QG.out.kept hb)
  replace hd := below_kept hd (Nat.le_refl _) hb
  clear hb
  have cQ0 := Q0.out.cell
  have yQ0 := Q0.out.lt
  have cQW := QW.out.cell
  have yQW := QW.out.lt
  have cQX := QX.out.cell
  have yQX := QX.out.lt
  have cQG := QG.out.cell
  have yQG := QG.out.lt
  go_wp2_with fail
  clear cQ0 yQ0 cQW yQW cQX yQX cQG yQG
  have neQ0 := Lib.hid (bo_ne Q0.out hX0 (by decide))
  have neQW := Lib.hid (bo_ne QW.out hX0 (by decide))
  have neQX := Lib.hid (bo_ne QX.out hX0 (by decide))
  have neQG := Lib.hid (bo_ne QG.out hX0 (by decide))
  refine (laws_markPuzzle_any _ _ _ _ _ hX0 (by omega)).mono ?_
  rintro e wm2 ⟨rfl, hN, wmm, hbm, hg⟩
  --MARKED
  replace hd := below_grown (below_kept hd (Nat.le_refl _) hbm) hg (Nat.le_refl _) XB0.out
  replace hW := own_far (own_kept hW hbm) hg NeWX0.out
  replace hG := own_far (own_kept hG hbm) hg NeGX0.out
  replace Q0 := Lib.hid ((Q0.out.kept hbm).far hg neQ0.out)
  replace QW := Lib.hid ((QW.out.kept hbm).far hg neQW.out)
  replace QX := Lib.hid ((QX.out.kept hbm).far hg neQX.out)
  replace QG := Lib.hid ((QG.out.kept hbm).far hg neQG.out)
  clear hg hbm hX0 neQ0 neQW neQX neQG
  clear hN XB0
  have cQ0 := Q0.out.cell
  have yQ0 := Q0.out.lt
  have cQW := QW.out.cell
  have yQW := QW.out.lt
  have cQX := QX.out.cell
  have yQX := QX.out.lt
  have cQG := QG.out.cell
  have yQG := QG.out.lt
  go_wp2_with fail
  clear cQ0 yQ0 cQW yQW cQX yQX cQG yQG
  refine (laws_eqPuzzle _ _ _ _ _ _ _ _ (SlI.of_own hG) (Nat.le_refl _) (SlI.of_own hW) (Nat.le_refl _) (by omega)).mono ?_
  rintro e wq3 ⟨rfl, hb⟩
  replace hW := own_kept hW hb
  replace hG := own_kept hG hb
  replace Q0 := Lib.hid (Q0.out.kept hb)
  replace QW := Lib.hid (QW.out.kept hb)
  replace QX := Lib.hid (QX.out.kept hb)
  replace QG := Lib.hid (QG.out.kept hb)
  replace hd := below_kept hd (Nat.le_refl _) hb
  clear hb
  have cQ0 := Q0.out.cell
  have yQ0 := Q0.out.lt
  have cQW := QW.out.cell
  have yQW := QW.out.lt
  have cQX := QX.out.cell
  have yQX := QX.out.lt
  have cQG := QG.out.cell
  have yQG := QG.out.lt
  go_wp2_with fail
  clear cQ0 yQ0 cQW yQW cQX yQX cQG yQG
  have neQ0 := Lib.hid (bo_ne Q0.out hG (by decide))
  have neQW := Lib.hid (bo_ne QW.out hG (by decide))
  have neQX := Lib.hid (bo_ne QX.out hG (by decide))
  have neQG := Lib.hid (bo_ne QG.out hG (by decide))
  refine (laws_markPuzzle_any _ _ _ _ _ hG (by omega)).mono ?_
  rintro e wm4 ⟨rfl, hN, wmm, hbm, hg⟩
  --MARKED
  replace hd := below_grown (below_kept hd (Nat.le_refl _) hbm) hg (Nat.le_refl _) GB.out
  replace hW := own_far (own_kept hW hbm) hg NeW.out
  replace Q0 := Lib.hid ((Q0.out.kept hbm).far hg neQ0.out)
  replace QW := Lib.hid ((QW.out.kept hbm).far hg neQW.out)
  replace QX := Lib.hid ((QX.out.kept hbm).far hg neQX.out)
  replace QG := Lib.hid ((QG.out.kept hbm).far hg neQG.out)
  clear hg hbm hG neQ0 neQW neQX neQG
  have hG := hN
  clear hN
  have cQ0 := Q0.out.cell
  have yQ0 := Q0.out.lt
  have cQW := QW.out.cell
  have yQW := QW.out.lt
  have cQX := QX.out.cell
  have yQX := QX.out.lt
  have cQG := QG.out.cell
  have yQG := QG.out.lt
  go_wp2_with fail
  clear cQ0 yQ0 cQW yQW cQX yQX cQG yQG
  refine (laws_heldPuzzle _ _ _ _ _ (SlI.of_own hG) (Nat.le_refl _) (by omega)).mono ?_
  rintro e wh5 ⟨rfl, hb⟩
  replace hW := own_kept hW hb
  replace hG := own_kept hG hb
  replace Q0 := Lib.hid (Q0.out.kept hb)
  replace QW := Lib.hid (QW.out.kept hb)
  replace QX := Lib.hid (QX.out.kept hb)
  replace QG := Lib.hid (QG.out.kept hb)
  replace hd := below_kept hd (Nat.le_refl _) hb
  clear hb
  have cQ0 := Q0.out.cell
  have yQ0 := Q0.out.lt
  have cQW := QW.out.cell
  have yQW := QW.out.lt
  have cQX := QX.out.cell
  have yQX := QX.out.lt
  have cQG := QG.out.cell
  have yQG := QG.out.lt
  go_wp2_with fail
  clear cQ0 yQ0 cQW yQW cQX yQX cQG yQG
  refine (laws_toPuzzle A0 c0 w.heap.size l0 _ (h0.below hd) hd.size hl0).mono ?_
  rintro e whU0 ⟨ghU0, rfl, hU0, hb⟩
  replace hW := own_kept hW hb
  replace hG := own_kept hG hb
  replace Q0 := Lib.hid (Q0.out.kept hb)
  replace QW := Lib.hid (QW.out.kept hb)
  replace QX := Lib.hid (QX.out.kept hb)
  replace QG := Lib.hid (QG.out.kept hb)
  replace hd := below_kept hd (Nat.le_refl _) hb
  clear hb
  have cQ0 := Q0.out.cell
  have yQ0 := Q0.out.lt
  have cQW := QW.out.cell
  have yQW := QW.out.lt
  have cQX := QX.out.cell
  have yQX := QX.out.lt
  have cQG := QG.out.cell
  have yQG := QG.out.lt
  go_wp2_with fail
  clear cQ0 yQ0 cQW yQW cQX yQX cQG yQG
  refine (hi.out _ _ _ (SlI.of_own hU0) hl0 (Nat.le_refl _)).mono ?_
  rintro e whH ⟨AhH, chH, rfl, hH, hb⟩
  replace hW := own_kept hW hb
  replace hG := own_kept hG hb
  replace hU0 := own_kept hU0 hb
  replace Q0 := Lib.hid (Q0.out.kept hb)
  replace QW := Lib.hid (QW.out.kept hb)
  replace QX := Lib.hid (QX.out.kept hb)
  replace QG := Lib.hid (QG.out.kept hb)
  replace hd := below_kept hd (Nat.le_refl _) hb
  clear hb
  clear hU0
  have cQ0 := Q0.out.cell
  have yQ0 := Q0.out.lt
  have cQW := QW.out.cell
  have yQW := QW.out.lt
  have cQX := QX.out.cell
  have yQX := QX.out.lt
  have cQG := QG.out.cell
  have yQG := QG.out.lt
  go_wp2_with fail
  clear cQ0 yQ0 cQW yQW cQX yQX cQG yQG
  have hb := below_box (Below.refl whH.heap.size whH) (Nat.le_refl _) (.cells #[.slice AhH L.length chH] 27)
  replace hW := own_kept hW hb
  replace hG := own_kept hG hb
  replace hH := own_kept hH hb
  replace Q0 := Lib.hid (Q0.out.kept hb)
  replace QW := Lib.hid (QW.out.kept hb)
  replace QX := Lib.hid (QX.out.kept hb)
  replace QG := Lib.hid (QG.out.kept hb)
  replace hd := below_kept hd (Nat.le_refl _) hb
  clear hb
  have QH := Lib.hid (Bo.new whH (.slice AhH L.length chH) 27)
  refine (laws_eqPuzzle _ _ _ _ _ _ _ _ (SlI.of_own hH) (Nat.le_refl _) (SlI.of_own hW) (Nat.le_refl _) (by omega)).mono ?_
  rintro e wq6 ⟨rfl, hb⟩
  replace hW := own_kept hW hb
  replace hG := own_kept hG hb
  replace hH := own_kept hH hb
  replace Q0 := Lib.hid (Q0.out.kept hb)
  replace QW := Lib.hid (QW.out.kept hb)
  replace QX := Lib.hid (QX.out.kept hb)
  replace QG := Lib.hid (QG.out.kept hb)
  replace QH := Lib.hid (QH.out.kept hb)
  replace hd := below_kept hd (Nat.le_refl _) hb
  clear hb
  have cQ0 := Q0.out.cell
  have yQ0 := Q0.out.lt
  have cQW := QW.out.cell
  have yQW := QW.out.lt
  have cQX := QX.out.cell
  have yQX := QX.out.lt
  have cQG := QG.out.cell
  have yQG := QG.out.lt
  have cQH := QH.out.cell
  have yQH := QH.out.lt
  go_wp2_with fail
  clear cQ0 yQ0 cQW yQW cQX yQX cQG yQG cQH yQH
  refine (laws_heldPuzzle _ _ _ _ _ (SlI.of_own hG) (Nat.le_refl _) (by omega)).mono ?_
  rintro e wh7 ⟨rfl, hb⟩
  replace hW := own_kept hW hb
  replace hG := own_kept hG hb
  replace hH := own_kept hH hb
  replace Q0 := Lib.hid (Q0.out.kept hb)
  replace QW := Lib.hid (QW.out.kept hb)
  replace QX := Lib.hid (QX.out.kept hb)
  replace QG := Lib.hid (QG.out.kept hb)
  replace QH := Lib.hid (QH.out.kept hb)
  replace hd := below_kept hd (Nat.le_refl _) hb
  clear hb
  have cQ0 := Q0.out.cell
  have yQ0 := Q0.out.lt
  have cQW := QW.out.cell
  have yQW := QW.out.lt
  have cQX := QX.out.cell
  have yQX := QX.out.lt
  have cQG := QG.out.cell
  have yQG := QG.out.lt
  have cQH := QH.out.cell
  have yQH := QH.out.lt
  go_wp2_with fail
  clear cQ0 yQ0 cQW yQW cQX yQX cQG yQG cQH yQH
  clear hs hi hW hG hH Q0 QW QX QG QH h0
  go_wp2
  go_ret
  exact ⟨rfl, hd⟩

end Go.Proofs.Ytnoddecligmjbaa
