/- The walk of IsDesk's law, out of the contracts of the model's function and of the program's. -/
import Derived.Test.YtbpaaoeefcebeabDskH
namespace Go.Proofs.Ytbpaaoeefcebeab
set_option linter.unusedVariables false
open Go.RowKit

set_option maxRecDepth 100000 in
set_option maxHeartbeats 6400000 in
theorem WIsDesk.core (w : World) (A0 : Option Addr) (c0 : Nat) (l0 : List Int) (m0 : Int)
    (h0 : SlI w w.heap.size A0 l0) (hm0 : l0.length ≤ c0) (hx0 : c0 ≤ maxLen)
    (r0 : Bool) (hs : Hid (∀ (A0 : Option Addr) (c0 : Nat) (w : World), SlI w w.heap.size A0 l0 → l0.length ≤ 1048576 → l0.length ≤ c0 → Calls Try.prog 52 #[.agg #[.slice A0 l0.length c0, .int .i64 m0]] w (fun e w' => e = .returned (.bool r0) ∧ Below w.heap.size w w')))
    (hi : Hid (∀ (A0 : Option Addr) (c0 : Nat) (w : World), SlI w w.heap.size A0 l0 → l0.length ≤ 1048576 → l0.length ≤ c0 → Calls Try.prog 54 #[.agg #[.slice A0 l0.length c0, .int .i64 m0]] w (fun e w' => e = .returned (.bool r0) ∧ Below w.heap.size w w'))) :
    Calls Try.prog 14 #[.agg #[.slice A0 l0.length c0, .int .i64 m0]] w fun e w' => e = .returned (.bool true) ∧ Below w.heap.size w w' := by
  rcases Nat.lt_or_ge 1048576 l0.length with hl0 | hl0
  · have hdd := Below.refl w.heap.size w
    have hdd := below_box (Below.refl w.heap.size w) (Nat.le_refl _) (.cells #[.slice A0 l0.length c0, .int .i64 m0] 57)
    clear h0 hs hi
    go_enter Try.func14, Try.ntmps14
    go_wp2_with fail
    refine (laws_szDesk_gt A0 l0.length c0 m0 _ (by omega) (by omega)).mono ?_
    rintro e wz ⟨rfl, hb⟩
    replace hdd := below_kept hdd (Nat.le_refl _) hb
    clear hb
    go_wp2
    go_ret
    exact ⟨rfl, hdd⟩
  have hd := Below.refl w.heap.size w
  go_enter Try.func14, Try.ntmps14
  go_wp2_with fail
  have hb := below_box (Below.refl w.heap.size w) (Nat.le_refl _) (.cells #[.slice A0 l0.length c0, .int .i64 m0] 57)
  replace hd := below_kept hd (Nat.le_refl _) hb
  clear hb
  have Q0 := Lib.hid (Bd.new w (.slice A0 l0.length c0) m0 57)
  refine (laws_szDesk_le A0 l0.length c0 m0 _ (by omega)).mono ?_
  rintro e wz ⟨rfl, hb⟩
  replace Q0 := Lib.hid (Q0.out.kept hb)
  replace hd := below_kept hd (Nat.le_refl _) hb
  clear hb
  obtain ⟨cQ0, dQ0⟩ := Q0.out.cell
  have yQ0 := Q0.out.lt
  go_wp2_with fail
  clear cQ0 dQ0 yQ0
  refine (laws_toDesk A0 c0 w.heap.size l0 m0 _ (h0.below hd) hd.size hl0).mono ?_
  rintro e whT0 ⟨ghT0, rfl, hT0, hb⟩
  replace Q0 := Lib.hid (Q0.out.kept hb)
  replace hd := below_kept hd (Nat.le_refl _) hb
  clear hb
  obtain ⟨cQ0, dQ0⟩ := Q0.out.cell
  have yQ0 := Q0.out.lt
  go_wp2_with fail
  clear cQ0 dQ0 yQ0
  refine (hs.out _ _ _ (SlI.of_own hT0) hl0 (Nat.le_refl _)).mono ?_
  rintro e whW ⟨rfl, hb⟩
  replace hT0 := own_kept hT0 hb
  replace Q0 := Lib.hid (Q0.out.kept hb)
  replace hd := below_kept hd (Nat.le_refl _) hb
  clear hb
  clear hT0
  obtain ⟨cQ0, dQ0⟩ := Q0.out.cell
  have yQ0 := Q0.out.lt
  go_wp2_with fail
  clear cQ0 dQ0 yQ0
  refine (laws_toDesk A0 c0 w.heap.size l0 m0 _ (h0.below hd) hd.size hl0).mono ?_
  rintro e whX0 ⟨ghX0, rfl, hX0, hb⟩
  replace Q0 := Lib.hid (Q0.out.kept hb)
  replace hd := below_kept hd (Nat.le_refl _) hb
  clear hb
  obtain ⟨cQ0, dQ0⟩ := Q0.out.cell
  have yQ0 := Q0.out.lt
  go_wp2_with fail
  clear cQ0 dQ0 yQ0
  have hb := below_box (Below.refl whX0.heap.size whX0) (Nat.le_refl _) (.cells #[.slice (some ⟨ghX0, 0, none⟩) l0.length l0.length, .int .i64 m0] 52)
  replace hX0 := own_kept hX0 hb
  replace Q0 := Lib.hid (Q0.out.kept hb)
  replace hd := below_kept hd (Nat.le_refl _) hb
  clear hb
  have QX := Lib.hid (Bd.new whX0 (.slice (some ⟨ghX0, 0, none⟩) l0.length l0.length) m0 52)
  refine (hi.out _ _ _ (SlI.of_own hX0) hl0 (Nat.le_refl _)).mono ?_
  rintro e whG ⟨rfl, hb⟩
  replace hX0 := own_kept hX0 hb
  replace Q0 := Lib.hid (Q0.out.kept hb)
  replace QX := Lib.hid (QX.out.kept hb)
  replace hd := below_kept hd (Nat.le_refl _) hb
  clear hb
  obtain ⟨cQ0, dQ0⟩ := Q0.out.cell
  have yQ0 := Q0.out.lt
  obtain ⟨cQX, dQX⟩ := QX.out.cell
  have yQX := QX.out.lt
  go_wp2_with fail
  clear cQ0 dQ0 yQ0 cQX dQX yQX
  have HY : Hid (∀ w', Below whG.heap.size whG w' → Calls Try.prog 53 #[.agg #[.slice A0 l0.length c0, .int .i64 m0]] w' fun e w1 => ∃ g, e = .returned (.agg #[.slice (some ⟨g, 0, none⟩) l0.length l0.length, .int .i64 m0]) ∧ w1.ownsRow w'.heap.size 3 1 (.slice (some ⟨g, 0, none⟩) l0.length l0.length) l0.length (ics l0) ∧ Below w'.heap.size w' w1) :=
    Lib.hid fun w' hb' => laws_toDesk A0 c0 w.heap.size l0 m0 w' (h0.below (below_kept hd (Nat.le_refl _) hb')) (below_kept hd (Nat.le_refl _) hb').size hl0
  have HE : Hid (∀ (w' : World) (g base : Nat), Below whG.heap.size whG w' → w'.ownsRow base 3 1 (.slice (some ⟨g, 0, none⟩) l0.length l0.length) l0.length (ics l0) → Calls Try.prog 48 #[.agg #[.slice (some ⟨ghX0, 0, none⟩) l0.length l0.length, .int .i64 m0], .agg #[.slice (some ⟨g, 0, none⟩) l0.length l0.length, .int .i64 m0]] w' fun e w1 => e = .returned (.bool true) ∧ Below w'.heap.size w' w1) :=
    Lib.hid fun w' g base hb' hy => laws_eqDesk _ _ _ _ _ _ _ _ _ (SlI.of_own (own_kept hX0 hb')) (Nat.le_refl _) (SlI.of_own hy) (Nat.le_refl _) (by omega)
  obtain ⟨yX, zX⟩ := QX.out.cell
  obtain ⟨yP, zP⟩ := Q0.out.cell
  go_region_held3 (fun w' => w'.cell? ⟨whX0.heap.size, 0, none⟩ = some (.slice (some ⟨ghX0, 0, none⟩) l0.length l0.length) ∧ w'.cell? ⟨whX0.heap.size, 1, none⟩ = some (.int .i64 m0) ∧ w'.cell? ⟨w.heap.size, 0, none⟩ = some (.slice A0 l0.length c0) ∧ w'.cell? ⟨w.heap.size, 1, none⟩ = some (.int .i64 m0) ∧ Below whG.heap.size whG w')
    (first
      | with_reducible exact kept4 (by assumption) hb1 (Nat.le_refl _)
      | exact ⟨yX, zX, yP, zP, (Below.refl _ _).drew⟩)
    (first
      | (go_at_call 53; refine (HY.out _ (And.right (And.right (And.right (And.right (by assumption)))))).mono ?_; rintro e w1 ⟨gY, rfl, hY, hb1⟩)
      | (go_at_call 48; refine (HE.out _ _ _ (And.right (And.right (And.right (And.right (by assumption))))) hY).mono ?_; rintro e w1 ⟨rfl, hb1⟩))
  rename_i hS
  have hb := hS.2.2.2.2
  clear hS HY HE yX yP zX zP hb1 hY
  replace hX0 := own_kept hX0 hb
  replace Q0 := Lib.hid (Q0.out.kept hb)
  replace QX := Lib.hid (QX.out.kept hb)
  replace hd := below_kept hd (Nat.le_refl _) hb
  clear hb
  obtain ⟨cQ0, dQ0⟩ := Q0.out.cell
  have yQ0 := Q0.out.lt
  obtain ⟨cQX, dQX⟩ := QX.out.cell
  have yQX := QX.out.lt
  go_wp2_with fail
  clear cQ0 dQ0 yQ0 cQX dQX yQX
  clear hs hi hX0 Q0 QX h0
  go_wp2
  go_ret
  exact ⟨rfl, hd⟩

end Go.Proofs.Ytbpaaoeefcebeab
