/- The text of diagonals: the model's. -/
import Derived.Test.YtbebalgleiafdabDoorDtM
import Derived.Test.YtbebalgleiafdabDoorBx2
import Derived.Test.YtbebalgleiafdabDoorKept
import Derived.Deep.RegionHeld3
namespace Go.Proofs.YtbebalgleiafdabDoor
set_option linter.unusedVariables false
open Go.RowKit

set_option maxRecDepth 100000 in
set_option maxHeartbeats 1600000 in
theorem spec_poListed (A : Option Addr) (c B : Nat) (l : List (Int × Int)) (w : World) (h : SlD w B A l) (hB : B ≤ w.heap.size) (hl : l.length ≤ 1048576) :
    Calls Tryd.prog 36 #[.slice A l.length c] w fun e w' => e = .returned (.bool (lisB l)) ∧ Below w.heap.size w w' := by
  by_cases h12 : 12 < l.length
  · have HE := Lib.hid (lisB_len h12)
    clear h
    generalize l.length = n at *
    go_enter Tryd.func36, Tryd.ntmps36
    go_wp2
    go_ret
    exact ⟨ret_bool HE.out.symm, Below.refl _ _⟩
  · go_enter Tryd.func36, Tryd.ntmps36
    go_wp2
    go_loopw [4, 10] (fun _ i wr => ∃ k : Nat, k ≤ l.length ∧ i = .int .i64 k ∧ lisA l k = true ∧ Below w.heap.size w wr) (fun _ i _ => l.length - (intOf i).toNat)
    case atStart => exact ⟨0, Nat.zero_le _, rfl, by simp [lisA], Below.refl _ _⟩
    case round =>
      obtain ⟨k, hk, rfl, ha, hb⟩ := hrel
      by_cases hlt : k < l.length
      · obtain ⟨b, off, rfl, hbB, hc⟩ := h.below (hb.mono hB) (by omega)
        obtain ⟨g0, g1⟩ := hc k hlt
        have i0 : (0 : Int) ≤ (k : Int) := by omega
        have i1 : (k : Int) < (l.length : Int) := by omega
        have hsu := lisA_succ hlt
        rw [ha, Bool.true_and] at hsu
        have hno := lisA_no hlt
        have hop : okP (l.getD k (0, 0)) = (inB (l.getD k (0, 0)).2 1 11 && inB (l.getD k (0, 0)).1 0 ((l.getD k (0, 0)).2 - 1)) := rfl
        rw [hop] at hsu hno
        clear hop hc ha
        generalize l.getD k (0, 0) = d at *
        obtain ⟨x, y⟩ := d
        dsimp only at g0 g1 hsu hno
        have Hsu := Lib.hid hsu
        have Hno := Lib.hid hno
        have Hb := Lib.hid hb
        have hsz := hb.size
        clear hsu hno hb
        go_wp2_with fail
        refine (spec_l1In' _ _ _ _).mono ?_
        rintro e w1 ⟨rfl, rfl⟩
        have D := Lib.hid (Hb.out.alloc hsz (.cells #[.int .i64 x, .int .i64 y] 60))
        cases hy : inB y 1 11
        · have HE := Lib.hid (Hno.out (by rw [hy] <;> rfl))
          clear hy g0 g1
          go_wp2
          go_ret
          exact ⟨ret_bool HE.out.symm, D.out⟩
        · have hyb := inB_iff2.1 hy
          go_wp2_with fail
          refine (spec_l1In' _ _ _ _).mono ?_
          rintro e w1 ⟨rfl, rfl⟩
          cases hx : inB x 0 (y - 1)
          · have HE := Lib.hid (Hno.out (by rw [hy, hx] <;> rfl))
            clear hy hx g0 g1
            go_wp2
            go_ret
            exact ⟨ret_bool HE.out.symm, D.out⟩
          · have HE := Lib.hid (Hsu.out.trans (by rw [hy, hx] <;> rfl))
            clear hy hx g0 g1
            go_wp2
            go_roundw
            case rel => exact ⟨k + 1, by omega, by go_num, HE.out, D.out⟩
            case measure => simp [intOf] <;> omega
      · obtain rfl : k = l.length := by omega
        have HE := Lib.hid (lisA_all ha (by omega))
        clear ha
        go_wp2
        go_ret
        exact ⟨ret_bool HE.out.symm, hb⟩

set_option maxRecDepth 100000 in
set_option maxHeartbeats 3200000 in
theorem spec_poText (A : Option Addr) (c B : Nat) (l : List (Int × Int)) (w : World) (h : SlD w B A l) (hB : B ≤ w.heap.size) (hl : lisB l = true) :
    Calls Tryd.prog 37 #[.slice A l.length c] w fun e w' => e = .returned (.string (bsL (dtL l))) ∧ Below w.heap.size w w' := by
  have hl12 := (lisB_iff.1 hl).1
  by_cases h0 : l.length = 0
  · have HE := Lib.hid (show dtL l = [46] from if_pos h0)
    clear h
    rw [h0]
    go_enter Tryd.func37, Tryd.ntmps37
    go_wp2
    go_ret
    exact ⟨by rw [HE.out]; rfl, Below.refl _ _⟩
  · have HE := Lib.hid (show dtL l = txD l l.length from if_neg h0)
    have n0 : ((l.length : Int) == 0) = false := by simpa using h0
    go_enter Tryd.func37, Tryd.ntmps37
    go_wp2
    go_loopw [3, 4, 5, 11] (fun s _ _ i wr => ∃ k : Nat, k ≤ l.length ∧ i = .int .i64 k ∧ s = .string (bsL (txD l k)) ∧ Below w.heap.size w wr) (fun _ _ _ i _ => l.length - (intOf i).toNat)
    case atStart => exact ⟨0, Nat.zero_le _, rfl, rfl, Below.refl _ _⟩
    case round =>
      obtain ⟨k, hk, rfl, rfl, hb⟩ := hrel
      by_cases hlt : k < l.length
      · obtain ⟨b, off, rfl, hbB, hc⟩ := h.below (hb.mono hB) (by omega)
        obtain ⟨g0, g1⟩ := hc k hlt
        have i0 : (0 : Int) ≤ (k : Int) := by omega
        have i1 : (k : Int) < (l.length : Int) := by omega
        have hok := (lisB_iff.1 hl).2 k hlt
        have htl := txD_len hl k hk
        have hsu : txD l (k + 1) = (if 0 < k then txD l k ++ [44] else txD l k) ++ elD (l.getD k (0, 0)) := rfl
        clear hc
        generalize l.getD k (0, 0) = d at *
        generalize txD l k = T at *
        obtain ⟨x, y⟩ := d
        obtain ⟨ob1, ob2⟩ := okP_iff.1 hok
        dsimp only at g0 g1 ob1 ob2
        obtain ⟨x, rfl⟩ := Int.eq_ofNat_of_zero_le ob2.1
        obtain ⟨y, rfl⟩ := Int.eq_ofNat_of_zero_le (show 0 ≤ y by omega)
        have lx := dig_two (n := x) (by omega)
        have ly := dig_two (n := y) (by omega)
        have x9 : x ≤ 1000000000 := by omega
        have y9 : y ≤ 1000000000 := by omega
        have hel : elD ((x : Int), (y : Int)) = Lib.decDigits x ++ [45] ++ Lib.decDigits y := by simp [elD]
        rw [hel] at hsu
        have sT := bsL_size T
        have sX := bsL_size (Lib.decDigits x)
        have sY := bsL_size (Lib.decDigits y)
        have q1 : ¬ 9223372036854775807 < T.length + 1 := by omega
        have q2 : ¬ 9223372036854775807 < (Lib.decDigits x).length + 1 := by omega
        have q3 : ¬ 9223372036854775807 < (Lib.decDigits x).length + 1 + (Lib.decDigits y).length := by omega
        have q4 : ¬ 9223372036854775807 < T.length + 1 + ((Lib.decDigits x).length + 1 + (Lib.decDigits y).length) := by omega
        have q5 : ¬ 9223372036854775807 < T.length + ((Lib.decDigits x).length + 1 + (Lib.decDigits y).length) := by omega
        have hsz := hb.size
        have D := Lib.hid (hb.alloc hsz (.cells #[.int .i64 (x : Int), .int .i64 (y : Int)] 60))
        have Hx := Lib.hid (Bx2.new wr 60 (x : Int) (y : Int))
        have Hsu := Lib.hid hsu
        have Hl := Lib.hid hl
        clear hsu hb hel hok ob1 ob2 hl
        by_cases k0 : 0 < k
        · have k1 : (0 : Int) < (k : Int) := by omega
          rw [if_pos k0] at Hsu
          have q0 := 0
          go_wp2_with fail
          obtain ⟨⟨a0, a1⟩, a2, a3⟩ := Hx.out
          have D2 := Lib.hid D.out.drew
          clear D Hx q0
          go_region_held3 (fun w' => w'.cell? ⟨wr.heap.size, 0, none⟩ = some (.int .i64 (x : Int)) ∧ w'.cell? ⟨wr.heap.size, 1, none⟩ = some (.int .i64 (y : Int)) ∧ Below w.heap.size w w')
            (first
              | with_reducible exact keptB2 (by assumption) hb1 (Nat.le_refl _)
              | exact ⟨a0, a1, D2.out⟩)
            (first
              | (go_at_call 30; refine (spec_l1Num _ _ (by assumption)).mono ?_; rintro e w1 ⟨rfl, hb1⟩))
          rename_i hS
          have hd := Lib.hid hS.2.2
          clear hS
          go_wp2
          go_roundw
          case rel => exact ⟨k + 1, by omega, by go_num, by rw [Hsu.out, bsL_app, bsL_snoc, bsL_app, bsL_snoc], hd.out⟩
          case measure => simp [intOf] <;> omega
        · have k1 : ¬ (0 : Int) < (k : Int) := by omega
          rw [if_neg k0] at Hsu
          have q0 := 0
          go_wp2_with fail
          obtain ⟨⟨a0, a1⟩, a2, a3⟩ := Hx.out
          have D2 := Lib.hid D.out.drew
          clear D Hx q0
          go_region_held3 (fun w' => w'.cell? ⟨wr.heap.size, 0, none⟩ = some (.int .i64 (x : Int)) ∧ w'.cell? ⟨wr.heap.size, 1, none⟩ = some (.int .i64 (y : Int)) ∧ Below w.heap.size w w')
            (first
              | with_reducible exact keptB2 (by assumption) hb1 (Nat.le_refl _)
              | exact ⟨a0, a1, D2.out⟩)
            (first
              | (go_at_call 30; refine (spec_l1Num _ _ (by assumption)).mono ?_; rintro e w1 ⟨rfl, hb1⟩))
          rename_i hS
          have hd := Lib.hid hS.2.2
          clear hS
          go_wp2
          go_roundw
          case rel => exact ⟨k + 1, by omega, by go_num, by rw [Hsu.out, bsL_app, bsL_app, bsL_snoc], hd.out⟩
          case measure => simp [intOf] <;> omega
      · obtain rfl : k = l.length := by omega
        have HE2 := Lib.hid HE.out
        clear h n0
        go_wp2
        go_ret
        exact ⟨by rw [HE2.out]; rfl, hb⟩
end Go.Proofs.YtbebalgleiafdabDoor
