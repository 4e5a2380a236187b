/- The model's Farey list. -/
import Derived.Test.YtaifgfmkkgndkabFarM
import Derived.Test.YtaifgfmkkgndkabAppF
import Derived.Test.YtaifgfmkkgndkabNbS
import Derived.Test.YtaifgfmkkgndkabTwoF
import Derived.Deep.DeepCutAuto
import Derived.BigRegion
namespace Go.Proofs.Ytaifgfmkkgndkab
set_option linter.unusedVariables false
open Go.RowKit

/-- how long a slice is -/
def lenF : Value → Nat
  | .slice _ n _ => n
  | _ => 0
theorem own_lit2 (w : World) (a b c d : Int) : (w.alloc (.cells #[.int .i64 a, .int .i64 b, .int .i64 c, .int .i64 d] 32)).ownsRow w.heap.size 32 2 (.slice (some ⟨w.heap.size, 0, none⟩) 2 2) 2 (dcs [(a, b), (c, d)]) :=
  ⟨by simp [dcs], .inr ⟨w.heap.size, 2, _, rfl, Nat.le_refl _, heap_alloc_new w _, Nat.le_refl _, by unfold maxLen; omega, rfl, by simp [dcs]⟩⟩
theorem far_pair (n : Nat) {i : Nat} (h1 : 1 ≤ n) (h2 : n ≤ 40) (hi : i + 1 < (far n).length) :
    ((far n).getD (i + 1) (0, 0)).2 ≤ 1 ∧ (far n).length = i + 2 ∨ 1 < ((far n).getD (i + 1) (0, 0)).2 ∧ i + 2 < (far n).length ∧ (far n).getD (i + 2) (0, 0) = farN n ((far n).getD i (0, 0)) ((far n).getD (i + 1) (0, 0)) :=
  far_step (n := n) 500 (0, 1) (1, (n : Int)) (far_ok h1 h2).1 i hi
theorem far_bd (n : Nat) (h1 : 1 ≤ n) (h2 : n ≤ 40) {i : Nat} (hi : i < (far n).length) : 0 ≤ ((far n).getD i (0, 0)).1 ∧ ((far n).getD i (0, 0)).1 ≤ ((far n).getD i (0, 0)).2 ∧ 1 ≤ ((far n).getD i (0, 0)).2 ∧ ((far n).getD i (0, 0)).2 ≤ n := by
  have := (okSeq_chn (far_ok h1 h2).1).2 (far n)[i] (List.getElem_mem hi)
  have e : (far n).getD i (0, 0) = (far n)[i] := by simp [hi]
  rw [e]
  have := fOk_iff.1 this
  omega
theorem farN_bd {n a b : Int} {x y : Int} (hn : 1 ≤ n ∧ n ≤ 40) (ha : 0 ≤ a ∧ a ≤ b ∧ 1 ≤ b ∧ b ≤ 40) (hx : 0 ≤ x ∧ x ≤ y ∧ 1 ≤ y ∧ y ≤ 40) :
    (0 ≤ (n + b) / y ∧ (n + b) / y ≤ 80) ∧ (0 ≤ (n + b) / y * x ∧ (n + b) / y * x ≤ 3200) ∧ 0 ≤ (n + b) / y * y ∧ (n + b) / y * y ≤ 3200 := by
  have k0 : 0 ≤ (n + b) / y := Int.ediv_nonneg (by omega) (by omega)
  have k1 : (n + b) / y ≤ n + b := Int.ediv_le_self _ (by omega)
  generalize (n + b) / y = k at *
  have p1 := Int.mul_nonneg k0 hx.1
  have p2 := Int.mul_nonneg k0 (show 0 ≤ y by omega)
  have p3 := Int.mul_nonneg (show 0 ≤ 80 - k by omega) (show 0 ≤ x by omega)
  have p4 := Int.mul_nonneg (show 0 ≤ 80 - k by omega) (show 0 ≤ y by omega)
  rw [Int.sub_mul] at p3 p4
  omega
theorem take_next (L : List (Int × Int)) (j : Nat) (h : j < L.length) : L.take (j + 1) = L.take j ++ [L.getD j (0, 0)] := by
  rw [List.take_succ_eq_append_getElem h]
  simp [h]

set_option maxRecDepth 100000 in
set_option maxHeartbeats 6400000 in
theorem spec_nbFarey (n : Nat) (w : World) (h1 : 1 ≤ n) (h2 : n ≤ 40) : Calls Try.prog 50 #[.int .i64 n] w (GivF w (far n)) := by
  have hl := (far_ok h1 h2).2.2
  have hl2 : 2 ≤ (far n).length := by unfold far; simp
  have ht2 : (far n).take 2 = [(0, 1), (1, (n : Int))] := rfl
  have Hp := Lib.hid (fun i => @far_pair n i h1 h2)
  have Hb := Lib.hid (fun i => @far_bd n h1 h2 i)
  have Ht2 := Lib.hid ht2
  have nn : (1 : Int) ≤ (n : Int) := by omega
  have nn2 : (n : Int) ≤ 40 := by omega
  clear ht2
  generalize hF : far n = F at *
  have HF := Lib.hid hF
  clear hF
  go_enter Try.func50, Try.ntmps50
  go_wp2
  go_loopw [3, 4, 5, 6] (fun s _ _ _ wr => ∃ (j : Nat) (A : Option Addr) (c : Nat), 2 ≤ j ∧ j ≤ F.length ∧ s = .slice A j c ∧ wr.ownsRow w.heap.size 32 2 (.slice A j c) j (dcs (F.take j)) ∧ Below w.heap.size w wr) (fun s _ _ _ _ => F.length - lenF s)
  case atStart => exact ⟨2, _, _, Nat.le_refl _, hl2, rfl, by rw [Ht2.out]; exact own_lit2 w 0 1 1 n, below_one _ _⟩
  case round =>
    obtain ⟨j, A, c, hj2, hjl, rfl, ho, hb⟩ := hrel
    obtain ⟨g, cap, hv, hgb, hgl⟩ := ho.form (by omega)
    cases hv
    have htl : (F.take j).length = j := by rw [List.length_take]; omega
    have gt1 : (F.take j).getD (j - 1) (0, 0) = F.getD (j - 1) (0, 0) := by simp [List.getD_eq_getElem?_getD, List.getElem?_take_of_lt (show j - 1 < j by omega)]
    have gt2 : (F.take j).getD (j - 2) (0, 0) = F.getD (j - 2) (0, 0) := by simp [List.getD_eq_getElem?_getD, List.getElem?_take_of_lt (show j - 2 < j by omega)]
    have q0 : wr.cell? ⟨g, (j - 1) * 2, none⟩ = some (.int .i64 (F.getD (j - 1) (0, 0)).1) := by rw [ho.cellAt _ (by omega), dcs_get0 _ _ (by omega), gt1]
    have q1 : wr.cell? ⟨g, (j - 1) * 2 + 1, none⟩ = some (.int .i64 (F.getD (j - 1) (0, 0)).2) := by rw [ho.cellAt _ (by omega), dcs_get1 _ _ (by omega), gt1]
    have p0 : wr.cell? ⟨g, (j - 2) * 2, none⟩ = some (.int .i64 (F.getD (j - 2) (0, 0)).1) := by rw [ho.cellAt _ (by omega), dcs_get0 _ _ (by omega), gt2]
    have p1 : wr.cell? ⟨g, (j - 2) * 2 + 1, none⟩ = some (.int .i64 (F.getD (j - 2) (0, 0)).2) := by rw [ho.cellAt _ (by omega), dcs_get1 _ _ (by omega), gt2]
    have hpp := Hp.out (j - 2) (by omega)
    have hbx := Hb.out (j - 2) (by omega)
    have hby := Hb.out (j - 1) (by omega)
    rw [show j - 2 + 1 = j - 1 by omega, show j - 2 + 2 = j by omega] at hpp
    have i1 : (0 : Int) ≤ (j : Int) - 1 := by omega
    have i2 : (j : Int) - 1 < (j : Int) := by omega
    have i3 : ((j : Int) - 1).toNat = j - 1 := by omega
    have i4 : (0 : Int) ≤ (j : Int) - 2 := by omega
    have i5 : (j : Int) - 2 < (j : Int) := by omega
    have i6 : ((j : Int) - 2).toNat = j - 2 := by omega
    have i7 : (1 : Int) ≤ (j : Int) := by omega
    have i8 : (2 : Int) ≤ (j : Int) := by omega
    have i9 : IntKind.i64.wrap ((j : Int) - 1) = (j : Int) - 1 := IntWalk.i64_in _ (by omega)
    have i10 : IntKind.i64.wrap ((j : Int) - 2) = (j : Int) - 2 := IntWalk.i64_in _ (by omega)
    have Ho := Lib.hid ho
    have HB := Lib.hid hb
    have hstep := @take_next F j
    have Hstep := Lib.hid hstep
    clear gt1 gt2 htl ho hb hstep
    generalize F.getD (j - 2) (0, 0) = X at *
    generalize F.getD (j - 1) (0, 0) = Y at *
    obtain ⟨a1, a2⟩ := X
    obtain ⟨x1, x2⟩ := Y
    dsimp only at q0 q1 p0 p1 hpp hbx hby
    rcases hpp with ⟨he, hlen⟩ | ⟨he, hlt, hnx⟩
    · obtain rfl : j = F.length := by omega
      have hall : F.take F.length = F := List.take_length
      have HE := Lib.hid (show GivF w F (.returned (.slice (some ⟨g, 0, none⟩) F.length c)) wr from ⟨_, _, rfl, by have := Ho.out; rw [hall] at this; exact this, HB.out⟩)
      have he' : ¬ 1 < x2 := by omega
      clear hall Ho HB p0 p1
      go_wp2
      go_ret
      exact HE.out
    · obtain ⟨⟨k0, k1⟩, ⟨k2, k3⟩, k4, k5⟩ := farN_bd (n := n) (a := a1) (b := a2) (x := x1) (y := x2) ⟨nn, nn2⟩ ⟨hbx.1, hbx.2.1, hbx.2.2.1, by omega⟩ ⟨hby.1, hby.2.1, hby.2.2.1, by omega⟩
      have Hnx := Lib.hid hnx
      have hgw : g < wr.heap.size := hgl
      clear hnx
      go_upto_region 3 with fail
      go_cut [4, 5] (fun s8 s9 wx => ∃ g8 g9 : Nat, s8 = .pointer (some ⟨g8, 0, none⟩) ∧ s9 = .pointer (some ⟨g9, 0, none⟩) ∧ Bx2 wx g8 a1 a2 ∧ Bx2 wx g9 x1 x2 ∧ Below wr.heap.size wr wx)
      case first =>
        go_region
        all_goals go_wp2_with fail
        all_goals go_meet
        all_goals first
          | exact ⟨wr.heap.size, wr.heap.size + 1, rfl, rfl, twoA _ _ _ _ _ _ _, twoB _ _ _ _ _ _ _, (below_two _ _ _).drew⟩
          | exact ⟨wr.heap.size + 1, wr.heap.size, rfl, rfl, twoB _ _ _ _ _ _ _, twoA _ _ _ _ _ _ _, (below_two _ _ _).drew⟩
      case rest =>
        obtain ⟨g8, g9, rfl, rfl, X8, X9, hdw⟩ := hcut
        obtain ⟨w5, hw5⟩ : ∃ w5, w5 = wc := ⟨_, rfl⟩
        subst hw5
        have o5 := own_kept Ho.out hdw
        have b5 := below_kept HB.out (Nat.le_refl _) hdw
        obtain ⟨⟨s0, s1⟩, _, _⟩ := id X8
        obtain ⟨⟨t0, t1⟩, _, _⟩ := id X9
        have y8 := X8.lt
        have y9 := X9.lt
        have v1 : IntKind.i64.wrap ((n : Int) + a2) = (n : Int) + a2 := IntWalk.i64_in _ (by omega)
        have v2 : ((n : Int) + a2).tdiv x2 = ((n : Int) + a2) / x2 := Int.tdiv_eq_ediv_of_nonneg (by omega)
        have v3 : ¬ x2 = 0 := by omega
        have v4 : (x2 == 0) = false := beq_eq_false_iff_ne.2 v3
        have v5 : IntKind.i64.wrap (((n : Int) + a2) / x2) = ((n : Int) + a2) / x2 := IntWalk.i64_in _ (by omega)
        have v6 : (0 : Int) ≤ (n : Int) + a2 := by omega
        have hn4 : Hid (F.getD j (0, 0) = (((n : Int) + a2) / x2 * x1 - a1, ((n : Int) + a2) / x2 * x2 - a2)) := Lib.hid Hnx.out
        have O5 := Lib.hid o5
        have B5 := Lib.hid b5
        clear hdw o5 b5 X8 X9 p0 p1 q0 q1 i1 i2 i3 i4 i5 i6 i9 i10 Ho HB Hnx
        go_upto_region 5 with fail
        clear v1 v2 v3 v4 v5 v6
        generalize ((n : Int) + a2) / x2 = k at *
        have r1 : IntKind.i64.wrap (k * x1) = k * x1 := IntWalk.i64_in _ (by omega)
        have r2 : IntKind.i64.wrap (k * x2) = k * x2 := IntWalk.i64_in _ (by omega)
        have r3 : IntKind.i64.wrap (k * x1 - a1) = k * x1 - a1 := IntWalk.i64_in _ (by omega)
        have r4 : IntKind.i64.wrap (k * x2 - a2) = k * x2 - a2 := IntWalk.i64_in _ (by omega)
        have own2 := O5.out.alloc (.cells #[.int .i64 (k * x1 - a1), .int .i64 (k * x2 - a2)] 32)
        have hb2 := B5.out.alloc B5.out.size (.cells #[.int .i64 (k * x1 - a1), .int .i64 (k * x2 - a2)] 32)
        have hb7 := hb2.size
        have Hob6 := Lib.hid O5.out.lt
        have hst := Hstep.out (by omega)
        rw [hn4.out] at hst
        have Hst := Lib.hid hst
        have hj5 : j ≤ 1000000 := by omega
        have hlt' : (F.take j).length = j := by rw [List.length_take]; omega
        have Hlt' := Lib.hid hlt'
        clear O5 B5 hst hn4 hlt'
        go_wp2_with (first
          | (at_builtin; refine append1Fn _ rfl _ _ rfl w.heap.size (.slice (some ⟨g, 0, none⟩) j c) j (F.take j) Hlt'.out rfl own2 w5.heap.size (k * x1 - a1) (k * x2 - a2) rfl ?c1 ?c2 ?c3 hb7 ?_; (case c1 => simp [go_sem]); (case c2 => simp [go_sem]); (case c3 => exact hj5); intro A3 c3 w3 own3 hg3))
        have hb8 := hb2.grown hg3 hb7 (fun j hj => (Hob6.out j hj).1)
        rw [← Hst.out] at own3
        have Own := Lib.hid own3
        have Hb8 := Lib.hid hb8
        clear hg3 hb2 own2 own3 hb8 r1 r2 r3 r4 s0 s1 t0 t1
        go_wp2
        go_roundw
        case rel => exact ⟨j + 1, A3, c3, by omega, by omega, rfl, Own.out, Hb8.out⟩
        case measure => show F.length - (j + 1) < F.length - j; omega
/-- the list, if there is one -/
def farR (a : Int) : List (Int × Int) := if inB a 1 40 = true then far a.toNat else []
theorem farR_yes {n : Nat} (h : inB (n : Int) 1 40 = true) : farR n = far n := by unfold farR; rw [if_pos h]; rfl
theorem farR_no {a : Int} (h : inB a 1 40 = false) : farR a = [] := if_neg (by rw [h]; simp)
theorem farR_length (a : Int) : (farR a).length ≤ 491 := by
  unfold farR
  split
  · rename_i h
    unfold inB at h
    rw [decide_eq_true_eq] at h
    exact (far_ok (by omega) (by omega)).2.2
  · simp
theorem inB_nat {a : Int} (h : inB a 1 40 = true) : ∃ n : Nat, a = (n : Int) ∧ 1 ≤ n ∧ n ≤ 40 := by
  unfold inB at h
  rw [decide_eq_true_eq] at h
  exact ⟨a.toNat, by omega, by omega, by omega⟩
theorem spec_FareyList (a : Int) (w : World) : Calls Try.prog 12 #[.int .i64 a] w (RetF w (farR a) (inB a 1 40)) := by
  cases h : inB a 1 40
  · have HE := Lib.hid (show RetF w (farR a) false (.returned (.tuple #[.slice none 0 0, .bool false])) w from by rw [farR_no h]; exact ⟨none, 0, rfl, World.ownsRow_nil _ _ _ _, Below.refl _ _⟩)
    have HL := Lib.hid (fun w => spec_l1In' a 1 40 w)
    rw [h] at HL
    clear h
    go_enter Try.func12, Try.ntmps12
    go_wp2_with fail
    refine (HL.out _).mono ?_
    rintro e w1 ⟨rfl, rfl⟩
    go_wp2
    go_ret2
    exact HE.out
  · obtain ⟨n, rfl, h1, h2⟩ := inB_nat h
    have HR := Lib.hid (farR_yes h)
    have HL := Lib.hid (fun w => spec_l1In' (n : Int) 1 40 w)
    have HF := Lib.hid (fun w => spec_nbFarey n w h1 h2)
    rw [h] at HL
    clear h
    generalize farR (n : Int) = R at *
    generalize far n = F at *
    go_enter Try.func12, Try.ntmps12
    go_wp2_with fail
    refine (HL.out _).mono ?_
    rintro e w1 ⟨rfl, rfl⟩
    go_wp2_with fail
    refine (HF.out _).mono ?_
    rintro e w2 ⟨A2, c2, rfl, ho, hb⟩
    have HE := Lib.hid (show RetF w R true (.returned (.tuple #[.slice A2 F.length c2, .bool true])) w2 from by rw [HR.out]; exact ⟨A2, c2, rfl, ho, hb⟩)
    clear ho hb
    go_wp2
    go_ret2
    exact HE.out
end Go.Proofs.Ytaifgfmkkgndkab
