/- The program's quiddity of a polygon of fractions, and the law's walk. -/
import Derived.Test.YtaifgfmkkgndkabQfS
import Derived.Test.YtaifgfmkkgndkabMove
import Derived.Test.YtaifgfmkkgndkabQuiddityOfFractionsC
namespace Go.Proofs.Ytaifgfmkkgndkab
set_option linter.unusedVariables false
open Go.RowKit

theorem emod_nat (k n : Nat) : ((k : Int) % (n : Int)) = ((k % n : Nat) : Int) := rfl
set_option maxRecDepth 100000 in
set_option maxHeartbeats 3200000 in
theorem impl_QuiddityOfFractions (A : Option Addr) (c B : Nat) (l : List (Int × Int)) (w : World) (h : SlD w B A l) (hB : B ≤ w.heap.size) (hl : l.length ≤ 1048576) (hlc : l.length ≤ c) :
    Calls Try.prog 33 #[.slice A l.length c] w (RetI w (if polB l = true then qf l else []) (polB l)) := by
  have HP := Lib.hid (impl_IsFractionPolygon A c B l w h hB hl hlc)
  cases hp : polB l
  · rw [hp] at HP
    clear h hp
    go_enter Try.func33, Try.ntmps33
    go_wp2_with fail
    refine HP.out.mono ?_
    rintro e w1 ⟨rfl, hb⟩
    have HE := Lib.hid (show RetI w (if false = true then qf l else []) false (.returned (.tuple #[.slice none 0 0, .bool false])) w1 from ⟨none, 0, rfl, World.ownsRow_nil _ _ _ _, hb⟩)
    clear hb
    go_wp2
    go_ret2
    exact HE.out
  · obtain ⟨⟨n3, n12⟩, _⟩ := polB_iff.1 hp
    have HC := Lib.hid (fun w h hB => impl_cornersOf A c B l w h hB n3 n12 hlc)
    have H := Lib.hid h
    have Hp := Lib.hid hp
    obtain ⟨i0, hi, hz0, hz1, hz2⟩ := info_parts infoI
    have hbytes : i0.bytes * l.length ≤ 281474976710656 := by rw [hz2]; omega
    have hmax : l.length ≤ maxLen := by unfold maxLen; omega
    have hcl : (crn l).length = l.length := crn_length (by omega)
    have Hcl := Lib.hid hcl
    have hql := qf_length (l := l) (by omega)
    have Hql := Lib.hid hql
    rw [hp] at HP
    rw [if_pos rfl]
    clear h hp hcl hql
    go_enter Try.func33, Try.ntmps33
    go_wp2_with fail
    refine HP.out.mono ?_
    rintro e w1 ⟨rfl, hb⟩
    have Hb := Lib.hid hb
    have H1 := Lib.hid (H.out.below (hb.mono hB))
    clear hb H HP
    go_wp2_with fail
    refine (HC.out _ H1.out (Nat.le_trans hB Hb.out.size)).mono ?_
    rintro e w2 ⟨A2, c2, rfl, ho2, hb2⟩
    rw [Hcl.out] at ho2 ⊢
    have Hb2 := Lib.hid (below_kept Hb.out (Nat.le_refl _) hb2)
    have HS := Lib.hid (show SlD w2 w2.heap.size A2 (crn l) from SlD.of_own ho2)
    clear ho2 hb2 HC H1 Hb
    go_wp2_with (at_make; refine wpList_make_full _ rfl _ _ _ rfl w2.heap.size 3 i0 (.int .i64 0) 1 Try.underlying38 hi hz0 hz1 _ _ _ _ l.length rfl rfl rfl rfl hbytes hmax (Nat.le_refl _) ?_; intro w3 hown3 hgrow3)
    have hb3 : Below w2.heap.size w2 w3 := (Below.refl _ _).grown hgrow3 (Nat.le_refl _) (by simp)
    have e1 : (madeCells (Value.int .i64 0).cells (l.length * 1)).toList = ics (copyI (qf l) 0) := by
      rw [copyI_zero, Nat.mul_one, Hql.out]
      show (madeCells #[Value.int .i64 0] l.length).toList = _
      rw [toList_madeCells_one]
      simp [ics]
    rw [e1] at hown3
    have Ho3 := Lib.hid hown3
    have Hb3 := Lib.hid hb3
    clear e1 hgrow3 hown3 hb3 hbytes hmax hz0 hz1 hz2 hi
    obtain ⟨g, hg⟩ : ∃ g, g = w2.heap.size := ⟨_, rfl⟩
    rw [← hg] at Ho3 ⊢
    have Hg := Lib.hid hg
    clear hg
    go_wp2
    go_loopw [7, 19] (fun _ i wr => ∃ k : Nat, k ≤ l.length ∧ i = .int .i64 k ∧ wr.ownsRow g 3 1 (.slice (some ⟨g, 0, none⟩) l.length l.length) l.length (ics (copyI (qf l) k)) ∧ Below w2.heap.size w2 wr) (fun _ i _ => l.length - (intOf i).toNat)
    case atStart => exact ⟨0, Nat.zero_le _, rfl, Ho3.out, Hb3.out⟩
    case round =>
      clear Ho3 Hb3
      obtain ⟨k, hk, rfl, ho, hb⟩ := hrel
      by_cases hlt : k < l.length
      · have i0 : (0 : Int) ≤ (k : Int) := by omega
        have i1 : (k : Int) < (l.length : Int) := by omega
        have hA := HS.out.below hb
        obtain ⟨a1, ha1⟩ : ∃ a1, a1 = (k + l.length - 1) % l.length := ⟨_, rfl⟩
        obtain ⟨a2, ha2⟩ : ∃ a2, a2 = (k + 1) % l.length := ⟨_, rfl⟩
        have l1 : a1 < l.length := by rw [ha1]; exact Nat.mod_lt _ (by omega)
        have l2 : a2 < l.length := by rw [ha2]; exact Nat.mod_lt _ (by omega)
        have hqa := qf_at Hp.out hlt ha1 ha2
        have HX := Lib.hid (fun w h hB => impl_crossAlong A2 c2 w2.heap.size l.length (min a1 a2) (max a1 a2) (crn l) w Hcl.out h hB n12 (by omega) (by omega) (fun k hk => crn_sm Hp.out k hk))
        rw [hqa] at HX
        have m1 : ((k : Int) + (l.length : Int) - 1) % (l.length : Int) = (a1 : Int) := by
          rw [ha1, show (k : Int) + (l.length : Int) - 1 = ((k + l.length - 1 : Nat) : Int) by omega]
          rfl
        have m2 : ((k : Int) + 1) % (l.length : Int) = (a2 : Int) := by
          rw [ha2, show (k : Int) + 1 = ((k + 1 : Nat) : Int) by omega]
          rfl
        have v1 : IntKind.i64.wrap ((k : Int) + (l.length : Int)) = (k : Int) + (l.length : Int) := IntWalk.i64_in _ (by omega)
        have v2 : IntKind.i64.wrap ((k : Int) + (l.length : Int) - 1) = (k : Int) + (l.length : Int) - 1 := IntWalk.i64_in _ (by omega)
        have v3 : ((k : Int) + (l.length : Int) - 1).tmod (l.length : Int) = (a1 : Int) := by rw [Int.tmod_eq_emod_of_nonneg (by omega)]; exact m1
        have v4 : IntKind.i64.wrap ((k : Int) + 1) = (k : Int) + 1 := IntWalk.i64_in _ (by omega)
        have v5 : ((k : Int) + 1).tmod (l.length : Int) = (a2 : Int) := by rw [Int.tmod_eq_emod_of_nonneg (by omega)]; exact m2
        have v6 : ¬ (l.length : Int) = 0 := by omega
        have v7 : ((l.length : Int) == 0) = false := beq_eq_false_iff_ne.2 v6
        have v8 : ¬ l.length = 0 := by omega
        have v9 : ¬ l = [] := fun e => by rw [e] at v8; exact v8 rfl
        have HJ := Lib.hid (fun w => impl_join (a1 : Int) (a2 : Int) w)
        rw [show ((min a1 a2 : Nat) : Int) = min (a1 : Int) (a2 : Int) by omega, show ((max a1 a2 : Nat) : Int) = max (a1 : Int) (a2 : Int) by omega] at HX
        have hcs := copyI_succ (qf l) k (by rw [Hql.out]; exact hlt)
        have Hcs := Lib.hid hcs
        have hlen := copyI_length (qf l) k (by rw [Hql.out]; omega)
        have Hlen := Lib.hid hlen
        have Ho := Lib.hid ho
        have Hb := Lib.hid hb
        have hgw : g < wr.heap.size := by
          obtain ⟨_, _, hv, _, h2⟩ := ho.form (by omega)
          cases hv
          exact h2
        have hgg : w2.heap.size ≤ g := by rw [Hg.out]; exact Nat.le_refl _
        clear ho hb hA hqa ha1 ha2 l1 l2 hcs hlen
        generalize min (a1 : Int) (a2 : Int) = p at *
        generalize max (a1 : Int) (a2 : Int) = q at *
        generalize (qf l).getD k 0 = z at *
        go_upto_region 9 with fail
        go_region_held3 (fun w' => Below w2.heap.size w2 w')
          (first
            | with_reducible exact Hb.out.drew
            | with_reducible exact S9
            | with_reducible exact (S9.setCell (p := ⟨g, k, none⟩) hgg _))
          (first
            | (go_at_call 68; refine (HJ.out _).mono ?_; rintro e w3 ⟨rfl, hb1⟩; (have S9 := below_kept Hb.out.drew (Nat.le_refl _) hb1); (have o9 := own_kept (w := wr.drew) (own_drewN Ho.out 1) hb1))
            | (go_at_call 67; refine (HX.out _ (HS.out.below S9) S9.size).mono ?_; rintro e w4 ⟨rfl, hb2⟩; (replace S9 := below_kept S9 (Nat.le_refl _) hb2); (replace o9 := own_kept o9 hb2); (have hcell : _ = some (Value.int .i64 ((copyI (qf l) k).getD k 0)) := (o9.cellAt k (by omega)).trans (ics_get _ _ (by rw [Hlen.out, Hql.out]; exact hlt))); (have hfro := o9.frozenAt k)))
        rename_i hS
        have hst := o9.stored k (.int .i64 z)
        rw [ics_set, Hcs.out] at hst
        have Hst := Lib.hid hst.1
        have HS2 := Lib.hid hS
        clear hst hS S9 o9 hcell hfro hb1 hb2 v1 v2 v3 v4 v5 m1 m2 HJ HX
        go_wp2
        go_roundw
        case rel => exact ⟨k + 1, by omega, by go_num, Hst.out, HS2.out⟩
        case measure => simp [intOf]; omega
      · obtain rfl : k = l.length := by omega
        have hall : copyI (qf l) l.length = qf l := by
          conv => lhs; rw [← Hql.out]
          exact copyI_all _
        rw [hall] at ho
        clear hall
        have HE := Lib.hid (show RetI w (qf l) true (.returned (.tuple #[.slice (some ⟨g, 0, none⟩) (qf l).length l.length, .bool true])) wr from ⟨_, _, rfl, by rw [Hql.out]; exact ho.mono (by rw [Hg.out]; exact Hb2.out.size), Hb2.out.trans (hb.mono Hb2.out.size)⟩)
        rw [Hql.out] at HE
        clear ho hb
        go_wp2
        go_ret2
        exact HE.out
theorem WQuiddityOfFractions.walk (w : World) (A : Option Addr) (c : Nat) (l : List (Int × Int)) (h : SlD w w.heap.size A l)
    (hj : l.length ≤ c ∧ c ≤ maxLen ∧ ∀ x ∈ l, (Lit.int .i64 x.1).wf = true ∧ (Lit.int .i64 x.2).wf = true) :
    Calls Try.prog 8 #[.slice A l.length c] w fun e w' => e = .returned (.bool true) ∧ Below w.heap.size w w' :=
  WQuiddityOfFractions.core w A c l h hj.1 hj.2.1 _ _ (by
      split
      · rename_i hp
        have := (polB_iff.1 hp).1
        rw [qf_length (by omega)]
        omega
      · simp)
    (Lib.hid fun A c w h hl hlc => spec_QuiddityOfFractions A c _ l w h (Nat.le_refl _) hl)
    (Lib.hid fun A c w h hl hlc => impl_QuiddityOfFractions A c _ l w h (Nat.le_refl _) hl hlc)
end Go.Proofs.Ytaifgfmkkgndkab
