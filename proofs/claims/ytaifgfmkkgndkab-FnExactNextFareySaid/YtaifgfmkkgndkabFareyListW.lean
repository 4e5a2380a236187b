/- The program's Farey list. -/
import Derived.Test.YtaifgfmkkgndkabSrtI
import Derived.Test.YtaifgfmkkgndkabFarS
import Derived.Test.YtaifgfmkkgndkabFareyListC
namespace Go.Proofs.Ytaifgfmkkgndkab
set_option linter.unusedVariables false
open Go.RowKit

theorem frw_succ (d m : Nat) : frw d (m + 1) = frw d m ++ (if Nat.gcd m (d + 1) = 1 then [((m : Int), (d : Int) + 1)] else []) := by
  unfold frw
  rw [List.range_succ, List.filter_append, List.map_append]
  by_cases h : Nat.gcd m (d + 1) = 1 <;> simp [h]
theorem nbB_frw (d m : Nat) (hd : d ≤ 100) (hm : m ≤ 100) : nbB (m : Int) ((d : Int) + 1) = decide (Nat.gcd m (d + 1) = 1) := by
  have := nbB_gcd m (d + 1) (by omega) (by omega)
  rw [show ((d + 1 : Nat) : Int) = (d : Int) + 1 by omega] at this
  rw [this]
  exact decide_eq_decide.2 (by omega)
theorem frw_yes {d m : Nat} (hd : d ≤ 100) (hm : m ≤ 100) (h : nbB (m : Int) ((d : Int) + 1) = true) : frw d (m + 1) = frw d m ++ [((m : Int), (d : Int) + 1)] := by
  rw [nbB_frw d m hd hm, decide_eq_true_eq] at h
  rw [frw_succ, if_pos h]
theorem frw_no {d m : Nat} (hd : d ≤ 100) (hm : m ≤ 100) (h : nbB (m : Int) ((d : Int) + 1) = false) : frw d (m + 1) = frw d m := by
  rw [nbB_frw d m hd hm, decide_eq_false_iff_not] at h
  rw [frw_succ, if_neg h, List.append_nil]
theorem frs_succ (d : Nat) : frs (d + 1) = frs d ++ frw d (d + 2) := by simp [frs, List.range_succ]
theorem frw_length (d m : Nat) : (frw d m).length ≤ m := by
  unfold frw
  rw [List.length_map]
  refine Nat.le_trans (List.length_filter_le _ _) ?_
  simp
theorem frs_length : ∀ d, d ≤ 40 → (frs d).length ≤ d * 42 := by
  intro d
  induction d with
  | zero => intro _; simp [frs]
  | succ d ih =>
    intro h
    rw [frs_succ, List.length_append, Nat.succ_mul]
    have := frw_length d (d + 2)
    have := ih (by omega)
    omega
theorem frs_pos {n : Nat} (h1 : 1 ≤ n) (h2 : n ≤ 40) : 2 ≤ (frs n).length := by
  rw [← (far_ok h1 h2).2.1]
  unfold far
  simp
/-- what the sort leaves is the model's list -/
theorem far_of_sort {n : Nat} (h1 : 1 ≤ n) (h2 : n ≤ 40) {L' : List Fx} (hp : L'.Perm ((frs n).map fto)) (hs : (L'.map fval).Pairwise fun x y => ¬ crs x y < 0) : L'.map fval = far n := by
  refine far_uniq h1 h2 ?_ hs
  have := hp.map fval
  rw [frs_map n h2] at this
  exact this
theorem sorting (w : World) (B g n c : Nat) (m : Nat) (h1 : 1 ≤ n) (h2 : n ≤ 40) (hm : m = (frs n).length) (hB : B ≤ w.heap.size) (ho : w.ownsRow B 32 2 (.slice (some ⟨g, 0, none⟩) m c) m (dcs (frs n))) :
    Calls Try.prog 52 #[.slice (some ⟨g, 0, none⟩) m c, .func (.func 53) #[] #[]] w fun e w' => e = .returned (.tuple #[]) ∧
      w'.ownsRow B 32 2 (.slice (some ⟨g, 0, none⟩) m c) m (dcs (far n)) ∧ Below B w w' := by
  have hl := frs_length n h2
  refine (impl_sortRising B g m c ((frs n).map fto) w (by rw [List.length_map, hm]) (by omega) hB (by rw [frs_map n h2]; exact ho)).mono ?_
  rintro e w' ⟨rfl, L', hp, hs, hown, hb⟩
  rw [far_of_sort h1 h2 hp hs] at hown
  exact ⟨rfl, hown, hb⟩

set_option maxRecDepth 100000 in
set_option maxHeartbeats 3200000 in
theorem impl_FareyList (a : Int) (w : World) : Calls Try.prog 13 #[.int .i64 a] w (RetF w (farR a) (inB a 1 40)) := by
  cases h : inB a 1 40
  · have HE := Lib.hid (show RetF w (farR a) false (.returned (.tuple #[.slice none 0 0, .bool false])) w from by rw [farR_no h]; exact ⟨none, 0, rfl, World.ownsRow_nil _ _ _ _, Below.refl _ _⟩)
    have hn : ¬ (1 ≤ a ∧ a ≤ 40) := by
      intro k
      unfold inB at h
      rw [decide_eq_false_iff_not] at h
      exact h k
    clear h
    by_cases h1 : a < 1
    · clear hn
      go_enter Try.func13, Try.ntmps13
      go_wp2
      go_ret2
      exact HE.out
    · have h2 : 40 < a := by omega
      clear hn
      go_enter Try.func13, Try.ntmps13
      go_wp2
      go_ret2
      exact HE.out
  · obtain ⟨n, rfl, hn1, hn40⟩ := inB_nat h
    have HR := Lib.hid (farR_yes h)
    clear h
    have HS := Lib.hid (fun (w1 : World) (B g c m : Nat) (hm : m = (frs n).length) (hB : B ≤ w1.heap.size) ho => sorting w1 B g n c m hn1 hn40 hm hB ho)
    have Hp := Lib.hid (frs_pos hn1 hn40)
    have Hfl := Lib.hid (far_ok hn1 hn40).2.1
    have nn : (n : Int) ≤ 40 := by omega
    have nn1 : (1 : Int) ≤ (n : Int) := by omega
    generalize farR (n : Int) = R at *
    go_enter Try.func13, Try.ntmps13
    go_wp2
    go_loopw [4, 5, 6, 7] (fun v i _ _ wr => ∃ (d : Nat) (L : List (Int × Int)) (A' : Option Addr) (c' : Nat), d ≤ n ∧ L = frs d ∧ i = .int .i64 ((d : Int) + 1) ∧ v = .slice A' L.length c' ∧ wr.ownsRow w.heap.size 32 2 (.slice A' L.length c') L.length (dcs L) ∧ Below w.heap.size w wr) (fun _ i _ _ _ => n + 1 - (intOf i).toNat)
    case atStart => exact ⟨0, [], none, 0, Nat.zero_le _, rfl, rfl, rfl, World.ownsRow_nil _ _ _ _, Below.refl _ _⟩
    case round =>
      obtain ⟨d, L, A', c', hd, hL, rfl, rfl, ho, hb⟩ := hrel
      obtain ⟨w0, hw0⟩ : ∃ w0, w0 = wr := ⟨_, rfl⟩
      subst hw0
      by_cases hlt : d < n
      · have a1 : (d : Int) + 1 ≤ (n : Int) := by omega
        have a0 : (0 : Int) ≤ (d : Int) := by omega
        have Hs1 := Lib.hid hL
        have Ho := Lib.hid ho
        have Hb := Lib.hid hb
        clear hL ho hb
        go_wp2
        go_loopw [4, 6, 7] (fun v i _ wr => ∃ (m : Nat) (M : List (Int × Int)) (A' : Option Addr) (c' : Nat), m ≤ d + 2 ∧ M = L ++ frw d m ∧ i = .int .i64 m ∧ v = .slice A' M.length c' ∧ wr.ownsRow w.heap.size 32 2 (.slice A' M.length c') M.length (dcs M) ∧ Below w.heap.size w wr) (fun _ i _ _ => d + 2 - (intOf i).toNat)
        case atStart => exact ⟨0, L, A', c', Nat.zero_le _, by simp [frw], rfl, rfl, Ho.out, Hb.out⟩
        case round =>
          clear Ho Hb
          obtain ⟨m, M, A2, c2, hmd, hM, rfl, rfl, ho, hb⟩ := hrel
          by_cases hbl : m < d + 2
          · have b1 : (m : Int) ≤ (d : Int) + 1 := by omega
            have b0 : (0 : Int) ≤ (m : Int) := by omega
            have hML : M.length ≤ 1000000 := by
              have h1 := frw_length d m
              have h2 := frs_length d (by omega)
              rw [hM, List.length_append, Hs1.out]
              omega
            have Hob := Lib.hid ho.lt
            have hz := hb.size
            have Ho := Lib.hid ho
            have Hb := Lib.hid hb
            have HM := Lib.hid hM
            have hcall := fun w => impl_IsFraction (m : Int) ((d : Int) + 1) w
            obtain ⟨bd, hbd⟩ : ∃ bd, nbB (m : Int) ((d : Int) + 1) = bd := ⟨_, rfl⟩
            rw [hbd] at hcall
            have Hcall := Lib.hid hcall
            have Hbd := Lib.hid hbd
            clear hcall hbd ho hb hM
            go_wp2_with fail
            refine (Hcall.out _).mono ?_
            rintro e w5 ⟨rfl, hb5⟩
            have o5 := own_kept (Ho.out.alloc (.cells #[.int .i64 (m : Int), .int .i64 ((d : Int) + 1)] 32)) hb5
            have b5 := below_kept (Hb.out.alloc hz (.cells #[.int .i64 (m : Int), .int .i64 ((d : Int) + 1)] 32)) (Nat.le_refl _) hb5
            have c50 : w5.cell? ⟨wr.heap.size, 0, none⟩ = some (.int .i64 (m : Int)) := (hb5.cell (p := ⟨wr.heap.size, 0, none⟩) (by simp)).trans (by simp [go_sem])
            have c51 : w5.cell? ⟨wr.heap.size, 1, none⟩ = some (.int .i64 ((d : Int) + 1)) := (hb5.cell (p := ⟨wr.heap.size, 1, none⟩) (by simp)).trans (by simp [go_sem])
            have z5 : wr.heap.size < w5.heap.size := World.block_lt_of_cell? w5 _ c50
            clear hb5 Hcall Ho Hb
            cases bd
            · have hst : M = L ++ frw d (m + 1) := by rw [frw_no (by omega) (by omega) Hbd.out]; exact HM.out
              have Hst := Lib.hid hst
              have HO := Lib.hid o5
              have HB := Lib.hid b5
              clear hst o5 b5 HM
              go_wp2
              go_roundw
              case rel => exact ⟨m + 1, M, A2, c2, by omega, Hst.out, by go_num, rfl, HO.out, HB.out⟩
              case measure => simp [intOf]; omega
            · have hst : M ++ [((m : Int), (d : Int) + 1)] = L ++ frw d (m + 1) := by rw [frw_yes (by omega) (by omega) Hbd.out, ← List.append_assoc, HM.out]
              have Hst := Lib.hid hst
              have hz5 := b5.size
              have own2 := o5.alloc (.cells #[.int .i64 (m : Int), .int .i64 ((d : Int) + 1)] 32)
              have hb2 := b5.alloc hz5 (.cells #[.int .i64 (m : Int), .int .i64 ((d : Int) + 1)] 32)
              have hb6 := hb2.size
              have Hob5 := Lib.hid o5.lt
              clear hst o5 b5 HM Hob
              go_wp2_with (first
                | (at_builtin; refine append1Fn _ rfl _ _ rfl w.heap.size (.slice A2 M.length c2) M.length M rfl rfl own2 w5.heap.size (m : Int) ((d : Int) + 1) rfl ?c1 ?c2 ?c3 hb6 ?_; (case c1 => simp [go_sem]); (case c2 => simp [go_sem]); (case c3 => omega); intro A3 c3 w3 own3 hg3))
              have hb7 := hb2.grown hg3 hb6 (fun j hj => (Hob5.out j hj).1)
              have hlen : M.length + 1 = (M ++ [((m : Int), (d : Int) + 1)]).length := by simp
              rw [hlen] at own3 ⊢
              rw [Hst.out] at own3 ⊢
              clear hg3 hb2 own2 hlen c50 c51
              generalize hMM : L ++ frw d (m + 1) = MM at *
              have HMM := Lib.hid hMM
              clear hMM
              go_wp2
              go_roundw
              case rel => exact ⟨m + 1, MM, A3, c3, by omega, HMM.out.symm, by go_num, rfl, own3, hb7⟩
              case measure => simp [intOf]; omega
          · obtain rfl : m = d + 2 := by omega
            have he : M = frs (d + 1) := by rw [frs_succ, hM, Hs1.out]
            have b1 : ¬ ((d + 2 : Nat) : Int) ≤ (d : Int) + 1 := by omega
            have He := Lib.hid he
            have Ho := Lib.hid ho
            have Hb := Lib.hid hb
            clear he ho hb hM
            go_wp2
            go_roundw
            case rel => exact ⟨d + 1, M, A2, c2, by omega, He.out, by go_num, rfl, Ho.out, Hb.out⟩
            case measure => simp [intOf]; omega
      · obtain rfl : d = n := by omega
        have hlen : 2 ≤ L.length := by rw [hL]; exact Hp.out
        obtain ⟨g, cap, hv, hgb, hgl⟩ := ho.form (by omega)
        cases hv
        have hcal := HS.out w0 w.heap.size g c' L.length (by rw [hL]) hb.size (by rw [← hL]; exact ho)
        have Hcal := Lib.hid hcal
        have Hlen := Lib.hid (show L.length = (far d).length by rw [hL]; exact Hfl.out.symm)
        have Hb := Lib.hid hb
        clear ho hb hL hcal hlen HS Hfl Hp
        go_wp2_with fail
        refine Hcal.out.mono ?_
        rintro e w4 ⟨rfl, ho4, hb4⟩
        have HE := Lib.hid (show RetF w R true (.returned (.tuple #[.slice (some ⟨g, 0, none⟩) L.length c', .bool true])) w4 from by
          rw [HR.out]
          rw [Hlen.out] at ho4 ⊢
          exact ⟨_, _, rfl, ho4, Hb.out.trans hb4⟩)
        clear Hcal ho4 hb4 Hb
        go_wp2
        go_ret2
        exact HE.out
theorem WFareyList.walk (w : World) (a0 : Int) (hj : (Lit.int .i64 a0).wf = true) :
    Calls Try.prog 3 #[.int .i64 a0] w fun e w' => e = .returned (.bool true) ∧ Below w.heap.size w w' :=
  WFareyList.core w a0 (farR a0) (inB a0 1 40) (by have := farR_length a0; omega) (Lib.hid fun w => spec_FareyList a0 w) (Lib.hid fun w => impl_FareyList a0 w)
end Go.Proofs.Ytaifgfmkkgndkab
