/- AllCuts: both sides, and the law's walk. -/
import Derived.Test.YtlnnnjnboknoeaaCuLS
import Derived.Test.YtlnnnjnboknoeaaAllTriangulationsW
import Derived.Test.YtlnnnjnboknoeaaCutCW
import Derived.Test.YtlnnnjnboknoeaaLawDD
namespace Go.Proofs.Ytlnnnjnboknoeaa
set_option linter.unusedVariables false
open Go.RowKit

/-- all cuts with k diagonals -/
def cutA (n k : Nat) : List (List (Int × Int)) := comp k (dgs n) []
theorem cutA_bd : ∀ n : Fin 9, ∀ k : Fin 6, (cutA n k).length ≤ 400 := by decide +kernel
theorem cutA_row : ∀ n : Fin 9, ∀ k : Fin 6, ∀ r ∈ cutA n k, r.length ≤ 5 := by decide +kernel

set_option maxRecDepth 100000 in
set_option maxHeartbeats 3200000 in
theorem spec_cuAll (n kk : Nat) (w : World) (hn3 : 3 ≤ n) (hn8 : n ≤ 8) (hkk : kk ≤ 5) : Calls Try.prog 82 #[.int .i64 n, .int .i64 kk] w (GivDD w (cutA n kk) (cutA n kk).length) := by
  have hn12 : n ≤ 12 := by omega
  have nn : (n : Int) ≤ 12 := by omega
  have nn3 : (3 : Int) ≤ (n : Int) := by omega
  obtain ⟨T, hT⟩ : ∃ T, cutA n kk = T := ⟨_, rfl⟩
  have hTl : T.length ≤ 400 := by rw [← hT]; exact cutA_bd ⟨n, by omega⟩ ⟨kk, by omega⟩
  have hql : (rws (dB n) n n).length ≤ 20 := dgs_len ⟨n, by omega⟩
  have hTT : comp kk (rws (dB n) n n) [] = T := hT
  rw [hT]
  have HT := Lib.hid hTT
  have Hql := Lib.hid hql
  clear hT hTT hql
  go_enter Try.func82, Try.ntmps82
  go_wp2
  go_loopw [5, 6, 7, 8] (fun v i _ _ wr => ∃ (a : Nat) (L : List (Int × Int)) (A' : Option Addr) (c' : Nat), a ≤ n ∧ L = rws (dB n) n a ∧ i = .int .i64 a ∧ v = .slice A' L.length c' ∧ wr.ownsRow w.heap.size 49 2 (.slice A' L.length c') L.length (dcs L) ∧ Below w.heap.size w wr) (fun _ i _ _ _ => n - (intOf i).toNat)
  case atStart => exact ⟨0, [], none, 0, Nat.zero_le _, rfl, rfl, rfl, World.ownsRow_nil _ _ _ _, Below.refl _ _⟩
  case round =>
    obtain ⟨a, L, A', c', ha, hL, rfl, rfl, ho, hb⟩ := hrel
    obtain ⟨w0, hw0⟩ : ∃ w0, w0 = wr := ⟨_, rfl⟩
    subst hw0
    by_cases hlt : a < n
    · have a1 : (a : Int) < (n : Int) := by omega
      have a0 : (0 : Int) ≤ (a : Int) := by omega
      have Hs1 := Lib.hid hL
      have Ho := Lib.hid ho
      have Hb := Lib.hid hb
      clear hL ho hb
      go_wp2
      go_loopw [5, 7, 8] (fun v i _ wr => ∃ (b : Nat) (M : List (Int × Int)) (A' : Option Addr) (c' : Nat), a + 2 ≤ b ∧ b ≤ n + 1 ∧ M = L ++ prs a (dB n a) b ∧ i = .int .i64 b ∧ v = .slice A' M.length c' ∧ wr.ownsRow w.heap.size 49 2 (.slice A' M.length c') M.length (dcs M) ∧ Below w.heap.size w wr) (fun _ i _ _ => n + 5 - (intOf i).toNat)
      case atStart =>
        refine ⟨a + 2, L, A', c', Nat.le_refl _, by omega, ?_, by simp, rfl, Ho.out, Hb.out⟩
        rw [prs_none (fun b hb => dB_low (by omega)), List.append_nil]
      case round =>
        clear Ho Hb
        obtain ⟨b, M, A2, c2, hab, hbn, hM, rfl, rfl, ho, hb⟩ := hrel
        by_cases hbl : b < n
        · have b1 : (b : Int) < (n : Int) := by omega
          have b0 : (a : Int) + 2 ≤ (b : Int) := by omega
          have hML : M.length ≤ 1000000 := by
            have h1 := prs_length a (dB n a) b
            have h2 := rws_length (dB n) n a
            have h3 : a * n ≤ 12 * 12 := Nat.mul_le_mul (by omega) (by omega)
            rw [hM, List.length_append, Hs1.out]
            omega
          have hob := ho.lt
          have Hob := Lib.hid hob
          have hz := hb.size
          have Ho := Lib.hid ho
          have Hb := Lib.hid hb
          have HM := Lib.hid hM
          have hcall := spec_poDiagonal (n : Int) (a : Int) (b : Int)
          have hdd : dgB (n : Int) (a : Int) (b : Int) = dB n a b := rfl
          rw [hdd] at hcall
          obtain ⟨bd, hbd⟩ : ∃ bd, dB n a b = bd := ⟨_, rfl⟩
          rw [hbd] at hcall
          have Hcall := Lib.hid hcall
          have Hbd := Lib.hid hbd
          clear hcall hdd hbd ho hb hM
          go_wp2_with fail
          refine (Hcall.out _).mono ?_
          rintro e w5 ⟨rfl, hb5⟩
          have o5 := own_kept (Ho.out.alloc (.cells #[.int .i64 (a : Int), .int .i64 (b : Int)] 49)) hb5
          have b5 := below_kept (Hb.out.alloc hz (.cells #[.int .i64 (a : Int), .int .i64 (b : Int)] 49)) (Nat.le_refl _) hb5
          have c50 : w5.cell? ⟨wr.heap.size, 0, none⟩ = some (.int .i64 (a : Int)) := (hb5.cell (p := ⟨wr.heap.size, 0, none⟩) (by simp)).trans (by simp [go_sem])
          have c51 : w5.cell? ⟨wr.heap.size, 1, none⟩ = some (.int .i64 (b : Int)) := (hb5.cell (p := ⟨wr.heap.size, 1, none⟩) (by simp)).trans (by simp [go_sem])
          have z5 : wr.heap.size < w5.heap.size := World.block_lt_of_cell? w5 _ c50
          clear hb5 Hcall Ho Hb
          cases bd
          · have hst : M = L ++ prs a (dB n a) (b + 1) := by rw [prs_no Hbd.out]; exact HM.out
            have Hst := Lib.hid hst
            have HO := Lib.hid o5
            have HB := Lib.hid b5
            clear hst o5 b5 HM
            go_wp2
            go_roundw
            case rel => exact ⟨b + 1, M, A2, c2, by omega, by omega, Hst.out, by go_num, rfl, HO.out, HB.out⟩
            case measure => simp [intOf]; omega
          · have hst : M ++ [((a : Int), (b : Int))] = L ++ prs a (dB n a) (b + 1) := by rw [prs_yes Hbd.out, ← List.append_assoc, HM.out]
            have Hst := Lib.hid hst
            have hz5 := b5.size
            have own2 := o5.alloc (.cells #[.int .i64 (a : Int), .int .i64 (b : Int)] 49)
            have hb2 := b5.alloc hz5 (.cells #[.int .i64 (a : Int), .int .i64 (b : Int)] 49)
            have hb6 := hb2.size
            have Hob5 := Lib.hid o5.lt
            clear hst o5 b5 HM Hob
            go_wp2_with (first
              | (at_builtin; refine append1Dn _ rfl _ _ rfl w.heap.size (.slice A2 M.length c2) M.length M rfl rfl own2 w5.heap.size (a : Int) (b : Int) rfl ?c1 ?c2 ?c3 hb6 ?_; (case c1 => simp [go_sem]); (case c2 => simp [go_sem]); (case c3 => omega); intro A3 c3 w3 own3 hg3))
            have hb7 := hb2.grown hg3 hb6 (fun j hj => (Hob5.out j hj).1)
            have hlen : M.length + 1 = (M ++ [((a : Int), (b : Int))]).length := by simp
            rw [hlen] at own3 ⊢
            rw [Hst.out] at own3 ⊢
            clear hg3 hb2 own2 hlen c50 c51
            generalize hMM : L ++ prs a (dB n a) (b + 1) = MM at *
            have HMM := Lib.hid hMM
            clear hMM
            go_wp2
            go_roundw
            case rel => exact ⟨b + 1, MM, A3, c3, by omega, by omega, HMM.out.symm, by go_num, rfl, own3, hb7⟩
            case measure => simp [intOf]; omega
        · have he : M = rws (dB n) n (a + 1) := by rw [rws_succ, hM, Hs1.out, prs_end (n := n) (fun b hb => dB_low hb) (fun b hb => dB_high hb) (by omega)]
          have He := Lib.hid he
          have Ho := Lib.hid ho
          have Hb := Lib.hid hb
          clear he ho hb hM
          go_wp2
          go_roundw
          case rel => exact ⟨a + 1, M, A2, c2, by omega, He.out, by go_num, rfl, Ho.out, Hb.out⟩
          case measure => simp [intOf]; omega
    · obtain rfl : a = n := by omega
      rw [hL] at ho ⊢
      have hsl := SlD.of_own ho
      have hcap := own_cap ho
      have hTold : Told (w0.alloc (.cells #[.slice none 0 0] 81)) w0.heap.size w0.heap.size [] :=
        ⟨none, 0, [], ⟨rfl, .inr ⟨w0.heap.size, 1, #[.slice none 0 0], rfl, Nat.le_refl _, heap_alloc_new w0 _, Nat.le_refl _, by decide, rfl, rfl⟩⟩, OwnDD.nil_⟩
      have hbA : Below w0.heap.size w0 (w0.alloc (.cells #[.slice none 0 0] 81)) := (Below.refl _ _).alloc (Nat.le_refl _) _
      have hcall := spec_cuLook kk (by omega) (rws (dB a) a a).length (rws (dB a) a a) [] none 0 0 A' c' w0.heap.size w0.heap.size w0.heap.size 0 [] (w0.alloc (.cells #[.slice none 0 0] 81)) rfl rfl (Nat.zero_le _)
        (hsl.below hbA) (Nat.le_refl _) (World.ownsRow_nil _ _ _ _) hbA.size hTold (by rw [HT.out, List.nil_append]; omega) (by have := Hql.out; omega) hcap
      rw [HT.out, List.nil_append, show (kk : Int) - ((0 : Nat) : Int) = (kk : Int) by omega] at hcall
      have Hcall := Lib.hid hcall
      have HbA := Lib.hid hbA
      have Hb := Lib.hid hb
      generalize (rws (dB a) a a).length = q at *
      clear hcall hTold hbA hsl ho hcap hb hL
      go_wp2_with fail
      refine Hcall.out.mono ?_
      rintro e w2 ⟨rfl, ⟨A2, c2, rs2, hbox, hO⟩, hbl, hfr⟩
      have c0 : w2.cell? ⟨w0.heap.size, 0, none⟩ = some (.slice A2 T.length c2) := hbox.cellAt 0 (by omega)
      have hres : GivDD w T T.length (.returned (.slice A2 T.length c2)) w2 := ⟨A2, c2, rs2, rfl, hO.mono Hb.out.size, below_kept Hb.out (Nat.le_refl _) (HbA.out.trans hbl)⟩
      have Hres := Lib.hid hres
      clear hres hbox hO hbl hfr
      go_wp2
      go_ret
      exact Hres.out



/-- what AllCuts tells -/
def acK (n k : Int) : Bool := inB n 3 8 && inB k 0 (n - 3)
def acR (n k : Int) : List (List (Int × Int)) := if acK n k = true then cutA n.toNat k.toNat else []
theorem acR_no {n k : Int} (h : acK n k = false) : acR n k = [] := by simp [acR, h]
theorem acR_yes {n k : Nat} (h : acK (n : Int) (k : Int) = true) : acR n k = cutA n k := by simp [acR, h]
theorem acK_nat {n k : Int} (h : acK n k = true) : ∃ m j : Nat, n = m ∧ k = j ∧ 3 ≤ m ∧ m ≤ 8 ∧ j + 3 ≤ m := by
  unfold acK at h
  rw [Bool.and_eq_true, inB_iff, inB_iff] at h
  exact ⟨n.toNat, k.toNat, by omega, by omega, by omega, by omega, by omega⟩
theorem acR_len (n k : Int) : (acR n k).length ≤ 400 := by
  cases h : acK n k
  · rw [acR_no h]; simp
  · obtain ⟨m, j, rfl, rfl, h3, h8, hj⟩ := acK_nat h
    rw [acR_yes h]
    exact cutA_bd ⟨m, by omega⟩ ⟨j, by omega⟩
theorem acR_row (n k : Int) (i : Nat) (hi : i < (acR n k).length) : (rowD (acR n k) i).length ≤ 9 := by
  cases h : acK n k
  · rw [acR_no h] at hi; simp at hi
  · obtain ⟨m, j, rfl, rfl, h3, h8, hj⟩ := acK_nat h
    rw [acR_yes h] at hi ⊢
    have := cutA_row ⟨m, by omega⟩ ⟨j, by omega⟩ (rowD (cutA m j) i) (by unfold rowD; simp [hi])
    omega
theorem acR_pre (n k : Int) : preD (acR n k) (acR n k).length ≤ 1000000 := by
  have := preD_bd (acR n k) 9 (fun j hj => acR_row n k j hj) _ (Nat.le_refl _)
  have := acR_len n k
  have : (acR n k).length * 9 ≤ 400 * 9 := Nat.mul_le_mul_right 9 (by omega)
  omega
theorem acE_no {n k : Int} {w : World} (h : acK n k = false) : RetDD w (acR n k) (acK n k) (.returned (.tuple #[.slice none 0 0, .bool false])) w := by
  rw [acR_no h, h]
  exact ⟨none, 0, [], rfl, OwnDD.nil_, Below.refl _ _⟩

theorem chB_ac {n k : Int} (h : n ≤ 8) : chB n k = acK n k := by
  unfold chB acK
  cases hp : poB n
  · have e : inB n 3 8 = false := by
      cases hi : inB n 3 8
      · rfl
      · have := inB_iff.1 hi
        have : poB n = true := poB_iff.2 (by omega)
        rw [hp] at this; cases this
    rw [e]
  · have := poB_iff.1 hp
    rw [inB_iff.2 (show 3 ≤ n ∧ n ≤ 8 by omega)]

theorem impl_AllCuts (n k : Int) (w : World) : Calls Try.prog 83 #[.int .i64 n, .int .i64 k] w (RetDD w (acR n k) (acK n k)) := by
  by_cases h8 : n ≤ 8
  · cases hK : acK n k
    · have Hres := Lib.hid (acE_no (w := w) hK)
      rw [hK] at Hres
      have hc : chB n k = false := by rw [chB_ac h8, hK]
      clear hK
      go_enter Try.func83, Try.ntmps83
      go_wp2_with fail
      refine (impl_canHave _ _ _ _ hc).mono ?_
      rintro e w1 ⟨rfl, rfl⟩
      go_wp2
      go_ret2
      exact Hres.out
    · have hc : chB n k = true := by rw [chB_ac h8, hK]
      obtain ⟨m, j, rfl, rfl, h3, hm8, hj⟩ := acK_nat hK
      have HK := Lib.hid hK
      have hql : (dgs m).length ≤ 20 := dgs_len ⟨m, by omega⟩
      have hTl : (cutA m j).length ≤ 400 := cutA_bd ⟨m, by omega⟩ ⟨j, by omega⟩
      have Hd := Lib.hid (impl_allDiagonals m w h3 (by omega))
      have Hql := Lib.hid hql
      have HTl := Lib.hid hTl
      clear hK hql hTl
      go_enter Try.func83, Try.ntmps83
      go_wp2_with fail
      refine (impl_canHave _ _ _ _ hc).mono ?_
      rintro e w1 ⟨rfl, rfl⟩
      go_wp2_with fail
      refine Hd.out.mono ?_
      rintro e w1 ⟨A1, c1, rfl, o1, b1⟩
      rw [show rws (dB m) m m = dgs m from rfl] at o1 ⊢
      have hcap := own_cap o1
      have hcp := impl_completions j (by omega) (dgs m).length (dgs m) [] none 0 0 A1 c1 w1.heap.size w.heap.size w1 rfl rfl (Nat.zero_le _) (fun _ => ⟨rfl, rfl⟩) (SlD.of_own o1) (Nat.le_refl _) (World.ownsRow_nil _ _ _ _) b1.size
        (by have := HTl.out; unfold cutA at this; omega) (by have := Hql.out; omega) hcap
      rw [show comp j (dgs m) [] = cutA m j from rfl] at hcp
      have Hc := Lib.hid hcp
      have B1 := Lib.hid b1
      clear hcp o1 hcap b1 Hd
      generalize (dgs m).length = q at *
      go_wp2_with fail
      refine Hc.out.mono ?_
      rintro e w2 ⟨A2, c2, rs, rfl, o2, b2⟩
      have Hres : Hid (RetDD w (acR m j) true (.returned (.tuple #[.slice A2 (cutA m j).length c2, .bool true])) w2) := Lib.hid (by
        rw [acR_yes HK.out]
        exact ⟨A2, c2, rs, rfl, o2, below_kept B1.out (Nat.le_refl _) b2⟩)
      clear o2 b2
      go_wp2
      go_ret2
      exact Hres.out
  · have hK : acK n k = false := by
      unfold acK
      have e : inB n 3 8 = false := by
        cases hi : inB n 3 8
        · rfl
        · have := inB_iff.1 hi
          omega
      rw [e]
      rfl
    have Hres := Lib.hid (acE_no (w := w) hK)
    have h8' : 8 < n := by omega
    clear hK
    go_enter Try.func83, Try.ntmps83
    go_wp2
    go_ret2
    exact Hres.out

end Go.Proofs.Ytlnnnjnboknoeaa
