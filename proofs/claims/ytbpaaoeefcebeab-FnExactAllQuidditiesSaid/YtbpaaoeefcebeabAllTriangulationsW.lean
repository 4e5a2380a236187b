/- All triangulations: both sides, and the law's walk. -/
import Derived.Test.YtbpaaoeefcebeabAltS
import Derived.Test.YtbpaaoeefcebeabAltI
import Derived.Test.YtbpaaoeefcebeabLawDD
namespace Go.Proofs.Ytbpaaoeefcebeab
set_option linter.unusedVariables false
open Go.RowKit

set_option maxRecDepth 100000 in
set_option maxHeartbeats 3200000 in
theorem spec_poAll (n : Nat) (w : World) (hn3 : 3 ≤ n) (hn8 : n ≤ 8) : Calls Try.prog 57 #[.int .i64 n] w (GivDD w (altL n) (altL n).length) := by
  have hn12 : n ≤ 12 := by omega
  have nn : (n : Int) ≤ 12 := by omega
  have nn3 : (3 : Int) ≤ (n : Int) := by omega
  obtain ⟨T, hT⟩ : ∃ T, altL n = T := ⟨_, rfl⟩
  have hTl : T.length ≤ 132 := by rw [← hT]; exact alt_bd ⟨n, by omega⟩
  have hql : (rws (dB n) n n).length ≤ 20 := dgs_len ⟨n, by omega⟩
  have hTT : comp (n - 3) (rws (dB n) n n) [] = T := hT
  rw [hT]
  have HT := Lib.hid hTT
  have Hql := Lib.hid hql
  clear hT hTT hql
  go_enter Try.func57, Try.ntmps57
  go_wp2
  go_loopw [3, 4, 5, 6] (fun v i _ _ wr => ∃ (a : Nat) (L : List (Int × Int)) (A' : Option Addr) (c' : Nat), a ≤ n ∧ L = rws (dB n) n a ∧ i = .int .i64 a ∧ v = .slice A' L.length c' ∧ wr.ownsRow w.heap.size 65 2 (.slice A' L.length c') L.length (dcs L) ∧ Below w.heap.size w wr) (fun _ i _ _ _ => n - (intOf i).toNat)
  case atStart => exact ⟨0, [], none, 0, Nat.zero_le _, rfl, rfl, rfl, World.ownsRow_nil _ _ _ _, Below.refl _ _⟩
  case round =>
    obtain ⟨a, L, A', c', ha, hL, rfl, rfl, ho, hb⟩ := hrel
    obtain ⟨w0, hw0⟩ : ∃ w0, w0 = wr := ⟨_, rfl⟩
    subst hw0
    by_cases hlt : a < n
    · have a1 : (a : Int) < (n : Int) := by omega
      have a0 : (0 : Int) ≤ (a : Int) := by omega
      have Hs1 := Lib.hid hL
      have Ho := Lib.hid ho
      have Hb := Lib.hid hb
      clear hL ho hb
      go_wp2
      go_loopw [3, 5, 6] (fun v i _ wr => ∃ (b : Nat) (M : List (Int × Int)) (A' : Option Addr) (c' : Nat), a + 2 ≤ b ∧ b ≤ n + 1 ∧ M = L ++ prs a (dB n a) b ∧ i = .int .i64 b ∧ v = .slice A' M.length c' ∧ wr.ownsRow w.heap.size 65 2 (.slice A' M.length c') M.length (dcs M) ∧ Below w.heap.size w wr) (fun _ i _ _ => n + 5 - (intOf i).toNat)
      case atStart =>
        refine ⟨a + 2, L, A', c', Nat.le_refl _, by omega, ?_, by simp, rfl, Ho.out, Hb.out⟩
        rw [prs_none (fun b hb => dB_low (by omega)), List.append_nil]
      case round =>
        clear Ho Hb
        obtain ⟨b, M, A2, c2, hab, hbn, hM, rfl, rfl, ho, hb⟩ := hrel
        by_cases hbl : b < n
        · have b1 : (b : Int) < (n : Int) := by omega
          have b0 : (a : Int) + 2 ≤ (b : Int) := by omega
          have hML : M.length ≤ 1000000 := by
            have h1 := prs_length a (dB n a) b
            have h2 := rws_length (dB n) n a
            have h3 : a * n ≤ 12 * 12 := Nat.mul_le_mul (by omega) (by omega)
            rw [hM, List.length_append, Hs1.out]
            omega
          have hob := ho.lt
          have Hob := Lib.hid hob
          have hz := hb.size
          have Ho := Lib.hid ho
          have Hb := Lib.hid hb
          have HM := Lib.hid hM
          have hcall := spec_poDiagonal (n : Int) (a : Int) (b : Int)
          have hdd : dgB (n : Int) (a : Int) (b : Int) = dB n a b := rfl
          rw [hdd] at hcall
          obtain ⟨bd, hbd⟩ : ∃ bd, dB n a b = bd := ⟨_, rfl⟩
          rw [hbd] at hcall
          have Hcall := Lib.hid hcall
          have Hbd := Lib.hid hbd
          clear hcall hdd hbd ho hb hM
          go_wp2_with fail
          refine (Hcall.out _).mono ?_
          rintro e w5 ⟨rfl, hb5⟩
          have o5 := own_kept (Ho.out.alloc (.cells #[.int .i64 (a : Int), .int .i64 (b : Int)] 65)) hb5
          have b5 := below_kept (Hb.out.alloc hz (.cells #[.int .i64 (a : Int), .int .i64 (b : Int)] 65)) (Nat.le_refl _) hb5
          have c50 : w5.cell? ⟨wr.heap.size, 0, none⟩ = some (.int .i64 (a : Int)) := (hb5.cell (p := ⟨wr.heap.size, 0, none⟩) (by simp)).trans (by simp [go_sem])
          have c51 : w5.cell? ⟨wr.heap.size, 1, none⟩ = some (.int .i64 (b : Int)) := (hb5.cell (p := ⟨wr.heap.size, 1, none⟩) (by simp)).trans (by simp [go_sem])
          have z5 : wr.heap.size < w5.heap.size := World.block_lt_of_cell? w5 _ c50
          clear hb5 Hcall Ho Hb
          cases bd
          · have hst : M = L ++ prs a (dB n a) (b + 1) := by rw [prs_no Hbd.out]; exact HM.out
            have Hst := Lib.hid hst
            have HO := Lib.hid o5
            have HB := Lib.hid b5
            clear hst o5 b5 HM
            go_wp2
            go_roundw
            case rel => exact ⟨b + 1, M, A2, c2, by omega, by omega, Hst.out, by go_num, rfl, HO.out, HB.out⟩
            case measure => simp [intOf]; omega
          · have hst : M ++ [((a : Int), (b : Int))] = L ++ prs a (dB n a) (b + 1) := by rw [prs_yes Hbd.out, ← List.append_assoc, HM.out]
            have Hst := Lib.hid hst
            have hz5 := b5.size
            have own2 := o5.alloc (.cells #[.int .i64 (a : Int), .int .i64 (b : Int)] 65)
            have hb2 := b5.alloc hz5 (.cells #[.int .i64 (a : Int), .int .i64 (b : Int)] 65)
            have hb6 := hb2.size
            have Hob5 := Lib.hid o5.lt
            clear hst o5 b5 HM Hob
            go_wp2_with (first
              | (at_builtin; refine append1Dn _ rfl _ _ rfl w.heap.size (.slice A2 M.length c2) M.length M rfl rfl own2 w5.heap.size (a : Int) (b : Int) rfl ?c1 ?c2 ?c3 hb6 ?_; (case c1 => simp [go_sem]); (case c2 => simp [go_sem]); (case c3 => omega); intro A3 c3 w3 own3 hg3))
            have hb7 := hb2.grown hg3 hb6 (fun j hj => (Hob5.out j hj).1)
            have hlen : M.length + 1 = (M ++ [((a : Int), (b : Int))]).length := by simp
            rw [hlen] at own3 ⊢
            rw [Hst.out] at own3 ⊢
            clear hg3 hb2 own2 hlen c50 c51
            generalize hMM : L ++ prs a (dB n a) (b + 1) = MM at *
            have HMM := Lib.hid hMM
            clear hMM
            go_wp2
            go_roundw
            case rel => exact ⟨b + 1, MM, A3, c3, by omega, by omega, HMM.out.symm, by go_num, rfl, own3, hb7⟩
            case measure => simp [intOf]; omega
        · have he : M = rws (dB n) n (a + 1) := by rw [rws_succ, hM, Hs1.out, prs_end (n := n) (fun b hb => dB_low hb) (fun b hb => dB_high hb) (by omega)]
          have He := Lib.hid he
          have Ho := Lib.hid ho
          have Hb := Lib.hid hb
          clear he ho hb hM
          go_wp2
          go_roundw
          case rel => exact ⟨a + 1, M, A2, c2, by omega, He.out, by go_num, rfl, Ho.out, Hb.out⟩
          case measure => simp [intOf]; omega
    · obtain rfl : a = n := by omega
      rw [hL] at ho ⊢
      have hsl := SlD.of_own ho
      have hcap := own_cap ho
      have hTold : Told (w0.alloc (.cells #[.slice none 0 0] 37)) w0.heap.size w0.heap.size [] :=
        ⟨none, 0, [], ⟨rfl, .inr ⟨w0.heap.size, 1, #[.slice none 0 0], rfl, Nat.le_refl _, heap_alloc_new w0 _, Nat.le_refl _, by decide, rfl, rfl⟩⟩, OwnDD.nil_⟩
      have hbA : Below w0.heap.size w0 (w0.alloc (.cells #[.slice none 0 0] 37)) := (Below.refl _ _).alloc (Nat.le_refl _) _
      have hcall := spec_poLook (a - 3) a (by omega) hn12 (rws (dB a) a a).length (rws (dB a) a a) [] none 0 0 A' c' w0.heap.size w0.heap.size w0.heap.size 0 [] (w0.alloc (.cells #[.slice none 0 0] 37)) rfl rfl (Nat.zero_le _)
        (hsl.below hbA) (Nat.le_refl _) (World.ownsRow_nil _ _ _ _) hbA.size hTold (by rw [HT.out, List.nil_append]; omega) (by have := Hql.out; omega) hcap
      rw [HT.out, List.nil_append] at hcall
      have Hcall := Lib.hid hcall
      have HbA := Lib.hid hbA
      have Hb := Lib.hid hb
      generalize (rws (dB a) a a).length = q at *
      clear hcall hTold hbA hsl ho hcap hb hL
      go_wp2_with fail
      refine Hcall.out.mono ?_
      rintro e w2 ⟨rfl, ⟨A2, c2, rs2, hbox, hO⟩, hbl, hfr⟩
      have c0 : w2.cell? ⟨w0.heap.size, 0, none⟩ = some (.slice A2 T.length c2) := hbox.cellAt 0 (by omega)
      have hres : GivDD w T T.length (.returned (.slice A2 T.length c2)) w2 := ⟨A2, c2, rs2, rfl, hO.mono Hb.out.size, below_kept Hb.out (Nat.le_refl _) (HbA.out.trans hbl)⟩
      have Hres := Lib.hid hres
      clear hres hbox hO hbl hfr
      go_wp2
      go_ret
      exact Hres.out


/-- what AllTriangulations tells -/
def atR (n : Int) : List (List (Int × Int)) := if inB n 3 8 = true then altL n.toNat else []
theorem atR_no {n : Int} (h : inB n 3 8 = false) : atR n = [] := by simp [atR, h]
theorem atR_yes {n : Nat} (h : inB n 3 8 = true) : atR n = altL n := by simp [atR, h]
theorem atR_len (n : Int) : (atR n).length ≤ 132 := by
  cases h : inB n 3 8
  · rw [atR_no h]; simp
  · have := inB_iff.1 h
    obtain ⟨m, rfl⟩ := Int.eq_ofNat_of_zero_le (show 0 ≤ n by omega)
    rw [atR_yes h]
    exact alt_bd ⟨m, by omega⟩
theorem atR_row (n : Int) (j : Nat) (hj : j < (atR n).length) : (rowD (atR n) j).length ≤ 9 := by
  cases h : inB n 3 8
  · rw [atR_no h] at hj; simp at hj
  · have := inB_iff.1 h
    obtain ⟨m, rfl⟩ := Int.eq_ofNat_of_zero_le (show 0 ≤ n by omega)
    rw [atR_yes h] at hj ⊢
    have hr := alt_row ⟨m, by omega⟩ (by show 3 ≤ m; omega) (rowD (altL m) j) (by unfold rowD; simp [hj])
    have := hr.1
    dsimp only at this
    omega
theorem atR_pre (n : Int) : preD (atR n) (atR n).length ≤ 1000000 := by
  have := preD_bd (atR n) 9 (fun j hj => atR_row n j hj) _ (Nat.le_refl _)
  have := atR_len n
  have : (atR n).length * 9 ≤ 132 * 9 := Nat.mul_le_mul_right 9 (by omega)
  omega

theorem impl_AllTriangulations (n : Int) (w : World) : Calls Try.prog 60 #[.int .i64 n] w (RetDD w (atR n) (inB n 3 8)) := by
  have hno : ∀ h : inB n 3 8 = false, RetDD w (atR n) (inB n 3 8) (.returned (.tuple #[.slice none 0 0, .bool false])) w := fun hi => by
    rw [atR_no hi, hi]
    exact ⟨none, 0, [], rfl, OwnDD.nil_, Below.refl _ _⟩
  cases hp : poB n
  · have hi : inB n 3 8 = false := by
      cases h : inB n 3 8
      · rfl
      · have := inB_iff.1 h
        have : poB n = true := poB_iff.2 (by omega)
        rw [hp] at this; simp at this
    have Hres := Lib.hid (hno hi)
    clear hi hno
    go_enter Try.func60, Try.ntmps60
    go_wp2_with fail
    refine (impl_isPolygon _ _ _ hp).mono ?_
    rintro e w1 ⟨rfl, rfl⟩
    go_wp2
    go_ret2
    exact Hres.out
  · have hn := poB_iff.1 hp
    by_cases h8 : n ≤ 8
    · have hi : inB n 3 8 = true := inB_iff.2 (by omega)
      obtain ⟨m, rfl⟩ := Int.eq_ofNat_of_zero_le (show 0 ≤ n by omega)
      have Hi := Lib.hid hi
      have h3 : 3 ≤ m := by omega
      have hm8 : m ≤ 8 := by omega
      have hql : (dgs m).length ≤ 20 := dgs_len ⟨m, by omega⟩
      have hTl : (altL m).length ≤ 132 := alt_bd ⟨m, by omega⟩
      have Hd := Lib.hid (impl_allDiagonals m w h3 (by omega))
      have Hql := Lib.hid hql
      have HTl := Lib.hid hTl
      clear hi hn hno hql hTl
      go_enter Try.func60, Try.ntmps60
      go_wp2_with fail
      refine (impl_isPolygon _ _ _ hp).mono ?_
      rintro e w1 ⟨rfl, rfl⟩
      go_wp2_with fail
      refine Hd.out.mono ?_
      rintro e w1 ⟨A1, c1, rfl, o1, b1⟩
      rw [show rws (dB m) m m = dgs m from rfl] at o1 ⊢
      have hcap := own_cap o1
      have hc := impl_completions (m - 3) (by omega) (dgs m).length (dgs m) [] none 0 0 A1 c1 w1.heap.size w.heap.size w1 rfl rfl (Nat.zero_le _) (fun _ => ⟨rfl, rfl⟩) (SlD.of_own o1) (Nat.le_refl _) (World.ownsRow_nil _ _ _ _) b1.size
        (by have := HTl.out; unfold altL at this; omega) (by have := Hql.out; omega) hcap
      rw [show comp (m - 3) (dgs m) [] = altL m from rfl, show ((m - 3 : Nat) : Int) = (m : Int) - 3 by omega] at hc
      have Hc := Lib.hid hc
      have B1 := Lib.hid b1
      clear hc o1 hcap b1 Hd
      generalize (dgs m).length = q at *
      go_wp2_with fail
      refine Hc.out.mono ?_
      rintro e w2 ⟨A2, c2, rs, rfl, o2, b2⟩
      have hres : RetDD w (atR m) (inB m 3 8) (.returned (.tuple #[.slice A2 (altL m).length c2, .bool true])) w2 := by
        rw [atR_yes Hi.out, Hi.out]
        exact ⟨A2, c2, rs, rfl, o2, below_kept B1.out (Nat.le_refl _) b2⟩
      have Hres := Lib.hid hres
      clear hres o2 b2
      go_wp2
      go_ret2
      exact Hres.out
    · have hi : inB n 3 8 = false := by
        cases h : inB n 3 8
        · rfl
        · have := inB_iff.1 h
          omega
      have Hres := Lib.hid (hno hi)
      clear hi hno
      have h8' : 8 < n := by omega
      go_enter Try.func60, Try.ntmps60
      go_wp2_with fail
      refine (impl_isPolygon _ _ _ hp).mono ?_
      rintro e w1 ⟨rfl, rfl⟩
      go_wp2
      go_ret2
      exact Hres.out

end Go.Proofs.Ytbpaaoeefcebeab
