/- Triangles of a triangulation: the model's. -/
import Derived.Test.YtbpaaoeefcebeaaTrgM
import Derived.Test.YtbpaaoeefcebeaaFliS
import Derived.Test.YtbpaaoeefcebeaaTriS
namespace Go.Proofs.Ytbpaaoeefcebeaa
set_option linter.unusedVariables false
open Go.RowKit

set_option maxRecDepth 100000 in
set_option maxHeartbeats 6400000 in
theorem spec_poTriangles (n : Nat) (A : Option Addr) (c B q : Nat) (l : List (Int × Int)) (w : World) (hl : l.length = q) (h : SlD w B A l) (hB : B ≤ w.heap.size) (hn3 : 3 ≤ n) (hn12 : n ≤ 12) (hq : q ≤ 12) :
    Calls Try.prog 56 #[.int .i64 n, .slice A q c] w fun e w' => ∃ A' c' rs, e = .returned (.slice A' (taR (jn n l) n n).length c') ∧ OwnSS w' w.heap.size A' c' rs (taR (jn n l) n n) ∧ Below w.heap.size w w' := by
  have H := Lib.hid h
  have Hl := Lib.hid hl
  have Hj := Lib.hid (fun (x y : Nat) (b : Bool) (w' : World) (hx : x < n) (hy : y < n) (hb : jn n l x y = b) (hw : Below w.heap.size w w') =>
    spec_poJoined (n : Int) A q c B l (x : Int) (y : Int) b w' (h.below (hw.mono hB)) hl (Nat.le_trans hB hw.size) (by omega) ⟨by omega, by omega⟩ ⟨by omega, by omega⟩ ⟨by omega, by omega⟩ (of_jn hb))
  clear h hl
  generalize jn n l = J at *
  obtain ⟨R, hR⟩ : ∃ R, taR J n n = R := ⟨_, rfl⟩
  rw [hR]
  have HR := Lib.hid hR
  clear hR
  go_enter Try.func56, Try.ntmps56
  go_wp2
  go_loopw [5, 6, 7, 8] (fun v i _ _ wr => ∃ (a d : Nat) (A' : Option Addr) (c' : Nat) (rs : List Value) (M : List (List Int)), a ≤ n ∧ i = .int .i64 a ∧ v = .slice A' d c' ∧ M.length = d ∧ M = taR J n a ∧ OwnSS wr w.heap.size A' c' rs M ∧ Below w.heap.size w wr) (fun _ i _ _ _ => n - (intOf i).toNat)
  case atStart => exact ⟨0, 0, none, 0, [], [], Nat.zero_le _, rfl, rfl, rfl, rfl, OwnSS.nil_, Below.refl _ _⟩
  case round =>
    obtain ⟨a, d0, A0, c0, rs0, M0, ha, rfl, rfl, hd0, hM0, ho, hb⟩ := hrel
    obtain ⟨wo, hwo⟩ : ∃ wo, wo = wr := ⟨_, rfl⟩
    subst hwo
    by_cases hlt : a < n
    · have a1 : (a : Int) < (n : Int) := by omega
      have a0 : (0 : Int) ≤ (a : Int) := by omega
      have n12 : (n : Int) ≤ 12 := by omega
      have Ho := Lib.hid ho
      have Hb := Lib.hid hb
      have HM0 := Lib.hid hM0
      have Hd0 := Lib.hid hd0
      clear ho hb hM0 hd0
      go_wp2
      go_loopw [5, 7, 8] (fun v i _ wr => ∃ (b d : Nat) (A' : Option Addr) (c' : Nat) (rs : List Value) (M : List (List Int)), a + 1 ≤ b ∧ b ≤ n ∧ i = .int .i64 b ∧ v = .slice A' d c' ∧ M.length = d ∧ M = taR J n a ++ tbR J n a b ∧ OwnSS wr w.heap.size A' c' rs M ∧ Below w.heap.size w wr) (fun _ i _ _ => n - (intOf i).toNat)
      case atStart => exact ⟨a + 1, d0, A0, c0, rs0, M0, Nat.le_refl _, by omega, by go_num, rfl, Hd0.out, by rw [tb_low _ (Nat.le_refl _), List.append_nil]; exact HM0.out, Ho.out, Hb.out⟩
      case round =>
        clear Ho Hb HM0 Hd0
        obtain ⟨b, d1, A1, c1, rs1, M1, hab, hbn, rfl, rfl, hd1, hM1, ho, hb⟩ := hrel
        obtain ⟨wp, hwp⟩ : ∃ wp, wp = wr := ⟨_, rfl⟩
        subst hwp
        by_cases hbl : b < n
        · have b1 : (b : Int) < (n : Int) := by omega
          have b0 : (0 : Int) ≤ (b : Int) := by omega
          have Ho := Lib.hid ho
          have Hb := Lib.hid hb
          have HM1 := Lib.hid hM1
          have Hd1 := Lib.hid hd1
          clear ho hb hM1 hd1
          go_wp2
          go_loopw [5, 8] (fun v i wr => ∃ (k d : Nat) (A' : Option Addr) (c' : Nat) (rs : List Value) (M : List (List Int)), b + 1 ≤ k ∧ k ≤ n ∧ i = .int .i64 k ∧ v = .slice A' d c' ∧ M.length = d ∧ M = taR J n a ++ tbR J n a b ++ tcR J a b k ∧ OwnSS wr w.heap.size A' c' rs M ∧ Below w.heap.size w wr) (fun _ i _ => n - (intOf i).toNat)
          case atStart => exact ⟨b + 1, d1, A1, c1, rs1, M1, Nat.le_refl _, by omega, by go_num, rfl, Hd1.out, by rw [tc_low _ (Nat.le_refl _), List.append_nil]; exact HM1.out, Ho.out, Hb.out⟩
          case round =>
            clear Ho Hb HM1 Hd1
            obtain ⟨k, d, A', c', rs, M, hbk, hkn, rfl, rfl, hd, hM, ho, hb⟩ := hrel
            have hsz := hb.size
            by_cases hkl : k < n
            · have k1 : (k : Int) < (n : Int) := by omega
              have k0 : (0 : Int) ≤ (k : Int) := by omega
              have hbd := bd3 (J := J) (n := n) (a := a) (b := b) (c := k) hn12 (by omega) (by omega) (by omega)
              have d9 : d ≤ 1000000 := by rw [← hd, hM]; omega
              have HM := Lib.hid hM
              have Hd := Lib.hid hd
              have Ho := Lib.hid ho
              have Hb := Lib.hid hb
              have hokf : tOk J a b k = (J a b && J b k && J a k) := by unfold tOk; rw [decide_eq_true (by omega)]; rfl
              have Hokf := Lib.hid hokf
              clear hM hd ho hb hbd hokf
              cases h1 : J a b
              · go_wp2_with fail
                refine (Hj.out a b false wr (by omega) (by omega) h1 Hb.out).mono ?_
                rintro e w1 ⟨rfl, b1⟩
                have HM2 := Lib.hid (show M = taR J n a ++ tbR J n a b ++ tcR J a b (k + 1) by rw [tc_miss (by rw [Hokf.out, h1]; simp)]; exact HM.out)
                go_wp2
                go_roundw
                case rel => exact ⟨k + 1, d, A', c', rs, M, by omega, by omega, by go_num, rfl, Hd.out, HM2.out, (Ho.out.kept (b1)), below_kept Hb.out (Nat.le_refl _) (b1)⟩
                case measure => simp [intOf]; omega
              · go_wp2_with fail
                refine (Hj.out a b true wr (by omega) (by omega) h1 Hb.out).mono ?_
                rintro e w1 ⟨rfl, b1⟩
                have B1 := Lib.hid b1
                have HB1 := Lib.hid (below_kept Hb.out (Nat.le_refl _) b1)
                clear b1
                cases h2 : J b k
                · go_wp2_with fail
                  refine (Hj.out b k false w1 (by omega) (by omega) h2 HB1.out).mono ?_
                  rintro e w2 ⟨rfl, b2⟩
                  have B2 := Lib.hid (below_kept B1.out (Nat.le_refl _) b2)
                  have HM2 := Lib.hid (show M = taR J n a ++ tbR J n a b ++ tcR J a b (k + 1) by rw [tc_miss (by rw [Hokf.out, h2]; simp)]; exact HM.out)
                  go_wp2
                  go_roundw
                  case rel => exact ⟨k + 1, d, A', c', rs, M, by omega, by omega, by go_num, rfl, Hd.out, HM2.out, (Ho.out.kept (B2.out)), below_kept Hb.out (Nat.le_refl _) (B2.out)⟩
                  case measure => simp [intOf]; omega
                · go_wp2_with fail
                  refine (Hj.out b k true w1 (by omega) (by omega) h2 HB1.out).mono ?_
                  rintro e w2 ⟨rfl, b2⟩
                  have B2 := Lib.hid (below_kept B1.out (Nat.le_refl _) b2)
                  have HB2 := Lib.hid (below_kept Hb.out (Nat.le_refl _) B2.out)
                  clear b2
                  cases h3 : J a k
                  · go_wp2_with fail
                    refine (Hj.out a k false w2 (by omega) (by omega) h3 HB2.out).mono ?_
                    rintro e w3 ⟨rfl, b3⟩
                    have B3 := Lib.hid (below_kept B2.out (Nat.le_refl _) b3)
                    have HM2 := Lib.hid (show M = taR J n a ++ tbR J n a b ++ tcR J a b (k + 1) by rw [tc_miss (by rw [Hokf.out, h3]; simp)]; exact HM.out)
                    go_wp2
                    go_roundw
                    case rel => exact ⟨k + 1, d, A', c', rs, M, by omega, by omega, by go_num, rfl, Hd.out, HM2.out, (Ho.out.kept (B3.out)), below_kept Hb.out (Nat.le_refl _) (B3.out)⟩
                    case measure => simp [intOf]; omega
                  · go_wp2_with fail
                    refine (Hj.out a k true w2 (by omega) (by omega) h3 HB2.out).mono ?_
                    rintro e w4 ⟨rfl, b3⟩
                    have B3 := Lib.hid (below_kept B2.out (Nat.le_refl _) b3)
                    have HM2 := Lib.hid (show M ++ [[(a : Int), (b : Int), (k : Int)]] = taR J n a ++ tbR J n a b ++ tcR J a b (k + 1) by rw [tc_hit (by rw [Hokf.out, h1, h2, h3]; rfl), ← List.append_assoc, HM.out])
                    have HoK := Lib.hid (Ho.out.kept B3.out)
                    have HbK := Lib.hid (below_kept Hb.out (Nat.le_refl _) B3.out)
                    clear b3 B1 B2 HB1 HB2 Ho Hb
                    have hbs := HbK.out.size
                    have own2 := ((HoK.out.2.1.alloc (.cells #[.int .i64 (a : Int), .int .i64 (b : Int), .int .i64 (k : Int)] 3)).alloc (.cells #[.slice (some ⟨w4.heap.size, 0, none⟩) 3 3] 56))
                    rw [Hd.out] at own2
                    have HbA := Lib.hid ((HbK.out.alloc hbs (.cells #[.int .i64 (a : Int), .int .i64 (b : Int), .int .i64 (k : Int)] 3)).alloc (by simp; omega) (.cells #[.slice (some ⟨w4.heap.size, 0, none⟩) 3 3] 56))
                    have z2 := HbA.out.size
                    go_wp2_with (at_builtin; refine append1SS _ rfl _ _ rfl w.heap.size (.slice A' d c') d rs rfl own2 (w4.heap.size + 1) (.slice (some ⟨w4.heap.size, 0, none⟩) 3 3) rfl rfl ?c1 d9 z2 ?_; (case c1 => simp [go_sem]); intro A3 c3 w3 own3 hg3)
                    have hO3 := push3 HoK.out hbs Hd.out own3 hg3
                    have hb3 := below_grown HbA.out hg3 (Nat.le_refl _) (fun k hk => (own2.lt k hk).1)
                    have HO3 := Lib.hid hO3
                    have Hb3 := Lib.hid hb3
                    have Hd3 := Lib.hid (show (M ++ [[(a : Int), (b : Int), (k : Int)]]).length = d + 1 by rw [List.length_append, Hd.out]; rfl)
                    clear hO3 hb3 own3 hg3 own2
                    go_wp2
                    go_roundw
                    case rel => exact ⟨k + 1, d + 1, A3, c3, _, M ++ [[(a : Int), (b : Int), (k : Int)]], by omega, by omega, by go_num, rfl, Hd3.out, HM2.out, HO3.out, Hb3.out⟩
                    case measure => simp [intOf]; omega
            · obtain rfl : k = n := by omega
              have HM := Lib.hid (show M = taR J k a ++ tbR J k a (b + 1) by rw [tb_succ (by omega), ← List.append_assoc]; exact hM)
              have Hd := Lib.hid hd
              have Ho := Lib.hid ho
              have Hb := Lib.hid hb
              clear hM hd ho hb
              go_wp2
              go_roundw
              case rel => exact ⟨b + 1, d, A', c', rs, M, by omega, by omega, by go_num, rfl, Hd.out, HM.out, Ho.out, Hb.out⟩
              case measure => simp [intOf]; omega
        · obtain rfl : b = n := by omega
          have HM := Lib.hid (show M1 = taR J b (a + 1) by rw [ta_succ]; exact hM1)
          have Hd := Lib.hid hd1
          have Ho := Lib.hid ho
          have Hb := Lib.hid hb
          clear hM1 hd1 ho hb
          go_wp2
          go_roundw
          case rel => exact ⟨a + 1, d1, A1, c1, rs1, M1, by omega, by go_num, rfl, Hd.out, HM.out, Ho.out, Hb.out⟩
          case measure => simp [intOf]; omega
    · obtain rfl : a = n := by omega
      rw [HR.out] at hM0
      subst hM0
      have hE : ∃ A' c' rs, Ending.returned (Value.slice A0 d0 c0) = .returned (.slice A' M0.length c') ∧ OwnSS wo w.heap.size A' c' rs M0 ∧ Below w.heap.size w wo := ⟨A0, c0, rs0, by rw [hd0], ho, hb⟩
      have HE := Lib.hid hE
      clear hE ho hb
      go_wp2
      go_ret
      exact HE.out

theorem spec_TrianglesOf (n : Int) (A : Option Addr) (c B : Nat) (l : List (Int × Int)) (w : World) (h : SlD w B A l) (hB : B ≤ w.heap.size) (hl : l.length ≤ 1048576) (hlc : l.length ≤ c) :
    Calls Try.prog 16 #[.int .i64 n, .slice A l.length c] w (RetSS w (trgR n l) (triB n l)) := by
  have H := Lib.hid h
  clear h
  go_enter Try.func16, Try.ntmps16
  go_wp2_with fail
  refine (spec_poGood n A c B l _ H.out hB hl hlc).mono ?_
  rintro e w1 ⟨rfl, hb1⟩
  cases ht : triB n l
  · have hres : RetSS w (trgR n l) (triB n l) (.returned (.tuple #[.slice none 0 0, .bool false])) w1 := by
      rw [trgR_no ht, ht]
      exact ⟨none, 0, [], rfl, OwnSS.nil_, hb1⟩
    have Hres := Lib.hid hres
    clear hres hb1
    go_wp2
    go_ret2
    exact Hres.out
  · have hn := tri_n ht
    obtain ⟨m, rfl⟩ := Int.eq_ofNat_of_zero_le (show 0 ≤ n by omega)
    have Ht := Lib.hid ht
    have Hb1 := Lib.hid hb1
    have Hc := Lib.hid (spec_poTriangles m A c B l.length l w1 rfl (H.out.below (hb1.mono hB)) (Nat.le_trans hB hb1.size) (by omega) (by omega) (by omega))
    clear ht hb1 hn
    go_wp2_with fail
    refine Hc.out.mono ?_
    rintro e w2 ⟨A2, c2, rs, rfl, o2, b2⟩
    have hres : RetSS w (trgR m l) (triB m l) (.returned (.tuple #[.slice A2 (taR (jn m l) m m).length c2, .bool true])) w2 := by
      rw [trgR_yes Ht.out, Ht.out]
      exact ⟨A2, c2, rs, rfl, o2.mono Hb1.out.size, below_kept Hb1.out (Nat.le_refl _) b2⟩
    have Hres := Lib.hid hres
    clear hres o2 b2 Hc
    go_wp2
    go_ret2
    exact Hres.out
end Go.Proofs.Ytbpaaoeefcebeaa
