/- TrianglesOf: the program, and the law's walk. -/
import Derived.Test.YtbpaaoeefcebeaaTrgS
import Derived.Test.YtbpaaoeefcebeaaSidI
import Derived.Test.YtbpaaoeefcebeaaTriJ
import Derived.Test.YtbpaaoeefcebeaaTrianglesOfC
namespace Go.Proofs.Ytbpaaoeefcebeaa
set_option linter.unusedVariables false
open Go.RowKit

set_option maxRecDepth 100000 in
set_option maxHeartbeats 6400000 in
theorem impl_TrianglesOf_yes (n : Nat) (A : Option Addr) (c B q : Nat) (l : List (Int × Int)) (W : World) (ht : triB n l = true) (hl : l.length = q) (h : SlD W B A l) (hB : B ≤ W.heap.size) (hlc : q ≤ c) :
    Calls Try.prog 18 #[.int .i64 n, .slice A q c] W (RetSS W (trgR n l) (triB n l)) := by
  have hn := tri_n ht
  have hn3 : 3 ≤ n := by omega
  have hn12 : n ≤ 12 := by omega
  have hq : q ≤ 12 := by omega
  have hmem := tri_mem ht
  have HG := impl_IsTriangulation n A c B l W h hB (by omega) (by omega)
  rw [hl, ht] at HG
  have HG := Lib.hid HG
  have Hside := Lib.hid (fun (w1 : World) (hb1 : Below W.heap.size W w1) => impl_sidesOf n A c B q l w1 hl (h.below (hb1.mono hB)) (Nat.le_trans hB hb1.size) hn3 hn12 hq (fun d hd => by have := hmem d hd; omega))
  have htr := trgR_yes ht
  rw [htr, ht]
  have Hin := Lib.hid (fun (x y : Nat) (b : Bool) (hxy : x < y) (hy : y < n) (hb : jn n l x y = b) => show decide (((x : Int), (y : Int)) ∈ sdL n n ++ l) = b by
    rw [← hb]
    exact decide_eq_decide.2 (sides_jd hn3 (by omega) (by omega) (by omega)))
  have Hwf := Lib.hid (fun (x : Nat) (hx : x < n) => wf_small (x := (x : Int)) (by omega))
  obtain ⟨i0', hii, hz0, hz1, hz3⟩ := info_parts infoSl
  have hbytes : i0'.bytes * (n - 2) ≤ 281474976710656 := by rw [hz3]; omega
  have hmax : n - 2 ≤ maxLen := by unfold maxLen; omega
  have Hcn : Hid ((n : Int) - 2 = ((n - 2 : Nat) : Int)) := Lib.hid (by omega)
  clear h hl hmem htr hn ht
  generalize jn n l = J at *
  generalize sdL n n ++ l = L at *
  obtain ⟨R, hR⟩ : ∃ R, taR J n n = R := ⟨_, rfl⟩
  rw [hR]
  have HR := Lib.hid hR
  clear hR
  go_enter Try.func18, Try.ntmps18
  go_wp2_with fail
  refine HG.out.mono ?_
  rintro e w0 ⟨rfl, b0⟩
  have B0 := Lib.hid b0
  have Hsd := Lib.hid (Hside.out w0 b0)
  clear b0 Hside HG
  go_wp2_with fail
  refine Hsd.out.mono ?_
  rintro e w1 ⟨rfl, hS1, b1⟩
  have B1 := Lib.hid (below_kept B0.out (Nat.le_refl _) b1)
  have hgs : w0.heap.size < w1.heap.size := hS1.lt
  have HS1 := Lib.hid hS1
  have z1 := B1.out.size
  obtain ⟨gs, hgs'⟩ : ∃ gs, w0.heap.size = gs := ⟨_, rfl⟩
  rw [hgs'] at HS1 hgs ⊢
  clear hS1 b1 Hsd hgs'
  go_wp2_with (at_make; refine wpList_make_own _ rfl _ _ _ rfl w1.heap.size 56 i0' (.slice none 0 0) 1 Try.underlying24 hii hz0 hz1 _ _ _ (n - 2) rfl rfl Hcn.out hbytes hmax (Nat.le_refl _) ?_; intro w hown3 hgrow3)
  have hb3 : Below w1.heap.size w1 w := (Below.refl _ _).grown hgrow3 (Nat.le_refl _) (fun _ e => by cases e)
  have HS := Lib.hid (HS1.out.below hb3)
  have HO3 := Lib.hid (show OwnSS w w1.heap.size (some ⟨w1.heap.size, 0, none⟩) (n - 2) [] [] from ⟨rfl, hown3, fun j hj => by simp at hj, fun i j hi => by simp at hi⟩)
  have HB3 := Lib.hid (below_kept B1.out (Nat.le_refl _) hb3)
  have hgw : gs < w1.heap.size := hgs
  have zw : w1.heap.size ≤ w.heap.size := hb3.size
  clear hown3 hgrow3 hb3 hii hz0 hz1 hz3 hbytes hmax Hcn hgs HS1
  go_wp2
  go_loopw [7, 8, 9, 10, 22] (fun v _ _ _ i wr => ∃ (a d : Nat) (A' : Option Addr) (c' : Nat) (rs : List Value) (M : List (List Int)), a ≤ n ∧ i = .int .i64 a ∧ v = .slice A' d c' ∧ M.length = d ∧ M = taR J n a ∧ OwnSS wr w1.heap.size A' c' rs M ∧ Below w1.heap.size w wr) (fun _ _ _ _ i _ => n - (intOf i).toNat)
  case atStart => exact ⟨0, 0, some ⟨w1.heap.size, 0, none⟩, n - 2, [], [], Nat.zero_le _, rfl, rfl, rfl, rfl, HO3.out, Below.refl _ _⟩
  case round =>
    obtain ⟨a, d0, A0, c0, rs0, M0, ha, rfl, rfl, hd0, hM0, ho, hb⟩ := hrel
    obtain ⟨wo, hwo⟩ : ∃ wo, wo = wr := ⟨_, rfl⟩
    subst hwo
    by_cases hlt : a < n
    · have a1 : (a : Int) < (n : Int) := by omega
      have a0 : (0 : Int) ≤ (a : Int) := by omega
      have n12 : (n : Int) ≤ 12 := by omega
      have Ho := Lib.hid ho
      have Hb := Lib.hid hb
      have HM0 := Lib.hid hM0
      have Hd0 := Lib.hid hd0
      clear ho hb hM0 hd0
      go_wp2
      go_loopw [7, 9, 10] (fun v i _ wr => ∃ (b d : Nat) (A' : Option Addr) (c' : Nat) (rs : List Value) (M : List (List Int)), a + 1 ≤ b ∧ b ≤ n ∧ i = .int .i64 b ∧ v = .slice A' d c' ∧ M.length = d ∧ M = taR J n a ++ tbR J n a b ∧ OwnSS wr w1.heap.size A' c' rs M ∧ Below w1.heap.size w wr) (fun _ i _ _ => n - (intOf i).toNat)
      case atStart => exact ⟨a + 1, d0, A0, c0, rs0, M0, Nat.le_refl _, by omega, by go_num, rfl, Hd0.out, by rw [tb_low _ (Nat.le_refl _), List.append_nil]; exact HM0.out, Ho.out, Hb.out⟩
      case round =>
        clear Ho Hb HM0 Hd0
        obtain ⟨b, d1, A1, c1, rs1, M1, hab, hbn, rfl, rfl, hd1, hM1, ho, hb⟩ := hrel
        obtain ⟨wp, hwp⟩ : ∃ wp, wp = wr := ⟨_, rfl⟩
        subst hwp
        by_cases hbl : b < n
        · have b1 : (b : Int) < (n : Int) := by omega
          have b0 : (0 : Int) ≤ (b : Int) := by omega
          have Ho := Lib.hid ho
          have Hb := Lib.hid hb
          have HM1 := Lib.hid hM1
          have Hd1 := Lib.hid hd1
          have HSb := Lib.hid (HS.out.belowB hb hgw)
          have wa := Hwf.out a (by omega)
          have wb := Hwf.out b (by omega)
          clear ho hb hM1 hd1
          cases h1 : J a b
          · have hab1 := Hin.out a b false (by omega) hbl h1
            have HM2 := Lib.hid (show M1 = taR J n a ++ tbR J n a (b + 1) by rw [tb_succ (by omega), tc_none h1, List.append_nil]; exact HM1.out)
            go_wp2_with (at_lookup; refine wpList_lookD _ rfl _ _ rfl gs (n + q) L rfl HSb.out (a : Int) (b : Int) rfl wa wb false hab1 ?_)
            go_wp2
            go_roundw
            case rel => exact ⟨b + 1, d1, A1, c1, rs1, M1, by omega, by omega, by go_num, rfl, Hd1.out, HM2.out, Ho.out, Hb.out⟩
            case measure => simp [intOf]; omega
          have hab1 := Hin.out a b true (by omega) hbl h1
          go_wp2_with (at_lookup; refine wpList_lookD _ rfl _ _ rfl gs (n + q) L rfl HSb.out (a : Int) (b : Int) rfl wa wb true hab1 ?_)
          clear hab1
          go_wp2
          go_loopw [7, 10] (fun v i wr => ∃ (k d : Nat) (A' : Option Addr) (c' : Nat) (rs : List Value) (M : List (List Int)), b + 1 ≤ k ∧ k ≤ n ∧ i = .int .i64 k ∧ v = .slice A' d c' ∧ M.length = d ∧ M = taR J n a ++ tbR J n a b ++ tcR J a b k ∧ OwnSS wr w1.heap.size A' c' rs M ∧ Below w1.heap.size w wr) (fun _ i _ => n - (intOf i).toNat)
          case atStart => exact ⟨b + 1, d1, A1, c1, rs1, M1, Nat.le_refl _, by omega, by go_num, rfl, Hd1.out, by rw [tc_low _ (Nat.le_refl _), List.append_nil]; exact HM1.out, Ho.out, Hb.out⟩
          case round =>
            clear Ho Hb HM1 Hd1
            obtain ⟨k, d, A', c', rs, M, hbk, hkn, rfl, rfl, hd, hM, ho, hb⟩ := hrel
            have hsz := hb.size
            by_cases hkl : k < n
            · have k1 : (k : Int) < (n : Int) := by omega
              have k0 : (0 : Int) ≤ (k : Int) := by omega
              have hbd := bd3 (J := J) (n := n) (a := a) (b := b) (c := k) hn12 (by omega) (by omega) (by omega)
              have d9 : d ≤ 1000000 := by rw [← hd, hM]; omega
              have HM := Lib.hid hM
              have Hd := Lib.hid hd
              have Ho := Lib.hid ho
              have Hb := Lib.hid hb
              have hokf : tOk J a b k = (J a b && J b k && J a k) := by unfold tOk; rw [decide_eq_true (by omega)]; rfl
              have Hokf := Lib.hid hokf
              clear hM hd ho hb hbd hokf
              have HSk := Lib.hid (HS.out.belowB Hb.out hgw)
              have wk := Hwf.out k (by omega)
              cases h2 : J b k
              · have hbk1 := Hin.out b k false (by omega) hkl h2
                go_wp2_with (at_lookup; refine wpList_lookD _ rfl _ _ rfl gs (n + q) L rfl HSk.out (b : Int) (k : Int) rfl wb wk false hbk1 ?_)
                have HM2 := Lib.hid (show M = taR J n a ++ tbR J n a b ++ tcR J a b (k + 1) by rw [tc_miss (by rw [Hokf.out, h2]; simp)]; exact HM.out)
                go_wp2
                go_roundw
                case rel => exact ⟨k + 1, d, A', c', rs, M, by omega, by omega, by go_num, rfl, Hd.out, HM2.out, Ho.out, Hb.out⟩
                case measure => simp [intOf]; omega
              · have hbk1 := Hin.out b k true (by omega) hkl h2
                cases h3 : J a k
                · have hak1 := Hin.out a k false (by omega) hkl h3
                  go_wp2_with (first | (at_lookup; refine wpList_lookD _ rfl _ _ rfl gs (n + q) L rfl HSk.out (b : Int) (k : Int) rfl wb wk true hbk1 ?_) | (at_lookup; refine wpList_lookDg _ (by first | rfl | kernel_rfl | simp [Region.wanted, yielded]) _ _ rfl gs (n + q) L rfl HSk.out (a : Int) (k : Int) rfl wa wk false hak1 ?_))
                  have HM2 := Lib.hid (show M = taR J n a ++ tbR J n a b ++ tcR J a b (k + 1) by rw [tc_miss (by rw [Hokf.out, h3]; simp)]; exact HM.out)
                  go_wp2
                  go_roundw
                  case rel => exact ⟨k + 1, d, A', c', rs, M, by omega, by omega, by go_num, rfl, Hd.out, HM2.out, Ho.out, Hb.out⟩
                  case measure => simp [intOf]; omega
                · have hak1 := Hin.out a k true (by omega) hkl h3
                  have HM2 := Lib.hid (show M ++ [[(a : Int), (b : Int), (k : Int)]] = taR J n a ++ tbR J n a b ++ tcR J a b (k + 1) by rw [tc_hit (by rw [Hokf.out, h1, h2, h3]; rfl), ← List.append_assoc, HM.out])
                  have HoK := Lib.hid Ho.out
                  have HbK := Lib.hid Hb.out
                  clear Ho Hb
                  have hbs := Nat.le_trans zw HbK.out.size
                  have own2 := ((HoK.out.2.1.alloc (.cells #[.int .i64 (a : Int), .int .i64 (b : Int), .int .i64 (k : Int)] 3)).alloc (.cells #[.slice (some ⟨wr.heap.size, 0, none⟩) 3 3] 56))
                  rw [Hd.out] at own2
                  have HbA := Lib.hid ((HbK.out.alloc hbs (.cells #[.int .i64 (a : Int), .int .i64 (b : Int), .int .i64 (k : Int)] 3)).alloc (by simp; omega) (.cells #[.slice (some ⟨wr.heap.size, 0, none⟩) 3 3] 56))
                  have z2 := Nat.le_trans zw HbA.out.size
                  go_wp2_with (first | (at_lookup; refine wpList_lookD _ rfl _ _ rfl gs (n + q) L rfl HSk.out (b : Int) (k : Int) rfl wb wk true hbk1 ?_) | (at_lookup; refine wpList_lookDg _ (by first | rfl | kernel_rfl | simp [Region.wanted, yielded]) _ _ rfl gs (n + q) L rfl HSk.out (a : Int) (k : Int) rfl wa wk true hak1 ?_) | (at_builtin; refine append1SS _ rfl _ _ rfl w1.heap.size (.slice A' d c') d rs rfl own2 (wr.heap.size + 1) (.slice (some ⟨wr.heap.size, 0, none⟩) 3 3) rfl rfl ?c1 d9 z2 ?_; (case c1 => simp [go_sem]); intro A3 c3 w3 own3 hg3))
                  have hO3 := push3 HoK.out hbs Hd.out own3 hg3
                  have hb3 := below_grown HbA.out hg3 zw (fun k hk => (own2.lt k hk).1)
                  have HO3 := Lib.hid hO3
                  have Hb3 := Lib.hid hb3
                  have Hd3 := Lib.hid (show (M ++ [[(a : Int), (b : Int), (k : Int)]]).length = d + 1 by rw [List.length_append, Hd.out]; rfl)
                  clear hO3 hb3 own3 hg3 own2
                  go_wp2
                  go_roundw
                  case rel => exact ⟨k + 1, d + 1, A3, c3, _, M ++ [[(a : Int), (b : Int), (k : Int)]], by omega, by omega, by go_num, rfl, Hd3.out, HM2.out, HO3.out, Hb3.out⟩
                  case measure => simp [intOf]; omega
            · obtain rfl : k = n := by omega
              have HM := Lib.hid (show M = taR J k a ++ tbR J k a (b + 1) by rw [tb_succ (by omega), ← List.append_assoc]; exact hM)
              have Hd := Lib.hid hd
              have Ho := Lib.hid ho
              have Hb := Lib.hid hb
              clear hM hd ho hb
              go_wp2
              go_roundw
              case rel => exact ⟨b + 1, d, A', c', rs, M, by omega, by omega, by go_num, rfl, Hd.out, HM.out, Ho.out, Hb.out⟩
              case measure => simp [intOf]; omega
        · obtain rfl : b = n := by omega
          have HM := Lib.hid (show M1 = taR J b (a + 1) by rw [ta_succ]; exact hM1)
          have Hd := Lib.hid hd1
          have Ho := Lib.hid ho
          have Hb := Lib.hid hb
          clear hM1 hd1 ho hb
          go_wp2
          go_roundw
          case rel => exact ⟨a + 1, d1, A1, c1, rs1, M1, by omega, by go_num, rfl, Hd.out, HM.out, Ho.out, Hb.out⟩
          case measure => simp [intOf]; omega
    · obtain rfl : a = n := by omega
      rw [HR.out] at hM0
      subst hM0
      have hE : RetSS W M0 true (.returned (.tuple #[.slice A0 d0 c0, .bool true])) wo := ⟨A0, c0, rs0, by rw [hd0], ho.mono z1, HB3.out.trans (hb.mono z1)⟩
      have HE := Lib.hid hE
      clear hE ho hb
      go_wp2
      go_ret2
      exact HE.out

theorem impl_TrianglesOf (n : Int) (A : Option Addr) (c B : Nat) (l : List (Int × Int)) (w : World) (h : SlD w B A l) (hB : B ≤ w.heap.size) (hl : l.length ≤ 1048576) (hlc : l.length ≤ c) :
    Calls Try.prog 18 #[.int .i64 n, .slice A l.length c] w (RetSS w (trgR n l) (triB n l)) := by
  cases ht : triB n l
  · have HG := Lib.hid (impl_IsTriangulation n A c B l w h hB hl hlc)
    rw [ht] at HG
    have hres : ∀ w1, Below w.heap.size w w1 → RetSS w (trgR n l) false (.returned (.tuple #[.slice none 0 0, .bool false])) w1 := fun w1 hb1 => by
      rw [trgR_no ht]
      exact ⟨none, 0, [], rfl, OwnSS.nil_, hb1⟩
    have Hres := Lib.hid hres
    clear hres h ht
    go_enter Try.func18, Try.ntmps18
    go_wp2_with fail
    refine HG.out.mono ?_
    rintro e w1 ⟨rfl, hb1⟩
    have HX := Lib.hid (Hres.out w1 hb1)
    clear hb1 HG Hres
    go_wp2
    go_ret2
    exact HX.out
  · have hn := tri_n ht
    obtain ⟨m, rfl⟩ := Int.eq_ofNat_of_zero_le (show 0 ≤ n by omega)
    rw [← ht]
    exact impl_TrianglesOf_yes m A c B l.length l w ht rfl h hB hlc

theorem WTrianglesOf.walk (w : World) (n : Int) (wn : (Lit.int .i64 n).wf = true) (A : Option Addr) (c : Nat) (l : List (Int × Int)) (h : SlD w w.heap.size A l)
    (hj : l.length ≤ c ∧ c ≤ maxLen ∧ ∀ x ∈ l, (Lit.int .i64 x.1).wf = true ∧ (Lit.int .i64 x.2).wf = true) :
    Calls Try.prog 3 #[.int .i64 n, .slice A l.length c] w fun e w' => e = .returned (.bool true) ∧ Below w.heap.size w w' :=
  WTrianglesOf.core w n A c l h hj.1 hj.2.1 (trgR n l) (triB n l) (by have := trgR_len n l; omega) (fun j hj => by rw [trgR_row n l j hj]; omega) (trgR_pre n l)
    (Lib.hid fun A c w h hl hlc => spec_TrianglesOf n A c _ l w h (Nat.le_refl _) hl hlc)
    (Lib.hid fun A c w h hl hlc => impl_TrianglesOf n A c _ l w h (Nat.le_refl _) hl hlc)
end Go.Proofs.Ytbpaaoeefcebeaa
