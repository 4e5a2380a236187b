/- SizesOfCut: the model's and the program's contract, and the law's walk. -/
import Derived.Test.YtlnnnjnboknoeaaSizM
import Derived.Test.YtlnnnjnboknoeaaSrtI2
import Derived.Test.YtlnnnjnboknoeaaAppL
import Derived.Test.YtlnnnjnboknoeaaPiecesOfCutW
import Derived.Test.YtlnnnjnboknoeaaSizesOfCutC
namespace Go.Proofs.Ytlnnnjnboknoeaa
set_option linter.unusedVariables false
open Go.RowKit

/-- the sizes of a cut's pieces -/
def szR (n : Int) (l : List (Int × Int)) : List Int := if cutB n l = true then szU (pcL n.toNat l) (n.toNat - 2) else []
theorem szR_no {n : Int} {l : List (Int × Int)} (h : cutB n l = false) : szR n l = [] := by unfold szR; rw [h]; rfl
theorem szR_yes {n : Nat} {l : List (Int × Int)} (h : cutB (n : Int) l = true) : szR (n : Int) l = szU (pcL n l) (n - 2) := by unfold szR; rw [if_pos h, Int.toNat_natCast]
theorem sz_h3 {n : Nat} {l : List (Int × Int)} (h : cutB (n : Int) l = true) : ∀ P ∈ pcL n l, 3 ≤ P.length ∧ P.length < (n - 2) + 3 := fun P hP => by
  have := (pcL_facts h).2 P hP
  omega
theorem szE_no {n : Int} {l : List (Int × Int)} {w w' : World} (h : cutB n l = false) (hb : Below w.heap.size w w') : RetI w (szR n l) false (.returned (.tuple #[.slice none 0 0, .bool false])) w' := by
  rw [szR_no h]
  exact ⟨none, 0, rfl, World.ownsRow_nil _ _ _ _, hb⟩
theorem szR_len (n : Int) (l : List (Int × Int)) : (szR n l).length ≤ 1000000000 := by
  cases h : cutB n l
  · rw [szR_no h]; simp
  · obtain ⟨h3, h12, h9⟩ := cutB_len h
    obtain ⟨m, rfl⟩ := Int.eq_ofNat_of_zero_le (show 0 ≤ n by omega)
    rw [szR_yes h, szU_length (sz_h3 h), (pcL_facts h).1]
    omega
theorem szH_len (T : List (List Int)) (s j : Nat) : (szH T s j).length ≤ T.length := by
  unfold szH szT
  rw [List.length_map]
  refine Nat.le_trans (List.length_filter_le _ _) ?_
  simp
  omega
theorem szU_bd {T : List (List Int)} (h3 : ∀ P ∈ T, 3 ≤ P.length) (k : Nat) : (szU T k).length ≤ T.length := by
  rw [(szU_perm h3 k).length_eq]
  unfold lens
  rw [List.length_map]
  exact List.length_filter_le _ _

set_option maxRecDepth 100000 in
set_option maxHeartbeats 3200000 in
theorem spec_SizesOfCut (n : Int) (A : Option Addr) (c B : Nat) (l : List (Int × Int)) (w : World) (h : SlD w B A l) (hB : B ≤ w.heap.size) (hl : l.length ≤ 1048576) (hlc : l.length ≤ c) :
    Calls Try.prog 26 #[.int .i64 n, .slice A l.length c] w (RetI w (szR n l) (cutB n l)) := by
  have HG := Lib.hid (spec_cuGood n A c B l w h hB hl hlc)
  cases hc : cutB n l
  · rw [hc] at HG
    have HE := Lib.hid fun w' (hb : Below w.heap.size w w') => szE_no hc hb
    clear h hc
    go_enter Try.func26, Try.ntmps26
    go_wp2_with fail
    refine HG.out.mono ?_
    rintro e w1 ⟨rfl, hb1⟩
    have HF := Lib.hid (HE.out _ hb1)
    go_wp2
    go_ret2
    exact HF.out
  · rw [hc] at HG
    obtain ⟨h3, h12, h9⟩ := cutB_len hc
    obtain ⟨m, rfl⟩ := Int.eq_ofNat_of_zero_le (show 0 ≤ n by omega)
    have HP := Lib.hid fun w1 (hb : Below w.heap.size w w1) => spec_cuPieces m A c B l.length l w1 (by omega) (by omega) rfl (by omega) (cut_nc hc).2.2.2.2.1 (h.below (hb.mono hB)) (Nat.le_trans hB hb.size)
    have HR := Lib.hid (szR_yes hc)
    have hf := pcL_facts hc
    have HS3 := Lib.hid (fun P hP => (sz_h3 hc P hP).1)
    obtain ⟨K, hK⟩ : ∃ K, (pcL m l).length = K := ⟨_, rfl⟩
    have hK10 : K ≤ 10 := by rw [← hK, hf.1]; omega
    have HK := Lib.hid hK
    have Hf := Lib.hid hf.2
    unfold GivSS at HP
    rw [hK] at HP
    clear h hc hf hK
    go_enter Try.func26, Try.ntmps26
    go_wp2_with fail
    refine HG.out.mono ?_
    rintro e w1 ⟨rfl, hb1⟩
    go_wp2
    go_loopw [6, 7, 9] (fun S sv _ wr => ∃ (s : Nat) (A2 : Option Addr) (c2 : Nat), s ≤ m - 2 ∧ sv = .int .i64 (s + 3) ∧ S = .slice A2 (szU (pcL m l) s).length c2 ∧ ((szU (pcL m l) s).length = 0 → A2 = none ∧ c2 = 0) ∧ wr.ownsRow w.heap.size 3 1 (.slice A2 (szU (pcL m l) s).length c2) (szU (pcL m l) s).length (ics (szU (pcL m l) s)) ∧ Below w.heap.size w wr) (fun _ sv _ _ => m + 1 - (intOf sv).toNat)
    case atStart => exact ⟨0, none, 0, Nat.zero_le _, rfl, rfl, fun _ => ⟨rfl, rfl⟩, World.ownsRow_nil _ _ _ _, hb1⟩
    case round =>
      clear hb1
      obtain ⟨s, A2, c2, hs, rfl, rfl, hnil, ho, hb⟩ := hrel
      obtain ⟨W3, hW3⟩ : ∃ W3, W3 = wr := ⟨_, rfl⟩
      subst hW3
      by_cases hlt : s < m - 2
      · have hsl := szU_bd HS3.out s
        rw [HK.out] at hsl
        have hsl1 := szU_bd HS3.out (s + 1)
        rw [HK.out] at hsl1
        have hall := szH_all (pcL m l) (s + 3)
        rw [HK.out] at hall
        have Hall := Lib.hid hall
        have Hsu := Lib.hid (szU_succ (pcL m l) s)
        have Ho := Lib.hid ho
        have Hb := Lib.hid hb
        have i1 : (s : Int) + 3 ≤ (m : Int) := by omega
        clear ho hall
        go_wp2_with fail
        refine (HP.out _ hb).mono ?_
        rintro e w4 ⟨A4, c4, rfl, hs4, hb4⟩
        have o4 := own_kept Ho.out hb4
        have b4 := below_kept Hb.out (Nat.le_refl _) hb4
        have S4 := Lib.hid hs4
        have hsz4 := b4.size
        clear hs4 hb4 hb
        have Hst : Hid (szU (pcL m l) s = szU (pcL m l) s ++ szH (pcL m l) (s + 3) 0) := Lib.hid (by rw [szH_zero, List.append_nil])
        go_wp2
        go_loopw [6, 9, 23] (fun S _ jv wr => ∃ (j : Nat) (A2 : Option Addr) (c2 : Nat) (R : List Int), j ≤ K ∧ jv = .int .i64 j ∧ R = szU (pcL m l) s ++ szH (pcL m l) (s + 3) j ∧ S = .slice A2 R.length c2 ∧ (R.length = 0 → A2 = none ∧ c2 = 0) ∧ (∀ q o, A2 = some ⟨q, o, none⟩ → q < W3.heap.size ∨ w4.heap.size ≤ q) ∧ wr.ownsRow w.heap.size 3 1 (.slice A2 R.length c2) R.length (ics R) ∧ SlSSn wr W3.heap.size w4.heap.size A4 (pcL m l) ∧ w4.heap.size ≤ wr.heap.size ∧ Below w.heap.size w wr) (fun _ _ jv _ => K - (intOf jv).toNat)
        case atStart => exact ⟨0, A2, c2, _, Nat.zero_le _, rfl, Hst.out, rfl, hnil, fun q o e => .inl (by subst e; obtain ⟨g, cap, hv, _, hlt2⟩ := Ho.out.form (Nat.pos_of_ne_zero fun h0 => by have := (hnil h0).1; cases this); cases hv; exact hlt2), o4, S4.out, Nat.le_refl _, b4⟩
        case round =>
          clear o4 b4 S4
          obtain ⟨j, A5, c5, R, hj, rfl, hR, rfl, hnl, hq5, ho, hS, hz, hb⟩ := hrel
          have HR2 := Lib.hid hR
          have hRl : R.length ≤ 1000 := by
            have := szH_len (pcL m l) (s + 3) j
            rw [HK.out] at this
            rw [hR, List.length_append]
            omega
          clear hR
          by_cases hjk : j < K
          · obtain ⟨g, off, rfl, _, hgB, hcg⟩ := hS (by rw [HK.out]; omega)
            obtain ⟨Aj, cj, y0, hsj, _⟩ := hcg j (by rw [HK.out]; exact hjk)
            have HSr := Lib.hid hS
            obtain ⟨q, hq⟩ : ∃ q, (rowOf (pcL m l) j).length = q := ⟨_, rfl⟩
            have Hq := Lib.hid hq
            rw [hq] at y0
            have j1 : (j : Int) < (K : Int) := by omega
            have Ho := Lib.hid ho
            have Hb := Lib.hid hb
            clear hcg hsj hq hS
            by_cases hqs : q = s + 3
            · have hy := szH_yes (T := pcL m l) (s := s + 3) (j := j) (by rw [HK.out]; exact hjk) (by rw [Hq.out]; exact hqs)
              have Hy := Lib.hid hy
              have q1 : ((q : Int) == (s : Int) + 3) = true := by simp; omega
              have own5 := ho.alloc (.cells #[.int .i64 ((s : Int) + 3)] 3)
              have z5 : w.heap.size ≤ (wr.alloc (.cells #[.int .i64 ((s : Int) + 3)] 3)).heap.size := Nat.le_trans hb.size (by simp)
              clear hy ho hb
              go_wp2_with (at_builtin; refine append1In_loc _ rfl _ _ rfl w.heap.size A5 R.length c5 R rfl hnl rfl own5 wr.heap.size ((s : Int) + 3) rfl ?c1 (by omega) z5 ?_; (case c1 => simp [go_sem]); intro A9 c9 w9 own9 hg9 hloc)
              have b9 := below_grown (Hb.out.alloc Hb.out.size (.cells #[.int .i64 ((s : Int) + 3)] 3)) hg9 (Nat.le_refl _) (fun k hk => (Ho.out.lt k hk).1)
              have hqA : ∀ q o, A9 = some ⟨q, o, none⟩ → q < W3.heap.size ∨ w4.heap.size ≤ q := fun q o e => by
                rcases hloc with h1 | ⟨q', h1, h2⟩
                · exact hq5 q o (by rw [← h1]; exact e)
                · rw [h1] at e
                  cases e
                  exact .inr (Nat.le_trans hz (Nat.le_trans (by simp) h2))
              have s9 : SlSSn w9 W3.heap.size w4.heap.size (some ⟨g, off, none⟩) (pcL m l) := HSr.out.keep (fun b o hlo hbo => by
                rw [hg9.cell_far ⟨b, o, none⟩ (Nat.lt_of_lt_of_le hbo (Nat.le_trans hz (by simp))) ?_]
                · exact ((Below.refl wr.heap.size wr).alloc (Nat.le_refl _) _).cell (p := ⟨b, o, none⟩) (Nat.lt_of_lt_of_le hbo hz)
                · intro e
                  cases A5 with
                  | none => simp [Value.ownBlock] at e
                  | some ad =>
                    have hRp : 0 < R.length := Nat.pos_of_ne_zero fun h0 => by have := (hnl h0).1; cases this
                    obtain ⟨g5, cap5, hv5, _, _⟩ := Ho.out.form hRp
                    cases hv5
                    have h1 : b = g5 := Option.some.inj e
                    have h2 := hq5 g5 0 rfl
                    omega)
              have e9 : R ++ [(s : Int) + 3] = szU (pcL m l) s ++ szH (pcL m l) (s + 3) (j + 1) := by rw [HR2.out, Hy.out, List.append_assoc]; simp
              have z9 : w4.heap.size ≤ w9.heap.size := Nat.le_trans hz (Nat.le_trans (by simp) hg9.size)
              have E9 := Lib.hid e9
              have S9 := Lib.hid s9
              have B9 := Lib.hid b9
              have O9 := Lib.hid own9
              have QA := Lib.hid hqA
              have Z9 := Lib.hid z9
              have L9 : Hid ((R ++ [(s : Int) + 3]).length = R.length + 1) := Lib.hid (by simp)
              clear e9 s9 b9 own9 hqA hloc hg9 own5 z9 hnl hq5
              go_wp2
              go_roundw
              case rel => exact ⟨j + 1, A9, c9, R ++ [(s : Int) + 3], by omega, by go_num, E9.out, by rw [L9.out], fun h0 => by rw [L9.out] at h0; omega, QA.out, by rw [L9.out]; exact O9.out, S9.out, Z9.out, B9.out⟩
              case measure => simp [intOf]; omega
            · have hy := szH_no (T := pcL m l) (s := s + 3) (j := j) (by rw [HK.out]; exact hjk) (by rw [Hq.out]; exact hqs)
              have Hy := Lib.hid hy
              have q1 : ((q : Int) == (s : Int) + 3) = false := by simp; omega
              have HN := Lib.hid hnl
              have HQ5 := Lib.hid hq5
              clear hy ho hb hnl hq5
              go_wp2
              go_roundw
              case rel => exact ⟨j + 1, A5, c5, R, by omega, by go_num, by rw [Hy.out]; exact HR2.out, rfl, HN.out, HQ5.out, Ho.out, HSr.out, hz, Hb.out⟩
              case measure => simp [intOf]; omega
          · obtain rfl : j = K := by omega
            have hR3 : R = szU (pcL m l) (s + 1) := by rw [HR2.out, Hall.out, Hsu.out]
            have HN := Lib.hid hnl
            have Ho2 := Lib.hid ho
            have Hb2 := Lib.hid hb
            have H3 := Lib.hid hR3
            clear ho hb hnl hS hq5 hR3
            go_wp2
            go_roundw
            case rel => exact ⟨s + 1, A5, c5, hlt, by go_num, by rw [← H3.out], by rw [← H3.out]; exact HN.out, by rw [← H3.out]; exact Ho2.out, Hb2.out⟩
            case measure => simp [intOf]; omega
      · obtain rfl : s = m - 2 := by omega
        have HF : Hid (RetI w (szR (m : Int) l) true (.returned (.tuple #[.slice A2 (szU (pcL m l) (m - 2)).length c2, .bool true])) W3) := Lib.hid (by
          rw [HR.out]
          exact ⟨A2, c2, rfl, ho, hb⟩)
        have i1 : ¬ ((m - 2 : Nat) : Int) + 3 ≤ (m : Int) := by omega
        clear ho hb hnil
        go_wp2
        go_ret2
        exact HF.out

set_option maxRecDepth 100000 in
set_option maxHeartbeats 3200000 in
theorem impl_SizesOfCut (n : Int) (A : Option Addr) (c B : Nat) (l : List (Int × Int)) (w : World) (h : SlD w B A l) (hB : B ≤ w.heap.size) (hl : l.length ≤ 1048576) (hlc : l.length ≤ c) :
    Calls Try.prog 27 #[.int .i64 n, .slice A l.length c] w (RetI w (szR n l) (cutB n l)) := by
  have HP := Lib.hid (impl_PiecesOfCut n A c B l w h hB hl hlc)
  unfold RetPS at HP
  cases hc : cutB n l
  · rw [hc, pcR_no hc] at HP
    have HE := Lib.hid fun w' (hb : Below w.heap.size w w') => szE_no hc hb
    clear h hc
    go_enter Try.func27, Try.ntmps27
    go_wp2_with fail
    refine HP.out.mono ?_
    rintro e w1 ⟨A1, c1, rs1, rfl, _, hb1⟩
    have HF := Lib.hid (HE.out _ hb1)
    go_wp2
    go_ret2
    exact HF.out
  · obtain ⟨h3, h12, h9⟩ := cutB_len hc
    obtain ⟨m, rfl⟩ := Int.eq_ofNat_of_zero_le (show 0 ≤ n by omega)
    have HR := Lib.hid (szR_yes hc)
    have hf := pcL_facts hc
    have HEq := Lib.hid (szU_eq (sz_h3 hc))
    have HLn := Lib.hid (szU_length (sz_h3 hc))
    rw [hc, pcR_yes hc] at HP
    obtain ⟨K, hK⟩ : ∃ K, (pcL m l).length = K := ⟨_, rfl⟩
    have hK10 : K ≤ 10 := by rw [← hK, hf.1]; omega
    have HK := Lib.hid hK
    have hK1 : 0 < K := by rw [← hK, hf.1]; omega
    rw [hK] at HP
    generalize pcL m l = T at *
    obtain ⟨i0, hi, hz0, hz1, hz2⟩ := info_parts infoI
    have hbytes : i0.bytes * K ≤ 281474976710656 := by rw [hz2]; omega
    have hmax : K ≤ maxLen := by unfold maxLen; omega
    clear h hc hf hK
    go_enter Try.func27, Try.ntmps27
    go_wp2_with fail
    refine HP.out.mono ?_
    rintro e w1 ⟨A1, c1, rs1, rfl, o1, hb1⟩
    have S1 := Lib.hid o1.sl
    have hsz := hb1.size
    clear o1
    go_wp2_with (at_make; refine wpList_make_full _ rfl _ _ _ rfl w1.heap.size 3 i0 (.int .i64 0) 1 Try.underlying35 hi hz0 hz1 _ _ _ _ K rfl rfl rfl rfl hbytes hmax (Nat.le_refl _) ?_; intro w2 hown2 hgrow2)
    have hb2 : Below w1.heap.size w1 w2 := (Below.refl _ _).grown hgrow2 (Nat.le_refl _) (by simp)
    have e1 : (madeCells (Value.int .i64 0).cells (K * 1)).toList = ics (lnH T 0) := by
      rw [Nat.mul_one]
      show (madeCells #[Value.int .i64 0] K).toList = _
      rw [toList_madeCells_one, lnH_zero, HK.out]
      simp [ics]
    rw [e1] at hown2
    clear e1 hgrow2
    go_wp2
    go_loopw [9, 10, 24] (fun _ _ iv wr => ∃ k : Nat, k ≤ K ∧ iv = .int .i64 k ∧ wr.ownsRow w1.heap.size 3 1 (.slice (some ⟨w1.heap.size, 0, none⟩) K K) K (ics (lnH T k)) ∧ Below w1.heap.size w1 wr) (fun _ _ iv _ => K - (intOf iv).toNat)
    case atStart => exact ⟨0, Nat.zero_le _, rfl, hown2, hb2⟩
    case round =>
      clear hown2 hb2
      obtain ⟨k, hk, rfl, ho, hb⟩ := hrel
      by_cases hlt : k < K
      · obtain ⟨g, off, rfl, hgB, hcg⟩ := S1.out.below hb (by rw [HK.out]; omega)
        obtain ⟨Aj, cj, y0, _⟩ := hcg k (by rw [HK.out]; exact hlt)
        have hll := lnH_length T k (by rw [HK.out]; exact hk)
        rw [HK.out] at hll
        have hcell : wr.cell? ⟨w1.heap.size, k, none⟩ = some (.int .i64 ((lnH T k).getD k 0)) := by
          rw [ho.cellAt k (by omega), ics_get _ _ (by rw [hll]; exact hlt)]
        have hfro := ho.frozenAt k
        have hst := ho.stored k (.int .i64 (((rowOf T k).length : Nat) : Int))
        rw [ics_set, lnH_set T k (by rw [HK.out]; exact hlt)] at hst
        obtain ⟨hs1, hs2⟩ := hst
        have hb2 := hb.grown hs2 hb.size (by simp)
        have k1 : (k : Int) < (K : Int) := by omega
        have HS := Lib.hid hs1
        have HB := Lib.hid hb2
        clear ho hs2 hll hb hs1 hb2 hcg
        generalize (lnH T k).getD k 0 = z at *
        generalize (rowOf T k).length = q at *
        go_wp2
        go_roundw
        case rel => exact ⟨k + 1, by omega, by go_num, HS.out, HB.out⟩
        case measure => simp [intOf]; omega
      · obtain rfl : k = K := by omega
        have hall := lnH_all T
        rw [HK.out] at hall
        rw [hall] at ho
        have HSo := Lib.hid (slices_SortI w1.heap.size w1.heap.size k k (lens T) wr (by rw [lens_length, HK.out]) (by omega) hb.size ho)
        rw [HEq.out] at HSo
        have Hb := Lib.hid (hb1.trans (hb.mono hsz))
        clear ho hb hall
        go_wp2_with fail
        refine HSo.out.mono ?_
        rintro e w4 ⟨rfl, o4, b4⟩
        have HF : Hid (RetI w (szR (m : Int) l) true (.returned (.tuple #[.slice (some ⟨w1.heap.size, 0, none⟩) k k, .bool true])) w4) := Lib.hid (by
          rw [HR.out]
          refine ⟨_, k, by rw [HLn.out, HK.out], ?_, Hb.out.trans (b4.mono hsz)⟩
          rw [HLn.out, HK.out]
          exact o4.mono hsz)
        clear o4 b4
        go_wp2
        go_ret2
        exact HF.out

theorem WSizesOfCut.walk (w : World) (n : Int) (wn : (Lit.int .i64 n).wf = true) (A : Option Addr) (c : Nat) (l : List (Int × Int)) (h : SlD w w.heap.size A l)
    (hj : l.length ≤ c ∧ c ≤ maxLen ∧ ∀ x ∈ l, (Lit.int .i64 x.1).wf = true ∧ (Lit.int .i64 x.2).wf = true) :
    Calls Try.prog 5 #[.int .i64 n, .slice A l.length c] w fun e w' => e = .returned (.bool true) ∧ Below w.heap.size w w' :=
  WSizesOfCut.core w n A c l h hj.1 hj.2.1 (szR n l) (cutB n l) (szR_len n l)
    (Lib.hid fun A c w h hl hlc => spec_SizesOfCut n A c _ l w h (Nat.le_refl _) hl hlc)
    (Lib.hid fun A c w h hl hlc => impl_SizesOfCut n A c _ l w h (Nat.le_refl _) hl hlc)
end Go.Proofs.Ytlnnnjnboknoeaa
