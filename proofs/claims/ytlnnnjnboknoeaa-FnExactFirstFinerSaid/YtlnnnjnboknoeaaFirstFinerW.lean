/- FirstFiner: both sides, and the law's walk. -/
import Derived.Test.YtlnnnjnboknoeaaFinM
import Derived.Test.YtlnnnjnboknoeaaAddI
import Derived.Test.YtlnnnjnboknoeaaCuFS
import Derived.Test.YtlnnnjnboknoeaaTurnS
import Derived.Test.YtlnnnjnboknoeaaFirstFinerC
namespace Go.Proofs.Ytlnnnjnboknoeaa
set_option linter.unusedVariables false
open Go.RowKit

def lenV : Value → Nat
  | .slice _ n _ => n
  | _ => 0
theorem retD_fin_no {n : Int} {l : List (Int × Int)} {w w' : World} (h : cutB n l = false) (hb : Below w.heap.size w w') : RetD w (fiR n l) (cutB n l) (.returned (.tuple #[.slice none 0 0, .bool false])) w' := by
  rw [fiR_no h, h]
  exact ⟨none, 0, rfl, World.ownsRow_nil _ _ _ _, hb⟩

set_option maxRecDepth 100000 in
set_option maxHeartbeats 3200000 in
theorem spec_FirstFiner (n : Int) (A : Option Addr) (c B : Nat) (l : List (Int × Int)) (w : World) (h : SlD w B A l) (hB : B ≤ w.heap.size) (hl : l.length ≤ 1048576) (hlc : l.length ≤ c) :
    Calls Try.prog 43 #[.int .i64 n, .slice A l.length c] w (RetD w (fiR n l) (cutB n l)) := by
  have hcut := spec_cuGood n A c B l w h hB hl hlc
  cases hc : cutB n l
  · have HE := Lib.hid fun w' hb => retD_fin_no (w := w) (w' := w') hc hb
    rw [hc] at hcut HE
    have Hcut := Lib.hid hcut
    clear hcut hc h hl hlc
    go_enter Try.func43, Try.ntmps43
    go_wp2_with fail
    refine Hcut.out.mono ?_
    rintro e w1 ⟨rfl, hb1⟩
    have HF := Lib.hid (HE.out _ hb1)
    clear hb1 HE
    go_wp2
    go_ret2
    exact HF.out
  · have hn := cutB_len hc
    obtain ⟨m, rfl⟩ := Int.eq_ofNat_of_zero_le (show 0 ≤ n by omega)
    have n3 : 3 ≤ m := by omega
    have n12 : m ≤ 12 := by omega
    have hfr := fiR_yes hc
    have hct := hc
    rw [hc] at hcut
    rw [hfr]
    obtain ⟨q, hq⟩ : ∃ q, l.length = q := ⟨_, rfl⟩
    rw [hq] at hcut hl hlc ⊢
    have q9 : q ≤ 9 := by omega
    have Hcut := Lib.hid hcut
    have H := Lib.hid h
    have Hq := Lib.hid hq
    have Hct := Lib.hid hct
    obtain ⟨R, hR⟩ : ∃ R, finL (m : Int) (rws (dB m) m m) l = R := ⟨_, rfl⟩
    rw [hR]
    have HR := Lib.hid hR
    clear hcut hc h hq hfr hn hct hR
    go_enter Try.func43, Try.ntmps43
    go_wp2_with fail
    refine Hcut.out.mono ?_
    rintro e w1 ⟨rfl, hb1⟩
    have own0 := own_made w1 (B := w1.heap.size) (Nat.le_refl _)
    have hs2 : SlD (w1.alloc (.cells #[] 49)) B A l := (H.out.below (hb1.mono hB)).below (((Below.refl _ _).alloc (Nat.le_refl _) _).mono (Nat.le_trans hB hb1.size))
    have Hs2 := Lib.hid hs2
    have Hb1 := Lib.hid hb1
    clear hs2 hb1
    go_wp2_with (at_builtin; refine wpList_appendN _ rfl _ _ rfl w1.heap.size (.slice (some ⟨w1.heap.size, 0, none⟩) 0 0) 0 [] rfl rfl own0 A q c l B q (by omega) rfl Hq.out Hs2.out (by decide) (by omega) (by simp) ?_; intro A' c' w2 hown1 hgrow1)
    have hb2 : Below w.heap.size w w2 := Hb1.out.trans ((((Below.refl w1.heap.size w1).alloc (Nat.le_refl _) (.cells #[] 49)).grown hgrow1 (by simp) (above_blk (Nat.le_refl _))).mono Hb1.out.size)
    rw [List.nil_append] at hown1
    have Own2 := Lib.hid (hown1.mono Hb1.out.size)
    have Hb2 := Lib.hid hb2
    clear hb2 hown1 hgrow1 own0
    go_wp2
    go_loopw [6] (fun v wr => ∃ (L : List (Int × Int)) (A' : Option Addr) (c' : Nat), v = .slice A' L.length c' ∧ cutB (m : Int) L = true ∧ finL (m : Int) (rws (dB m) m m) L = R ∧ wr.ownsRow w.heap.size 49 2 (.slice A' L.length c') L.length (dcs L) ∧ Below w.heap.size w wr) (fun v _ => m - lenV v)
    case atStart => exact ⟨l, A', c', by rw [Hq.out], Hct.out, HR.out, by rw [Hq.out]; exact Own2.out, Hb2.out⟩
    case round =>
      clear Own2 Hb2 HR Hct Hq
      obtain ⟨L, A2, c2, rfl, hLc, hLR, ho, hb⟩ := hrel
      have hL9 := (cut_count hLc).2.2.2.2
      by_cases hlt : L.length + 3 < m
      · obtain ⟨d, r, hF, hc2, hf2⟩ := fin_step hLc hlt
        obtain ⟨x, y⟩ := d
        rw [hLR] at hf2
        have hcall := spec_cuFree m A2 L.length c2 wr.heap.size L wr n3 n12 (SlD.of_own ho) (Nat.le_refl _) rfl (by omega)
        rw [hF] at hcall
        have Hcall := Lib.hid hcall
        have Hc2 := Lib.hid hc2
        have Hf2 := Lib.hid hf2
        have Ho := Lib.hid ho
        have Hb := Lib.hid hb
        have i0 : (L.length : Int) < (m : Int) - 3 := by omega
        obtain ⟨p, hp⟩ : ∃ p, L.length = p := ⟨_, rfl⟩
        have Hp := Lib.hid hp
        rw [hp] at Hcall Ho i0 hL9 hlt ⊢
        clear hcall hc2 hf2 hF hLc hLR ho hb hp
        go_wp2_with fail
        refine Hcall.out.mono ?_
        rintro e w3 ⟨A3, c3, rfl, o3, b3⟩
        obtain ⟨b4, off, rfl, _, hc4⟩ := SlD.of_own o3 (by simp)
        obtain ⟨g0, g1⟩ := hc4 0 (by simp)
        simp only [Nat.zero_mul, Nat.add_zero, List.getD_cons_zero] at g0 g1
        have f0 : (0 : Int) < (((x, y) :: r).length : Int) := by rw [List.length_cons]; omega
        have own3 := (own_kept Ho.out b3).alloc (.cells #[.int .i64 x, .int .i64 y] 49)
        have hb3 := below_kept Hb.out (Nat.le_refl _) b3
        have hb4 := hb3.alloc hb3.size (.cells #[.int .i64 x, .int .i64 y] 49)
        have hb6 := hb4.size
        have Hlow := Lib.hid own3.lt
        clear hc4 b3 o3 Hcall hb3
        generalize ((x, y) :: r).length = fl at *
        go_wp2_with (first
          | (at_builtin; refine append1Dn _ rfl _ _ rfl w.heap.size (.slice A2 p c2) p L Hp.out rfl own3 w3.heap.size x y rfl ?c1 ?c2 ?c3 hb6 ?_; (case c1 => simp [go_sem]); (case c2 => simp [go_sem]); (case c3 => omega); intro A5 c5 w5 own5 hg5))
        have hb7 := hb4.grown hg5 hb6 (fun j hj => (Hlow.out j hj).1)
        have Hb7 := Lib.hid hb7
        have hlen : (L ++ [(x, y)]).length = p + 1 := by rw [List.length_append, Hp.out]; rfl
        have hown : w5.ownsRow w.heap.size 49 2 (.slice A5 (L ++ [(x, y)]).length c5) (L ++ [(x, y)]).length (dcs (L ++ [(x, y)])) := by rw [hlen]; exact own5
        have Hsort := Lib.hid (spec_poSorted_n A5 (p + 1) c5 w5.heap.size (L ++ [(x, y)]) w5 hlen (SlD.of_own hown) (Nat.le_refl _) (by omega))
        clear hb7 hb4 hg5 own3 own5 hown hlen hb6 g0 g1
        refine Hsort.out.mono ?_
        rintro e w6 ⟨A6, c6, rfl, o6, b6⟩
        have hsl : (sortD (L ++ [(x, y)])).length = p + 1 := by rw [add_len, Hp.out]
        have Hsl := Lib.hid hsl
        have O6 := Lib.hid (o6.mono Hb7.out.size)
        have B6 := Lib.hid (below_kept Hb7.out (Nat.le_refl _) b6)
        clear o6 b6 Hsort hsl
        generalize sortD (L ++ [(x, y)]) = S at *
        go_wp2
        go_roundw
        case rel => exact ⟨S, A6, c6, rfl, Hc2.out, Hf2.out, O6.out, B6.out⟩
        case measure => simp [lenV]; have := Hsl.out; omega
      · have hLe := fin_end hLc hlt
        rw [hLR] at hLe
        have i0 : ¬ (L.length : Int) < (m : Int) - 3 := by omega
        have hres : RetD w R true (.returned (.tuple #[.slice A2 L.length c2, .bool true])) wr := by
          rw [hLe]
          exact ⟨A2, c2, rfl, ho, hb⟩
        have Hres := Lib.hid hres
        clear hres ho hb hLe hLR hLc
        go_wp2
        go_ret2
        exact Hres.out

set_option maxRecDepth 100000 in
set_option maxHeartbeats 3200000 in
theorem impl_FirstFiner (n : Int) (A : Option Addr) (c B : Nat) (l : List (Int × Int)) (w : World) (h : SlD w B A l) (hB : B ≤ w.heap.size) (hl : l.length ≤ 1048576) (hlc : l.length ≤ c) :
    Calls Try.prog 44 #[.int .i64 n, .slice A l.length c] w (RetD w (fiR n l) (cutB n l)) := by
  have hcut := impl_IsCut n A c B l w h hB hl hlc
  cases hc : cutB n l
  · have HE := Lib.hid fun w' hb => retD_fin_no (w := w) (w' := w') hc hb
    rw [hc] at hcut HE
    have Hcut := Lib.hid hcut
    clear hcut hc h hl hlc
    go_enter Try.func44, Try.ntmps44
    go_wp2_with fail
    refine Hcut.out.mono ?_
    rintro e w1 ⟨rfl, hb1⟩
    have HF := Lib.hid (HE.out _ hb1)
    clear hb1 HE
    go_wp2
    go_ret2
    exact HF.out
  · have hn := cutB_len hc
    obtain ⟨m, rfl⟩ := Int.eq_ofNat_of_zero_le (show 0 ≤ n by omega)
    have n3 : 3 ≤ m := by omega
    have n12 : m ≤ 12 := by omega
    have hfr := fiR_yes hc
    have Hct := Lib.hid hc
    rw [hc] at hcut
    rw [hfr]
    have hll : (rws (dB m) m m).length ≤ 1000 := by
      have h2 := rws_length (dB m) m m
      have h3 : m * m ≤ 12 * 12 := Nat.mul_le_mul n12 n12
      omega
    have Hall := Lib.hid fun w' => impl_allDiagonals m w' n3 n12
    generalize rws (dB m) m m = D at *
    obtain ⟨q, hq⟩ : ∃ q, l.length = q := ⟨_, rfl⟩
    rw [hq] at hcut hl hlc ⊢
    have q9 : q ≤ 9 := by omega
    have Hcut := Lib.hid hcut
    have H := Lib.hid h
    have Hq := Lib.hid hq
    clear hcut hc h hq hfr hn
    go_enter Try.func44, Try.ntmps44
    go_wp2_with fail
    refine Hcut.out.mono ?_
    rintro e w1 ⟨rfl, hb1⟩
    go_wp2_with fail
    refine (slices_CloneDx A q c B l _ Hq.out (H.out.below (hb1.mono hB)) (Nat.le_trans hB hb1.size) (by omega)).mono ?_
    rintro e w2 ⟨A2, c2, rfl, o2, b2⟩
    rw [Hq.out] at o2 ⊢
    have Hb2 := Lib.hid (below_kept hb1 (Nat.le_refl _) b2)
    have Ho2 := Lib.hid (o2.mono hb1.size)
    clear o2 b2 hb1
    go_wp2_with fail
    refine (Hall.out _).mono ?_
    rintro e w3 ⟨A3, c3, rfl, o3, b3⟩
    have Hb3 := Lib.hid (below_kept Hb2.out (Nat.le_refl _) b3)
    have Ho3 := Lib.hid (own_kept Ho2.out b3)
    have HD := Lib.hid (SlD.of_own o3)
    obtain ⟨dl, hdl⟩ : ∃ dl, D.length = dl := ⟨_, rfl⟩
    have Hdl := Lib.hid hdl
    rw [hdl] at hll ⊢
    clear o3 b3 hdl Hb2 Ho2
    go_wp2
    go_loopw [6, 8, 9, 10, 20] (fun v _ _ _ i wr => ∃ (k : Nat) (L : List (Int × Int)) (A' : Option Addr) (c' : Nat), k ≤ dl ∧ i = .int .i64 k ∧ v = .slice A' L.length c' ∧ L = finL (m : Int) (D.take k) l ∧ wr.ownsRow w.heap.size 49 2 (.slice A' L.length c') L.length (dcs L) ∧ Below w.heap.size w wr ∧ Below w3.heap.size w3 wr) (fun _ _ _ _ i _ => dl - (intOf i).toNat)
    case atStart => exact ⟨0, l, A2, c2, Nat.zero_le _, rfl, by rw [Hq.out], rfl, by rw [Hq.out]; exact Ho3.out, Hb3.out, Below.refl _ _⟩
    case round =>
      clear Ho3 Hb3 Hq
      obtain ⟨k, L, A4, c4, hk, rfl, rfl, hL, ho, hb, hb3⟩ := hrel
      have hLc : cutB (m : Int) L = true := by rw [hL]; exact finL_cut Hct.out
      have hL9 := (cut_count hLc).2.2.2.2
      by_cases hlt : k < dl
      · have hkD : k < D.length := by rw [Hdl.out]; exact hlt
        obtain ⟨b4, off, rfl, _, hc4⟩ := HD.out.below hb3 (by omega)
        obtain ⟨g0, g1⟩ := hc4 k hkD
        have hst := finL_take (n := (m : Int)) (l := l) hkD
        rw [← hL] at hst
        generalize D.getD k (0, 0) = d at *
        obtain ⟨x, y⟩ := d
        dsimp only at g0 g1
        have i0 : (0 : Int) ≤ (k : Int) := by omega
        have i1 : (k : Int) < (dl : Int) := by omega
        have Hst := Lib.hid hst
        obtain ⟨p, hp⟩ : ∃ p, L.length = p := ⟨_, rfl⟩
        have Hp := Lib.hid hp
        have Hb := Lib.hid (hb.alloc hb.size (.cells #[.int .i64 x, .int .i64 y] 49))
        have Hb3 := Lib.hid (hb3.alloc hb3.size (.cells #[.int .i64 x, .int .i64 y] 49))
        have Ho := Lib.hid (ho.alloc (.cells #[.int .i64 x, .int .i64 y] 49))
        have hcall := impl_AddDiagonal (m : Int) A4 c4 _ L x y _ (SlD.of_own Ho.out) (Nat.le_refl _) (by omega) (own_cap ho)
        have Hcall := Lib.hid hcall
        have HL := Lib.hid hL
        rw [hp] at Hcall hL9 ⊢
        clear hc4 hst hcall ho hb hb3 hp hL hLc
        go_wp2_with fail
        refine Hcall.out.mono ?_
        rintro e w5 ⟨A5, c5, rfl, o5, b5⟩
        have Hb5 := Lib.hid (below_kept Hb.out (Nat.le_refl _) b5)
        have Hb35 := Lib.hid (below_kept Hb3.out (Nat.le_refl _) b5)
        have Ho5 := Lib.hid (own_kept Ho.out b5)
        have On5 := Lib.hid (o5.mono Hb.out.size)
        clear o5 b5 Hcall Hb Hb3 Ho g0 g1
        cases ha : addB (m : Int) L (x, y)
        · have hnx : L = finL (m : Int) (D.take (k + 1)) l := by rw [Hst.out, finS_no ha]
          have Hnx := Lib.hid hnx
          clear hnx ha On5 Hst HL
          go_wp2
          go_roundw
          case rel => exact ⟨k + 1, L, A4, c4, by omega, by go_num, by rw [Hp.out], Hnx.out, Ho5.out, Hb5.out, Hb35.out⟩
          case measure => simp [intOf]; omega
        · have hnx : addR (m : Int) L (x, y) = finL (m : Int) (D.take (k + 1)) l := by rw [Hst.out, finS_yes ha, addR_yes ha]
          have Hnx := Lib.hid hnx
          clear hnx ha Ho5 Hst HL
          generalize addR (m : Int) L (x, y) = L5 at *
          go_wp2
          go_roundw
          case rel => exact ⟨k + 1, L5, A5, c5, by omega, by go_num, rfl, Hnx.out, On5.out, Hb5.out, Hb35.out⟩
          case measure => simp [intOf]; omega
      · obtain rfl : k = dl := by omega
        have hD : D.take k = D := by rw [← Hdl.out]; exact List.take_length
        rw [hD] at hL
        have hres : RetD w (finL (m : Int) D l) true (.returned (.tuple #[.slice A4 L.length c4, .bool true])) wr := by
          rw [← hL]
          exact ⟨A4, c4, rfl, ho, hb⟩
        have Hres := Lib.hid hres
        clear hres ho hb hb3 hL hD hLc
        go_wp2
        go_ret2
        exact Hres.out
theorem fiR_length (n : Int) (l : List (Int × Int)) : (fiR n l).length ≤ 1000000000 := by
  cases h : cutB n l
  · rw [fiR_no h]; simp
  · have hn := cutB_len h
    obtain ⟨m, rfl⟩ := Int.eq_ofNat_of_zero_le (show 0 ≤ n by omega)
    rw [fiR_yes h]
    have := (cut_count (finL_cut (D := rws (dB m) m m) h)).2.2.2.2
    omega
theorem WFirstFiner.walk (w : World) (n : Int) (wn : (Lit.int .i64 n).wf = true) (A : Option Addr) (c : Nat) (l : List (Int × Int)) (h : SlD w w.heap.size A l)
    (hj : l.length ≤ c ∧ c ≤ maxLen ∧ ∀ x ∈ l, (Lit.int .i64 x.1).wf = true ∧ (Lit.int .i64 x.2).wf = true) :
    Calls Try.prog 11 #[.int .i64 n, .slice A l.length c] w fun e w' => e = .returned (.bool true) ∧ Below w.heap.size w w' :=
  WFirstFiner.core w n A c l h hj.1 hj.2.1 (fiR n l) (cutB n l) (fiR_length n l)
    (Lib.hid fun A c w h hl hlc => spec_FirstFiner n A c _ l w h (Nat.le_refl _) hl hlc)
    (Lib.hid fun A c w h hl hlc => impl_FirstFiner n A c _ l w h (Nat.le_refl _) hl hlc)
end Go.Proofs.Ytlnnnjnboknoeaa
