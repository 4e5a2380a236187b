/- RankOfTriangulation: both sides, and the law's walk. -/
import Derived.Test.YtbpaaoeefcebeabTriangulationOfRankW
import Derived.Test.YtbpaaoeefcebeabLstI
import Derived.Test.YtbpaaoeefcebeabLstS
import Derived.Test.YtbpaaoeefcebeabCnp
import Derived.Test.YtbpaaoeefcebeabRankOfTriangulationC
namespace Go.Proofs.Ytbpaaoeefcebeab
set_option linter.unusedVariables false
open Go.RowKit

/-- each row comes before the next one -/
def srtB : List (List (Int × Int)) → Bool
  | a :: b :: r => decide (cmpL a b < 0) && srtB (b :: r)
  | _ => true
theorem srtB_pair : ∀ {L : List (List (Int × Int))}, srtB L = true → L.Pairwise (fun a b => cmpL a b < 0)
  | [], _ => List.Pairwise.nil
  | [a], _ => by simp
  | a :: b :: r, h => by
    unfold srtB at h
    rw [Bool.and_eq_true, decide_eq_true_eq] at h
    have ih := srtB_pair h.2
    refine List.pairwise_cons.2 ⟨fun c hc => ?_, ih⟩
    rcases List.mem_cons.1 hc with rfl | hc
    · exact h.1
    · exact cmpL_trans h.1 ((List.pairwise_cons.1 ih).1 c hc)
theorem alt_srt : ∀ n : Fin 9, srtB (altL n) = true := by decide +kernel
theorem atR_srt (n : Int) {a b : Nat} (hab : a < b) (hb : b < (atR n).length) : cmpL (rowD (atR n) a) (rowD (atR n) b) < 0 := by
  cases h : inB n 3 8
  · rw [atR_no h] at hb; simp at hb
  · have := inB_iff.1 h
    obtain ⟨m, rfl⟩ := Int.eq_ofNat_of_zero_le (show 0 ≤ n by omega)
    rw [atR_yes h] at hb ⊢
    have hp := srtB_pair (alt_srt ⟨m, by omega⟩)
    have := List.pairwise_iff_getElem.1 hp a b (by show a < (altL m).length; omega) hb hab
    unfold rowD
    simpa [hb, show a < (altL m).length by omega] using this
/-- the place of a list among the rows -/
def plc (T : List (List (Int × Int))) (l : List (Int × Int)) : Nat := T.findIdx (fun x => decide (x = l))
theorem plc_at {T : List (List (Int × Int))} {l : List (Int × Int)} {i : Nat} (hi : i < T.length) (h : rowD T i = l) (hb : ∀ x, x < i → rowD T x ≠ l) : plc T l = i := by
  unfold plc
  have e : ∀ x, (hx : x < T.length) → rowD T x = T[x] := fun x hx => by unfold rowD; simp [hx]
  rw [List.findIdx_eq hi]
  refine ⟨by rw [decide_eq_true_eq, ← e i hi]; exact h, fun x hx => ?_⟩
  rw [decide_eq_false_iff_not, ← e x (by omega)]
  exact hb x hx
theorem plc_none {T : List (List (Int × Int))} {l : List (Int × Int)} (h : ∀ x, x < T.length → rowD T x ≠ l) : plc T l = T.length := by
  unfold plc
  have e : ∀ x, (hx : x < T.length) → rowD T x = T[x] := fun x hx => by unfold rowD; simp [hx]
  refine List.findIdx_eq_length.2 fun y hy => ?_
  obtain ⟨i, hi, rfl⟩ := List.getElem_of_mem hy
  rw [decide_eq_false_iff_not, ← e i hi]
  exact h i hi
def rtB (n : Int) (l : List (Int × Int)) : Bool := decide (plc (atR n) l < (atR n).length)
def rtR (n : Int) (l : List (Int × Int)) : Int := if rtB n l = true then (plc (atR n) l : Int) else 0
theorem rt_no {n : Int} {l : List (Int × Int)} (h : ∀ x, x < (atR n).length → rowD (atR n) x ≠ l) : rtB n l = false ∧ rtR n l = 0 := by
  have hb : rtB n l = false := by unfold rtB; rw [plc_none h]; simp
  exact ⟨hb, by unfold rtR; rw [hb]; rfl⟩
theorem rt_yes {n : Int} {l : List (Int × Int)} {i : Nat} (hi : i < (atR n).length) (h : rowD (atR n) i = l) (hb : ∀ x, x < i → rowD (atR n) x ≠ l) : rtB n l = true ∧ rtR n l = (i : Int) := by
  have e := plc_at hi h hb
  have hb : rtB n l = true := by unfold rtB; rw [e]; simp [hi]
  exact ⟨hb, by unfold rtR; rw [hb, e]; rfl⟩
theorem atR_tri (n : Int) (x : Nat) (hx : x < (atR n).length) : inB n 3 8 = true ∧ triB n (rowD (atR n) x) = true := by
  cases h : inB n 3 8
  · rw [atR_no h] at hx; simp at hx
  · have := inB_iff.1 h
    obtain ⟨m, rfl⟩ := Int.eq_ofNat_of_zero_le (show 0 ≤ n by omega)
    rw [atR_yes h] at hx ⊢
    exact ⟨rfl, (alt_row ⟨m, by omega⟩ (by show 3 ≤ m; omega) (rowD (altL m) x) (by unfold rowD; simp [hx])).2⟩

set_option maxRecDepth 100000 in
set_option maxHeartbeats 3200000 in
theorem spec_RankOfTriangulation (n : Int) (A : Option Addr) (c B : Nat) (l : List (Int × Int)) (w : World) (h : SlD w B A l) (hB : B ≤ w.heap.size) (hl : l.length ≤ 1048576) (hlc : l.length ≤ c) :
    Calls Try.prog 16 #[.int .i64 n, .slice A l.length c] w (CntE w (rtR n l) (rtB n l)) := by
  have H := Lib.hid h
  clear h
  have hno : ∀ w', Below w.heap.size w w' → (∀ x, x < (atR n).length → rowD (atR n) x ≠ l) → CntE w (rtR n l) (rtB n l) (.returned (.tuple #[.int .i64 0, .bool false])) w' := fun w' hb hx => by
    rw [(rt_no hx).1, (rt_no hx).2]
    exact ⟨rfl, hb⟩
  have Hno := Lib.hid hno
  clear hno
  go_enter Try.func16, Try.ntmps16
  go_wp2_with fail
  refine (spec_caFew _ _).mono ?_
  rintro e w2 ⟨rfl, rfl⟩
  cases hf : inB n 3 8
  · have Hres := Lib.hid (Hno.out w (Below.refl _ _) (fun x hx => by rw [atR_no hf] at hx; simp at hx))
    clear hf Hno
    go_wp2
    go_ret2
    exact Hres.out
  · have Hf := Lib.hid hf
    clear hf
    go_wp2_with fail
    refine (spec_poGood n A c B l _ H.out hB hl hlc).mono ?_
    rintro e w1 ⟨rfl, hb1⟩
    cases ht : triB n l
    · have Hres := Lib.hid (Hno.out w1 hb1 (fun x hx e => by
        have := (atR_tri n x hx).2
        rw [e, ht] at this
        simp at this))
      clear ht Hno hb1
      go_wp2
      go_ret2
      exact Hres.out
    · have hn := inB_iff.1 Hf.out
      obtain ⟨m, rfl⟩ := Int.eq_ofNat_of_zero_le (show 0 ≤ n by omega)
      have hm3 : 3 ≤ m := by omega
      have hm8 : m ≤ 8 := by omega
      have hat := atR_yes Hf.out
      have hlm := (tri_n ht).2.2
      obtain ⟨q, hq⟩ : ∃ q, l.length = q := ⟨_, rfl⟩
      have q9 : q ≤ 9 := by omega
      have hyes : ∀ w' i, Below w.heap.size w w' → i < (altL m).length → rowD (altL m) i = l → (∀ x, x < i → rowD (altL m) x ≠ l) → CntE w (rtR m l) (rtB m l) (.returned (.tuple #[.int .i64 (i : Nat), .bool true])) w' := fun w' i hb h1 h2 h3 => by
        rw [← hat] at h1 h2 h3
        rw [(rt_yes h1 h2 h3).1, (rt_yes h1 h2 h3).2]
        exact ⟨rfl, hb⟩
      have Hyes := Lib.hid hyes
      have hno2 := Hno.out
      rw [hat] at hno2
      have Hno2 := Lib.hid hno2
      have hbd : (altL m).length ≤ 132 := alt_bd ⟨m, by omega⟩
      have htr : ∀ j, j < (altL m).length → (rowD (altL m) j).length = q := fun j hj => by
        have := (alt_row ⟨m, by omega⟩ hm3 (rowD (altL m) j) (by unfold rowD; simp [hj])).1
        dsimp only at this
        omega
      have Ha := Lib.hid (spec_poAll m w1 hm3 hm8)
      generalize altL m = T at *
      have Htr := Lib.hid htr
      have Hq := Lib.hid hq
      have Hb1 := Lib.hid hb1
      have Hs1 := Lib.hid (H.out.below (hb1.mono hB))
      have z1 := Nat.le_trans hB hb1.size
      rw [hq]
      clear hat hlm hq hyes hno2 htr ht hn hb1 Hno H hl hlc
      go_wp2_with fail
      refine Ha.out.mono ?_
      rintro e w2 ⟨A2, c2, rs, rfl, o2, b2⟩
      obtain ⟨tl, htl⟩ : ∃ tl, T.length = tl := ⟨_, rfl⟩
      have Htl := Lib.hid htl
      rw [htl] at hbd ⊢
      have HO := Lib.hid o2
      have HB := Lib.hid (below_kept Hb1.out (Nat.le_refl _) b2)
      have Hs2 := Lib.hid (Hs1.out.below (b2.mono z1))
      have z2 := Nat.le_trans z1 b2.size
      rw [htl] at Hyes Hno2
      clear htl o2 b2 Ha Hs1
      go_wp2
      go_loopw [6, 7, 20] (fun _ _ i wr => ∃ (t : Nat), t ≤ tl ∧ i = .int .i64 t ∧ (∀ x, x < t → rowD T x ≠ l) ∧ Below w2.heap.size w2 wr) (fun _ _ i _ => tl - (intOf i).toNat)
      case atStart => exact ⟨0, Nat.zero_le _, rfl, fun x hx => by omega, Below.refl _ _⟩
      case round =>
        obtain ⟨t, ht, rfl, hbf, hb⟩ := hrel
        have hsz := hb.size
        have Hbf := Lib.hid hbf
        clear hbf
        by_cases hlt : t < tl
        · have htl2 : t < T.length := by rw [Htl.out]; exact hlt
          obtain ⟨g, rfl, hg1, hg2, hcell⟩ := HO.out.outer (by omega)
          have ho := own_kept (HO.out.2.2.1 t htl2) hb
          have htq := Htr.out t htl2
          rw [htq] at ho
          obtain ⟨Aj, cj, hv⟩ := own_form ho
          have hc : wr.cell? ⟨g, t, none⟩ = some (.slice Aj q cj) := by
            rw [hb.cell (p := ⟨g, t, none⟩) hg2, hcell t htl2, hv]
          rw [hv] at ho
          have hs0 := SlD.of_own ho
          have i0 : (0 : Int) ≤ (t : Int) := by omega
          have i1 : (t : Int) < (tl : Int) := by omega
          have Htq := Lib.hid htq
          have Hs0 := Lib.hid hs0
          have Hsl := Lib.hid (Hs2.out.below (hb.mono z2))
          have zB : B ≤ wr.heap.size := Nat.le_trans z2 hsz
          have Hb := Lib.hid hb
          clear ho hv hs0 hb hcell htq
          go_wp2_with fail
          refine (spec_poSame Aj A q q cj c wr.heap.size B (rowD T t) l wr Hs0.out Hsl.out Htq.out Hq.out rfl (Nat.le_refl _) zB (by omega)).mono ?_
          rintro e w4 ⟨rfl, b4⟩
          have B4 := Lib.hid (below_kept Hb.out (Nat.le_refl _) b4)
          clear b4
          cases hx : decide (rowD T t = l)
          · have HE := Lib.hid (of_decide_eq_false hx)
            clear hx
            go_wp2
            go_roundw
            case rel => exact ⟨t + 1, by omega, by go_num, fun x hx => by
              by_cases e : x = t
              · rw [e]; exact HE.out
              · exact Hbf.out x (by omega), B4.out⟩
            case measure => simp [intOf]; omega
          · have Hres := Lib.hid (Hyes.out w4 t (below_kept HB.out (Nat.le_refl _) B4.out) hlt (of_decide_eq_true hx) Hbf.out)
            clear hx
            go_wp2
            go_ret2
            exact Hres.out
        · obtain rfl : t = tl := by omega
          have Hres := Lib.hid (Hno2.out wr (below_kept HB.out (Nat.le_refl _) hb) Hbf.out)
          clear hb
          go_wp2
          go_ret2
          exact Hres.out

/-- what a binary search tells: how many come before, and whether the next one is it -/
def SrchE (w : World) (T : List (List (Int × Int))) (l : List (Int × Int)) (e : Ending) (w' : World) : Prop :=
  ∃ (i : Nat) (f : Bool), e = .returned (.tuple #[.int .i64 i, .bool f]) ∧ (f = true → i < T.length ∧ rowD T i = l ∧ ∀ x, x < i → rowD T x ≠ l) ∧ (f = false → ∀ x, x < T.length → rowD T x ≠ l) ∧ Below w.heap.size w w'

theorem cmpL_ne {a b : List (Int × Int)} (h : cmpL a b < 0) : a ≠ b := fun e => by rw [e, cmpL_refl] at h; omega

set_option maxRecDepth 100000 in
set_option maxHeartbeats 3200000 in
theorem slices_BinarySearchDD (A A2 : Option Addr) (c c2 base m q B : Nat) (rs : List Value) (T : List (List (Int × Int))) (l : List (Int × Int)) (w : World) (hO : OwnDD w base A c rs T) (hm : T.length = m) (h : SlD w B A2 l) (hq : l.length = q) (hB : B ≤ w.heap.size) (hm9 : m ≤ 1000) (hq9 : q ≤ 1048576)
    (hr9 : ∀ j, j < m → (rowD T j).length ≤ 1000) (hs : ∀ a b, a < b → b < m → cmpL (rowD T a) (rowD T b) < 0) :
    Calls Try.prog 100 #[.slice A m c, .slice A2 q c2, .func (.func 62) #[] #[]] w (SrchE w T l) := by
  have HO := Lib.hid hO
  have Hm := Lib.hid hm
  have H := Lib.hid h
  have Hq := Lib.hid hq
  have Hr9 := Lib.hid hr9
  have Hs := Lib.hid hs
  clear hO hm h hq hr9 hs
  go_enter Try.func100, Try.ntmps100
  go_wp2
  go_loopw [9, 10, 11] (fun i j _ wr => ∃ a b : Nat, a ≤ b ∧ b ≤ m ∧ i = .int .i64 a ∧ j = .int .i64 b ∧ (∀ x, x < a → cmpL (rowD T x) l < 0) ∧ (∀ x, b ≤ x → x < m → 0 ≤ cmpL (rowD T x) l) ∧ Below w.heap.size w wr) (fun i j _ _ => (intOf j).toNat - (intOf i).toNat)
  case atStart => exact ⟨0, m, Nat.zero_le _, Nat.le_refl _, rfl, rfl, fun x hx => by omega, fun x h1 h2 => by omega, Below.refl _ _⟩
  case round =>
    obtain ⟨a, b, hab, hbm, rfl, rfl, hlo, hhi, hb⟩ := hrel
    have hsz := hb.size
    have Hlo := Lib.hid hlo
    have Hhi := Lib.hid hhi
    have Hb := Lib.hid hb
    clear hlo hhi hb
    by_cases hlt : a < b
    · obtain ⟨k, hk⟩ : ∃ k, k = (a + b) / 2 := ⟨_, rfl⟩
      have hk1 : a ≤ k := by omega
      have hk2 : k < b := by omega
      have hkm : k < T.length := by rw [Hm.out]; omega
      obtain ⟨g, rfl, hg1, hg2, hcell⟩ := HO.out.outer (by omega)
      have ho := own_kept (HO.out.2.2.1 k hkm) Hb.out
      obtain ⟨Aj, cj, hv⟩ := own_form ho
      have hc : wr.cell? ⟨g, k, none⟩ = some (.slice Aj (rowD T k).length cj) := by
        rw [Hb.out.cell (p := ⟨g, k, none⟩) hg2, hcell k hkm, hv]
      rw [hv] at ho
      have hcall := impl_compareLists Aj A2 (rowD T k).length q cj c2 wr.heap.size B (rowD T k) l wr (SlD.of_own ho) (H.out.below (Hb.out.mono hB)) rfl Hq.out (Nat.le_refl _) (Nat.le_trans hB hsz) (by have := Hr9.out k (by omega); omega) hq9
      have Hcall := Lib.hid hcall
      have a0 : (a : Int) < (b : Int) := by omega
      have hdiv : ((a : Int) + (b : Int)) / 2 = (k : Int) := by omega
      have hs0 : (0 : Int) ≤ (a : Int) + (b : Int) := by omega
      have hs1 : (a : Int) + (b : Int) ≤ 2000 := by omega
      have k0 : (0 : Int) ≤ (k : Int) := by omega
      have k1 : (k : Int) < (m : Int) := by omega
      have k2 : (k : Int) ≤ 1000 := by omega
      obtain ⟨ql, hql⟩ : ∃ ql, (rowD T k).length = ql := ⟨_, rfl⟩
      rw [hql] at Hcall hc
      clear ho hv hcell hql hk hcall
      go_wp2_with fail
      refine Hcall.out.mono ?_
      rintro e w3 ⟨rfl, b3⟩
      have B3 := Lib.hid (below_kept Hb.out (Nat.le_refl _) b3)
      clear b3 Hcall hc
      by_cases hz : cmpL (rowD T k) l < 0
      · have HL := Lib.hid (show ∀ x, x < k + 1 → cmpL (rowD T x) l < 0 from fun x hx => by
          by_cases e : x = k
          · rw [e]; exact hz
          · exact cmpL_trans (Hs.out x k (by omega) (by omega)) hz)
        generalize cmpL (rowD T k) l = z at *
        go_wp2
        go_roundw
        case rel => exact ⟨k + 1, b, by omega, by omega, by go_num, rfl, HL.out, Hhi.out, B3.out⟩
        case measure => simp [intOf]; omega
      · have HR := Lib.hid (show ∀ x, k ≤ x → x < m → 0 ≤ cmpL (rowD T x) l from fun x h1 h2 => by
          by_cases e : x = k
          · rw [e]; omega
          · refine Int.not_lt.1 fun h3 => hz (cmpL_trans (Hs.out k x (by omega) h2) h3))
        generalize cmpL (rowD T k) l = z at *
        go_wp2
        go_roundw
        case rel => exact ⟨a, k, by omega, by omega, rfl, rfl, Hlo.out, HR.out, B3.out⟩
        case measure => simp [intOf]; omega
    · obtain rfl : a = b := by omega
      by_cases hlm : a < m
      · have hkm : a < T.length := by rw [Hm.out]; omega
        obtain ⟨g, rfl, hg1, hg2, hcell⟩ := HO.out.outer (by omega)
        have ho := own_kept (HO.out.2.2.1 a hkm) Hb.out
        obtain ⟨Aj, cj, hv⟩ := own_form ho
        have hc : wr.cell? ⟨g, a, none⟩ = some (.slice Aj (rowD T a).length cj) := by
          rw [Hb.out.cell (p := ⟨g, a, none⟩) hg2, hcell a hkm, hv]
        rw [hv] at ho
        have hcall := impl_compareLists Aj A2 (rowD T a).length q cj c2 wr.heap.size B (rowD T a) l wr (SlD.of_own ho) (H.out.below (Hb.out.mono hB)) rfl Hq.out (Nat.le_refl _) (Nat.le_trans hB hsz) (by have := Hr9.out a hlm; omega) hq9
        have Hcall := Lib.hid hcall
        have k0 : (0 : Int) ≤ (a : Int) := by omega
        have k1 : (a : Int) < (m : Int) := by omega
        have Hfin := Lib.hid (show ∀ (w3 : World) (f : Bool), f = decide (cmpL (rowD T a) l = 0) → Below w.heap.size w w3 → SrchE w T l (.returned (.tuple #[.int .i64 a, .bool f])) w3 from fun w3 f hf hb3 => by
          refine ⟨a, f, rfl, fun hft => ?_, fun hff => ?_, hb3⟩
          · rw [hft] at hf
            exact ⟨hkm, cmpL_zero.1 (of_decide_eq_true hf.symm), fun x hx => cmpL_ne (Hlo.out x hx)⟩
          · rw [hff] at hf
            have hne := of_decide_eq_false hf.symm
            intro x hx e
            rcases Nat.lt_trichotomy x a with h1 | h1 | h1
            · exact cmpL_ne (Hlo.out x h1) e
            · rw [h1] at e; exact hne (cmpL_zero.2 e)
            · have := Hs.out a x h1 (by rw [← Hm.out]; exact hx)
              rw [e] at this
              exact Int.not_lt.2 (Hhi.out a (Nat.le_refl _) hlm) this)
        obtain ⟨ql, hql⟩ : ∃ ql, (rowD T a).length = ql := ⟨_, rfl⟩
        rw [hql] at Hcall hc
        clear ho hv hcell hql hcall
        go_wp2_with fail
        refine Hcall.out.mono ?_
        rintro e w3 ⟨rfl, b3⟩
        have B3 := Lib.hid (below_kept Hb.out (Nat.le_refl _) b3)
        clear b3 Hcall hc
        obtain ⟨z, hz⟩ : ∃ z, cmpL (rowD T a) l = z := ⟨_, rfl⟩
        rw [hz] at Hfin ⊢
        clear hz
        by_cases hz0 : z = 0
        · subst hz0
          have Hres := Lib.hid (Hfin.out w3 true rfl B3.out)
          clear Hfin
          go_wp2
          go_ret2
          exact Hres.out
        · have hzb : (z == 0) = false := by simpa using hz0
          have Hres := Lib.hid (Hfin.out w3 false (by simp [hz0]) B3.out)
          clear Hfin hz0
          go_wp2
          go_ret2
          exact Hres.out
      · have hres : SrchE w T l (.returned (.tuple #[.int .i64 a, .bool false])) wr := ⟨a, false, rfl, fun h => by simp at h, fun _ x hx => cmpL_ne (Hlo.out x (by have := Hm.out; omega)), Hb.out⟩
        have Hres := Lib.hid hres
        have k1 : ¬ (a : Int) < (m : Int) := by omega
        clear hres
        go_wp2
        go_ret2
        exact Hres.out

theorem impl_rankOfD (A A2 : Option Addr) (c c2 base m q B : Nat) (rs : List Value) (n : Int) (l : List (Int × Int)) (w : World) (hO : OwnDD w base A c rs (atR n)) (hm : (atR n).length = m) (h : SlD w B A2 l) (hq : l.length = q) (hB : B ≤ w.heap.size) (hq9 : q ≤ 1048576) :
    Calls Try.prog 61 #[.slice A2 q c2, .slice A m c, .func (.func 62) #[] #[]] w (CntE w (rtR n l) (rtB n l)) := by
  have hbd := atR_len n
  have Hs := Lib.hid (slices_BinarySearchDD A A2 c c2 base m q B rs (atR n) l w hO hm h hq hB (by omega) hq9 (fun j hj => by have := atR_row n j (by omega); omega) (fun a b h1 h2 => atR_srt n h1 (by omega)))
  clear hO h hm hbd
  go_enter Try.func61, Try.ntmps61
  go_wp2_with fail
  refine Hs.out.mono ?_
  rintro e w1 ⟨i, f, rfl, hyes, hno, hb⟩
  cases f
  · have hx := hno rfl
    have hres : CntE w (rtR n l) (rtB n l) (.returned (.tuple #[.int .i64 0, .bool false])) w1 := by
      rw [(rt_no hx).1, (rt_no hx).2]
      exact ⟨rfl, hb⟩
    have Hres := Lib.hid hres
    clear hres hx hno hyes hb Hs
    go_wp2
    go_ret2
    exact Hres.out
  · obtain ⟨h1, h2, h3⟩ := hyes rfl
    have hres : CntE w (rtR n l) (rtB n l) (.returned (.tuple #[.int .i64 i, .bool true])) w1 := by
      rw [(rt_yes h1 h2 h3).1, (rt_yes h1 h2 h3).2]
      exact ⟨rfl, hb⟩
    have Hres := Lib.hid hres
    clear hres h1 h2 h3 hno hyes hb Hs
    go_wp2
    go_ret2
    exact Hres.out

theorem impl_RankOfTriangulation (n : Int) (A : Option Addr) (c B : Nat) (l : List (Int × Int)) (w : World) (h : SlD w B A l) (hB : B ≤ w.heap.size) (hl : l.length ≤ 1048576) (hlc : l.length ≤ c) :
    Calls Try.prog 18 #[.int .i64 n, .slice A l.length c] w (CntE w (rtR n l) (rtB n l)) := by
  have H := Lib.hid h
  clear h
  have Hall := Lib.hid (impl_AllTriangulations n w)
  obtain ⟨q, hq⟩ : ∃ q, l.length = q := ⟨_, rfl⟩
  rw [hq] at hl hlc ⊢
  have Hq := Lib.hid hq
  clear hq
  go_enter Try.func18, Try.ntmps18
  go_wp2_with fail
  refine Hall.out.mono ?_
  rintro e w1 ⟨A1, c1, rs, rfl, o1, b1⟩
  obtain ⟨t, ht⟩ : ∃ t, (atR n).length = t := ⟨_, rfl⟩
  have Hc := Lib.hid (impl_rankOfD A1 A c1 c w.heap.size t q B rs n l w1 o1 ht (H.out.below (b1.mono hB)) Hq.out (Nat.le_trans hB b1.size) hl)
  rw [ht]
  have B1 := Lib.hid b1
  clear o1 b1 ht Hall
  go_wp2_with fail
  refine Hc.out.mono ?_
  rintro e w2 ⟨rfl, b2⟩
  have hres : CntE w (rtR n l) (rtB n l) (.returned (.tuple #[.int .i64 (rtR n l), .bool (rtB n l)])) w2 := ⟨rfl, below_kept B1.out (Nat.le_refl _) b2⟩
  have Hres := Lib.hid hres
  clear hres b2 Hc
  go_wp2
  go_ret2
  exact Hres.out

theorem WRankOfTriangulation.walk (w : World) (n : Int) (wn : (Lit.int .i64 n).wf = true) (A : Option Addr) (c : Nat) (l : List (Int × Int)) (h : SlD w w.heap.size A l)
    (hj : l.length ≤ c ∧ c ≤ maxLen ∧ ∀ x ∈ l, (Lit.int .i64 x.1).wf = true ∧ (Lit.int .i64 x.2).wf = true) :
    Calls Try.prog 3 #[.int .i64 n, .slice A l.length c] w fun e w' => e = .returned (.bool true) ∧ Below w.heap.size w w' :=
  WRankOfTriangulation.core w n A c l h hj.1 hj.2.1 (rtR n l) (rtB n l)
    (Lib.hid fun A c w h hl hlc => spec_RankOfTriangulation n A c _ l w h (Nat.le_refl _) hl hlc)
    (Lib.hid fun A c w h hl hlc => impl_RankOfTriangulation n A c _ l w h (Nat.le_refl _) hl hlc)
end Go.Proofs.Ytbpaaoeefcebeab
