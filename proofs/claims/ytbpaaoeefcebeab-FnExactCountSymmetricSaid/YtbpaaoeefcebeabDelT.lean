/- Triangulations of one kind: the program's filter over all of them. -/
import Derived.Test.YtbpaaoeefcebeabDelM
import Derived.Test.YtbpaaoeefcebeabAllTriangulationsW
import Derived.Lib.SliceRun
namespace Go.Proofs.Ytbpaaoeefcebeab
set_option linter.unusedVariables false
open Go.RowKit

/-- what is asked of the filter's closure: it tells of each triangulation of n corners whether it is not of the kind -/
def Tells (n : Int) (g : Nat) (P : List (Int × Int) → Bool) (w0 : World) : Prop :=
  ∀ (A : Option Addr) (q c : Nat) (l : List (Int × Int)) (w : World), Below (g + 1) w0 w → SlD w w.heap.size A l → l.length = q → triB n l = true →
    Calls Try.prog 109 #[.slice A q c, .pointer (some ⟨g, 0, none⟩)] w fun e w' => e = .returned (.bool (!P l)) ∧ Below w.heap.size w w'

/-- where the first one is that is not kept; less than none: -1 -/
def FoundD (w : World) (m : Nat) (p : Nat → Bool) (e : Ending) (w' : World) : Prop :=
  ∃ r : Int, e = .returned (.int .i64 r) ∧ ((r = -1 ∧ ∀ x, x < m → p x = true) ∨ ∃ i : Nat, r = (i : Int) ∧ i < m ∧ (∀ x, x < i → p x = true) ∧ p i = false) ∧ Below w.heap.size w w'

set_option maxRecDepth 100000 in
set_option maxHeartbeats 3200000 in
theorem indexFunc_that (n : Int) (gr : Nat) (P : List (Int × Int) → Bool) (w0 : World) (A : Option Addr) (c base m : Nat) (rs : List Value) (Ls : List (List (Int × Int))) (w : World) (hT : Tells n gr P w0) (hw : Below (gr + 1) w0 w) (hg : gr + 1 ≤ base) (hbase : base ≤ w.heap.size) (h : OwnDD w base A c rs Ls) (hm : Ls.length = m)
    (ht : ∀ j, j < m → triB n (rowD Ls j) = true) (hm9 : m ≤ 100000) (hp0 : 0 < m) :
    Calls Try.prog 128 #[.slice A m c, .func (.func 109) #[] #[.pointer (some ⟨gr, 0, none⟩)]] w (FoundD w m (fun j => P (rowD Ls j))) := by
  have HT := Lib.hid hT
  have HTr := Lib.hid ht
  have H := Lib.hid h
  have Hm := Lib.hid hm
  have Hw := Lib.hid hw
  clear hT ht h hm hw
  obtain ⟨g, rfl, hg1, hg2, hcell⟩ := H.out.outer (by rw [Hm.out]; exact hp0)
  have Hcell := Lib.hid hcell
  clear hcell
  go_enter Try.func128, Try.ntmps128
  go_wp2
  go_loopw [5, 8] (fun _ i wr => ∃ k : Nat, k ≤ m ∧ i = .int .i64 k ∧ (∀ x, x < k → P (rowD Ls x) = true) ∧ Below w.heap.size w wr) (fun _ i _ => m - (intOf i).toNat)
  case atStart => exact ⟨0, Nat.zero_le _, rfl, fun x hx => by omega, Below.refl _ _⟩
  case round =>
    obtain ⟨k, hk, rfl, hall, hb⟩ := hrel
    have Hall := Lib.hid hall
    clear hall
    by_cases hlt : k < m
    · have hkl : k < Ls.length := by rw [Hm.out]; exact hlt
      have ho := own_kept (H.out.2.2.1 k hkl) hb
      obtain ⟨Aj, cj, hv⟩ := own_form ho
      have hc : wr.cell? ⟨g, k, none⟩ = some (.slice Aj (rowD Ls k).length cj) := by
        rw [hb.cell (p := ⟨g, k, none⟩) hg2, Hcell.out k hkl, hv]
      rw [hv] at ho
      have i0 : (0 : Int) ≤ (k : Int) := by omega
      have i1 : (k : Int) < (m : Int) := by omega
      have Hcall := Lib.hid (HT.out Aj (rowD Ls k).length cj (rowD Ls k) wr (Hw.out.trans (hb.mono (Nat.le_trans hg hbase))) (SlD.of_own ho) rfl (HTr.out k hlt))
      have Hb := Lib.hid hb
      clear ho hv hb
      generalize hq : (rowD Ls k).length = q at *
      clear hq
      go_wp2_with fail
      refine Hcall.out.mono ?_
      rintro e w3 ⟨rfl, b3⟩
      have B3 := Lib.hid (below_kept Hb.out (Nat.le_refl _) b3)
      clear b3 Hcall
      cases hx : P (rowD Ls k)
      · have hE : FoundD w m (fun j => P (rowD Ls j)) (.returned (.int .i64 k)) w3 := ⟨k, rfl, .inr ⟨k, rfl, hlt, Hall.out, hx⟩, B3.out⟩
        have HE := Lib.hid hE
        clear hE hx
        simp only [Bool.not_false]
        go_wp2
        go_ret
        exact HE.out
      · have Hx := Lib.hid hx
        clear hx
        simp only [Bool.not_true]
        go_wp2
        go_roundw
        case rel => exact ⟨k + 1, by omega, by go_num, fun x hx => by
          by_cases e : x = k
          · rw [e]; exact Hx.out
          · exact Hall.out x (by omega), B3.out⟩
        case measure => simp [intOf]; omega
    · obtain rfl : k = m := by omega
      have hE : FoundD w k (fun j => P (rowD Ls j)) (.returned (.int .i64 (-1))) wr := ⟨-1, rfl, .inl ⟨rfl, Hall.out⟩, hb⟩
      have HE := Lib.hid hE
      clear hE hb
      go_wp2
      go_ret
      exact HE.out

/-- rows kept, in the block they were in -/
def KeptE (w : World) (base : Nat) (R : List (List (Int × Int))) (e : Ending) (w' : World) : Prop :=
  ∃ A c rs, e = .returned (.slice A R.length c) ∧ OwnDD w' base A c rs R ∧ Below base w w'

set_option maxRecDepth 100000 in
set_option maxHeartbeats 3200000 in
theorem deleteFunc_that (n : Int) (gr : Nat) (P : List (Int × Int) → Bool) (w0 : World) (A : Option Addr) (c base m : Nat) (rs : List Value) (Ls : List (List (Int × Int))) (w : World) (hT : Tells n gr P w0) (hw : Below (gr + 1) w0 w) (hg : gr + 1 ≤ base) (hbase : base ≤ w.heap.size) (h : OwnDD w base A c rs Ls) (hm : Ls.length = m)
    (ht : ∀ j, j < m → triB n (rowD Ls j) = true) (hm9 : m ≤ 100000) (hp0 : 0 < m) :
    Calls Try.prog 108 #[.slice A m c, .func (.func 109) #[] #[.pointer (some ⟨gr, 0, none⟩)]] w (KeptE w base (Ls.filter P)) := by
  have hidx := indexFunc_that n gr P w0 A c base m rs Ls w hT hw hg hbase h hm ht hm9 hp0
  have hcap : m ≤ c := by
    have := own_cap h.2.1
    omega
  have hflt := kp_filter Ls P
  rw [hm] at hflt
  have hrl : rs.length = m := by rw [h.1, hm]
  have Hidx := Lib.hid hidx
  have HT := Lib.hid hT
  have HTr := Lib.hid ht
  have H := Lib.hid h
  have Hm := Lib.hid hm
  have Hw := Lib.hid hw
  have Hflt := Lib.hid hflt
  have Hrl := Lib.hid hrl
  clear hidx hT ht h hm hw hflt hrl
  obtain ⟨g, rfl, hg1, hg2, hcell⟩ := H.out.outer (by rw [Hm.out]; exact hp0)
  clear hcell
  go_enter Try.func108, Try.ntmps108
  go_wp2_with fail
  refine Hidx.out.mono ?_
  rintro e w1 ⟨r, rfl, hr, b1⟩
  have HO1 := Lib.hid (H.out.kept b1)
  have Hb1 := Lib.hid (b1.mono hbase)
  have Hw1 := Lib.hid (Hw.out.trans (b1.mono (Nat.le_trans hg hbase)))
  have z1 : base ≤ w1.heap.size := Nat.le_trans hbase b1.size
  clear b1 Hidx H Hw
  rcases hr with ⟨rfl, hall⟩ | ⟨i0, rfl, hi0, hbefore, hno⟩
  · have hk := kpL_all (p := fun j => P (rowD Ls j)) hall
    have hLs : Ls.filter P = Ls := by
      rw [← Hflt.out, hk]
      apply List.ext_getElem
      · simp [Hm.out]
      · intro i h1 h2
        simp [rowD, h2]
    have hE : KeptE w base (Ls.filter P) (.returned (.slice (some ⟨g, 0, none⟩) m c)) w1 := by
      rw [hLs]
      exact ⟨_, c, rs, by rw [Hm.out], HO1.out, Hb1.out⟩
    have HE := Lib.hid hE
    clear hE hLs hk hall
    go_wp2
    go_ret
    exact HE.out
  · have ne1 : ¬ (i0 : Int) = -1 := by omega
    have HK0 := Lib.hid (Kp.start (rs := rs) (p := fun j => P (rowD Ls j)) hbefore hno)
    clear hbefore hno
    go_wp2
    go_loopw [5, 6, 7] (fun i j _ wr => ∃ (k t : Nat) (vs : List Value), t < k ∧ k ≤ m ∧ i = .int .i64 t ∧ j = .int .i64 k ∧ Kp rs vs (fun j => P (rowD Ls j)) t k ∧ wr.ownsRow base 26 1 (.slice (some ⟨g, 0, none⟩) m c) m vs ∧
      (∀ j, j < m → wr.ownsRow base 65 2 (rvD rs j) (rowD Ls j).length (dcs (rowD Ls j))) ∧ Below base w wr ∧ Below (gr + 1) w0 wr) (fun _ j _ _ => m - (intOf j).toNat)
    case atStart =>
      have ho := HO1.out.2.1
      rw [Hm.out] at ho
      exact ⟨i0 + 1, i0, rs, Nat.lt_succ_self _, hi0, rfl, by simp, HK0.out, ho, fun j hj => HO1.out.2.2.1 j (by rw [Hm.out]; exact hj), Hb1.out, Hw1.out⟩
    case round =>
      clear HK0 Hb1 Hw1
      obtain ⟨k, t, vs, htk, hk, rfl, rfl, hK, ho, hin, hb, hbw⟩ := hrel
      have hzr := hb.size
      by_cases hlt : k < m
      · have hvk : rvD vs k = rvD rs k := hK.2.2.2 k (Nat.le_refl _) (by rw [Hrl.out]; exact hlt)
        have hok := hin k hlt
        obtain ⟨Aj, cj, hv⟩ := own_form hok
        have hvl : vs.length = m := by rw [hK.1, Hrl.out]
        have hc : wr.cell? ⟨g, k, none⟩ = some (.slice Aj (rowD Ls k).length cj) := by
          rw [ho.cellAt k (by omega), rvD_get (by rw [hvl]; exact hlt), hvk, hv]
        rw [hv] at hok
        have i0' : (0 : Int) ≤ (k : Int) := by omega
        have i1 : (k : Int) < (m : Int) := by omega
        have Hcall := Lib.hid (HT.out Aj (rowD Ls k).length cj (rowD Ls k) wr hbw (SlD.of_own hok) rfl (HTr.out k hlt))
        have HK := Lib.hid hK
        have Ho := Lib.hid ho
        have Hin := Lib.hid hin
        have Hb := Lib.hid hb
        have Hbw := Lib.hid hbw
        have Hv := Lib.hid hv
        have zr2 : base ≤ wr.heap.size := Nat.le_trans (Nat.le_trans hbase hzr) (Nat.le_refl _)
        clear hok hv hb hbw ho hin hK hvk hvl
        obtain ⟨q, hq⟩ : ∃ q, (rowD Ls k).length = q := ⟨_, rfl⟩
        rw [hq] at Hcall Hv hc
        clear hq
        go_wp2_with fail
        refine Hcall.out.mono ?_
        rintro e w3 ⟨rfl, b3⟩
        have Ho3 := Lib.hid (own_kept Ho.out b3)
        have Hin3 := Lib.hid (show ∀ j, j < m → w3.ownsRow base 65 2 (rvD rs j) (rowD Ls j).length (dcs (rowD Ls j)) from fun j hj => own_kept (Hin.out j hj) b3)
        have Hb3 := Lib.hid (Hb.out.trans (b3.mono zr2))
        have Hbw3 := Lib.hid (Hbw.out.trans (b3.mono (Nat.le_trans hg zr2)))
        clear b3 Hcall Ho Hin Hb Hbw hc
        cases hx : P (rowD Ls k)
        · have HK2 := Lib.hid (HK.out.miss hx)
          clear hx
          simp only [Bool.not_false]
          go_wp2
          go_roundw
          case rel => exact ⟨k + 1, t, vs, by omega, by omega, rfl, by go_num, HK2.out, Ho3.out, Hin3.out, Hb3.out, Hbw3.out⟩
          case measure => simp [intOf]; omega
        · have HK2 := Lib.hid (HK.out.hit hx (by rw [Hrl.out]; exact hlt))
          have hvl : vs.length = m := by rw [HK.out.1, Hrl.out]
          have tc : w3.cell? ⟨g, t, none⟩ = some (rvD vs t) := by
            rw [Ho3.out.cellAt t (by omega), rvD_get (by rw [hvl]; omega)]
          have tf := Ho3.out.frozenAt t
          obtain ⟨hs1, hs2⟩ := Ho3.out.stored t (.slice Aj q cj)
          have hin4 : ∀ j, j < m → (w3.setCell ⟨g, t, none⟩ (.slice Aj q cj)).ownsRow base 65 2 (rvD rs j) (rowD Ls j).length (dcs (rowD Ls j)) := fun j hj => own_far (Hin3.out j hj) hs2 (own_ne (Hin3.out j hj) Ho3.out (by decide))
          have hb4 := below_grown Hb3.out hs2 hbase (fun k hk => by injection hk with hk; omega)
          have hbw4 : Below (gr + 1) w0 (w3.setCell ⟨g, t, none⟩ (.slice Aj q cj)) := Hbw3.out.grown hs2 (by have := Hb3.out.size; omega) (fun k hk => by injection hk with hk; omega)
          rw [Hv.out] at HK2
          have Hs := Lib.hid hs1
          have Hin4 := Lib.hid hin4
          have Hb4 := Lib.hid hb4
          have Hbw4 := Lib.hid hbw4
          have t0 : (0 : Int) ≤ (t : Int) := by omega
          have t1 : (t : Int) < (m : Int) := by omega
          have tb : (t : Int) ≤ 100000 := by omega
          obtain ⟨rv, hrv⟩ : ∃ rv, rvD vs t = rv := ⟨_, rfl⟩
          rw [hrv] at tc
          clear hx hs1 hs2 hin4 hb4 hbw4 hvl Ho3 Hin3 Hb3 Hbw3 hrv
          simp only [Bool.not_true]
          go_wp2
          go_roundw
          case rel => exact ⟨k + 1, t + 1, _, by omega, by omega, by go_num, by go_num, HK2.out, Hs.out, Hin4.out, Hb4.out, Hbw4.out⟩
          case measure => simp [intOf]; omega
      · obtain rfl : k = m := by omega
        have hvl : vs.length = k := by rw [hK.1, Hrl.out]
        have zeroS : ∀ w : World, (zeroValue 26).run Try.prog w = .ok (.slice none 0 0) w := fun w => by kernel_rfl
        have t1 : t < k := htk
        have hclear := fun ty => Lib.run_clear_slice (P := Try.prog) wr 37 26 ty (.slice none 0 0) Try.underlying37 zeroS rfl rfl g t (k - t) (c - t) (by omega)
          (fun j hj => by rw [ho.cellAt (t + j) (by omega), rvD_get (by rw [hvl]; omega)]; rfl) (fun j hj => ho.frozenAt (t + j))
        have hfr := own_front ho (show t ≤ k by omega)
        obtain ⟨hc1, hc2⟩ := own_cleared (List.replicate (k - t) (.slice none 0 0)) t wr hfr (Nat.le_refl _)
        have hin4 : ∀ j, j < k → (wr.setCells g t (List.replicate (k - t) (.slice none 0 0))).ownsRow base 65 2 (rvD rs j) (rowD Ls j).length (dcs (rowD Ls j)) := fun j hj => own_far (hin j hj) hc2 (own_ne (hin j hj) hfr (by decide))
        have hb4 := below_grown hb hc2 hbase (fun k hk => by injection hk with hk; omega)
        have hdist := HO1.out.2.2.2
        have hfin : OwnDD (wr.setCells g t (List.replicate (k - t) (.slice none 0 0))) base (some ⟨g, 0, none⟩) c (vs.take t) ((kpL (fun j => P (rowD Ls j)) Ls.length).map (rowD Ls)) :=
          OwnDD.sub (rs := rs) (fun j hj => hin4 j (by rw [← Hm.out]; exact hj)) hdist hc1 (by rw [Hm.out]; exact hK.2.1) (fun x hx => by
            rw [Hm.out, ← hK.2.2.1 x hx]
            unfold rvD
            simp [hx])
        rw [Hm.out, Hflt.out] at hfin
        have hlen : (Ls.filter P).length = t := by rw [← Hflt.out, List.length_map]; exact hK.2.1.symm
        have hE : KeptE w base (Ls.filter P) (.returned (.slice (some ⟨g, 0, none⟩) t c)) (wr.setCells g t (List.replicate (k - t) (.slice none 0 0))) := ⟨_, c, _, by rw [hlen], hfin, hb4⟩
        have HE := Lib.hid hE
        have k1 : (t : Int) ≤ (k : Int) := by omega
        have k0 : (0 : Int) ≤ (t : Int) := by omega
        have kc : (t : Int) ≤ (c : Int) := by omega
        have ct : ¬ c = t := by omega
        clear hE hlen hfin hdist hb4 hin4 hc1 hc2 hfr hvl hK ho hin hb hbw
        go_wp2
        go_ret
        exact HE.out
end Go.Proofs.Ytbpaaoeefcebeab
