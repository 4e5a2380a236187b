/- AllClasses, CountClasses: both sides. -/
import Derived.Test.YtbpaaoeefcebeabClB
import Derived.Test.YtbpaaoeefcebeabCnp
import Derived.Test.YtbpaaoeefcebeabTriangulationOfRankW
import Derived.Test.YtbpaaoeefcebeabLstT
namespace Go.Proofs.Ytbpaaoeefcebeab
set_option linter.unusedVariables false
open Go.RowKit

/-- the first ones of all classes -/
def acR (n : Int) : List (List (Int × Int)) := (atR n).filter (fun l => decide (classL n.toNat l = l))
theorem acR_no {n : Int} (h : inB n 3 8 = false) : acR n = [] := by unfold acR; rw [atR_no h]; rfl
theorem acR_yes {n : Nat} (h : inB n 3 8 = true) : acR n = (altL n).filter (fun l => decide (classL n l = l)) := by unfold acR; rw [atR_yes h]; rfl
/-- how many classes -/
def acN (n : Int) : Int := ((acR n).length : Nat)
theorem acN_no {n : Int} (h : inB n 3 8 = false) : acN n = 0 := by unfold acN; rw [acR_no h]; rfl
theorem acR_len (n : Int) : (acR n).length ≤ 132 := Nat.le_trans (List.length_filter_le _ _) (atR_len n)
theorem acR_row (n : Int) (j : Nat) (hj : j < (acR n).length) : (rowD (acR n) j).length ≤ 9 := by
  have hm : rowD (acR n) j ∈ acR n := by
    have : rowD (acR n) j = (acR n)[j] := by unfold rowD; simp [hj]
    rw [this]
    exact List.getElem_mem hj
  have hm2 : rowD (acR n) j ∈ atR n := (List.mem_filter.1 hm).1
  obtain ⟨i, hi, e⟩ := List.getElem_of_mem hm2
  have := atR_row n i hi
  have e2 : rowD (atR n) i = (atR n)[i] := by unfold rowD; simp [hi]
  rw [e2, e] at this
  exact this
theorem acR_pre (n : Int) : preD (acR n) (acR n).length ≤ 1000000 := by
  have := preD_bd (acR n) 9 (fun j hj => acR_row n j hj) _ (Nat.le_refl _)
  have := acR_len n
  have : (acR n).length * 9 ≤ 132 * 9 := Nat.mul_le_mul_right 9 (by omega)
  omega

/-- values of the rows kept so far -/
def Kq (rs xs : List Value) (p : Nat → Bool) (i j : Nat) : Prop := xs.length = i ∧ i = (kpL p j).length ∧ ∀ x, x < i → rvD xs x = rvD rs ((kpL p j).getD x 0)
theorem Kq.miss {rs xs : List Value} {p : Nat → Bool} {i j : Nat} (h : Kq rs xs p i j) (h2 : p j = false) : Kq rs xs p i (j + 1) := by
  obtain ⟨a, b, c⟩ := h
  exact ⟨a, by rw [kpL_miss h2]; exact b, fun x hx => by rw [kpL_miss h2]; exact c x hx⟩
theorem Kq.hit {rs xs : List Value} {p : Nat → Bool} {i j : Nat} (h : Kq rs xs p i j) (h2 : p j = true) : Kq rs (xs ++ [rvD rs j]) p (i + 1) (j + 1) := by
  obtain ⟨a, b, c⟩ := h
  refine ⟨by rw [List.length_append, a]; rfl, by rw [kpL_hit h2, List.length_append, ← b]; rfl, fun x hx => ?_⟩
  rw [rvD_snoc xs _ x (by omega), kpL_hit h2, a]
  by_cases e : x < i
  · rw [if_pos e, c x e]
    congr 1
    simp only [List.getD_eq_getElem?_getD]
    rw [List.getElem?_append_left (by omega)]
  · rw [if_neg e]
    obtain rfl : x = i := by omega
    have : (kpL p j ++ [j]).getD x 0 = j := by
      rw [List.getD_eq_getElem?_getD, List.getElem?_append_right (by omega)]
      rw [← b]; simp
    rw [this]

set_option maxRecDepth 100000 in
set_option maxHeartbeats 3200000 in
theorem spec_caClasses (m : Nat) (w : World) (hm3 : 3 ≤ m) (hm8 : m ≤ 8) : Calls Try.prog 74 #[.int .i64 m] w (GivDD w ((altL m).filter (fun l => decide (classL m l = l))) ((altL m).filter (fun l => decide (classL m l = l))).length) := by
  have Ha := Lib.hid (spec_poAll m w hm3 hm8)
  have hbd : (altL m).length ≤ 132 := alt_bd ⟨m, by omega⟩
  have htr : ∀ j, j < (altL m).length → (rowD (altL m) j).length + 3 = m ∧ triB m (rowD (altL m) j) = true := fun j hj => alt_row ⟨m, by omega⟩ hm3 (rowD (altL m) j) (by unfold rowD; simp [hj])
  generalize altL m = T at *
  have Htr := Lib.hid htr
  have hflt := kp_filter T (fun l => decide (classL m l = l))
  obtain ⟨R, hR⟩ : ∃ R, T.filter (fun l => decide (classL m l = l)) = R := ⟨_, rfl⟩
  rw [hR] at hflt ⊢
  have Hflt := Lib.hid hflt
  clear htr hflt hR
  go_enter Try.func74, Try.ntmps74
  go_wp2_with fail
  refine Ha.out.mono ?_
  rintro e w2 ⟨A2, c2, rs, rfl, o2, b2⟩
  obtain ⟨tl, htl⟩ : ∃ tl, T.length = tl := ⟨_, rfl⟩
  have Htl := Lib.hid htl
  rw [htl] at hbd ⊢
  have HO := Lib.hid o2
  have HB := Lib.hid b2
  have z2 := b2.size
  clear htl o2 b2 Ha
  go_wp2
  go_loopw [3, 5, 9] (fun v _ i wr => ∃ (t d : Nat) (A' : Option Addr) (c' : Nat) (xs : List Value), t ≤ tl ∧ d ≤ t ∧ i = .int .i64 t ∧ v = .slice A' d c' ∧ Kq rs xs (fun j => decide (classL m (rowD T j) = rowD T j)) d t ∧ wr.ownsRow w2.heap.size 26 1 (.slice A' d c') d xs ∧
    (∀ j, j < tl → wr.ownsRow w.heap.size 65 2 (rvD rs j) (rowD T j).length (dcs (rowD T j))) ∧ Below w2.heap.size w2 wr) (fun _ _ i _ => tl - (intOf i).toNat)
  case atStart => exact ⟨0, 0, none, 0, [], Nat.zero_le _, Nat.le_refl _, rfl, rfl, ⟨rfl, rfl, fun x hx => by omega⟩, World.ownsRow_nil _ _ _ _, fun j hj => HO.out.2.2.1 j (by rw [Htl.out]; exact hj), Below.refl _ _⟩
  case round =>
    obtain ⟨t, d, A', c', xs, ht, hdt, rfl, rfl, hK, ho, hin, hb⟩ := hrel
    have hsz := hb.size
    by_cases hlt : t < tl
    · have htl2 : t < T.length := by rw [Htl.out]; exact hlt
      obtain ⟨g, rfl, hg1, hg2, hcell⟩ := HO.out.outer (by omega)
      have hrow := hin t hlt
      obtain ⟨Aj, cj, hv⟩ := own_form hrow
      have hc : wr.cell? ⟨g, t, none⟩ = some (.slice Aj (rowD T t).length cj) := by
        rw [hb.cell (p := ⟨g, t, none⟩) hg2, hcell t htl2, hv]
      have Hv := Lib.hid hv
      rw [hv] at hrow
      have hs0 := SlD.of_own hrow
      have htq := Htr.out t htl2
      have i0 : (0 : Int) ≤ (t : Int) := by omega
      have i1 : (t : Int) < (tl : Int) := by omega
      obtain ⟨q, hq⟩ : ∃ q, (rowD T t).length = q := ⟨_, rfl⟩
      have Hq := Lib.hid hq
      have q9 : q ≤ 9 := by have := htq.1; omega
      have d9 : d ≤ 1000000 := by omega
      have Hcall := Lib.hid (spec_caClass m Aj cj wr.heap.size q (rowD T t) wr hq hs0 (Nat.le_refl _) htq.2)
      rw [hq] at hc Hv
      have HX := Lib.hid (show (classL m (rowD T t)).length = q by rw [classL_length, hq])
      have Hs0 := Lib.hid hs0
      have Hb := Lib.hid hb
      have HK := Lib.hid hK
      have Ho := Lib.hid ho
      have Hin := Lib.hid hin
      clear hq hrow hv hs0 hb hcell htq hK ho hin
      go_wp2_with fail
      refine Hcall.out.mono ?_
      rintro e w3 ⟨A3, c3, rfl, o3, b3⟩
      rw [HX.out] at o3 ⊢
      have S3 := Lib.hid (SlD.of_own o3)
      have S0 := Lib.hid (Hs0.out.below b3)
      have z3 := b3.size
      have B3 := Lib.hid (below_kept Hb.out (Nat.le_refl _) b3)
      have Ho3 := Lib.hid (own_kept Ho.out b3)
      have Hin3 := Lib.hid (show ∀ j, j < tl → w3.ownsRow w.heap.size 65 2 (rvD rs j) (rowD T j).length (dcs (rowD T j)) from fun j hj => own_kept (Hin.out j hj) b3)
      clear o3 b3 Hcall Hs0 Ho Hin
      go_wp2_with fail
      refine (spec_poSame A3 Aj q q c3 cj w3.heap.size wr.heap.size (classL m (rowD T t)) (rowD T t) w3 S3.out S0.out HX.out Hq.out rfl (Nat.le_refl _) z3 (by omega)).mono ?_
      rintro e w4 ⟨rfl, b4⟩
      have B4 := Lib.hid (below_kept B3.out (Nat.le_refl _) b4)
      have Ho4 := Lib.hid (own_kept Ho3.out b4)
      have Hin4 := Lib.hid (show ∀ j, j < tl → w4.ownsRow w.heap.size 65 2 (rvD rs j) (rowD T j).length (dcs (rowD T j)) from fun j hj => own_kept (Hin3.out j hj) b4)
      clear b4 Ho3 Hin3
      cases hx : decide (classL m (rowD T t) = rowD T t)
      · have HE := Lib.hid (HK.out.miss hx)
        clear hx
        go_wp2
        go_roundw
        case rel => exact ⟨t + 1, d, A', c', xs, by omega, by omega, by go_num, rfl, HE.out, Ho4.out, Hin4.out, B4.out⟩
        case measure => simp [intOf]; omega
      · have hK2 := HK.out.hit hx
        rw [Hv.out] at hK2
        have HE := Lib.hid hK2
        have own2 := Ho4.out.alloc (.cells #[.slice Aj q cj] 26)
        have hin5 : ∀ j, j < tl → (w4.alloc (.cells #[.slice Aj q cj] 26)).ownsRow w.heap.size 65 2 (rvD rs j) (rowD T j).length (dcs (rowD T j)) := fun j hj => (Hin4.out j hj).alloc _
        have Hin5 := Lib.hid hin5
        have z4 : w2.heap.size ≤ (w4.alloc (.cells #[.slice Aj q cj] 26)).heap.size := by
          have := B4.out.size
          simp
          omega
        have B5 := Lib.hid (B4.out.alloc B4.out.size (.cells #[.slice Aj q cj] 26))
        have Hlt5 := Lib.hid own2.lt
        clear hx hK2 hin5 hc
        go_wp2_with (at_builtin; refine append1DD _ rfl _ _ rfl w2.heap.size (.slice A' d c') d xs rfl own2 w4.heap.size (.slice Aj q cj) rfl rfl ?c1 d9 z4 ?_; (case c1 => simp [go_sem]); intro A5 c5 w5 own5 hg5)
        have hin6 : ∀ j, j < tl → w5.ownsRow w.heap.size 65 2 (rvD rs j) (rowD T j).length (dcs (rowD T j)) := fun j hj => own_far (Hin5.out j hj) hg5 (own_ne (Hin5.out j hj) own2 (by decide))
        have b6 := below_grown B5.out hg5 (Nat.le_refl _) (fun k hk => (own2.lt k hk).1)
        have Hin6 := Lib.hid hin6
        have B6 := Lib.hid b6
        have Own5 := Lib.hid own5
        clear hin6 b6 hg5 own5 own2
        go_wp2
        go_roundw
        case rel => exact ⟨t + 1, d + 1, A5, c5, _, by omega, by omega, by go_num, rfl, HE.out, Own5.out, Hin6.out, B6.out⟩
        case measure => simp [intOf]; omega
    · obtain rfl : t = tl := by omega
      have hfin : OwnDD wr w.heap.size A' c' xs ((kpL (fun j => decide (classL m (rowD T j) = rowD T j)) T.length).map (rowD T)) :=
        OwnDD.sub (rs := rs) (fun j hj => hin j (by rw [← Htl.out]; exact hj)) HO.out.2.2.2 (ho.mono z2) (by rw [Htl.out]; exact hK.2.1) (fun x hx => by rw [Htl.out]; exact hK.2.2 x hx)
      rw [Hflt.out] at hfin
      have hlen : R.length = d := by rw [← Hflt.out, List.length_map, Htl.out]; exact hK.2.1.symm
      have hE : GivDD w R R.length (.returned (.slice A' d c')) wr := ⟨A', c', xs, by rw [hlen], hfin, below_kept HB.out (Nat.le_refl _) hb⟩
      have HE := Lib.hid hE
      clear hE hlen hfin hK ho hin hb
      go_wp2
      go_ret
      exact HE.out

theorem spec_AllClasses (n : Int) (w : World) : Calls Try.prog 32 #[.int .i64 n] w (RetDD w (acR n) (inB n 3 8)) := by
  go_enter Try.func32, Try.ntmps32
  go_wp2_with fail
  refine (spec_caFew _ _).mono ?_
  rintro e w2 ⟨rfl, rfl⟩
  cases hi : inB n 3 8
  · have hres : RetDD w (acR n) (inB n 3 8) (.returned (.tuple #[.slice none 0 0, .bool false])) w := by
      rw [acR_no hi, hi]
      exact ⟨none, 0, [], rfl, OwnDD.nil_, Below.refl _ _⟩
    have Hres := Lib.hid hres
    clear hres
    go_wp2
    go_ret2
    exact Hres.out
  · have hk := inB_iff.1 hi
    obtain ⟨m, rfl⟩ := Int.eq_ofNat_of_zero_le (show 0 ≤ n by omega)
    have Hi := Lib.hid hi
    have Hc := Lib.hid (spec_caClasses m w (by omega) (by omega))
    have Hac := Lib.hid (acR_yes hi)
    rw [← Hac.out] at Hc
    clear hi hk
    go_wp2_with fail
    refine Hc.out.mono ?_
    rintro e w2 ⟨A2, c2, rs, rfl, o2, b2⟩
    have hres : RetDD w (acR m) (inB m 3 8) (.returned (.tuple #[.slice A2 (acR m).length c2, .bool true])) w2 := by
      rw [Hi.out]
      exact ⟨A2, c2, rs, rfl, o2, b2⟩
    have Hres := Lib.hid hres
    obtain ⟨x, hx⟩ : ∃ x, (acR m).length = x := ⟨_, rfl⟩
    rw [hx] at Hres ⊢
    clear hres o2 b2 hx Hc
    go_wp2
    go_ret2
    exact Hres.out

theorem spec_CountClasses (n : Int) (w : World) : Calls Try.prog 30 #[.int .i64 n] w (CntE w (acN n) (inB n 3 8)) := by
  go_enter Try.func30, Try.ntmps30
  go_wp2_with fail
  refine (spec_caFew _ _).mono ?_
  rintro e w2 ⟨rfl, rfl⟩
  cases hi : inB n 3 8
  · have hres : CntE w (acN n) (inB n 3 8) (.returned (.tuple #[.int .i64 0, .bool false])) w := by
      rw [acN_no hi, hi]
      exact ⟨rfl, Below.refl _ _⟩
    have Hres := Lib.hid hres
    clear hres
    go_wp2
    go_ret2
    exact Hres.out
  · have hk := inB_iff.1 hi
    obtain ⟨m, rfl⟩ := Int.eq_ofNat_of_zero_le (show 0 ≤ n by omega)
    have Hi := Lib.hid hi
    have Hc := Lib.hid (spec_caClasses m w (by omega) (by omega))
    have Hac := Lib.hid (acR_yes hi)
    rw [← Hac.out] at Hc
    clear hi hk
    go_wp2_with fail
    refine Hc.out.mono ?_
    rintro e w2 ⟨A2, c2, rs, rfl, o2, b2⟩
    have hres : CntE w (acN m) (inB m 3 8) (.returned (.tuple #[.int .i64 ((acR m).length : Nat), .bool true])) w2 := by
      rw [Hi.out]
      exact ⟨rfl, b2⟩
    have Hres := Lib.hid hres
    obtain ⟨x, hx⟩ : ∃ x, (acR m).length = x := ⟨_, rfl⟩
    rw [hx] at Hres ⊢
    clear hres o2 b2 hx Hc
    go_wp2
    go_ret2
    exact Hres.out

theorem impl_AllClasses (n : Int) (w : World) : Calls Try.prog 33 #[.int .i64 n] w (RetDD w (acR n) (inB n 3 8)) := by
  have hmf : ∀ (fn : Fn) (first cap : Array Value) (w : World), (Instr.makeFunc fn first cap).run Try.prog w = .ok (.func fn first cap) w := fun _ _ _ _ => rfl
  obtain ⟨W1, hW1⟩ : ∃ W1, W1 = w.alloc (.cells #[.int .i64 n] 3) := ⟨_, rfl⟩
  have hb1 : Below w.heap.size w W1 := by rw [hW1]; exact (Below.refl _ _).alloc (Nat.le_refl _) _
  have hz1 : W1.heap.size = w.heap.size + 1 := by rw [hW1]; simp
  have hc1 : W1.cell? ⟨w.heap.size, 0, none⟩ = some (.int .i64 n) := by rw [hW1]; exact World.cell?_alloc_new w _ _ 0
  have hthat := impl_that n 75 #[.pointer (some ⟨w.heap.size, 0, none⟩)] (fun l => decide (classL n.toNat l = l)) W1
    (tells_AllClasses1 n w.heap.size W1.heap.size _ ((World.cell?_alloc_lt _ _ _ (by show w.heap.size < W1.heap.size; omega)).trans hc1) (by omega) (World.cell?_alloc_new W1 _ _ 0))
  rw [show (atR n).filter (fun l => decide (classL n.toNat l = l)) = acR n from rfl] at hthat
  have Hthat := Lib.hid hthat
  have HW1 := Lib.hid hW1
  have Hb1 := Lib.hid hb1
  clear hthat hW1 hb1 hz1 hc1
  go_enter Try.func33, Try.ntmps33
  go_wp2_with fail
  rw [← HW1.out]
  refine Hthat.out.mono ?_
  rintro e w2 ⟨A2, c2, rs, rfl, o2, b2⟩
  have hres : RetDD w (acR n) (inB n 3 8) (.returned (.tuple #[.slice A2 (acR n).length c2, .bool (inB n 3 8)])) w2 := ⟨A2, c2, rs, rfl, o2.mono Hb1.out.size, below_kept Hb1.out (Nat.le_refl _) b2⟩
  have Hres := Lib.hid hres
  obtain ⟨x, hx⟩ : ∃ x, (acR n).length = x := ⟨_, rfl⟩
  rw [hx] at Hres ⊢
  clear hres o2 b2 hx Hthat
  go_wp2
  go_ret2
  exact Hres.out

theorem impl_CountClasses (n : Int) (w : World) : Calls Try.prog 31 #[.int .i64 n] w (CntE w (acN n) (inB n 3 8)) := by
  have Hc := Lib.hid (impl_AllClasses n w)
  go_enter Try.func31, Try.ntmps31
  go_wp2_with fail
  refine Hc.out.mono ?_
  rintro e w2 ⟨A2, c2, rs, rfl, o2, b2⟩
  have hres : CntE w (acN n) (inB n 3 8) (.returned (.tuple #[.int .i64 ((acR n).length : Nat), .bool (inB n 3 8)])) w2 := ⟨rfl, b2⟩
  have Hres := Lib.hid hres
  obtain ⟨x, hx⟩ : ∃ x, (acR n).length = x := ⟨_, rfl⟩
  rw [hx] at Hres ⊢
  clear hres o2 b2 hx Hc
  go_wp2
  go_ret2
  exact Hres.out
end Go.Proofs.Ytbpaaoeefcebeab
