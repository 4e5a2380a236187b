/- AllFlips: the model's and the program's contract. -/
import Derived.Test.YtbpaaoeefcebeaaFliU
import Derived.Test.YtbpaaoeefcebeaaFliO
import Derived.Test.YtbpaaoeefcebeaaDDA
namespace Go.Proofs.Ytbpaaoeefcebeaa
set_option linter.unusedVariables false
open Go.RowKit

/-- what the flips of the first k diagonals make -/
noncomputable def flK (n : Int) (l : List (Int × Int)) (k : Nat) : List (List (Int × Int)) := (l.take k).map (flipL n l)
theorem flK_zero (n : Int) (l : List (Int × Int)) : flK n l 0 = [] := by simp [flK]
theorem flK_length (n : Int) (l : List (Int × Int)) (k : Nat) (h : k ≤ l.length) : (flK n l k).length = k := by simp [flK]; omega
theorem flK_succ (n : Int) (l : List (Int × Int)) (k : Nat) (h : k < l.length) : flK n l (k + 1) = flK n l k ++ [flipL n l (l.getD k (0, 0))] := by
  unfold flK
  rw [List.take_succ_eq_append_getElem h, List.map_append, getD_at h]
  rfl
noncomputable def flH (n : Int) (l : List (Int × Int)) (m k : Nat) : List (List (Int × Int)) := flK n l k ++ List.replicate (m - k) []
theorem flH_length (n : Int) (l : List (Int × Int)) (m k : Nat) (hm : l.length = m) (h : k ≤ m) : (flH n l m k).length = m := by simp [flH, flK_length n l k (by omega)]; omega
theorem flH_zero (n : Int) (l : List (Int × Int)) (m : Nat) : flH n l m 0 = List.replicate m [] := by simp [flH, flK]
theorem flH_all (n : Int) (l : List (Int × Int)) (m : Nat) : flH n l m m = flK n l m := by simp [flH]
theorem flH_set (n : Int) (l : List (Int × Int)) (m k : Nat) (hm : l.length = m) (h : k < m) : (flH n l m k).set k (flipL n l (l.getD k (0, 0))) = flH n l m (k + 1) := by
  unfold flH
  rw [List.set_append_right _ _ (by rw [flK_length n l k (by omega)]; exact Nat.le_refl _), flK_length n l k (by omega), Nat.sub_self, show m - k = (m - (k + 1)) + 1 by omega, List.replicate_succ, List.set_cons_zero, flK_succ n l k (by omega), List.append_assoc]
  rfl
theorem getD_mem {l : List (Int × Int)} {k : Nat} (h : k < l.length) : l.getD k (0, 0) ∈ l := by
  rw [getD_at h]
  exact List.getElem_mem h


set_option maxRecDepth 100000 in
set_option maxHeartbeats 3200000 in
theorem spec_flAll (n : Nat) (A : Option Addr) (c B m : Nat) (l : List (Int × Int)) (w : World) (hl : l.length = m) (h : SlD w B A l) (hB : B ≤ w.heap.size) (ht : Tri n l) :
    Calls Try.prog 71 #[.int .i64 n, .slice A m c] w (GivDD w (flK n l m) m) := by
  have hm9 : m ≤ 9 := by have := ht.len; have := ht.n12; omega
  have H := Lib.hid h
  have Hl := Lib.hid hl
  have HT := Lib.hid ht
  clear h hl ht
  go_enter Try.func71, Try.ntmps71
  go_wp2
  go_loopw [5, 10] (fun v i wr => ∃ (k : Nat) (A' : Option Addr) (c' : Nat) (rs : List Value), k ≤ m ∧ i = .int .i64 k ∧ v = .slice A' k c' ∧ OwnDD wr w.heap.size A' c' rs (flK n l k) ∧ Below w.heap.size w wr) (fun _ i _ => m - (intOf i).toNat)
  case atStart => exact ⟨0, none, 0, [], Nat.zero_le _, rfl, rfl, by rw [flK_zero]; exact OwnDD.nil_, Below.refl _ _⟩
  case round =>
    obtain ⟨k, A', c', rs, hk, rfl, rfl, ho, hb⟩ := hrel
    have hsz := hb.size
    by_cases hlt : k < m
    · obtain ⟨b, off, rfl, hbB, hc⟩ := H.out.below (hb.mono hB) (by have := Hl.out; omega)
      obtain ⟨g0, g1⟩ := hc k (by rw [Hl.out]; exact hlt)
      have i0 : (0 : Int) ≤ (k : Int) := by omega
      have i1 : (k : Int) < (m : Int) := by omega
      have k9 : k ≤ 1000000 := by omega
      have hst := flK_succ n l k (by rw [Hl.out]; exact hlt)
      have hfl := flK_length n l k (by rw [Hl.out]; exact hk)
      have hm := getD_mem (l := l) (k := k) (by rw [Hl.out]; exact hlt)
      generalize l.getD k (0, 0) = d at *
      obtain ⟨u, v⟩ := d
      dsimp only at g0 g1
      have Hst := Lib.hid hst
      have Hfl := Lib.hid hfl
      have Hm := Lib.hid hm
      have Ho := Lib.hid (ho.alloc (.cells #[.int .i64 u, .int .i64 v] 40))
      have Hb := Lib.hid (hb.alloc hb.size (.cells #[.int .i64 u, .int .i64 v] 40))
      clear ho hb hc hst hfl hm
      go_wp2_with fail
      refine (spec_flMake n _ m c B l u v _ (H.out.below (Hb.out.mono hB)) Hl.out (Nat.le_trans hB Hb.out.size) HT.out Hm.out).mono ?_
      rintro e w2 ⟨A2, c2, rfl, o2, b2⟩
      have ho2 := Ho.out.kept b2
      have hb2 := below_kept Hb.out (Nat.le_refl _) b2
      have hblk := Ho.out.blk
      have hrb := o2.lt
      have o2b := o2.mono Hb.out.size
      have Ho2 := Lib.hid ho2
      have Hblk := Lib.hid hblk
      have Hrb := Lib.hid hrb
      have Ho2b := Lib.hid o2b
      generalize flK n l k = F at *
      generalize flipL n l (u, v) = R at *
      generalize hRl : R.length = rl at *
      have HRl := Lib.hid hRl
      have hout : w2.ownsRow w.heap.size 27 1 (.slice A' k c') k rs := by
        have := Ho2.out.2.1
        rwa [Hfl.out] at this
      have own2 := hout.alloc (.cells #[.slice A2 rl c2] 27)
      have hb3 := hb2.alloc hb2.size (.cells #[.slice A2 rl c2] 27)
      have Hb3 := Lib.hid hb3
      clear ho2 hb2 hblk hrb o2 o2b b2 hRl hout hb3 g0 g1
      go_wp2_with (at_builtin; refine append1DD _ rfl _ _ rfl w.heap.size (.slice A' k c') k rs rfl own2 w2.heap.size (.slice A2 rl c2) rfl rfl ?c1 k9 Hb3.out.size ?_; (case c1 => simp [go_sem]); intro A3 c3 w3 own3 hg3)
      have hb4 := below_grown Hb3.out hg3 (Nat.le_refl _) (fun k hk => (own2.lt k hk).1)
      have hO : OwnDD w3 w.heap.size A3 c3 (rs ++ [.slice A2 rl c2]) (F ++ [R]) := by
        refine OwnDD.app (b := (wr.alloc (.cells #[.int .i64 u, .int .i64 v] 40)).heap.size) (w2 := w2) (A := A') (c := c') (o := .cells #[.slice A2 rl c2] 27) Ho2.out Hblk.out ?_ (fun k hk => (Hrb.out k hk).1) ?_ ?_
        · have := Ho2b.out
          rwa [← HRl.out] at this ⊢
        · rw [Hfl.out]; exact own3
        · rw [Hfl.out]; exact hg3
      rw [← Hst.out] at hO
      have HO := Lib.hid hO
      have Hb4 := Lib.hid hb4
      clear hg3 own2 own3 hO hb4
      go_wp2
      go_roundw
      case rel => exact ⟨k + 1, A3, c3, _, by omega, by go_num, rfl, HO.out, Hb4.out⟩
      case measure => simp [intOf]; omega
    · obtain rfl : k = m := by omega
      have hE : GivDD w (flK n l k) k (.returned (.slice A' k c')) wr := ⟨A', c', rs, rfl, ho, hb⟩
      have HE := Lib.hid hE
      clear hE ho hb
      go_wp2
      go_ret
      exact HE.out

set_option maxRecDepth 100000 in
set_option maxHeartbeats 3200000 in
theorem impl_allFlips (n : Nat) (A : Option Addr) (c B m : Nat) (l : List (Int × Int)) (w : World) (hl : l.length = m) (h : SlD w B A l) (hB : B ≤ w.heap.size) (ht : Tri n l) :
    Calls Try.prog 72 #[.int .i64 n, .slice A m c] w (GivDD w (flK n l m) m) := by
  have hm9 : m ≤ 9 := by have := ht.len; have := ht.n12; omega
  have H := Lib.hid h
  have Hl := Lib.hid hl
  have HT := Lib.hid ht
  obtain ⟨i0', hii, hz0, hz1, hz3⟩ := info_parts infoSlD
  have hbytes : i0'.bytes * m ≤ 281474976710656 := by rw [hz3]; omega
  have hmax : m ≤ maxLen := by unfold maxLen; omega
  clear h hl ht
  go_enter Try.func72, Try.ntmps72
  go_wp2_with (at_make; refine wpList_make_full _ rfl _ _ _ rfl w.heap.size 27 i0' (.slice none 0 0) 1 Try.underlying46 hii hz0 hz1 _ _ _ _ m rfl rfl rfl rfl hbytes hmax (Nat.le_refl _) ?_; intro w3 hown3 hgrow3)
  have hb3 : Below w.heap.size w w3 := (Below.refl _ _).grown hgrow3 (Nat.le_refl _) (fun _ e => by cases e)
  rw [zerosDD] at hown3
  have hO3 := OwnDD.zeros hown3
  rw [← flH_zero n l m] at hO3
  have HO3 := Lib.hid hO3
  have Hb3 := Lib.hid hb3
  clear hown3 hgrow3 hb3 hO3 hii hz0 hz1 hz3 hbytes hmax
  go_wp2
  go_loopw [6, 13] (fun _ i wr => ∃ (k : Nat) (rs : List Value), k ≤ m ∧ i = .int .i64 k ∧ OwnDD wr w.heap.size (some ⟨w.heap.size, 0, none⟩) m rs (flH n l m k) ∧ Below w.heap.size w wr) (fun _ i _ => m - (intOf i).toNat)
  case atStart => exact ⟨0, _, Nat.zero_le _, rfl, HO3.out, Hb3.out⟩
  case round =>
    clear HO3 Hb3
    obtain ⟨k, rs, hk, rfl, ho, hb⟩ := hrel
    have hsz := hb.size
    by_cases hlt : k < m
    · obtain ⟨b, off, rfl, hbB, hc⟩ := H.out.below (hb.mono hB) (by have := Hl.out; omega)
      obtain ⟨g0, g1⟩ := hc k (by rw [Hl.out]; exact hlt)
      have i0 : (0 : Int) ≤ (k : Int) := by omega
      have i1 : (k : Int) < (m : Int) := by omega
      have Hset := Lib.hid (flH_set n l m k Hl.out hlt)
      have Hfl := Lib.hid (flH_length n l m k Hl.out hk)
      have hm := getD_mem (l := l) (k := k) (by rw [Hl.out]; exact hlt)
      generalize l.getD k (0, 0) = d at *
      obtain ⟨u, v⟩ := d
      dsimp only at g0 g1
      have Hm := Lib.hid hm
      have Ho := Lib.hid (ho.alloc (.cells #[.int .i64 u, .int .i64 v] 40))
      have Hb := Lib.hid (hb.alloc hb.size (.cells #[.int .i64 u, .int .i64 v] 40))
      clear ho hb hc hm
      go_wp2_with fail
      refine (impl_flipped n _ m c B l u v _ (H.out.below (Hb.out.mono hB)) Hl.out (Nat.le_trans hB Hb.out.size) HT.out Hm.out).mono ?_
      rintro e w2 ⟨A7, c7, rfl, o7, b7⟩
      have hO7 := Ho.out.kept b7
      have hbk5 := Ho.out.blk
      have hb7 := below_kept Hb.out (Nat.le_refl _) b7
      have hnb := o7.lt
      have o7' := o7.mono Hb.out.size
      obtain ⟨hO8, hg8⟩ := OwnDD.store hO7 (t := k) (by rw [Hfl.out]; exact hlt) o7' (fun j hj hjt k hk e => by
        have h1 := (hnb k hk).1
        have h2 := hbk5 j hj k e.symm
        omega)
      rw [Hset.out] at hO8
      have hc := (hO7.outer (by rw [Hfl.out]; omega))
      obtain ⟨g', hge, _, _, hcell⟩ := hc
      have hgg : g' = w.heap.size := by injection hge with e; injection e with e1; exact e1.symm
      subst hgg
      have r0 := hcell k (by rw [Hfl.out]; exact hlt)
      have hfro := hO7.2.1.frozenAt k
      have hb8 := below_grown hb7 hg8 (Nat.le_refl _) (fun k hk => by injection hk with hk; omega)
      have HO8 := Lib.hid hO8
      have Hb8 := Lib.hid hb8
      generalize rvD rs k = rv at *
      generalize (flipL n l (u, v)).length = rl at *
      clear hO7 hbk5 hb7 hnb o7 o7' hO8 hg8 hge hcell hb8 b7 g0 g1
      go_wp2
      go_roundw
      case rel => exact ⟨k + 1, _, by omega, by go_num, HO8.out, Hb8.out⟩
      case measure => simp [intOf]; omega
    · obtain rfl : k = m := by omega
      rw [flH_all] at ho
      have hE : GivDD w (flK n l k) k (.returned (.slice (some ⟨w.heap.size, 0, none⟩) k k)) wr := ⟨_, k, rs, rfl, ho, hb⟩
      have HE := Lib.hid hE
      clear hE ho hb
      go_wp2
      go_ret
      exact HE.out

noncomputable def afL (n : Int) (l : List (Int × Int)) : List (List (Int × Int)) := if triB n l = true then flK n l l.length else []
theorem afL_yes {n : Int} {l : List (Int × Int)} (h : triB n l = true) : afL n l = flK n l l.length := by unfold afL; rw [if_pos h]
theorem afL_no {n : Int} {l : List (Int × Int)} (h : triB n l = false) : afL n l = [] := by unfold afL; rw [h]; rfl
theorem afL_len (n : Int) (l : List (Int × Int)) : (afL n l).length ≤ 9 := by
  cases h : triB n l
  · rw [afL_no h]; simp
  · rw [afL_yes h, flK_length n l _ (Nat.le_refl _)]
    have T := tri_of h
    have := T.len
    have := T.n12
    omega
theorem afL_row (n : Int) (l : List (Int × Int)) (j : Nat) (hj : j < (afL n l).length) : (rowD (afL n l) j).length ≤ 9 := by
  cases h : triB n l
  · rw [afL_no h] at hj; simp at hj
  · have T := tri_of h
    have h1 := T.len
    have h2 := T.n12
    have hj2 : j < l.length := by rw [afL_yes h, flK_length n l _ (Nat.le_refl _)] at hj; exact hj
    have e : rowD (afL n l) j = flipL n l l[j] := by
      rw [afL_yes h]
      unfold rowD flK
      rw [List.take_length]
      simp [hj2]
    rw [e, flip_length T (List.getElem_mem hj2)]
    omega
theorem afL_pre (n : Int) (l : List (Int × Int)) : preD (afL n l) (afL n l).length ≤ 1000000 := by
  have := preD_bd (afL n l) 9 (fun j hj => afL_row n l j hj) _ (Nat.le_refl _)
  have := afL_len n l
  have : (afL n l).length * 9 ≤ 9 * 9 := Nat.mul_le_mul_right 9 (by omega)
  omega

theorem spec_AllFlips (n : Int) (A : Option Addr) (c B : Nat) (l : List (Int × Int)) (w : World) (h : SlD w B A l) (hB : B ≤ w.heap.size) (hl : l.length ≤ 1048576) (hlc : l.length ≤ c) :
    Calls Try.prog 35 #[.int .i64 n, .slice A l.length c] w (RetDD w (afL n l) (triB n l)) := by
  have H := Lib.hid h
  clear h
  go_enter Try.func35, Try.ntmps35
  go_wp2_with fail
  refine (spec_poGood n A c B l _ H.out hB hl hlc).mono ?_
  rintro e w1 ⟨rfl, hb1⟩
  cases ht : triB n l
  · have hres : RetDD w (afL n l) (triB n l) (.returned (.tuple #[.slice none 0 0, .bool false])) w1 := by
      rw [afL_no ht, ht]
      exact ⟨none, 0, [], rfl, OwnDD.nil_, hb1⟩
    have Hres := Lib.hid hres
    clear hres hb1
    go_wp2
    go_ret2
    exact Hres.out
  · have T := tri_of ht
    have HT := Lib.hid T
    have Ht := Lib.hid ht
    obtain ⟨q, rfl⟩ := Int.eq_ofNat_of_zero_le (show 0 ≤ n by have := T.n3; omega)
    have Hb1 := Lib.hid hb1
    clear T ht hb1
    go_wp2_with fail
    refine (spec_flAll q A c B l.length l _ rfl (H.out.below (Hb1.out.mono hB)) (Nat.le_trans hB Hb1.out.size) HT.out).mono ?_
    rintro e w2 ⟨A2, c2, rs, rfl, o2, b2⟩
    have hres : RetDD w (afL q l) (triB q l) (.returned (.tuple #[.slice A2 l.length c2, .bool true])) w2 := by
      rw [afL_yes Ht.out, Ht.out]
      exact ⟨A2, c2, rs, by rw [flK_length _ l _ (Nat.le_refl _)], o2.mono Hb1.out.size, below_kept Hb1.out (Nat.le_refl _) b2⟩
    have Hres := Lib.hid hres
    clear hres o2 b2
    go_wp2
    go_ret2
    exact Hres.out

theorem impl_AllFlips (n : Int) (A : Option Addr) (c B : Nat) (l : List (Int × Int)) (w : World) (h : SlD w B A l) (hB : B ≤ w.heap.size) (hl : l.length ≤ 1048576) (hlc : l.length ≤ c) :
    Calls Try.prog 36 #[.int .i64 n, .slice A l.length c] w (RetDD w (afL n l) (triB n l)) := by
  have H := Lib.hid h
  clear h
  go_enter Try.func36, Try.ntmps36
  go_wp2_with fail
  refine (impl_IsTriangulation n A c B l _ H.out hB hl hlc).mono ?_
  rintro e w1 ⟨rfl, hb1⟩
  cases ht : triB n l
  · have hres : RetDD w (afL n l) (triB n l) (.returned (.tuple #[.slice none 0 0, .bool false])) w1 := by
      rw [afL_no ht, ht]
      exact ⟨none, 0, [], rfl, OwnDD.nil_, hb1⟩
    have Hres := Lib.hid hres
    clear hres hb1
    go_wp2
    go_ret2
    exact Hres.out
  · have T := tri_of ht
    have HT := Lib.hid T
    have Ht := Lib.hid ht
    obtain ⟨q, rfl⟩ := Int.eq_ofNat_of_zero_le (show 0 ≤ n by have := T.n3; omega)
    have Hb1 := Lib.hid hb1
    clear T ht hb1
    go_wp2_with fail
    refine (impl_allFlips q A c B l.length l _ rfl (H.out.below (Hb1.out.mono hB)) (Nat.le_trans hB Hb1.out.size) HT.out).mono ?_
    rintro e w2 ⟨A2, c2, rs, rfl, o2, b2⟩
    have hres : RetDD w (afL q l) (triB q l) (.returned (.tuple #[.slice A2 l.length c2, .bool true])) w2 := by
      rw [afL_yes Ht.out, Ht.out]
      exact ⟨A2, c2, rs, by rw [flK_length _ l _ (Nat.le_refl _)], o2.mono Hb1.out.size, below_kept Hb1.out (Nat.le_refl _) b2⟩
    have Hres := Lib.hid hres
    clear hres o2 b2
    go_wp2
    go_ret2
    exact Hres.out
end Go.Proofs.Ytbpaaoeefcebeaa
