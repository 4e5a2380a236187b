/- FriezeOf: the model's and the program's contract, and the law's walk. -/
import Derived.Test.YtbcdpcnjmchhpaaSSA
import Derived.Test.YtbcdpcnjmchhpaaRowOfFriezeW
namespace Go.Proofs.Ytbcdpcnjmchhpaa
set_option linter.unusedVariables false
open Go.RowKit

/-- the first t rows -/
def frP (q : List Int) (t : Nat) : List (List Int) := (List.range t).map fun (s : Nat) => rowL q ((s : Int) + 1) q.length
theorem frP_length (q : List Int) (t : Nat) : (frP q t).length = t := by simp [frP]
theorem frP_succ (q : List Int) (t : Nat) : frP q (t + 1) = frP q t ++ [rowL q ((t : Int) + 1) q.length] := by simp [frP, List.range_succ]
theorem frP_row (q : List Int) (t j : Nat) (h : j < t) : rowOf (frP q t) j = rowL q ((j : Int) + 1) q.length := by
  unfold rowOf frP
  simp [h]
def okF (q : List Int) : Bool := isQ q && decide (4 ≤ q.length)
theorem okF_iff {q : List Int} : okF q = true ↔ isQ q = true ∧ 4 ≤ q.length := by
  unfold okF
  rw [Bool.and_eq_true, decide_eq_true_eq]
def frL (q : List Int) : List (List Int) := if okF q = true then frP q (q.length - 3) else []
theorem frL_no {q : List Int} (h : okF q = false) : frL q = [] := if_neg (by rw [h]; simp)
theorem frL_yes {q : List Int} (h : okF q = true) : frL q = frP q (q.length - 3) := if_pos h
theorem frL_length (q : List Int) : (frL q).length ≤ 9 := by
  unfold frL
  split
  · rename_i h
    have := isQ_len (okF_iff.1 h).1
    rw [frP_length]; omega
  · simp
theorem frL_row (q : List Int) (j : Nat) (hj : j < (frL q).length) : (rowOf (frL q) j).length ≤ 12 := by
  unfold frL at hj ⊢
  split
  · rename_i h
    rw [if_pos h, frP_length] at hj
    have := isQ_len (okF_iff.1 h).1
    rw [frP_row q _ j hj, rowL_length]
    omega
  · rename_i h
    rw [if_neg h] at hj
    simp at hj
theorem frL_pre (q : List Int) : pre (frL q) (frL q).length ≤ 1000000 := by
  have h1 := pre_bd (frL q) 12 (frL_row q) _ (Nat.le_refl _)
  have h2 := frL_length q
  omega
theorem retF_no {q : List Int} {w w' : World} (h : okF q = false) (hb : Below w.heap.size w w') : RetSS w (frL q) (okF q) (.returned (.tuple #[.slice none 0 0, .bool false])) w' := by
  rw [frL_no h, h]
  exact ⟨none, 0, [], rfl, OwnSS.nil_, hb⟩
theorem retF_yes {q : List Int} {m : Nat} {w w' : World} {A : Option Addr} {c : Nat} {rs : List Value} (h : okF q = true) (hm : q.length - 3 = m) (ho : OwnSS w' w.heap.size A c rs (frP q m)) (hb : Below w.heap.size w w') :
    RetSS w (frL q) (okF q) (.returned (.tuple #[.slice A m c, .bool true])) w' := by
  rw [frL_yes h, h, hm]
  exact ⟨A, c, rs, by rw [frP_length], ho, hb⟩

def GivSS (w : World) (Ls : List (List Int)) (m : Nat) (e : Ending) (w' : World) : Prop :=
  ∃ A c rs, e = .returned (.slice A m c) ∧ OwnSS w' w.heap.size A c rs Ls ∧ Below w.heap.size w w'

set_option maxRecDepth 100000 in
set_option maxHeartbeats 3200000 in
theorem spec_frOf (A : Option Addr) (c B m : Nat) (q : List Int) (w : World) (hm : q.length - 3 = m) (h : SlI w B A q) (hB : B ≤ w.heap.size) (hn4 : 4 ≤ q.length) (hn12 : q.length ≤ 12) :
    Calls Try.prog 97 #[.slice A q.length c] w (GivSS w (frP q m) m) := by
  have m1 : (q.length : Int) - 3 = (m : Int) := by omega
  have M1 := Lib.hid m1
  have hn3 : 3 ≤ q.length := by omega
  have m9 : m ≤ 9 := by omega
  have n0 : (4 : Int) ≤ (q.length : Int) := by omega
  have n1 : (q.length : Int) ≤ 12 := by omega
  clear hm m1
  go_enter Try.func97, Try.ntmps97
  go_wp2
  go_loopw [3, 4] (fun v k wr => ∃ (t : Nat) (A' : Option Addr) (c' : Nat) (rs : List Value), t ≤ m ∧ k = .int .i64 ((t : Int) + 1) ∧ v = .slice A' t c' ∧ OwnSS wr w.heap.size A' c' rs (frP q t) ∧ Below w.heap.size w wr) (fun _ k _ => m + 1 - (intOf k).toNat)
  case atStart => exact ⟨0, none, 0, [], Nat.zero_le _, rfl, rfl, OwnSS.nil_, Below.refl _ _⟩
  case round =>
    obtain ⟨t, A', c', rs, ht, rfl, rfl, ho, hb⟩ := hrel
    have hsz := hb.size
    have m1 := M1.out
    by_cases hlt : t < m
    · have t1 : (t : Int) + 1 ≤ (q.length : Int) - 3 := by omega
      have t2 : (t : Int) ≤ 11 := by omega
      have t3 : t ≤ 1000000 := by omega
      have Hst := Lib.hid (frP_succ q t)
      have Hl := Lib.hid (frP_length q t)
      have Ho := Lib.hid ho
      have Hb := Lib.hid hb
      clear ho hb m1
      go_wp2_with fail
      refine (spec_frRow A c B q ((t : Int) + 1) _ (h.below (Hb.out.mono hB)) (Nat.le_trans hB hsz) hn3 hn12 (by omega) (by omega)).mono ?_
      rintro e w2 ⟨A2, c2, rfl, o2, b2⟩
      have ho2 := Ho.out.kept b2
      have hb2 := below_kept Hb.out (Nat.le_refl _) b2
      have hblk := Ho.out.blk
      have hrb := o2.lt
      have o2b := o2.mono hsz
      have Ho2 := Lib.hid ho2
      have Hblk := Lib.hid hblk
      have Hrb := Lib.hid hrb
      have Ho2b := Lib.hid o2b
      generalize frP q t = F at *
      generalize rowL q ((t : Int) + 1) q.length = R at *
      generalize hRl : R.length = rl at *
      have HRl := Lib.hid hRl
      have hout : w2.ownsRow w.heap.size 38 1 (.slice A' t c') t rs := by
        have := Ho2.out.2.1
        rwa [Hl.out] at this
      have own2 := hout.alloc (.cells #[.slice A2 rl c2] 38)
      have hb3 := hb2.alloc hb2.size (.cells #[.slice A2 rl c2] 38)
      have Hb3 := Lib.hid hb3
      clear ho2 hb2 hblk hrb o2 o2b b2 hRl hout hb3
      go_wp2_with (at_builtin; refine append1SS _ rfl _ _ rfl w.heap.size (.slice A' t c') t rs rfl own2 w2.heap.size (.slice A2 rl c2) rfl rfl ?c1 t3 Hb3.out.size ?_; (case c1 => simp [go_sem]); intro A3 c3 w3 own3 hg3)
      have hb4 := below_grown Hb3.out hg3 (Nat.le_refl _) (fun k hk => (own2.lt k hk).1)
      have hO : OwnSS w3 w.heap.size A3 c3 (rs ++ [.slice A2 rl c2]) (F ++ [R]) := by
        refine OwnSS.app (b := wr.heap.size) (w2 := w2) (A := A') (c := c') (o := .cells #[.slice A2 rl c2] 38) Ho2.out Hblk.out ?_ (fun k hk => (Hrb.out k hk).1) ?_ ?_
        · have := Ho2b.out
          rwa [← HRl.out] at this ⊢
        · rw [Hl.out]; exact own3
        · rw [Hl.out]; exact hg3
      rw [← Hst.out] at hO
      have HO := Lib.hid hO
      have Hb4 := Lib.hid hb4
      clear hg3 own2 own3 hO hb4
      go_wp2
      go_roundw
      case rel => exact ⟨t + 1, A3, c3, _, by omega, by go_num, rfl, HO.out, Hb4.out⟩
      case measure => simp [intOf]; omega
    · obtain rfl : t = m := by omega
      have t1 : ¬ (t : Int) + 1 ≤ (q.length : Int) - 3 := by omega
      have hE : GivSS w (frP q t) t (.returned (.slice A' t c')) wr := ⟨A', c', rs, rfl, ho, hb⟩
      have HE := Lib.hid hE
      clear hE ho hb m1
      go_wp2
      go_ret
      exact HE.out

/-- t rows told, the others not yet -/
def frH (q : List Int) (m t : Nat) : List (List Int) := frP q t ++ List.replicate (m - t) []
theorem frH_length (q : List Int) (m t : Nat) (h : t ≤ m) : (frH q m t).length = m := by simp [frH, frP_length]; omega
theorem frH_zero (q : List Int) (m : Nat) : frH q m 0 = List.replicate m [] := by simp [frH, frP]
theorem frH_all (q : List Int) (m : Nat) : frH q m m = frP q m := by simp [frH]
theorem frH_set (q : List Int) (m t : Nat) (h : t < m) : (frH q m t).set t (rowL q ((t : Int) + 1) q.length) = frH q m (t + 1) := by
  unfold frH
  rw [List.set_append_right _ _ (by rw [frP_length]; exact Nat.le_refl _), frP_length, Nat.sub_self, show m - t = (m - (t + 1)) + 1 by omega, List.replicate_succ, List.set_cons_zero, frP_succ, List.append_assoc]
  rfl

set_option maxRecDepth 100000 in
set_option maxHeartbeats 3200000 in
theorem impl_FriezeOf (A : Option Addr) (c B : Nat) (q : List Int) (w : World) (h : SlI w B A q) (hB : B ≤ w.heap.size) (hl : q.length ≤ 1048576) (hlc : q.length ≤ c) :
    Calls Try.prog 99 #[.slice A q.length c] w (RetSS w (frL q) (okF q)) := by
  by_cases h4 : (q.length : Int) < 4
  · have hok : okF q = false := by rw [Bool.eq_false_iff]; intro e; have := (okF_iff.1 e).2; omega
    have HE := Lib.hid (retF_no hok (Below.refl w.heap.size w))
    clear h hok
    go_enter Try.func99, Try.ntmps99
    go_wp2
    go_ret2
    exact HE.out
  · go_enter Try.func99, Try.ntmps99
    go_wp2_with fail
    refine (impl_IsQuiddity A c B q _ h hB hl hlc).mono ?_
    rintro e w1 ⟨rfl, hb1⟩
    cases hq : isQ q
    · have hok : okF q = false := by unfold okF; rw [hq]; rfl
      have HE := Lib.hid (retF_no hok hb1)
      clear h hok hb1
      go_wp2
      go_ret2
      exact HE.out
    · obtain ⟨hn3, hn12⟩ := isQ_len hq
      have n0 : (4 : Int) ≤ (q.length : Int) := by omega
      have n1 : (q.length : Int) ≤ 12 := by omega
      have Hok := Lib.hid (okF_iff.2 ⟨hq, show 4 ≤ q.length by omega⟩)
      have Hb1 := Lib.hid hb1
      obtain ⟨m, hm⟩ : ∃ m, q.length - 3 = m := ⟨_, rfl⟩
      have Hm := Lib.hid hm
      have Hm2 : Hid ((q.length : Int) - 3 = (m : Int)) := Lib.hid (by omega)
      have m9 : m ≤ 9 := by omega
      obtain ⟨i0', hii, hz0, hz1, hz3⟩ := info_parts infoSl
      have hbytes : i0'.bytes * m ≤ 281474976710656 := by rw [hz3]; omega
      have hmax : m ≤ maxLen := by unfold maxLen; omega
      have H1 := Lib.hid (h.below (hb1.mono hB))
      have hB1 : B ≤ w1.heap.size := Nat.le_trans hB hb1.size
      clear hq hb1 h hm
      go_wp2_with (at_make; refine wpList_make_full _ rfl _ _ _ rfl w1.heap.size 38 i0' (.slice none 0 0) 1 Try.underlying63 hii hz0 hz1 _ _ _ _ m rfl rfl ?_ ?_ hbytes hmax (Nat.le_refl _) ?_
                   · exact Hm2.out
                   · exact Hm2.out
                   intro w3 hown3 hgrow3)
      have hb3 : Below w1.heap.size w1 w3 := (Below.refl _ _).grown hgrow3 (Nat.le_refl _) (fun _ e => by cases e)
      rw [zerosSS] at hown3
      have hO3 := OwnSS.zeros hown3
      rw [← frH_zero q m] at hO3
      have HO3 := Lib.hid hO3
      have Hb3 := Lib.hid hb3
      clear hown3 hgrow3 hb3 hO3 hii hz0 hz1 hz3 hbytes hmax
      go_wp2
      go_loopw [6, 7, 22] (fun _ _ k wr => ∃ (t : Nat) (rs : List Value), t ≤ m ∧ k = .int .i64 t ∧ OwnSS wr w1.heap.size (some ⟨w1.heap.size, 0, none⟩) m rs (frH q m t) ∧ Below w1.heap.size w1 wr) (fun _ _ k _ => m - (intOf k).toNat)
      case atStart => exact ⟨0, _, Nat.zero_le _, rfl, HO3.out, Hb3.out⟩
      case round =>
        clear HO3 Hb3
        obtain ⟨t, rs, ht, rfl, ho, hb⟩ := hrel
        have hsz := hb.size
        by_cases hlt : t < m
        · have t0 : (0 : Int) ≤ (t : Int) := by omega
          have t1 : (t : Int) < (m : Int) := by omega
          have t2 : (t : Int) ≤ 9 := by omega
          have Hset := Lib.hid (frH_set q m t hlt)
          have Hfl := Lib.hid (frH_length q m t ht)
          have Ho := Lib.hid ho
          have Hb := Lib.hid hb
          clear ho hb
          go_wp2_with fail
          refine (impl_rowAt A c B q ((t : Int) + 1) _ (H1.out.below (Hb.out.mono hB1)) (Nat.le_trans hB1 hsz) hn3 hn12 (by omega) (by omega)).mono ?_
          rintro e w4 ⟨rfl, hb4⟩
          have ho4 := Ho.out.kept hb4
          have hd4 := below_kept Hb.out (Nat.le_refl _) hb4
          have hwn : w1.heap.size ≤ w4.heap.size := hd4.size
          have HZ : Hid (Blk (w4.alloc (.cells (ics (List.replicate 12 0)).toArray 99)) w4.heap.size 99 (List.replicate 12 0)) := Lib.hid (Blk.new _ _ _)
          have HB : Hid (Below w1.heap.size w1 (w4.alloc (.cells (ics (List.replicate 12 0)).toArray 99))) := Lib.hid (hd4.alloc hwn _)
          have HO4 := Lib.hid ho4
          have hbl4 := Lib.hid (ho4.2.1.lt)
          have hbk4 := Lib.hid ho4.blk
          have Hlen := Lib.hid (halfR_length q ((t : Int) + 1) q.length hn12)
          have Htake := Lib.hid (halfR_take q ((t : Int) + 1) q.length)
          have Hrl := Lib.hid (rowL_length q ((t : Int) + 1) q.length)
          clear hb4 ho4 hd4
          go_wp2_with (first
            | (refine wpList_store_band rfl (.tmp 7) (.tmp 28) rfl rfl w4.heap.size (halfR q ((t : Int) + 1) q.length) rfl rfl 99 (List.replicate 12 0) HZ.out rfl Hlen.out ?_
               intro w5 h5 g5
               have hr5 := Band.of_heap (base := w1.heap.size) h5 Hlen.out hwn
               have hb5 := below_grown HB.out g5 (Nat.le_refl _) (fun k hk => by injection hk with hk; omega)
               have hne5 : ∀ {e n : Nat} {v : Value} {xs : List Value}, w4.ownsRow w1.heap.size e 1 v n xs → ∀ k, v.ownBlock = some k → some k ≠ some w4.heap.size := fun hv => ne_old hv
               have Hr5 := Lib.hid hr5
               have Hb5 := Lib.hid hb5
               have HG5 := Lib.hid g5
               clear g5 HZ HB h5 hr5 hb5 hne5))
          have hO5 := OwnSS.far2 HO4.out HG5.out
          have hsl := Hr5.out.sl q.length hn12
          rw [Htake.out] at hsl
          have HO5 := Lib.hid hO5
          clear hO5 HG5 HO4
          refine (slices_Clone_n (some ⟨w4.heap.size, 0, none⟩) q.length 12 w5.heap.size (rowL q ((t : Int) + 1) q.length) _ Hrl.out hsl (Nat.le_refl _) (by omega) (by omega)).mono ?_
          rintro e w7 ⟨A7, c7, rfl, o7, b7⟩
          have hO7 := HO5.out.kept b7
          have hbk5 := HO5.out.blk
          have hb7 := below_kept Hb5.out (Nat.le_refl _) b7
          have hnb := o7.lt
          have o7' := o7.mono (show w1.heap.size ≤ w5.heap.size from Hb5.out.size)
          obtain ⟨hO8, hg8⟩ := OwnSS.store hO7 (t := t) (by rw [Hfl.out]; exact hlt) o7' (fun j hj hjt k hk e => by
            have h1 := (hnb k hk).1
            have h2 := hbk5 j hj k e.symm
            omega)
          rw [Hset.out] at hO8
          have hc := (hO7.outer (by rw [Hfl.out]; omega))
          obtain ⟨g', hge, _, _, hcell⟩ := hc
          have hgg : g' = w1.heap.size := by injection hge with e; injection e with e1; exact e1.symm
          subst hgg
          have g0 := hcell t (by rw [Hfl.out]; exact hlt)
          have hfro := hO7.2.1.frozenAt t
          have hb8 := below_grown hb7 hg8 (Nat.le_refl _) (fun k hk => by injection hk with hk; omega)
          rw [Hrl.out] at hO8 hb8 ⊢
          have HO8 := Lib.hid hO8
          have Hb8 := Lib.hid hb8
          generalize rvOf rs t = rv at *
          clear hO7 hbk5 hb7 hnb o7 o7' hO8 hg8 hge hcell hb8 hsl b7 HO5
          go_wp2
          go_roundw
          case rel => exact ⟨t + 1, _, by omega, by go_num, HO8.out, Hb8.out⟩
          case measure => simp [intOf]; omega
        · obtain rfl : t = m := by omega
          rw [frH_all] at ho
          have HE := Lib.hid (retF_yes (w := w) Hok.out Hm.out (ho.mono Hb1.out.size) (below_kept Hb1.out (Nat.le_refl _) hb))
          clear ho hb
          go_wp2
          go_ret2
          exact HE.out

end Go.Proofs.Ytbcdpcnjmchhpaa
