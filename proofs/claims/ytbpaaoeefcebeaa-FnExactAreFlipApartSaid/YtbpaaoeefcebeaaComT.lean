/- CommonDiagonals: the model's and the program's contract, and the law's walk. -/
import Derived.Test.YtbpaaoeefcebeaaTwoT
import Derived.Test.YtbpaaoeefcebeaaSelM
import Derived.Test.YtbpaaoeefcebeaaFliS
import Derived.Test.YtbpaaoeefcebeaaFliO
namespace Go.Proofs.Ytbpaaoeefcebeaa
set_option linter.unusedVariables false
open Go.RowKit

set_option maxRecDepth 100000 in
set_option maxHeartbeats 3200000 in
theorem impl_diagonalsWithout (A A2 : Option Addr) (m m2 c c2 B B2 : Nat) (l r : List (Int × Int)) (w : World) (h : SlD w B A l) (h2 : SlD w B2 A2 r) (hlm : l.length = m) (hrm : r.length = m2) (hB : B ≤ w.heap.size) (hB2 : B2 ≤ w.heap.size) (hl : m ≤ 1000) (hl2 : m2 ≤ 1000) :
    Calls Try.prog 75 #[.slice A m c, .slice A2 m2 c2] w (GivD w (woL l r)) := by
  have H := Lib.hid h
  have H2 := Lib.hid h2
  have Hl := Lib.hid hlm
  have Hr := Lib.hid hrm
  clear h h2 hlm hrm
  have Hb1 := Lib.hid (Below.refl w.heap.size w)
  obtain ⟨w1, hw1⟩ : ∃ w1, w1 = w := ⟨_, rfl⟩
  rw [← hw1] at Hb1 ⊢
  rw [← hw1] at H H2 hB hB2
  clear hw1
  · go_enter Try.func75, Try.ntmps75
    go_wp2
    go_loopw [5, 10] (fun v i wr => ∃ (k : Nat) (A' : Option Addr) (c' : Nat), k ≤ m ∧ i = .int .i64 k ∧ v = .slice A' (selK (notIn r) l k).length c' ∧ wr.ownsRow w1.heap.size 40 2 (.slice A' (selK (notIn r) l k).length c') (selK (notIn r) l k).length (dcs (selK (notIn r) l k)) ∧ Below w1.heap.size w1 wr) (fun _ i _ => m - (intOf i).toNat)
    case atStart => exact ⟨0, none, 0, Nat.zero_le _, rfl, by rw [selK_zero]; rfl, by rw [selK_zero]; exact World.ownsRow_nil _ _ _ _, Below.refl _ _⟩
    case round =>
      obtain ⟨k, A', c', hk, rfl, rfl, ho, hb⟩ := hrel
      have hd := below_kept Hb1.out (Nat.le_refl _) hb
      by_cases hlt : k < m
      · obtain ⟨b, off, rfl, hbB, hc⟩ := H.out.below (hd.mono hB) (by have := Hl.out; omega)
        obtain ⟨g0, g1⟩ := hc k (by rw [Hl.out]; exact hlt)
        have i0 : (0 : Int) ≤ (k : Int) := by omega
        have i1 : (k : Int) < (m : Int) := by omega
        have hhit := selK_hit (p := (notIn r)) (l := l) (k := k) (by rw [Hl.out]; exact hlt)
        have hmiss := selK_miss (p := (notIn r)) (l := l) (k := k) (by rw [Hl.out]; exact hlt)
        have hle := selK_le (notIn r) l k
        generalize hL : selK (notIn r) l k = L at *
        generalize l.getD k (0, 0) = d at *
        obtain ⟨u, v⟩ := d
        dsimp only at g0 g1
        have Hhit := Lib.hid hhit
        have Hmiss := Lib.hid hmiss
        have ho2 := ho.alloc (.cells #[.int .i64 u, .int .i64 v] 40)
        have hb2 := hb.alloc hb.size (.cells #[.int .i64 u, .int .i64 v] 40)
        have Ho2 := Lib.hid ho2
        have Hb2 := Lib.hid hb2
        have hd2 := hd.alloc hd.size (.cells #[.int .i64 u, .int .i64 v] 40)
        have Hd2 := Lib.hid hd2
        have hl9 : L.length ≤ 1000000 := by omega
        clear hc hhit hmiss hL ho hb ho2 hb2 hd hd2
        go_wp2_with fail
        refine (slices_ContainsD A2 m2 c2 B2 r u v _ _ (H2.out.below (Hd2.out.mono hB2)) Hr.out (Nat.le_trans hB2 Hd2.out.size) (by omega) rfl).mono ?_
        rintro e w5 ⟨rfl, hb5⟩
        have q0 : w5.cell? ⟨wr.heap.size, 0, none⟩ = some (.int .i64 u) := cell_kept hb5 (by simp [go_sem])
        have q1 : w5.cell? ⟨wr.heap.size, 1, none⟩ = some (.int .i64 v) := cell_kept hb5 (by simp [go_sem])
        have hwr : wr.heap.size < w5.heap.size := World.block_lt_of_cell? w5 _ q0
        have Ho5 := Lib.hid (own_kept Ho2.out hb5)
        have Hb5 := Lib.hid (below_kept Hb2.out (Nat.le_refl _) hb5)
        clear hb5 Ho2 Hb2 Hd2 g0 g1
        by_cases hm : (u, v) ∈ r
        · have e1 : decide ((u, v) ∈ r) = true := by simpa using hm
          rw [e1]
          have hE : selK (notIn r) l (k + 1) = L := Hmiss.out (by simp [notIn, e1])
          have HE := Lib.hid hE
          clear hE hm e1
          go_wp2
          go_roundw
          case rel => exact ⟨k + 1, A', c', by omega, by go_num, by rw [HE.out], by rw [HE.out]; exact Ho5.out, Hb5.out⟩
          case measure => simp [intOf]; omega
        · have e1 : decide ((u, v) ∈ r) = false := by simpa using hm
          rw [e1]
          have hE : selK (notIn r) l (k + 1) = L ++ [(u, v)] := Hhit.out (by simp [notIn, e1])
          have hlen : (selK (notIn r) l (k + 1)).length = L.length + 1 := by rw [hE]; simp
          have HE := Lib.hid hE
          have Hlen := Lib.hid hlen
          have ho3 := Ho5.out.alloc (.cells #[.int .i64 u, .int .i64 v] 40)
          have hb3 := Hb5.out.alloc Hb5.out.size (.cells #[.int .i64 u, .int .i64 v] 40)
          have Hb3 := Lib.hid hb3
          clear hE hlen hb3 hm e1
          go_wp2_with (at_builtin; refine append1Dn _ rfl _ _ rfl w1.heap.size (.slice A' L.length c') L.length L rfl rfl ho3 w5.heap.size u v rfl ?c1 ?c2 hl9 Hb3.out.size ?_; (case c1 => simp [go_sem]); (case c2 => simp [go_sem]); intro A3 c3 w9 own3 hg3)
          have hb10 := below_grown Hb3.out hg3 (Nat.le_refl _) (fun j hj => (ho3.lt j hj).1)
          clear hg3 ho3
          go_wp2
          go_roundw
          case rel => exact ⟨k + 1, A3, c3, by omega, by go_num, by rw [Hlen.out], by rw [Hlen.out, HE.out]; exact own3, hb10⟩
          case measure => simp [intOf]; omega
      · obtain rfl : k = m := by omega
        rw [← Hl.out, selK_all] at ho ⊢
        have hres : GivD w1 (woL l r) (.returned (.slice A' (l.filter (notIn r)).length c')) wr := ⟨A', c', rfl, ho, hb⟩
        have Hres := Lib.hid hres
        clear hres ho hb hd
        generalize (l.filter (notIn r)).length = z at *
        go_wp2
        go_ret
        exact Hres.out

/-- the diagonals that both have; none of other lists -/
def comR (n : Int) (l r : List (Int × Int)) : List (Int × Int) := if twoB n l r = true then comL l r else []
theorem comR_yes {n : Int} {l r : List (Int × Int)} (h : twoB n l r = true) : comR n l r = comL l r := by unfold comR; rw [if_pos h]
theorem comR_no {n : Int} {l r : List (Int × Int)} (h : twoB n l r = false) : comR n l r = [] := by unfold comR; rw [h]; rfl
theorem comR_length (n : Int) (l r : List (Int × Int)) : (comR n l r).length ≤ 1000000000 := by
  cases h : twoB n l r
  · rw [comR_no h]; simp
  · rw [comR_yes h]
    have := comL_le l r
    have := twoB_len h
    omega

set_option maxRecDepth 100000 in
set_option maxHeartbeats 3200000 in
theorem spec_CommonDiagonals (n : Int) (A A2 : Option Addr) (c c2 B B2 : Nat) (l r : List (Int × Int)) (w : World) (h : SlD w B A l) (h2 : SlD w B2 A2 r) (hB : B ≤ w.heap.size) (hB2 : B2 ≤ w.heap.size) (hl : l.length ≤ 1048576) (hl2 : r.length ≤ 1048576) (hlc : l.length ≤ c) (hlc2 : r.length ≤ c2) :
    Calls Try.prog 42 #[.int .i64 n, .slice A l.length c, .slice A2 r.length c2] w (RetD w (comR n l r) (twoB n l r)) := by
  obtain ⟨m, hm⟩ : ∃ m, l.length = m := ⟨_, rfl⟩
  obtain ⟨m2, hm2⟩ : ∃ m2, r.length = m2 := ⟨_, rfl⟩
  rw [hm, hm2]
  rw [hm] at hl hlc
  rw [hm2] at hl2 hlc2
  have H := Lib.hid h
  have H2 := Lib.hid h2
  have Hl := Lib.hid hm
  have Hr := Lib.hid hm2
  clear h h2 hm hm2
  go_enter Try.func42, Try.ntmps42
  go_wp2_with fail
  refine (spec_flTwo n A A2 m m2 c c2 B B2 l r _ H.out H2.out Hl.out Hr.out hB hB2 hl hl2 hlc hlc2).mono ?_
  rintro e w1 ⟨rfl, hb1⟩
  cases ht : twoB n l r
  · have hres : RetD w (comR n l r) (twoB n l r) (.returned (.tuple #[.slice none 0 0, .bool false])) w1 := by
      rw [comR_no ht, ht]
      exact retD_none hb1
    have Hres := Lib.hid hres
    clear hres hb1
    go_wp2
    go_ret2
    exact Hres.out
  · obtain ⟨hm9, hm9'⟩ := twoB_len ht
    rw [Hl.out] at hm9
    rw [Hr.out] at hm9'
    have hR := comR_yes ht
    have HR := Lib.hid hR
    have HT := Lib.hid ht
    have Hb1 := Lib.hid hb1
    clear hb1 hR ht
    go_wp2
    go_loopw [8, 18] (fun v i wr => ∃ (k : Nat) (A' : Option Addr) (c' : Nat), k ≤ m ∧ i = .int .i64 k ∧ v = .slice A' (selK (isIn r) l k).length c' ∧ wr.ownsRow w1.heap.size 40 2 (.slice A' (selK (isIn r) l k).length c') (selK (isIn r) l k).length (dcs (selK (isIn r) l k)) ∧ Below w1.heap.size w1 wr) (fun _ i _ => m - (intOf i).toNat)
    case atStart => exact ⟨0, none, 0, Nat.zero_le _, rfl, by rw [selK_zero]; rfl, by rw [selK_zero]; exact World.ownsRow_nil _ _ _ _, Below.refl _ _⟩
    case round =>
      obtain ⟨k, A', c', hk, rfl, rfl, ho, hb⟩ := hrel
      have hd := below_kept Hb1.out (Nat.le_refl _) hb
      by_cases hlt : k < m
      · obtain ⟨b, off, rfl, hbB, hc⟩ := H.out.below (hd.mono hB) (by have := Hl.out; omega)
        obtain ⟨g0, g1⟩ := hc k (by rw [Hl.out]; exact hlt)
        have i0 : (0 : Int) ≤ (k : Int) := by omega
        have i1 : (k : Int) < (m : Int) := by omega
        have hhit := selK_hit (p := (isIn r)) (l := l) (k := k) (by rw [Hl.out]; exact hlt)
        have hmiss := selK_miss (p := (isIn r)) (l := l) (k := k) (by rw [Hl.out]; exact hlt)
        have hle := selK_le (isIn r) l k
        generalize hL : selK (isIn r) l k = L at *
        generalize l.getD k (0, 0) = d at *
        obtain ⟨u, v⟩ := d
        dsimp only at g0 g1
        have Hhit := Lib.hid hhit
        have Hmiss := Lib.hid hmiss
        have ho2 := ho.alloc (.cells #[.int .i64 u, .int .i64 v] 40)
        have hb2 := hb.alloc hb.size (.cells #[.int .i64 u, .int .i64 v] 40)
        have Ho2 := Lib.hid ho2
        have Hb2 := Lib.hid hb2
        have hd2 := hd.alloc hd.size (.cells #[.int .i64 u, .int .i64 v] 40)
        have Hd2 := Lib.hid hd2
        have hl9 : L.length ≤ 1000000 := by omega
        clear hc hhit hmiss hL ho hb ho2 hb2 hd hd2
        go_wp2_with fail
        refine (spec_flIn A2 m2 c2 B2 r u v _ _ (H2.out.below (Hd2.out.mono hB2)) Hr.out (Nat.le_trans hB2 Hd2.out.size) (by omega) rfl).mono ?_
        rintro e w5 ⟨rfl, hb5⟩
        have q0 : w5.cell? ⟨wr.heap.size, 0, none⟩ = some (.int .i64 u) := cell_kept hb5 (by simp [go_sem])
        have q1 : w5.cell? ⟨wr.heap.size, 1, none⟩ = some (.int .i64 v) := cell_kept hb5 (by simp [go_sem])
        have hwr : wr.heap.size < w5.heap.size := World.block_lt_of_cell? w5 _ q0
        have Ho5 := Lib.hid (own_kept Ho2.out hb5)
        have Hb5 := Lib.hid (below_kept Hb2.out (Nat.le_refl _) hb5)
        clear hb5 Ho2 Hb2 Hd2 g0 g1
        by_cases hm : (u, v) ∈ r
        · have e1 : decide ((u, v) ∈ r) = true := by simpa using hm
          rw [e1]
          have hE : selK (isIn r) l (k + 1) = L ++ [(u, v)] := Hhit.out (by simp [isIn, e1])
          have hlen : (selK (isIn r) l (k + 1)).length = L.length + 1 := by rw [hE]; simp
          have HE := Lib.hid hE
          have Hlen := Lib.hid hlen
          have ho3 := Ho5.out.alloc (.cells #[.int .i64 u, .int .i64 v] 40)
          have hb3 := Hb5.out.alloc Hb5.out.size (.cells #[.int .i64 u, .int .i64 v] 40)
          have Hb3 := Lib.hid hb3
          clear hE hlen hb3 hm e1
          go_wp2_with (at_builtin; refine append1Dn _ rfl _ _ rfl w1.heap.size (.slice A' L.length c') L.length L rfl rfl ho3 w5.heap.size u v rfl ?c1 ?c2 hl9 Hb3.out.size ?_; (case c1 => simp [go_sem]); (case c2 => simp [go_sem]); intro A3 c3 w9 own3 hg3)
          have hb10 := below_grown Hb3.out hg3 (Nat.le_refl _) (fun j hj => (ho3.lt j hj).1)
          clear hg3 ho3
          go_wp2
          go_roundw
          case rel => exact ⟨k + 1, A3, c3, by omega, by go_num, by rw [Hlen.out], by rw [Hlen.out, HE.out]; exact own3, hb10⟩
          case measure => simp [intOf]; omega
        · have e1 : decide ((u, v) ∈ r) = false := by simpa using hm
          rw [e1]
          have hE : selK (isIn r) l (k + 1) = L := Hmiss.out (by simp [isIn, e1])
          have HE := Lib.hid hE
          clear hE hm e1
          go_wp2
          go_roundw
          case rel => exact ⟨k + 1, A', c', by omega, by go_num, by rw [HE.out], by rw [HE.out]; exact Ho5.out, Hb5.out⟩
          case measure => simp [intOf]; omega
      · obtain rfl : k = m := by omega
        rw [← Hl.out, selK_all] at ho ⊢
        have hres : RetD w (comR n l r) (twoB n l r) (.returned (.tuple #[.slice A' (l.filter (isIn r)).length c', .bool true])) wr := by
          rw [HR.out, HT.out]
          exact ⟨A', c', rfl, ho.mono Hb1.out.size, hd⟩
        have Hres := Lib.hid hres
        clear hres ho hb hd
        generalize (l.filter (isIn r)).length = z at *
        go_wp2
        go_ret2
        exact Hres.out
set_option maxHeartbeats 3200000 in
theorem impl_commonDiagonals (A A2 : Option Addr) (m m2 c c2 B B2 : Nat) (l r : List (Int × Int)) (w : World) (h : SlD w B A l) (h2 : SlD w B2 A2 r) (hlm : l.length = m) (hrm : r.length = m2) (hB : B ≤ w.heap.size) (hB2 : B2 ≤ w.heap.size) (hl : m ≤ 1000) (hl2 : m2 ≤ 1000) :
    Calls Try.prog 76 #[.slice A m c, .slice A2 m2 c2] w (GivD w (comL l r)) := by
  have hwl := woL_le l r
  have hcm := woL_woL l r
  have Hcm := Lib.hid hcm
  have HX := Lib.hid (impl_diagonalsWithout A A2 m m2 c c2 B B2 l r w h h2 hlm hrm hB hB2 hl hl2)
  have H := Lib.hid h
  have Hl := Lib.hid hlm
  clear h h2 hcm
  go_enter Try.func76, Try.ntmps76
  go_wp2_with fail
  refine HX.out.mono ?_
  rintro e w2 ⟨A3, c3, rfl, ho, hb2⟩
  have Hd2 := Lib.hid hb2
  have Hs := Lib.hid (SlD.of_own ho)
  have HY := Lib.hid (impl_diagonalsWithout A A3 m (woL l r).length c c3 B w2.heap.size l (woL l r) w2 (H.out.below (hb2.mono hB)) (SlD.of_own ho) Hl.out rfl (Nat.le_trans hB hb2.size) (Nat.le_refl _) hl (by omega))
  clear hb2 ho HX
  go_wp2_with fail
  refine HY.out.mono ?_
  rw [Hcm.out]
  rintro e w3 ⟨A4, c4, rfl, ho, hb3⟩
  have hres : GivD w (comL l r) (.returned (.slice A4 (comL l r).length c4)) w3 := ⟨A4, c4, rfl, ho.mono Hd2.out.size, below_kept Hd2.out (Nat.le_refl _) hb3⟩
  have Hres := Lib.hid hres
  clear hres ho hb3 HY Hs Hd2
  go_wp2
  go_ret
  exact Hres.out
set_option maxRecDepth 100000 in
set_option maxHeartbeats 3200000 in
theorem impl_CommonDiagonals (n : Int) (A A2 : Option Addr) (c c2 B B2 : Nat) (l r : List (Int × Int)) (w : World) (h : SlD w B A l) (h2 : SlD w B2 A2 r) (hB : B ≤ w.heap.size) (hB2 : B2 ≤ w.heap.size) (hl : l.length ≤ 1048576) (hl2 : r.length ≤ 1048576) (hlc : l.length ≤ c) (hlc2 : r.length ≤ c2) :
    Calls Try.prog 43 #[.int .i64 n, .slice A l.length c, .slice A2 r.length c2] w (RetD w (comR n l r) (twoB n l r)) := by
  obtain ⟨m, hm⟩ : ∃ m, l.length = m := ⟨_, rfl⟩
  obtain ⟨m2, hm2⟩ : ∃ m2, r.length = m2 := ⟨_, rfl⟩
  rw [hm, hm2]
  rw [hm] at hl hlc
  rw [hm2] at hl2 hlc2
  have H := Lib.hid h
  have H2 := Lib.hid h2
  have Hl := Lib.hid hm
  have Hr := Lib.hid hm2
  clear h h2 hm hm2
  go_enter Try.func43, Try.ntmps43
  go_wp2_with fail
  refine (impl_areTriangulations n A A2 m m2 c c2 B B2 l r _ H.out H2.out Hl.out Hr.out hB hB2 hl hl2 hlc hlc2).mono ?_
  rintro e w1 ⟨rfl, hb1⟩
  cases ht : twoB n l r
  · have hres : RetD w (comR n l r) (twoB n l r) (.returned (.tuple #[.slice none 0 0, .bool false])) w1 := by
      rw [comR_no ht, ht]
      exact retD_none hb1
    have Hres := Lib.hid hres
    clear hres hb1
    go_wp2
    go_ret2
    exact Hres.out
  · obtain ⟨hm9, hm9'⟩ := twoB_len ht
    rw [Hl.out] at hm9
    rw [Hr.out] at hm9'
    have hwl := woL_le l r
    have hcm := woL_woL l r
    have Hcm := Lib.hid hcm
    have hR := comR_yes ht
    have HR := Lib.hid hR
    have HT := Lib.hid ht
    have Hb1 := Lib.hid hb1
    clear hb1 hR ht hcm
    have HX := Lib.hid (impl_commonDiagonals A A2 m m2 c c2 B B2 l r w1 (H.out.below (Hb1.out.mono hB)) (H2.out.below (Hb1.out.mono hB2)) Hl.out Hr.out (Nat.le_trans hB Hb1.out.size) (Nat.le_trans hB2 Hb1.out.size) (by omega) (by omega))
    go_wp2_with fail
    refine HX.out.mono ?_
    rintro e w3 ⟨A4, c4, rfl, ho, hb3⟩
    have hres : RetD w (comR n l r) (twoB n l r) (.returned (.tuple #[.slice A4 (comL l r).length c4, .bool true])) w3 := by
      rw [HR.out, HT.out]
      exact ⟨A4, c4, rfl, ho.mono Hb1.out.size, below_kept Hb1.out (Nat.le_refl _) hb3⟩
    have Hres := Lib.hid hres
    clear hres ho hb3
    go_wp2
    go_ret2
    exact Hres.out
end Go.Proofs.Ytbpaaoeefcebeaa
