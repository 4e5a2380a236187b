/- The model's flMake, OtherDiagonal, FlipDiagonal. -/
import Derived.Test.YtbpaaoeefcebeaaFliT
namespace Go.Proofs.Ytbpaaoeefcebeaa
set_option linter.unusedVariables false
open Go.RowKit

/-- the first k diagonals but one -/
def fltK (l : List (Int × Int)) (d : Int × Int) (k : Nat) : List (Int × Int) := (l.take k).filter (fun f => decide (f ≠ d))
theorem fltK_zero (l : List (Int × Int)) (d : Int × Int) : fltK l d 0 = [] := by simp [fltK]
theorem fltK_hit {l : List (Int × Int)} {d : Int × Int} {k : Nat} (hk : k < l.length) (h : l.getD k (0, 0) ≠ d) : fltK l d (k + 1) = fltK l d k ++ [l.getD k (0, 0)] := by
  unfold fltK
  rw [List.take_succ_eq_append_getElem hk, List.filter_append, getD_at hk]
  rw [getD_at hk] at h
  simp [h]
theorem fltK_miss {l : List (Int × Int)} {d : Int × Int} {k : Nat} (hk : k < l.length) (h : l.getD k (0, 0) = d) : fltK l d (k + 1) = fltK l d k := by
  unfold fltK
  rw [List.take_succ_eq_append_getElem hk, List.filter_append]
  rw [getD_at hk] at h
  simp [h]
theorem fltK_le (l : List (Int × Int)) (d : Int × Int) (k : Nat) : (fltK l d k).length ≤ k := by
  unfold fltK
  exact Nat.le_trans (List.length_filter_le _ _) (by simp; omega)
theorem fltK_exch (l : List (Int × Int)) (d e : Int × Int) : sortD (fltK l d l.length ++ [e]) = exch l d e := by
  unfold fltK exch
  rw [List.take_length]

set_option maxRecDepth 100000 in
set_option maxHeartbeats 3200000 in
theorem spec_flMake (n : Nat) (A : Option Addr) (m c B : Nat) (l : List (Int × Int)) (x y : Int) (w : World) (h : SlD w B A l) (hl : l.length = m) (hB : B ≤ w.heap.size) (ht : Tri n l) (hm : (x, y) ∈ l) :
    Calls Try.prog 66 #[.int .i64 n, .slice A m c, .agg #[.int .i64 x, .int .i64 y]] w (GivD w (flipL n l (x, y))) := by
  have hml : m ≤ 12 := by have := ht.len; have := ht.n12; omega
  have H := Lib.hid h
  have Hl := Lib.hid hl
  have Ht := Lib.hid ht
  have Hm := Lib.hid hm
  have hfl : flipL n l (x, y) = sortD (fltK l (x, y) m ++ [((oth n l (x, y)).1, (oth n l (x, y)).2)]) := by
    rw [← hl, fltK_exch]
    rfl
  have Hfl := Lib.hid hfl
  clear h hl ht hm hfl
  go_enter Try.func66, Try.ntmps66
  go_upto_region 2 with fail
  obtain ⟨wa, hwa⟩ : ∃ wa, wa = w.alloc (.cells #[.int .i64 x, .int .i64 y] 40) := ⟨_, rfl⟩
  have b0 : wa.cell? ⟨w.heap.size, 0, none⟩ = some (.int .i64 x) := by rw [hwa]; simp [go_sem]
  have b1 : wa.cell? ⟨w.heap.size, 1, none⟩ = some (.int .i64 y) := by rw [hwa]; simp [go_sem]
  have hba : Below w.heap.size w wa := by rw [hwa]; exact (Below.refl _ _).alloc (Nat.le_refl _) _
  have hsz : wa.heap.size = w.heap.size + 1 := by rw [hwa]; simp
  rw [← hwa]
  clear hwa
  have Hba := Lib.hid hba
  clear hba
  go_wp2
  go_loopw [7, 9, 12] (fun v _ i wr => ∃ (k : Nat) (A' : Option Addr) (c' : Nat), k ≤ m ∧ i = .int .i64 k ∧ v = .slice A' (fltK l (x, y) k).length c' ∧ wr.ownsRow wa.heap.size 40 2 (.slice A' (fltK l (x, y) k).length c') (fltK l (x, y) k).length (dcs (fltK l (x, y) k)) ∧ Below wa.heap.size wa wr) (fun _ _ i _ => m - (intOf i).toNat)
  case atStart => exact ⟨0, none, 0, Nat.zero_le _, rfl, by rw [fltK_zero]; rfl, by rw [fltK_zero]; exact World.ownsRow_nil _ _ _ _, Below.refl _ _⟩
  case round =>
    obtain ⟨k, A', c', hk, rfl, rfl, ho, hb⟩ := hrel
    have hd := below_kept Hba.out (by omega) hb
    have q0 := cell_kept hb b0
    have q1 := cell_kept hb b1
    have hsz := hb.size
    have hwr : w.heap.size < wr.heap.size := by omega
    by_cases hlt : k < m
    · obtain ⟨b, off, rfl, hbB, hc⟩ := H.out.below (hd.mono hB) (by have := Hl.out; omega)
      obtain ⟨g0, g1⟩ := hc k (by rw [Hl.out]; exact hlt)
      have i0 : (0 : Int) ≤ (k : Int) := by omega
      have i1 : (k : Int) < (m : Int) := by omega
      have hhit := fltK_hit (l := l) (d := (x, y)) (k := k) (by rw [Hl.out]; exact hlt)
      have hmiss := fltK_miss (l := l) (d := (x, y)) (k := k) (by rw [Hl.out]; exact hlt)
      have hle := fltK_le l (x, y) k
      generalize hL : fltK l (x, y) k = L at *
      generalize l.getD k (0, 0) = d at *
      obtain ⟨u, v⟩ := d
      dsimp only at g0 g1
      have Hhit := Lib.hid hhit
      have Hmiss := Lib.hid hmiss
      have HL := Lib.hid hL
      have ho2 := ho.alloc (.cells #[.int .i64 u, .int .i64 v] 40)
      have hb2 := hb.alloc hb.size (.cells #[.int .i64 u, .int .i64 v] 40)
      have Ho2 := Lib.hid ho2
      have Hb2 := Lib.hid hb2
      have hl9 : L.length ≤ 1000000 := by omega
      clear hc hhit hmiss hL ho hb ho2 hb2 hd
      have hmissy : (u, v) = (x, y) → Hid (fltK l (x, y) (k + 1) = L) := fun e => Lib.hid (Hmiss.out e)
      have hhity : (u, v) ≠ (x, y) → Hid (fltK l (x, y) (k + 1) = L ++ [(u, v)] ∧ (fltK l (x, y) (k + 1)).length = L.length + 1) := fun e => Lib.hid ⟨Hhit.out e, by rw [Hhit.out e]; simp⟩
      by_cases hx : u = x
      · by_cases hy : v = y
        · have HE := hmissy (by rw [hx, hy])
          subst hx hy
          clear hmissy hhity
          go_wp2
          go_roundw
          case rel => exact ⟨k + 1, A', c', by omega, by go_num, by rw [HE.out], by rw [HE.out]; exact Ho2.out, Hb2.out⟩
          case measure => simp [intOf]; omega
        · have HE := hhity (fun e => by injection e with e1 e2; exact hy e2)
          subst hx
          have hy' : (v == y) = false := by simpa using hy
          have ho3 := Ho2.out.alloc (.cells #[.int .i64 u, .int .i64 v] 40)
          have hb3 := Hb2.out.alloc Hb2.out.size (.cells #[.int .i64 u, .int .i64 v] 40)
          have Hb3 := Lib.hid hb3
          clear hmissy hhity hb3
          go_wp2_with (at_builtin; refine append1Dn _ rfl _ _ rfl wa.heap.size (.slice A' L.length c') L.length L rfl rfl ho3 (wr.heap.size + 1) u v rfl ?c1 ?c2 hl9 Hb3.out.size ?_; (case c1 => simp [go_sem]); (case c2 => simp [go_sem]); intro A3 c3 w9 own3 hg3)
          have hb10 := below_grown Hb3.out hg3 (Nat.le_refl _) (fun j hj => (ho3.lt j hj).1)
          clear hg3 ho3
          go_wp2
          go_roundw
          case rel => exact ⟨k + 1, A3, c3, by omega, by go_num, by rw [HE.out.2], by rw [HE.out.2, HE.out.1]; exact own3, hb10⟩
          case measure => simp [intOf]; omega
      · have HE := hhity (fun e => by injection e with e1 e2; exact hx e1)
        have hx' : (u == x) = false := by simpa using hx
        have ho3 := Ho2.out.alloc (.cells #[.int .i64 u, .int .i64 v] 40)
        have hb3 := Hb2.out.alloc Hb2.out.size (.cells #[.int .i64 u, .int .i64 v] 40)
        have Hb3 := Lib.hid hb3
        clear hmissy hhity hb3
        go_wp2_with (at_builtin; refine append1Dn _ rfl _ _ rfl wa.heap.size (.slice A' L.length c') L.length L rfl rfl ho3 (wr.heap.size + 1) u v rfl ?c1 ?c2 hl9 Hb3.out.size ?_; (case c1 => simp [go_sem]); (case c2 => simp [go_sem]); intro A3 c3 w9 own3 hg3)
        have hb10 := below_grown Hb3.out hg3 (Nat.le_refl _) (fun j hj => (ho3.lt j hj).1)
        clear hg3 ho3
        go_wp2
        go_roundw
        case rel => exact ⟨k + 1, A3, c3, by omega, by go_num, by rw [HE.out.2], by rw [HE.out.2, HE.out.1]; exact own3, hb10⟩
        case measure => simp [intOf]; omega
    · obtain rfl : k = m := by omega
      have hle := fltK_le l (x, y) k
      have Ho := Lib.hid ho
      have Hb := Lib.hid hb
      have Hd := Lib.hid hd
      clear ho hb hd b0 b1
      generalize hL : fltK l (x, y) k = L at *
      have HL := Lib.hid hL
      clear hL
      go_wp2_with fail
      refine (spec_flOther n A k c B l x y wr (H.out.below (Hd.out.mono hB)) Hl.out (by omega) Ht.out Hm.out).mono ?_
      rintro e w5 ⟨rfl, hb5⟩
      generalize (oth n l (x, y)).1 = o1 at *
      generalize (oth n l (x, y)).2 = o2 at *
      have ho3 := (own_kept Ho.out hb5).alloc (.cells #[.int .i64 o1, .int .i64 o2] 40)
      have hb3 := (below_kept Hb.out (Nat.le_refl _) hb5)
      have hb4 := hb3.alloc hb3.size (.cells #[.int .i64 o1, .int .i64 o2] 40)
      have Hb4 := Lib.hid hb4
      have hl9 : L.length ≤ 1000000 := by omega
      clear hb5 hb3 hb4 q0 q1
      go_wp2_with (at_builtin; refine append1Dn _ rfl _ _ rfl wa.heap.size (.slice A' L.length c') L.length L rfl rfl ho3 w5.heap.size o1 o2 rfl ?c1 ?c2 hl9 Hb4.out.size ?_; (case c1 => simp [go_sem]); (case c2 => simp [go_sem]); intro A3 c3 w9 own3 hg3)
      have hb10 := below_grown Hb4.out hg3 (Nat.le_refl _) (fun j hj => (ho3.lt j hj).1)
      have Hb10 := Lib.hid hb10
      have hsl := SlD.of_own own3
      have Hsl := Lib.hid hsl
      have hL1 : (L ++ [(o1, o2)]).length = L.length + 1 := by simp
      have HL1 := Lib.hid hL1
      clear hg3 ho3 hb10 own3 hsl hL1
      refine (spec_poSorted_n A3 (L.length + 1) c3 w9.heap.size (L ++ [(o1, o2)]) w9 HL1.out Hsl.out (Nat.le_refl _) (by omega)).mono ?_
      rintro e w2 ⟨A9, c9, rfl, o9, b9⟩
      have hres : GivD w (flipL n l (x, y)) (.returned (.slice A9 (sortD (L ++ [(o1, o2)])).length c9)) w2 := by
        rw [Hfl.out]
        exact ⟨A9, c9, rfl, o9.mono (Nat.le_trans Hba.out.size Hb10.out.size), below_kept (below_kept Hba.out (by omega) Hb10.out) (Nat.le_refl _) b9⟩
      have Hres := Lib.hid hres
      clear hres o9 b9
      go_wp2
      go_ret
      exact Hres.out
end Go.Proofs.Ytbpaaoeefcebeaa
