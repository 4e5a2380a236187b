/- The model's flOther, flMake, OtherDiagonal, FlipDiagonal. -/
import Derived.Test.YtbpaaoeefcebeaaFliS
import Derived.Test.YtbpaaoeefcebeaaFliO
import Derived.Test.YtbpaaoeefcebeaaTriS
import Derived.Test.YtbpaaoeefcebeaaBx2
namespace Go.Proofs.Ytbpaaoeefcebeaa
set_option linter.unusedVariables false
open Go.RowKit

theorem spec_l1Least_q (a b : Int) (w : World) : Calls Try.prog 101 #[.int .i64 a, .int .i64 b] w fun e w' => e = .returned (.int .i64 (min a b)) ∧ ∃ z, w' = w.drewN z := (spec_l1Least a b w).mono fun _ _ h => ⟨h.1, 0, h.2.symm⟩
theorem spec_l1Most_q (a b : Int) (w : World) : Calls Try.prog 102 #[.int .i64 a, .int .i64 b] w fun e w' => e = .returned (.int .i64 (max a b)) ∧ ∃ z, w' = w.drewN z := (spec_l1Most a b w).mono fun _ _ h => ⟨h.1, 0, h.2.symm⟩

def lowK (e : Int × Int) (k : Nat) : Int := if (k : Int) ≤ e.1 then -1 else e.1
def highK (e : Int × Int) (k : Nat) : Int := if (k : Int) ≤ e.2 then -1 else e.2
theorem lowK_zero {e : Int × Int} (h : 0 ≤ e.1) : lowK e 0 = -1 := by unfold lowK; rw [if_pos (by simpa using h)]
theorem highK_zero {e : Int × Int} (h : 0 ≤ e.2) : highK e 0 = -1 := by unfold highK; rw [if_pos (by simpa using h)]
theorem lowK_miss {e : Int × Int} {k : Nat} (h : ¬(k : Int) = e.1) : lowK e (k + 1) = lowK e k := by
  unfold lowK
  by_cases a : (k : Int) ≤ e.1
  · rw [if_pos (by omega), if_pos a]
  · rw [if_neg (by omega), if_neg a]
theorem highK_miss {e : Int × Int} {k : Nat} (h : ¬(k : Int) = e.2) : highK e (k + 1) = highK e k := by
  unfold highK
  by_cases a : (k : Int) ≤ e.2
  · rw [if_pos (by omega), if_pos a]
  · rw [if_neg (by omega), if_neg a]
theorem lowK_hit {e : Int × Int} {k : Nat} (h : (k : Int) = e.1) : lowK e k = -1 ∧ lowK e (k + 1) = k := by
  unfold lowK
  rw [if_pos (by omega), if_neg (by omega)]
  exact ⟨rfl, h.symm⟩
theorem highK_hit {e : Int × Int} {k : Nat} (h : (k : Int) = e.2) (h12 : e.1 < e.2) : lowK e k = e.1 ∧ highK e (k + 1) = k := by
  unfold lowK highK
  rw [if_neg (by omega), if_neg (by omega)]
  exact ⟨rfl, h.symm⟩
theorem lowK_all {e : Int × Int} {n : Nat} (h : e.1 < n) : lowK e n = e.1 := by unfold lowK; rw [if_neg (by omega)]
theorem highK_all {e : Int × Int} {n : Nat} (h : e.2 < n) : highK e n = e.2 := by unfold highK; rw [if_neg (by omega)]

set_option maxRecDepth 100000 in
set_option maxHeartbeats 3200000 in
theorem spec_flOther (n : Nat) (A : Option Addr) (m c B : Nat) (l : List (Int × Int)) (x y : Int) (w : World) (h : SlD w B A l) (hl : l.length = m) (hB : B ≤ w.heap.size) (ht : Tri n l) (hm : (x, y) ∈ l) :
    Calls Try.prog 68 #[.int .i64 n, .slice A m c, .agg #[.int .i64 x, .int .i64 y]] w fun e w' => e = .returned (.agg #[.int .i64 (oth n l (x, y)).1, .int .i64 (oth n l (x, y)).2]) ∧ Below w.heap.size w w' := by
  have ho := oth_is ht hm
  have hdg := ht.dg _ hm
  dsimp only at hdg
  have hml : m ≤ 12 := by have := ht.len; have := ht.n12; omega
  have hn3 := ht.n3
  have hn12 := ht.n12
  generalize oth n l (x, y) = e at *
  have HO := Lib.hid ho
  have H := Lib.hid h
  have Hl := Lib.hid hl
  have z0 := ho.low
  have z1 := ho.mid
  have z2 := ho.high
  have z3 := ho.pos
  dsimp only at z3
  obtain ⟨d0, d1, d2, d3⟩ := hdg
  have HT := Lib.hid ht
  clear ho h hl ht hm
  go_enter Try.func68, Try.ntmps68
  go_upto_region 1 with fail
  obtain ⟨w2, hw2⟩ : ∃ w2, w2 = (w.alloc (.cells #[.int .i64 x, .int .i64 y] 40)).alloc (.cells #[.int .i64 0, .int .i64 0] 40) := ⟨_, rfl⟩
  have hb0 : Bx2 w2 w.heap.size x y := by rw [hw2]; exact (Bx2.new w _ x y).alloc _
  have hb1 : Bx2 w2 (w.heap.size + 1) 0 0 := by
    have := Bx2.new (w.alloc (.cells #[.int .i64 x, .int .i64 y] 40)) 40 0 0
    rw [hw2]
    simpa using this
  have hb2 : Below w.heap.size w w2 := by rw [hw2]; exact ((Below.refl _ _).alloc (Nat.le_refl _) _).alloc (by simp) _
  have hsz2 : w2.heap.size = w.heap.size + 2 := by rw [hw2]; simp
  rw [← hw2]
  clear hw2
  have Hb2 := Lib.hid hb2
  have D := Lib.hid hb0
  have R := Lib.hid hb1
  clear hb2 hb0 hb1
  have hs1 : Bx2 (w2.alloc (.cells #[.int .i64 (-1), .int .i64 (-1)] 40)) w2.heap.size (lowK e 0) (highK e 0) := by rw [lowK_zero z0, highK_zero (by omega)]; exact Bx2.new _ _ _ _
  have hs2 : Below w2.heap.size w2 (w2.alloc (.cells #[.int .i64 (-1), .int .i64 (-1)] 40)) := (Below.refl _ _).alloc (Nat.le_refl _) _
  have Hs1 := Lib.hid hs1
  have Hs2 := Lib.hid hs2
  clear hs1 hs2
  go_wp2
  go_loopw [8, 9, 10, 11, 12] (fun i _ _ _ _ wr => ∃ k : Nat, k ≤ n ∧ i = .int .i64 k ∧ Bx2 wr w2.heap.size (lowK e k) (highK e k) ∧ Below w2.heap.size w2 wr) (fun i _ _ _ _ _ => n - (intOf i).toNat)
  case atStart => exact ⟨0, Nat.zero_le _, rfl, Hs1.out, Hs2.out⟩
  case round =>
    obtain ⟨k, hk, rfl, hbx, hb⟩ := hrel
    have hd := below_kept Hb2.out (by omega) hb
    have D0 := D.out.kept hb
    have R0 := R.out.kept hb
    have hsz := hb.size
    have Hb := Lib.hid hb
    have Hd := Lib.hid hd
    have Hbx := Lib.hid hbx
    clear Hs1 Hs2
    by_cases hlt : k < n
    · have i0 : (0 : Int) ≤ (k : Int) := by omega
      have i1 : (k : Int) < (n : Int) := by omega
      have htip := HO.out.tip k (by omega) (by omega)
      have hmiss : ¬(k : Int) = e.1 → ¬(k : Int) = e.2 → lowK e (k + 1) = lowK e k ∧ highK e (k + 1) = highK e k := fun h1 h2 => ⟨lowK_miss h1, highK_miss h2⟩
      have Hmiss := Lib.hid hmiss
      obtain ⟨⟨c0, c1⟩, _, _⟩ := D0
      clear hmiss hb hd R0 hbx
      by_cases hk1 : (k : Int) = x
      · have e1 : ((k : Int) == x) = true := by simpa using hk1
        have hE := Hmiss.out (by omega) (by omega)
        have HE := Lib.hid hE
        clear hk1 hE htip
        go_wp2
        go_roundw
        case rel => exact ⟨k + 1, by omega, by go_num, by rw [HE.out.1, HE.out.2]; exact Hbx.out, Hb.out⟩
        case measure => simp [intOf]; omega
      · have e1 : ((k : Int) == x) = false := by simpa using hk1
        by_cases hk2 : (k : Int) = y
        · have e2 : ((k : Int) == y) = true := by simpa using hk2
          have hE := Hmiss.out (by omega) (by omega)
          have HE := Lib.hid hE
          clear hk1 hk2 hE htip
          go_wp2
          go_roundw
          case rel => exact ⟨k + 1, by omega, by go_num, by rw [HE.out.1, HE.out.2]; exact Hbx.out, Hb.out⟩
          case measure => simp [intOf]; omega
        · have e2 : ((k : Int) == y) = false := by simpa using hk2
          have a0 : 0 ≤ min (k : Int) x := by omega
          have a1 : min (k : Int) x < n := by omega
          have a2 : 0 ≤ max (k : Int) x := by omega
          have a3 : max (k : Int) x < n := by omega
          have a4 : 0 ≤ min (k : Int) y := by omega
          have a5 : min (k : Int) y < n := by omega
          have a6 : 0 ≤ max (k : Int) y := by omega
          have a7 : max (k : Int) y < n := by omega
          unfold tipB at htip
          dsimp only at htip
          have Htip := Lib.hid htip
          clear hk1 hk2 htip
          go_wp2
          go_quiet ((first
            | (go_at_call 101; with_reducible exact Calls.quiet_of (spec_l1Least_q _ _ _))
            | (go_at_call 102; with_reducible exact Calls.quiet_of (spec_l1Most_q _ _ _))))
          have Hbx1 := Lib.hid (Hbx.out.drewN nq)
          have Hb1 := Lib.hid (below_drewN Hb.out nq)
          have Hd1 := Lib.hid (below_drewN Hd.out nq)
          replace c0 : (wr.drewN nq).cell? ⟨w.heap.size, 0, none⟩ = some (.int .i64 x) := c0
          replace c1 : (wr.drewN nq).cell? ⟨w.heap.size, 1, none⟩ = some (.int .i64 y) := c1
          replace hsz : w2.heap.size ≤ (wr.drewN nq).heap.size := hsz
          clear Hbx Hb Hd
          generalize wr.drewN nq = wd at *
          go_wp2
          go_quiet ((first
            | (go_at_call 101; with_reducible exact Calls.quiet_of (spec_l1Least_q _ _ _))
            | (go_at_call 102; with_reducible exact Calls.quiet_of (spec_l1Most_q _ _ _))))
          have Hbx2 := Lib.hid (Hbx1.out.drewN nq)
          have Hb2' := Lib.hid (below_drewN Hb1.out nq)
          have Hd2 := Lib.hid (below_drewN Hd1.out nq)
          have hs2 : w2.heap.size ≤ (wd.drewN nq).heap.size := hsz
          clear Hbx1 Hb1 Hd1 c0 c1 hsz
          generalize wd.drewN nq = we at *
          generalize min (k : Int) x = t1 at *
          generalize max (k : Int) x = t2 at *
          generalize min (k : Int) y = t3 at *
          generalize max (k : Int) y = t4 at *
          go_wp2_with fail
          refine (spec_poJoined n A m c B l t1 t2 _ we (H.out.below (Hd2.out.mono hB)) Hl.out (by omega) (by omega) ⟨hn3, hn12⟩ ⟨a0, a1⟩ ⟨a2, a3⟩ rfl).mono ?_
          rintro e' w5 ⟨rfl, hb5⟩
          have Hbx3 := Lib.hid (Hbx2.out.kept hb5)
          have Hb3 := Lib.hid (below_kept Hb2'.out (Nat.le_refl _) hb5)
          have Hd3 := Lib.hid (below_kept Hd2.out (Nat.le_refl _) hb5)
          have hs3 : w2.heap.size ≤ w5.heap.size := Hb3.out.size
          clear Hbx2 Hb2' Hd2 hs2 hb5
          by_cases hj : Jd n l t1 t2
          · have ej : decide (Jd n l t1 t2) = true := by simpa using hj
            have htip := Htip.out
            rw [ej] at htip ⊢
            have Htip2 := Lib.hid htip
            clear ej hj htip Htip
            go_wp2_with fail
            refine (spec_poJoined n A m c B l t3 t4 _ w5 (H.out.below (Hd3.out.mono hB)) Hl.out (by omega) (by omega) ⟨hn3, hn12⟩ ⟨a4, a5⟩ ⟨a6, a7⟩ rfl).mono ?_
            rintro e' w6 ⟨rfl, hb6⟩
            have Hbx4 := Lib.hid (Hbx3.out.kept hb6)
            have Hb4 := Lib.hid (below_kept Hb3.out (Nat.le_refl _) hb6)
            have Hd4 := Lib.hid (below_kept Hd3.out (Nat.le_refl _) hb6)
            have hs4 : w2.heap.size ≤ w6.heap.size := Hb4.out.size
            clear Hbx3 Hb3 Hd3 hs3 hb6
            by_cases hj : Jd n l t3 t4
            · have ej : decide (Jd n l t3 t4) = true := by simpa using hj
              have htip := Htip2.out
              rw [ej] at htip ⊢
              have hke := htip.1 rfl
              clear ej hj htip Htip2
              have hbx := Hbx4.out
              rw [hsz2] at hbx
              have hlt4 := hbx.lt
              rcases hke with hke | hke
              · have hE := lowK_hit hke
                have hE2 := highK_miss (e := e) (k := k) (by omega)
                rw [hE.1] at hbx
                have HN : Hid (Bx2 (w6.setCell ⟨w.heap.size + 2, 0, none⟩ (.int .i64 k)) w2.heap.size (lowK e (k + 1)) (highK e (k + 1)) ∧ Below w2.heap.size w2 (w6.setCell ⟨w.heap.size + 2, 0, none⟩ (.int .i64 k))) := Lib.hid (by
                  rw [hE.2, hE2, hsz2]
                  refine ⟨hbx.set0 k, ?_⟩
                  have := Hb4.out
                  rw [hsz2] at this
                  exact this.setCell (p := ⟨w.heap.size + 2, 0, none⟩) (Nat.le_refl _) _)
                obtain ⟨⟨p0, p1⟩, g0, g1⟩ := hbx
                clear hke hE hE2
                go_wp2
                go_roundw
                case rel => exact ⟨k + 1, by omega, by go_num, HN.out.1, HN.out.2⟩
                case measure => simp [intOf]; omega
              · have hE := highK_hit hke z1
                have hE2 := lowK_miss (e := e) (k := k) (by omega)
                rw [hE.1] at hbx
                have HN : Hid (Bx2 (w6.setCell ⟨w.heap.size + 2, 1, none⟩ (.int .i64 k)) w2.heap.size (lowK e (k + 1)) (highK e (k + 1)) ∧ Below w2.heap.size w2 (w6.setCell ⟨w.heap.size + 2, 1, none⟩ (.int .i64 k))) := Lib.hid (by
                  rw [hE.2, hE2, hE.1, hsz2]
                  refine ⟨hbx.set1 k, ?_⟩
                  have := Hb4.out
                  rw [hsz2] at this
                  exact this.setCell (p := ⟨w.heap.size + 2, 1, none⟩) (Nat.le_refl _) _)
                have z0' : ¬e.1 < 0 := by omega
                obtain ⟨⟨p0, p1⟩, g0, g1⟩ := hbx
                clear hke hE hE2
                go_wp2
                go_roundw
                case rel => exact ⟨k + 1, by omega, by go_num, HN.out.1, HN.out.2⟩
                case measure => simp [intOf]; omega
            · have ej : decide (Jd n l t3 t4) = false := by simpa using hj
              have htip := Htip2.out
              rw [ej] at htip ⊢
              have hE := Hmiss.out (fun e' => by have := htip.2 (Or.inl e'); simp at this) (fun e' => by have := htip.2 (Or.inr e'); simp at this)
              have HE := Lib.hid hE
              clear ej hj hE htip Htip2
              go_wp2
              go_roundw
              case rel => exact ⟨k + 1, by omega, by go_num, by rw [HE.out.1, HE.out.2]; exact Hbx4.out, Hb4.out⟩
              case measure => simp [intOf]; omega
          · have ej : decide (Jd n l t1 t2) = false := by simpa using hj
            have htip := Htip.out
            rw [ej] at htip ⊢
            have hE := Hmiss.out (fun e' => by have := htip.2 (Or.inl e'); simp at this) (fun e' => by have := htip.2 (Or.inr e'); simp at this)
            have HE := Lib.hid hE
            clear ej hj hE htip Htip
            go_wp2
            go_roundw
            case rel => exact ⟨k + 1, by omega, by go_num, by rw [HE.out.1, HE.out.2]; exact Hbx3.out, Hb3.out⟩
            case measure => simp [intOf]; omega
    · obtain rfl : k = n := by omega
      have hE1 := lowK_all (e := e) (n := k) (by omega)
      have hE2 := highK_all (e := e) (n := k) z2
      rw [hE1, hE2] at hbx
      obtain ⟨⟨p0, p1⟩, _, _⟩ := hbx
      rw [hsz2] at p0 p1
      obtain ⟨⟨v0, v1⟩, g0, g1⟩ := R0
      have hw1 : w.heap.size + 1 < wr.heap.size := by omega
      have hw2 : w2.heap.size < wr.heap.size := Hbx.out.lt
      obtain ⟨p, q⟩ := e
      dsimp only at *
      clear hb hd D0 D R Hb2 HO H hE1 hE2
      have HD := Lib.hid ((Hd.out.setCell (p := ⟨w.heap.size + 1, 0, none⟩) (by show w.heap.size ≤ w.heap.size + 1; omega) (.int .i64 p)).setCell (p := ⟨w.heap.size + 1, 1, none⟩) (by show w.heap.size ≤ w.heap.size + 1; omega) (.int .i64 q))
      go_wp2
      exact bodyPost_ret (v := .agg #[.int .i64 p, .int .i64 q]) (by simp [results, Try.results68, go_sem, v0, v1]) rfl ⟨rfl, HD.out⟩
end Go.Proofs.Ytbpaaoeefcebeaa
