/- The program's otherDiagonal and flipped. -/
import Derived.Test.YtbpaaoeefcebeaaFliI
import Derived.Test.YtbpaaoeefcebeaaAppI
import Derived.Test.YtbpaaoeefcebeaaAppS
import Derived.Test.YtbpaaoeefcebeaaTriJ
import Derived.Deep.Cut
namespace Go.Proofs.Ytbpaaoeefcebeaa
set_option linter.unusedVariables false
open Go.RowKit

/-- the tips among the first k corners -/
def tipsK (e : Int × Int) (k : Nat) : List Int := if (k : Int) ≤ e.1 then [] else if (k : Int) ≤ e.2 then [e.1] else [e.1, e.2]
theorem tipsK_zero {e : Int × Int} (h : 0 ≤ e.1) : tipsK e 0 = [] := by unfold tipsK; rw [if_pos (by simpa using h)]
theorem tipsK_hit {e : Int × Int} {k : Nat} (h : e.1 < e.2) (hk : (k : Int) = e.1 ∨ (k : Int) = e.2) : tipsK e (k + 1) = tipsK e k ++ [(k : Int)] := by
  unfold tipsK
  rcases hk with hk | hk
  · rw [if_neg (by omega), if_pos (by omega), if_pos (by omega)]; simp [hk]
  · rw [if_neg (by omega), if_neg (by omega), if_neg (by omega), if_pos (by omega)]; simp [hk]
theorem tipsK_miss {e : Int × Int} {k : Nat} (h1 : ¬(k : Int) = e.1) (h2 : ¬(k : Int) = e.2) : tipsK e (k + 1) = tipsK e k := by
  unfold tipsK
  by_cases a : (k : Int) ≤ e.1
  · rw [if_pos (by omega), if_pos a]
  · rw [if_neg (by omega), if_neg a]
    by_cases b : (k : Int) ≤ e.2
    · rw [if_pos (by omega), if_pos b]
    · rw [if_neg (by omega), if_neg b]
theorem tipsK_all {e : Int × Int} {n : Nat} (h : e.1 < e.2) (hn : e.2 < n) : tipsK e n = [e.1, e.2] := by
  unfold tipsK
  rw [if_neg (by omega), if_neg (by omega)]
theorem tipsK_le (e : Int × Int) (k : Nat) : (tipsK e k).length ≤ 2 := by
  unfold tipsK
  split
  · simp
  · split <;> simp

set_option maxRecDepth 100000 in
set_option maxHeartbeats 3200000 in
theorem impl_otherDiagonal (n : Nat) (A : Option Addr) (m c B : Nat) (l : List (Int × Int)) (x y : Int) (w : World) (h : SlD w B A l) (hl : l.length = m) (hB : B ≤ w.heap.size) (ht : Tri n l) (hm : (x, y) ∈ l) :
    Calls Try.prog 70 #[.int .i64 n, .slice A m c, .agg #[.int .i64 x, .int .i64 y]] w fun e w' => e = .returned (.agg #[.int .i64 (oth n l (x, y)).1, .int .i64 (oth n l (x, y)).2]) ∧ Below w.heap.size w w' := by
  have ho := oth_is ht hm
  have hdg := ht.dg _ hm
  dsimp only at hdg
  have hml : m ≤ 12 := by have := ht.len; have := ht.n12; omega
  have hn3 := ht.n3
  have hn12 := ht.n12
  generalize oth n l (x, y) = e at *
  have HO := Lib.hid ho
  have H := Lib.hid h
  have Hl := Lib.hid hl
  have z0 := ho.low
  have z1 := ho.mid
  have z2 := ho.high
  obtain ⟨d0, d1, d2, d3⟩ := hdg
  clear ho h hl ht hm
  go_enter Try.func70, Try.ntmps70
  go_upto_region 2 with fail
  obtain ⟨w2, hw2⟩ : ∃ w2, w2 = (w.alloc (.cells #[.int .i64 x, .int .i64 y] 40)).alloc (.cells #[.int .i64 0, .int .i64 0] 40) := ⟨_, rfl⟩
  have b0 : w2.cell? ⟨w.heap.size, 0, none⟩ = some (.int .i64 x) := by rw [hw2]; simp [go_sem]
  have b1 : w2.cell? ⟨w.heap.size, 1, none⟩ = some (.int .i64 y) := by rw [hw2]; simp [go_sem]
  have r0 : w2.cell? ⟨w.heap.size + 1, 0, none⟩ = some (.int .i64 0) := by rw [hw2]; simp [go_sem]
  have r1 : w2.cell? ⟨w.heap.size + 1, 1, none⟩ = some (.int .i64 0) := by rw [hw2]; simp [go_sem]
  have f0 : w2.frozen? ⟨w.heap.size + 1, 0, none⟩ = false := by rw [hw2]; simp [go_sem]
  have f1 : w2.frozen? ⟨w.heap.size + 1, 1, none⟩ = false := by rw [hw2]; simp [go_sem]
  have hb2 : Below w.heap.size w w2 := by rw [hw2]; exact ((Below.refl _ _).alloc (Nat.le_refl _) _).alloc (by simp) _
  have hsz2 : w2.heap.size = w.heap.size + 2 := by rw [hw2]; simp
  rw [← hw2]
  clear hw2
  have Hb2 := Lib.hid hb2
  clear hb2
  go_wp2
  go_loopw [7, 8, 10] (fun v _ i wr => ∃ (k : Nat) (A' : Option Addr) (c' : Nat), k ≤ n ∧ i = .int .i64 k ∧ v = .slice A' (tipsK e k).length c' ∧ wr.ownsRow w2.heap.size 3 1 (.slice A' (tipsK e k).length c') (tipsK e k).length (ics (tipsK e k)) ∧ Below w2.heap.size w2 wr) (fun _ _ i _ => n - (intOf i).toNat)
  case atStart => exact ⟨0, none, 0, Nat.zero_le _, rfl, by rw [tipsK_zero z0]; rfl, by rw [tipsK_zero z0]; exact World.ownsRow_nil _ _ _ _, Below.refl _ _⟩
  case round =>
    obtain ⟨k, A', c', hk, rfl, rfl, ho, hb⟩ := hrel
    have hd := below_kept Hb2.out (by omega) hb
    have q0 := cell_kept hb b0
    have q1 := cell_kept hb b1
    have hsz := hb.size
    by_cases hlt : k < n
    · have i0 : (0 : Int) ≤ (k : Int) := by omega
      have i1 : (k : Int) < (n : Int) := by omega
      have htip := HO.out.tip k (by omega) (by omega)
      have hmiss := tipsK_miss (e := e) (k := k)
      have hhit := tipsK_hit (e := e) (k := k) z1
      have hle := tipsK_le e k
      have Hmiss := Lib.hid hmiss
      have Hhit := Lib.hid hhit
      have Ho := Lib.hid ho
      have Hb := Lib.hid hb
      generalize hL : tipsK e k = L at *
      have HL := Lib.hid hL
      have hkx0 : 0 ≤ min (k : Int) x := by omega
      have hkx1 : min (k : Int) x < n := by omega
      have hky0 : 0 ≤ min (k : Int) y := by omega
      have hky1 : min (k : Int) y < n := by omega
      unfold tipB at htip
      dsimp only at htip
      clear hmiss hhit ho hb hL
      go_wp2_with fail
      refine (impl_join _ _ _).mono ?_
      rintro e1 w5 ⟨rfl, hb5⟩
      have Ho5 := Lib.hid (own_kept Ho.out hb5)
      have Hd5 := Lib.hid (below_kept hd (Nat.le_refl _) hb5)
      have Hb5 := Lib.hid (below_kept Hb.out (Nat.le_refl _) hb5)
      have p0 := cell_kept hb5 q0
      have p1 := cell_kept hb5 q1
      have s5 := hb5.size
      clear hb5 hd q0 q1 Ho Hb
      generalize min (k : Int) x = u at *
      generalize max (k : Int) x = u2 at *
      go_wp2_with fail
      refine (impl_isSide n A m c B l u u2 _ w5 (H.out.below (Hd5.out.mono hB)) Hl.out (by omega) (by omega) ⟨hn3, hn12⟩ ⟨hkx0, hkx1⟩ rfl).mono ?_
      rintro e1 w6 ⟨rfl, hb6⟩
      have Ho6 := Lib.hid (own_kept Ho5.out hb6)
      have Hd6 := Lib.hid (below_kept Hd5.out (Nat.le_refl _) hb6)
      have Hb6 := Lib.hid (below_kept Hb5.out (Nat.le_refl _) hb6)
      have p2 := cell_kept hb6 p0
      have p3 := cell_kept hb6 p1
      have s6 := hb6.size
      clear hb6 p0 p1 Ho5 Hd5 Hb5
      by_cases hj : Jd n l u u2
      · have ej : decide (Jd n l u u2) = true := by simpa using hj
        rw [ej] at htip ⊢
        clear ej hj
        go_wp2_with fail
        refine (impl_join _ _ _).mono ?_
        rintro e1 w7 ⟨rfl, hb7⟩
        have Ho7 := Lib.hid (own_kept Ho6.out hb7)
        have Hd7 := Lib.hid (below_kept Hd6.out (Nat.le_refl _) hb7)
        have Hb7 := Lib.hid (below_kept Hb6.out (Nat.le_refl _) hb7)
        have s7 := hb7.size
        clear hb7 p2 p3 Ho6 Hd6 Hb6
        generalize min (k : Int) y = t at *
        generalize max (k : Int) y = t2 at *
        go_wp2_with fail
        refine (impl_isSide n A m c B l t t2 _ w7 (H.out.below (Hd7.out.mono hB)) Hl.out (by omega) (by omega) ⟨hn3, hn12⟩ ⟨hky0, hky1⟩ rfl).mono ?_
        rintro e1 w8 ⟨rfl, hb8⟩
        have Ho8 := Lib.hid (own_kept Ho7.out hb8)
        have Hd8 := Lib.hid (below_kept Hd7.out (Nat.le_refl _) hb8)
        have Hb8 := Lib.hid (below_kept Hb7.out (Nat.le_refl _) hb8)
        have s8 := hb8.size
        clear hb8 Ho7 Hd7 Hb7
        by_cases hj : Jd n l t t2
        · have ej : decide (Jd n l t t2) = true := by simpa using hj
          rw [ej] at htip ⊢
          have hke := htip.1 rfl
          have hE : tipsK e (k + 1) = L ++ [(k : Int)] := Hhit.out hke
          have HE := Lib.hid hE
          have hlen : (tipsK e (k + 1)).length = L.length + 1 := by rw [hE]; simp
          have Hlen := Lib.hid hlen
          have own2 := Ho8.out.alloc (.cells #[.int .i64 k] 3)
          have hb9 := Hb8.out.alloc Hb8.out.size (.cells #[.int .i64 k] 3)
          have Hb9 := Lib.hid hb9
          have hl9 : L.length ≤ 1000000 := by omega
          clear ej hj hE htip hlen hb9 hke
          go_wp2_with (at_builtin; refine append1In _ rfl _ _ rfl w2.heap.size (.slice A' L.length c') L.length L rfl rfl own2 w8.heap.size k rfl ?c1 ?c2 Hb9.out.size ?_; (case c1 => simp [go_sem]); (case c2 => exact hl9); intro A3 c3 w9 own3 hg3)
          have hb10 := below_grown Hb9.out hg3 (Nat.le_refl _) (fun j hj => (own2.lt j hj).1)
          clear hg3 own2
          go_wp2
          go_roundw
          case rel => exact ⟨k + 1, A3, c3, by omega, by go_num, by rw [Hlen.out], by rw [Hlen.out, HE.out]; exact own3, hb10⟩
          case measure => simp [intOf]; omega
        · have ej : decide (Jd n l t t2) = false := by simpa using hj
          rw [ej] at htip ⊢
          have hE : tipsK e (k + 1) = L := Hmiss.out (fun e' => by have := htip.2 (Or.inl e'); simp at this) (fun e' => by have := htip.2 (Or.inr e'); simp at this)
          have HE := Lib.hid hE
          clear ej hj hE htip
          go_wp2
          go_roundw
          case rel => exact ⟨k + 1, A', c', by omega, by go_num, by rw [HE.out], by rw [HE.out]; exact Ho8.out, Hb8.out⟩
          case measure => simp [intOf]; omega
      · have ej : decide (Jd n l u u2) = false := by simpa using hj
        rw [ej] at htip ⊢
        have hE : tipsK e (k + 1) = L := Hmiss.out (fun e' => by have := htip.2 (Or.inl e'); simp at this) (fun e' => by have := htip.2 (Or.inr e'); simp at this)
        have HE := Lib.hid hE
        clear ej hj hE htip
        go_wp2
        go_roundw
        case rel => exact ⟨k + 1, A', c', by omega, by go_num, by rw [HE.out], by rw [HE.out]; exact Ho6.out, Hb6.out⟩
        case measure => simp [intOf]; omega
    · obtain rfl : k = n := by omega
      have hall := tipsK_all z1 z2
      rw [hall] at ho ⊢
      obtain ⟨b, off, hA, hbB, hc⟩ := SlI.of_own (l := [e.1, e.2]) ho (by simp)
      subst hA
      have t0 := hc 0 (by simp)
      have t1 := hc 1 (by simp)
      simp only [Nat.add_zero, List.getD_cons_zero, List.getD_cons_succ] at t0 t1
      have v0 := cell_kept hb r0
      have v1 := cell_kept hb r1
      obtain ⟨_, hfz, _⟩ := bcell hb
      have g0 := (hfz (w.heap.size + 1) 0 (by omega)).trans f0
      have g1 := (hfz (w.heap.size + 1) 1 (by omega)).trans f1
      have hbw : w.heap.size + 1 < wr.heap.size := by omega
      have Hd := Lib.hid hd
      obtain ⟨p, q⟩ := e
      dsimp only at *
      clear hc hfz ho hall hb q0 q1 HO H hd Hb2 b0 b1 r0 r1 f0 f1
      go_wp2
      go_big_region
      have hd2 : Below w.heap.size w (((wr.setCell ⟨w.heap.size + 1, 0, none⟩ (.int .i64 p)).setCell ⟨w.heap.size + 1, 1, none⟩ (.int .i64 q)).drew) := ((Hd.out.setCell (p := ⟨w.heap.size + 1, 0, none⟩) (by show w.heap.size ≤ w.heap.size + 1; omega) _).setCell (p := ⟨w.heap.size + 1, 1, none⟩) (by show w.heap.size ≤ w.heap.size + 1; omega) _).drew
      have HD := Lib.hid hd2
      clear hd2
      go_wp2
      exact bodyPost_ret (v := .agg #[.int .i64 p, .int .i64 q]) (by simp [results, Try.results70, go_sem, v0, v1]) rfl ⟨rfl, HD.out⟩

set_option maxRecDepth 100000 in
set_option maxHeartbeats 800000 in
theorem slices_CloneD (A : Option Addr) (n c B : Nat) (l : List (Int × Int)) (w : World) (hl : l.length = n) (h : SlD w B A l) (hB : B ≤ w.heap.size) (h0 : 0 < n) (hn : n ≤ 1000000) :
    Calls Try.prog 81 #[.slice A n c] w (GivD w l) := by
  obtain ⟨b, off, rfl, hb, hc⟩ := h (by omega)
  have he : ∀ w : World, (binOp .eql 27 (.slice (some ⟨b, off, none⟩) n c) (.slice none 0 0)).run Try.prog w = .ok (.bool false) w := fun w => Lib.run_eql_slice_nil w 27 40 (some ⟨b, off, none⟩) n c 0 0 Try.underlying27
  have own0 := own_made w (B := w.heap.size) (Nat.le_refl _)
  have hs : SlD (w.alloc (.cells #[] 40)) B (some ⟨b, off, none⟩) l := h.below (((Below.refl _ _).alloc (Nat.le_refl _) _).mono hB)
  have Hl := Lib.hid hl
  have Hs := Lib.hid hs
  clear hc h hl hs
  go_enter Try.func81, Try.ntmps81
  go_wp2_with (at_builtin; refine wpList_appendN _ rfl _ _ rfl w.heap.size (.slice (some ⟨w.heap.size, 0, none⟩) 0 0) 0 [] rfl rfl own0 (some ⟨b, off, none⟩) n c l B n (by omega) rfl Hl.out Hs.out (by omega) hn (by simp) ?_; intro A' c' w1 hown1 hgrow1)
  have hb1 : Below w.heap.size w w1 := ((Below.refl w.heap.size w).alloc (Nat.le_refl _) (.cells #[] 40)).grown hgrow1 (by simp) (above_blk (Nat.le_refl _))
  rw [List.nil_append] at hown1
  have hres : GivD w l (.returned (.slice A' n c')) w1 := ⟨A', c', by rw [Hl.out], by rw [Hl.out]; exact hown1, hb1⟩
  have Hres := Lib.hid hres
  clear hres hown1 hgrow1 hb1 own0
  go_wp2
  go_ret
  exact Hres.out

theorem set_perm {l : List (Int × Int)} (hnd : l.Nodup) {k : Nat} (hk : k < l.length) {d e : Int × Int} (hd : l.getD k (0, 0) = d) : (l.set k e).Perm (l.filter (fun f => decide (f ≠ d)) ++ [e]) := by
  rw [getD_at hk] at hd
  subst hd
  have h1 : l.Perm (l[k] :: (l.take k ++ l.drop (k + 1))) := by
    conv => lhs; rw [← List.take_append_drop k l, List.drop_eq_getElem_cons hk]
    exact List.perm_middle
  have h2 := perm_erase hnd (List.getElem_mem hk)
  have h3 := List.Perm.cons_inv (h1.symm.trans h2)
  rw [List.set_eq_take_append_cons_drop, if_pos hk]
  exact List.perm_middle.trans ((h3.cons e).trans (List.perm_append_comm (l₁ := [e])))
theorem set_sort {l : List (Int × Int)} (hnd : l.Nodup) {k : Nat} (hk : k < l.length) {d e : Int × Int} (hd : l.getD k (0, 0) = d) : sortD (l.set k e) = exch l d e :=
  sortD_unique (sortD_spec _).1 ((sortD_spec _).2.trans (set_perm hnd hk hd))

set_option maxRecDepth 100000 in
set_option maxHeartbeats 3200000 in
theorem impl_exchanged (A : Option Addr) (m c B : Nat) (l : List (Int × Int)) (x y u v : Int) (w : World) (h : SlD w B A l) (hl : l.length = m) (hB : B ≤ w.heap.size) (hm : m ≤ 12) (hnd : l.Nodup) (hmem : (x, y) ∈ l) :
    Calls Try.prog 67 #[.slice A m c, .agg #[.int .i64 x, .int .i64 y], .agg #[.int .i64 u, .int .i64 v]] w (GivD w (exch l (x, y) (u, v))) := by
  have hm0 : 0 < m := by rw [← hl]; exact List.length_pos_of_mem hmem
  have H := Lib.hid h
  have Hl := Lib.hid hl
  have Hnd := Lib.hid hnd
  have Hmem := Lib.hid hmem
  clear h hl hnd hmem
  go_enter Try.func67, Try.ntmps67
  go_upto_region 1 with fail
  obtain ⟨wa, hwa⟩ : ∃ wa, wa = (w.alloc (.cells #[.int .i64 x, .int .i64 y] 40)).alloc (.cells #[.int .i64 u, .int .i64 v] 40) := ⟨_, rfl⟩
  have b0 : wa.cell? ⟨w.heap.size, 0, none⟩ = some (.int .i64 x) := by rw [hwa]; simp [go_sem]
  have b1 : wa.cell? ⟨w.heap.size, 1, none⟩ = some (.int .i64 y) := by rw [hwa]; simp [go_sem]
  have b2 : wa.cell? ⟨w.heap.size + 1, 0, none⟩ = some (.int .i64 u) := by rw [hwa]; simp [go_sem]
  have b3 : wa.cell? ⟨w.heap.size + 1, 1, none⟩ = some (.int .i64 v) := by rw [hwa]; simp [go_sem]
  have hba : Below w.heap.size w wa := by rw [hwa]; exact ((Below.refl _ _).alloc (Nat.le_refl _) _).alloc (by simp) _
  have hsz2 : wa.heap.size = w.heap.size + 2 := by rw [hwa]; simp
  rw [← hwa]
  clear hwa
  have Hba := Lib.hid hba
  clear hba
  go_wp2_with fail
  refine (slices_CloneD A m c B l wa Hl.out (H.out.below (Hba.out.mono hB)) (by omega) hm0 (by omega)).mono ?_
  rintro e w1 ⟨A1, c1, rfl, ho, hb1⟩
  rw [Hl.out] at ho ⊢
  obtain ⟨g, cap, hv, hgb, hgl⟩ := ho.form hm0
  obtain ⟨eA, eC⟩ : A1 = some ⟨g, 0, none⟩ ∧ c1 = cap := by injection hv with e1 e2 e3; exact ⟨e1, e3⟩
  subst eA
  subst eC
  clear hv
  have Ho := Lib.hid ho
  have Hd1 := Lib.hid (below_kept Hba.out (by omega) hb1)
  have q0 := cell_kept hb1 b0
  have q1 := cell_kept hb1 b1
  have q2 := cell_kept hb1 b2
  have q3 := cell_kept hb1 b3
  have hw1 : w.heap.size + 1 < w1.heap.size := by have := hb1.size; omega
  have hgw : w.heap.size + 1 < g := by omega
  have hn0 : w.heap.size ≠ g := by omega
  have hn1 : w.heap.size + 1 ≠ g := by omega
  have hB1 : B ≤ w1.heap.size := by omega
  clear ho hb1 b0 b1 b2 b3
  go_wp2_with fail
  go_region_held3 (fun w' => w'.cell? ⟨w.heap.size, 0, none⟩ = some (.int .i64 x) ∧ w'.cell? ⟨w.heap.size, 1, none⟩ = some (.int .i64 y) ∧
      w'.cell? ⟨w.heap.size + 1, 0, none⟩ = some (.int .i64 u) ∧ w'.cell? ⟨w.heap.size + 1, 1, none⟩ = some (.int .i64 v) ∧ Below w.heap.size w w')
    (first
      | assumption
      | exact kept4 (by assumption) hb1 (Nat.le_refl _)
      | exact far4 (by assumption) (stored2 o1 k hkl _ _).2 (Nat.le_refl _) (by omega) hn0 hn0 hn1 hn1
      | exact ⟨q0, q1, q2, q3, Hd1.out.drew⟩)
    (first
      | (go_at_call 98; refine (slices_IndexD A m c B l x y _ (H.out.below (Hd1.out.drew.mono hB)) Hl.out hB1 (by omega)).mono ?_; rintro e w2 ⟨r, rfl, hi, hb1⟩
         obtain ⟨k, hkl, rfl, hg⟩ : ∃ k : Nat, k < l.length ∧ r = (k : Int) ∧ l.getD k (0, 0) = (x, y) := (by
           rcases hi with ⟨k, h1, h2, h3, _⟩ | ⟨_, h2⟩
           · exact ⟨k, h1, h2, h3⟩
           · exact absurd Hmem.out h2)
         have o1 := own_kept (Ho.out).drew hb1
         have cc0 : w2.cell? ⟨g, k * 2, none⟩ = some (.int .i64 (l.getD k (0, 0)).1) := by rw [o1.cellAt _ (by have := Hl.out; omega), dcs_get0 _ _ hkl]
         have cc1 : w2.cell? ⟨g, k * 2 + 1, none⟩ = some (.int .i64 (l.getD k (0, 0)).2) := by rw [o1.cellAt _ (by have := Hl.out; omega), dcs_get1 _ _ hkl]
         have f0 := o1.frozenAt (k * 2)
         have f1 := o1.frozenAt (k * 2 + 1)
         have kk0 : (0 : Int) ≤ (k : Int) := by omega
         have kk1 : (k : Int) < (m : Int) := by have := Hl.out; omega
         generalize (l.getD k (0, 0)).1 = zz0 at *
         generalize (l.getD k (0, 0)).2 = zz1 at *))
  rename_i hS
  have hbF := hS.2.2.2.2
  obtain ⟨hs1, hs2⟩ := stored2 o1 k hkl u v
  have hsort := set_sort (e := (u, v)) Hnd.out hkl hg
  have Hsort := Lib.hid hsort
  have hls : (l.set k (u, v)).length = m := by rw [List.length_set]; exact Hl.out
  have Hls := Lib.hid hls
  have Hs1 := Lib.hid hs1
  have HbF := Lib.hid hbF
  clear o1 cc0 cc1 f0 f1 hb1 hs2 hS q0 q1 q2 q3 hi hg hsort hls hs1 hbF
  go_wp2_with fail
  refine (slices_SortFunc_n g _ m wa.heap.size 40 (l.set k (u, v)) _ Hls.out Hs1.out hm).mono ?_
  rintro e w3 ⟨rfl, o9, b9⟩
  have hbG := below_grown HbF.out b9 (Nat.le_refl _) (by intro k hk; injection hk with hk; omega)
  have hln : (sortD (l.set k (u, v))).length = m := by rw [sortD_length, Hls.out]
  rw [Hsort.out] at o9 hln
  have hres : GivD w (exch l (x, y) (u, v)) (.returned (.slice (some ⟨g, 0, none⟩) m c1)) w3 := ⟨some ⟨g, 0, none⟩, _, by rw [hln], by rw [hln]; exact o9.mono (by omega), hbG⟩
  have Hres := Lib.hid hres
  clear hres o9 b9 hbG hln
  go_wp2
  go_ret
  exact Hres.out

set_option maxRecDepth 100000 in
set_option maxHeartbeats 1600000 in
theorem impl_flipped (n : Nat) (A : Option Addr) (m c B : Nat) (l : List (Int × Int)) (x y : Int) (w : World) (h : SlD w B A l) (hl : l.length = m) (hB : B ≤ w.heap.size) (ht : Tri n l) (hm : (x, y) ∈ l) :
    Calls Try.prog 80 #[.int .i64 n, .slice A m c, .agg #[.int .i64 x, .int .i64 y]] w (GivD w (flipL n l (x, y))) := by
  have hml : m ≤ 12 := by have := ht.len; have := ht.n12; omega
  have H := Lib.hid h
  have Hl := Lib.hid hl
  have Ht := Lib.hid ht
  have Hm := Lib.hid hm
  have hfl : flipL n l (x, y) = exch l (x, y) ((oth n l (x, y)).1, (oth n l (x, y)).2) := rfl
  have Hfl := Lib.hid hfl
  clear h hl ht hm hfl
  go_enter Try.func80, Try.ntmps80
  go_upto_region 1 with fail
  obtain ⟨wa, hwa⟩ : ∃ wa, wa = w.alloc (.cells #[.int .i64 x, .int .i64 y] 40) := ⟨_, rfl⟩
  have b0 : wa.cell? ⟨w.heap.size, 0, none⟩ = some (.int .i64 x) := by rw [hwa]; simp [go_sem]
  have b1 : wa.cell? ⟨w.heap.size, 1, none⟩ = some (.int .i64 y) := by rw [hwa]; simp [go_sem]
  have hba : Below w.heap.size w wa := by rw [hwa]; exact (Below.refl _ _).alloc (Nat.le_refl _) _
  have hsz : w.heap.size ≤ wa.heap.size := hba.size
  rw [← hwa]
  clear hwa
  have Hba := Lib.hid hba
  have hBa : B ≤ wa.heap.size := Nat.le_trans hB hsz
  clear hba
  go_wp2_with fail
  go_region_held3 (fun w' => w'.cell? ⟨w.heap.size, 0, none⟩ = some (.int .i64 x) ∧ w'.cell? ⟨w.heap.size, 1, none⟩ = some (.int .i64 y) ∧ Below w.heap.size w w')
    (first
      | assumption
      | exact kept2 (by assumption) hb1 (Nat.le_refl _)
      | exact ⟨b0, b1, Hba.out.drew⟩)
    (first
      | (go_at_call 70; refine (impl_otherDiagonal n A m c B l x y _ (H.out.below (Hba.out.drew.mono hB)) Hl.out hBa Ht.out Hm.out).mono ?_; rintro e w2 ⟨rfl, hb1⟩
         have hd2 := below_kept Hba.out.drew (Nat.le_refl _) hb1
         have Hd2 := Lib.hid hd2
         have hs2 : B ≤ w2.heap.size := Nat.le_trans hB hd2.size
         clear hd2)
      | (go_at_call 67; refine (impl_exchanged A m c B l x y _ _ _ (H.out.below (Hd2.out.mono hB)) Hl.out hs2 hml Ht.out.nodup Hm.out).mono ?_; rintro e w3 ⟨A9, c9, rfl, ho, hb1⟩))
  rename_i hS
  have hd3 := below_kept Hd2.out (Nat.le_refl _) hb1
  have hres : GivD w (flipL n l (x, y)) (.returned (.slice A9 (exch l (x, y) ((oth n l (x, y)).1, (oth n l (x, y)).2)).length c9)) w3 := by
    rw [Hfl.out]
    exact ⟨A9, c9, rfl, ho.mono Hd2.out.size, hd3⟩
  have Hres := Lib.hid hres
  clear hres ho hb1 hd3 hS
  go_wp2
  go_ret
  exact Hres.out

theorem retD_none {w w' : World} (hb : Below w.heap.size w w') : RetD w [] false (.returned (.tuple #[.slice none 0 0, .bool false])) w' := ⟨none, 0, rfl, World.ownsRow_nil _ _ _ _, hb⟩
/-- the diagonal that comes in; none of another list -/
noncomputable def othR (n : Int) (l : List (Int × Int)) (d : Int × Int) : Int × Int := if (triB n l && decide (d ∈ l)) = true then oth n l d else (0, 0)
noncomputable def flipR (n : Int) (l : List (Int × Int)) (d : Int × Int) : List (Int × Int) := if (triB n l && decide (d ∈ l)) = true then flipL n l d else []
theorem othR_no {n : Int} {l : List (Int × Int)} {d : Int × Int} (h : (triB n l && decide (d ∈ l)) = false) : othR n l d = (0, 0) := by unfold othR; rw [h]; rfl
theorem othR_yes {n : Int} {l : List (Int × Int)} {d : Int × Int} (h : (triB n l && decide (d ∈ l)) = true) : othR n l d = oth n l d := by unfold othR; rw [if_pos h]
theorem flipR_no {n : Int} {l : List (Int × Int)} {d : Int × Int} (h : (triB n l && decide (d ∈ l)) = false) : flipR n l d = [] := by unfold flipR; rw [h]; rfl
theorem flipR_yes {n : Int} {l : List (Int × Int)} {d : Int × Int} (h : (triB n l && decide (d ∈ l)) = true) : flipR n l d = flipL n l d := by unfold flipR; rw [if_pos h]
def OthEnd (n : Int) (l : List (Int × Int)) (d : Int × Int) (w : World) (e : Ending) (w' : World) : Prop :=
  e = .returned (.tuple #[.agg #[.int .i64 (othR n l d).1, .int .i64 (othR n l d).2], .bool (triB n l && decide (d ∈ l))]) ∧ Below w.heap.size w w'

set_option maxRecDepth 100000 in
set_option maxHeartbeats 1600000 in
theorem impl_OtherDiagonal (n : Int) (A : Option Addr) (c B : Nat) (l : List (Int × Int)) (x y : Int) (w : World) (h : SlD w B A l) (hB : B ≤ w.heap.size) (hl : l.length ≤ 1048576) (hlc : l.length ≤ c) :
    Calls Try.prog 33 #[.int .i64 n, .slice A l.length c, .agg #[.int .i64 x, .int .i64 y]] w (OthEnd n l (x, y) w) := by
  have H := Lib.hid h
  clear h
  go_enter Try.func33, Try.ntmps33
  go_upto_region 1 with fail
  obtain ⟨wa, hwa⟩ : ∃ wa, wa = (w.alloc (.cells #[.int .i64 x, .int .i64 y] 40)).alloc (.cells #[.int .i64 0, .int .i64 0] 40) := ⟨_, rfl⟩
  have b0 : wa.cell? ⟨w.heap.size, 0, none⟩ = some (.int .i64 x) := by rw [hwa]; simp [go_sem]
  have b1 : wa.cell? ⟨w.heap.size, 1, none⟩ = some (.int .i64 y) := by rw [hwa]; simp [go_sem]
  have r0 : wa.cell? ⟨w.heap.size + 1, 0, none⟩ = some (.int .i64 0) := by rw [hwa]; simp [go_sem]
  have r1 : wa.cell? ⟨w.heap.size + 1, 1, none⟩ = some (.int .i64 0) := by rw [hwa]; simp [go_sem]
  have f0 : wa.frozen? ⟨w.heap.size + 1, 0, none⟩ = false := by rw [hwa]; simp [go_sem]
  have f1 : wa.frozen? ⟨w.heap.size + 1, 1, none⟩ = false := by rw [hwa]; simp [go_sem]
  have hba : Below w.heap.size w wa := by rw [hwa]; exact ((Below.refl _ _).alloc (Nat.le_refl _) _).alloc (by simp) _
  have hsz2 : wa.heap.size = w.heap.size + 2 := by rw [hwa]; simp
  rw [← hwa]
  clear hwa
  have Hba := Lib.hid hba
  clear hba
  go_wp2_with fail
  refine (impl_IsTriangulation n A c B l _ (H.out.below (Hba.out.mono hB)) (by omega) hl hlc).mono ?_
  rintro e w1 ⟨rfl, hb1⟩
  have Hd1 := Lib.hid (below_kept Hba.out (Nat.le_refl _) hb1)
  have q0 := cell_kept hb1 b0
  have q1 := cell_kept hb1 b1
  have v0 := cell_kept hb1 r0
  have v1 := cell_kept hb1 r1
  obtain ⟨_, hfz, hs1⟩ := bcell hb1
  have g0 := (hfz (w.heap.size + 1) 0 (by omega)).trans f0
  have g1 := (hfz (w.heap.size + 1) 1 (by omega)).trans f1
  have hw1 : w.heap.size + 1 < w1.heap.size := by omega
  clear hb1 b0 b1 r0 r1 f0 f1 hfz
  cases ht : triB n l
  · have e0 : (triB n l && decide ((x, y) ∈ l)) = false := by rw [ht]; rfl
    have hres : ∀ w', Below w.heap.size w w' → OthEnd n l (x, y) w (.returned (.tuple #[.agg #[.int .i64 0, .int .i64 0], .bool false])) w' := fun w' hb => by
      unfold OthEnd
      rw [othR_no e0, e0]
      exact ⟨rfl, hb⟩
    have Hres := Lib.hid hres
    clear hres e0
    go_wp2
    refine bodyPost_ret (v := .tuple #[.agg #[.int .i64 0, .int .i64 0], .bool false]) (by simp [results, Try.results33, go_sem, v0, v1]) rfl (Hres.out _ ?_)
    exact (Hd1.out.setCell (p := ⟨w.heap.size + 1, 0, none⟩) (by show w.heap.size ≤ w.heap.size + 1; omega) _).setCell (p := ⟨w.heap.size + 1, 1, none⟩) (by show w.heap.size ≤ w.heap.size + 1; omega) _
  · have T := tri_of ht
    have HT := Lib.hid T
    obtain ⟨m, rfl⟩ := Int.eq_ofNat_of_zero_le (show 0 ≤ n by have := T.n3; omega)
    have hl12 : l.length ≤ 12 := by have := T.len; have := T.n12; omega
    clear T
    by_cases hm : (x, y) ∈ l
    · have e1 : decide ((x, y) ∈ l) = true := by simpa using hm
      have e0 : (triB m l && decide ((x, y) ∈ l)) = true := by rw [ht, e1]; rfl
      have hres : ∀ w', Below w.heap.size w w' → OthEnd m l (x, y) w (.returned (.tuple #[.agg #[.int .i64 (oth m l (x, y)).1, .int .i64 (oth m l (x, y)).2], .bool true])) w' := fun w' hb => by
        unfold OthEnd
        rw [othR_yes e0, e0]
        exact ⟨rfl, hb⟩
      have Hres := Lib.hid hres
      have Hm := Lib.hid hm
      clear hres e0 hm ht
      go_wp2_with fail
      refine (slices_ContainsD A l.length c B l x y true _ (H.out.below (Hd1.out.mono hB)) rfl (by omega) (by omega) e1).mono ?_
      rintro e w2 ⟨rfl, hb2⟩
      have Hd2 := Lib.hid (below_kept Hd1.out (Nat.le_refl _) hb2)
      have p0 := cell_kept hb2 q0
      have p1 := cell_kept hb2 q1
      have v2 := cell_kept hb2 v0
      have v3 := cell_kept hb2 v1
      obtain ⟨_, hfz, hs2⟩ := bcell hb2
      have g2 := (hfz (w.heap.size + 1) 0 (by omega)).trans g0
      have g3 := (hfz (w.heap.size + 1) 1 (by omega)).trans g1
      have hw2 : w.heap.size + 1 < w2.heap.size := by omega
      clear hb2 q0 q1 v0 v1 g0 g1 hfz
      go_wp2_with fail
      refine (impl_otherDiagonal m A l.length c B l x y w2 (H.out.below (Hd2.out.mono hB)) rfl (by omega) HT.out Hm.out).mono ?_
      rintro e w3 ⟨rfl, hb3⟩
      have Hd3 := Lib.hid (below_kept Hd2.out (Nat.le_refl _) hb3)
      have v4 := cell_kept hb3 v2
      have v5 := cell_kept hb3 v3
      obtain ⟨_, hfz, hs3⟩ := bcell hb3
      have g4 := (hfz (w.heap.size + 1) 0 (by omega)).trans g2
      have g5 := (hfz (w.heap.size + 1) 1 (by omega)).trans g3
      have hw3 : w.heap.size + 1 < w3.heap.size := by omega
      clear hb3 p0 p1 v2 v3 g2 g3 hfz
      generalize (oth m l (x, y)).1 = o1 at *
      generalize (oth m l (x, y)).2 = o2 at *
      go_wp2
      refine bodyPost_ret (v := .tuple #[.agg #[.int .i64 o1, .int .i64 o2], .bool true]) (by simp [results, Try.results33, go_sem, v4, v5]) rfl (Hres.out _ ?_)
      exact (Hd3.out.setCell (p := ⟨w.heap.size + 1, 0, none⟩) (by show w.heap.size ≤ w.heap.size + 1; omega) _).setCell (p := ⟨w.heap.size + 1, 1, none⟩) (by show w.heap.size ≤ w.heap.size + 1; omega) _
    · have e1 : decide ((x, y) ∈ l) = false := by simpa using hm
      have e0 : (triB m l && decide ((x, y) ∈ l)) = false := by rw [ht, e1]; rfl
      have hres : ∀ w', Below w.heap.size w w' → OthEnd m l (x, y) w (.returned (.tuple #[.agg #[.int .i64 0, .int .i64 0], .bool false])) w' := fun w' hb => by
        unfold OthEnd
        rw [othR_no e0, e0]
        exact ⟨rfl, hb⟩
      have Hres := Lib.hid hres
      clear hres e0 hm ht
      go_wp2_with fail
      refine (slices_ContainsD A l.length c B l x y false _ (H.out.below (Hd1.out.mono hB)) rfl (by omega) (by omega) e1).mono ?_
      rintro e w2 ⟨rfl, hb2⟩
      have Hd2 := Lib.hid (below_kept Hd1.out (Nat.le_refl _) hb2)
      have v2 := cell_kept hb2 v0
      have v3 := cell_kept hb2 v1
      obtain ⟨_, hfz, hs2⟩ := bcell hb2
      have g2 := (hfz (w.heap.size + 1) 0 (by omega)).trans g0
      have g3 := (hfz (w.heap.size + 1) 1 (by omega)).trans g1
      have hw2 : w.heap.size + 1 < w2.heap.size := by omega
      clear hb2 q0 q1 v0 v1 g0 g1 hfz
      go_wp2
      refine bodyPost_ret (v := .tuple #[.agg #[.int .i64 0, .int .i64 0], .bool false]) (by simp [results, Try.results33, go_sem, v2, v3]) rfl (Hres.out _ ?_)
      exact (Hd2.out.setCell (p := ⟨w.heap.size + 1, 0, none⟩) (by show w.heap.size ≤ w.heap.size + 1; omega) _).setCell (p := ⟨w.heap.size + 1, 1, none⟩) (by show w.heap.size ≤ w.heap.size + 1; omega) _

set_option maxRecDepth 100000 in
set_option maxHeartbeats 1600000 in
theorem impl_FlipDiagonal (n : Int) (A : Option Addr) (c B : Nat) (l : List (Int × Int)) (x y : Int) (w : World) (h : SlD w B A l) (hB : B ≤ w.heap.size) (hl : l.length ≤ 1048576) (hlc : l.length ≤ c) :
    Calls Try.prog 30 #[.int .i64 n, .slice A l.length c, .agg #[.int .i64 x, .int .i64 y]] w (RetD w (flipR n l (x, y)) (triB n l && decide ((x, y) ∈ l))) := by
  have H := Lib.hid h
  clear h
  have hba : Below w.heap.size w (w.alloc (.cells #[.int .i64 x, .int .i64 y] 40)) := (Below.refl _ _).alloc (Nat.le_refl _) _
  have Hba := Lib.hid hba
  clear hba
  go_enter Try.func30, Try.ntmps30
  go_wp2_with fail
  refine (impl_OtherDiagonal n A c B l x y _ (H.out.below (Hba.out.mono hB)) (Nat.le_trans hB Hba.out.size) hl hlc).mono ?_
  rintro e w1 ⟨rfl, hb1⟩
  have Hd1 := Lib.hid (below_kept Hba.out (Nat.le_refl _) hb1)
  have q0 : w1.cell? ⟨w.heap.size, 0, none⟩ = some (.int .i64 x) := cell_kept hb1 (by simp [go_sem])
  have q1 : w1.cell? ⟨w.heap.size, 1, none⟩ = some (.int .i64 y) := cell_kept hb1 (by simp [go_sem])
  have hw1 : w.heap.size < w1.heap.size := World.block_lt_of_cell? w1 _ q0
  clear hb1
  cases e0 : (triB n l && decide ((x, y) ∈ l))
  · rw [othR_no e0]
    have hres : ∀ w', Below w.heap.size w w' → RetD w (flipR n l (x, y)) (triB n l && decide ((x, y) ∈ l)) (.returned (.tuple #[.slice none 0 0, .bool false])) w' := fun w' hb => by
      rw [flipR_no e0, e0]
      exact retD_none hb
    have hb2 := Hd1.out.alloc Hd1.out.size (.cells #[.int .i64 0, .int .i64 0] 40)
    have Hres := Lib.hid (hres _ hb2)
    clear hres hb2
    go_wp2
    go_ret2
    exact Hres.out
  · rw [othR_yes e0]
    have hE := flipR_yes e0
    have E0 := Lib.hid e0
    rw [Bool.and_eq_true] at e0
    have T := tri_of e0.1
    have hm : (x, y) ∈ l := by simpa using e0.2
    have hl12 : l.length ≤ 12 := by have := T.len; have := T.n12; omega
    have hfl : flipL n l (x, y) = exch l (x, y) ((oth n l (x, y)).1, (oth n l (x, y)).2) := rfl
    have hnd := T.nodup
    rw [hfl] at hE
    clear hfl T e0
    generalize (oth n l (x, y)).1 = o1 at *
    generalize (oth n l (x, y)).2 = o2 at *
    have hb2 := Hd1.out.alloc Hd1.out.size (.cells #[.int .i64 o1, .int .i64 o2] 40)
    have Hb2 := Lib.hid hb2
    have Hm := Lib.hid hm
    have HE := Lib.hid hE
    have Hnd := Lib.hid hnd
    clear hb2 hm hE hnd
    go_wp2_with fail
    refine (impl_exchanged A l.length c B l x y o1 o2 _ (H.out.below (Hb2.out.mono hB)) rfl (Nat.le_trans hB Hb2.out.size) hl12 Hnd.out Hm.out).mono ?_
    rintro e w3 ⟨A9, c9, rfl, ho, hb3⟩
    have hres : RetD w (flipR n l (x, y)) (triB n l && decide ((x, y) ∈ l)) (.returned (.tuple #[.slice A9 (exch l (x, y) (o1, o2)).length c9, .bool true])) w3 := by
      rw [HE.out, E0.out]
      exact ⟨A9, c9, rfl, ho.mono Hb2.out.size, below_kept Hb2.out (Nat.le_refl _) hb3⟩
    have Hres := Lib.hid hres
    clear hres ho hb3
    go_wp2
    go_ret2
    exact Hres.out
end Go.Proofs.Ytbpaaoeefcebeaa
