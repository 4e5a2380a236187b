/- The program's TriangulationOf and IsQuiddity. -/
import Derived.Test.YtfkkbjbgjmaciaaTriOfI
import Derived.Deep.LoopGhost
import Derived.OwnWalk
import Derived.ChangeKeysEq
namespace Go.Proofs.Ytfkkbjbgjmaciaa
set_option linter.unusedVariables false
open Go.RowKit

theorem Near.mono {b b' : Nat} {l : List Int} (h : Near b l) (hb : b ≤ b') : Near b' l := fun i => by
  have := h i
  omega
theorem slices_SortFunc_n (g cap n base e : Nat) (l : List (Int × Int)) (w : World) (hn : l.length = n) (h : w.ownsRow base e 2 (.slice (some ⟨g, 0, none⟩) n cap) n (dcs l)) (h12 : n ≤ 12) :
    Calls Try.prog 193 #[.slice (some ⟨g, 0, none⟩) n cap, .func (.func 194) #[] #[]] w fun r w' =>
      r = .returned (.tuple #[]) ∧ w'.ownsRow base e 2 (.slice (some ⟨g, 0, none⟩) n cap) n (dcs (sortD l)) ∧ w.grownBy w' (some g) := by
  subst hn
  exact slices_SortFunc g cap base e l w h h12

theorem run_eq3 (x y z : Int) (w : World) : (Op.equalIn 10000 171 (.agg #[.int .i64 x, .int .i64 y, .int .i64 z]) (.agg #[.int .i64 1, .int .i64 1, .int .i64 1])).run Try.prog w = .ok (decide (x = 1 ∧ y = 1 ∧ z = 1)) w := by
  obtain ⟨i0, hi, hz0, hz1, hz2⟩ := info_parts infoI
  rw [run_equalIn_array (d := 9999) w _ _ Try.underlying171 hi]
  have p0 : ∀ (a b c : Value) (w : World), (part 3 #[a, b, c] (0 * Try.prog.cellsOf 3)).run Try.prog w = .ok a w := fun _ _ _ _ => by kernel_rfl
  have p1 : ∀ (a b c : Value) (w : World), (part 3 #[a, b, c] (1 * Try.prog.cellsOf 3)).run Try.prog w = .ok b w := fun _ _ _ _ => by kernel_rfl
  have p2 : ∀ (a b c : Value) (w : World), (part 3 #[a, b, c] (2 * Try.prog.cellsOf 3)).run Try.prog w = .ok c w := fun _ _ _ _ => by kernel_rfl
  have e : ∀ (a b : Int) (w : World), (Op.equalIn 9999 3 (.int .i64 a) (.int .i64 b)).run Try.prog w = .ok (a == b) w := fun a b w => run_equalIn_int w 9998 3 .i64 .i64 a b Try.underlying3
  rw [show List.range 3 = [0, 1, 2] from rfl]
  have key : decide (x = 1 ∧ y = 1 ∧ z = 1) = ((x == 1) && ((y == 1) && (z == 1))) := by rw [Bool.eq_iff_iff]; simp
  rw [key]
  simp only [Op.eqItems, Sem.run_bind, p0, e, Result.andThen_ok]
  generalize (x == 1) = bx
  cases bx
  · simp only [Bool.not_false, if_true, Sem.run_pure, Bool.false_and]
  · simp only [Bool.not_true, Bool.false_eq_true, if_false, Sem.run_bind, p1, e, Result.andThen_ok, Bool.true_and]
    generalize (y == 1) = by1
    cases by1
    · simp only [Bool.not_false, if_true, Sem.run_pure, Bool.false_and]
    · simp only [Bool.not_true, Bool.false_eq_true, if_false, Sem.run_bind, p2, e, Result.andThen_ok, Bool.true_and]
      generalize (z == 1) = bz
      cases bz
      · simp only [Bool.not_false, if_true, Sem.run_pure]
      · simp only [Bool.not_true, Bool.false_eq_true, if_false, Sem.run_pure]

/-- what holds at the head of the search for ears: f of them are still to be cut off -/
def Search (w : World) (l : List Int) (G f : Nat) (v : Value) (wr : World) : Prop :=
  ∃ (N C : List Int) (out : List (Int × Int)) (g' c' : Nat), v = .slice (some ⟨g', 0, none⟩) out.length c' ∧ f + 3 ≤ 12 ∧ N.length = 12 ∧ C.length = 12 ∧ Near (2 * (9 - f)) N ∧ out.length + f ≤ 9 ∧
    ofI f (N.take (f + 3)) (C.take (f + 3)) out = triOf l ∧ Ring wr w.heap.size G ((f + 3 : Nat) : Int) N C ∧ wr.ownsRow w.heap.size 161 2 (.slice (some ⟨g', 0, none⟩) out.length c') out.length (dcs out) ∧ Below w.heap.size w wr

theorem search_start {w w3 : World} {l : List Int} {G : Nat} (hq : couldB l = true) (h3 : 3 ≤ l.length) (h12 : l.length ≤ 12) (hr : Ring w3 w.heap.size G (l.length : Int) (pad l) (iota 12)) {gd c : Nat}
    (ho : w3.ownsRow w.heap.size 161 2 (.slice (some ⟨gd, 0, none⟩) 0 c) 0 []) (hb : Below w.heap.size w w3) : Search w l G (l.length - 3) (.slice (some ⟨gd, 0, none⟩) 0 c) w3 := by
  have e : l.length - 3 + 3 = l.length := by omega
  refine ⟨pad l, iota 12, [], gd, c, rfl, by omega, pad_length l h12, iota_length 12, ?_, by simp; omega, ?_, by rw [e]; exact hr, ho, hb⟩
  · intro i
    have hall : allB l 1 ((l.length : Int) - 2) = true := by
      unfold couldB at hq
      rw [Bool.and_eq_true] at hq
      exact hq.2
    rw [allB_iff] at hall
    by_cases hi : i < l.length
    · have := hall i hi
      have e : (pad l).getD i 0 = l.getD i 0 := by
        unfold pad
        simp only [List.getD_eq_getElem?_getD]
        rw [List.getElem?_append_left hi]
      rw [e]; omega
    · have e : (pad l).getD i 0 = 0 := by
        unfold pad
        simp only [List.getD_eq_getElem?_getD]
        rw [List.getElem?_append_right (by omega), List.getElem?_replicate]
        split <;> rfl
      rw [e]; omega
  · rw [e, pad_take, iota_take 12 l.length h12]
    unfold triOf
    rw [if_pos hq]
/-- an ear at k: the search goes on -/
theorem search_step {w w2 : World} {l : List Int} {G f k : Nat} {N C : List Int} {out : List (Int × Int)} {A3 : Option Addr} {c3 : Nat} (h12 : f + 1 + 3 ≤ 12) (hN : N.length = 12) (hC : C.length = 12) (hnr : Near (2 * (9 - (f + 1))) N)
    (ho9 : out.length + (f + 1) ≤ 9) (hof : ofI (f + 1) (N.take (f + 1 + 3)) (C.take (f + 1 + 3)) out = triOf l) (hk : k < f + 1 + 3) (hat : at1 (N.take (f + 1 + 3)) (f + 1 + 3) = (k : Int))
    (hr : Ring w2 w.heap.size G (((f + 1 + 3 : Nat) : Int) - 1) (cutN N (f + 1 + 3) k) (cutC C (f + 1 + 3) k))
    (ho : w2.ownsRow w.heap.size 161 2 (.slice A3 (out.length + 1) c3) (out.length + 1) (dcs (out ++ [((earD (C.take (f + 1 + 3)) (f + 1 + 3) k).1, (earD (C.take (f + 1 + 3)) (f + 1 + 3) k).2)]))) (hb : Below w.heap.size w w2) :
    Search w l G f (.slice A3 (out.length + 1) c3) w2 := by
  obtain ⟨g', cap, hv, _, _⟩ := ho.form (by omega)
  cases hv
  have hl : (N.take (f + 1 + 3)).length = f + 1 + 3 := by simp; omega
  refine ⟨cutN N (f + 1 + 3) k, cutC C (f + 1 + 3) k, out ++ [earD (C.take (f + 1 + 3)) (f + 1 + 3) k], g', c3, by simp, by omega, by rw [cutN_length _ _ _ hk (by omega)]; exact hN, by rw [cutC_length _ _ _ hk (by omega)]; exact hC, (hnr.cutN _ _).mono (by omega), by simp; omega, ?_, ?_, ?_, hb⟩
  · rw [← hof]
    conv => rhs; unfold ofI
    rw [hl, hat, if_neg (by omega), Int.toNat_natCast]
    have e1 := cutN_take N (f + 1 + 3) k (by omega) hk (by omega)
    have e2 := cutC_take C (f + 1 + 3) k hk (by omega)
    rw [show f + 1 + 3 - 1 = f + 3 by omega] at e1 e2
    rw [e1, e2]
  · rw [show ((f + 3 : Nat) : Int) = ((f + 1 + 3 : Nat) : Int) - 1 by omega]
    exact hr
  · simpa using ho
theorem search_none {l : List Int} {f : Nat} {N C : List Int} {out : List (Int × Int)} (hN : N.length = 12) (h12 : f + 1 + 3 ≤ 12) (hof : ofI (f + 1) (N.take (f + 1 + 3)) (C.take (f + 1 + 3)) out = triOf l) (hat : at1 (N.take (f + 1 + 3)) (f + 1 + 3) < 0) : triOf l = ([], false) := by
  have hl : (N.take (f + 1 + 3)).length = f + 1 + 3 := by simp; omega
  rw [← hof]
  unfold ofI
  rw [hl, if_pos hat]

theorem retD_no {w wr : World} {L : List (Int × Int)} {ok : Bool} (h : (L, ok) = ([], false)) (hb : Below w.heap.size w wr) : RetD w L ok (.returned (.tuple #[.slice none 0 0, .bool false])) wr := by
  cases h
  exact ⟨none, 0, rfl, World.ownsRow_nil _ _ _ _, hb⟩
theorem pair_eta {a : List (Int × Int) × Bool} : (a.1, a.2) = a := rfl

set_option maxRecDepth 100000 in
set_option maxHeartbeats 6400000 in
theorem impl_TriangulationOf (A : Option Addr) (c B : Nat) (l : List Int) (w : World) (h : SlI w B A l) (hB : B ≤ w.heap.size) (hl : l.length ≤ 1048576) (hlc : l.length ≤ c) :
    Calls Try.prog 184 #[.slice A l.length c] w (RetD w (triOf l).1 (triOf l).2) := by
  cases hq : couldB l
  · have hno : triOf l = ([], false) := by unfold triOf; rw [hq]; rfl
    go_enter Try.func184, Try.ntmps184
    go_wp2_with fail
    go_step3
    go_wp2_with fail
    refine (impl_couldBeQuiddity A c B l _ h hB hl).mono ?_
    rintro e w1 ⟨rfl, hb1⟩
    have hres : RetD w (triOf l).1 (triOf l).2 (.returned (.tuple #[.slice none 0 0, .bool false])) w1 := retD_no hno hb1
    have Hres := Lib.hid hres
    clear hres h hb1 hno
    rw [hq]
    go_wp2
    try rw [Exit.noGoto_ret]
    go_ret2
    exact Hres.out
  · have hn : 3 ≤ l.length ∧ l.length ≤ 12 := by
      unfold couldB poB at hq
      simp at hq
      omega
    obtain ⟨hn3, hn12⟩ := hn
    obtain ⟨i0, hi, hz0, hz1, hz2⟩ := info_parts infoD
    have hbytes : i0.bytes * (l.length - 3) ≤ 281474976710656 := by rw [hz2]; omega
    have hmax : l.length - 3 ≤ maxLen := by unfold maxLen; omega
    go_enter Try.func184, Try.ntmps184
    go_wp2_with fail
    go_step3
    go_wp2_with fail
    refine (impl_couldBeQuiddity A c B l _ h hB hl).mono ?_
    rintro e w1 ⟨rfl, hb1⟩
    rw [hq]
    go_wp2_with fail
    refine (impl_ringOf A c B l _ (h.below (hb1.mono hB)) (Nat.le_trans hB hb1.size) hn3 hn12).mono ?_
    rintro e w2 ⟨rfl, hb2⟩
    have hd2 := below_kept hb1 (Nat.le_refl _) hb2
    have HZ : Hid (Blk (w2.alloc (.cells (ics (List.replicate 25 0)).toArray 168)) w2.heap.size 168 (List.replicate 25 0)) := Lib.hid (Blk.new _ _ _)
    have HB : Hid (Below w.heap.size w (w2.alloc (.cells (ics (List.replicate 25 0)).toArray 168))) := Lib.hid (hd2.alloc hd2.size _)
    have hp := pad_length l hn12
    have Hp := Lib.hid hp
    have HQ := Lib.hid hq
    have Hsz := hd2.size
    clear hb1 hb2 hd2 h hp hq
    go_wp2_with (first
      | (refine wpList_store_ring rfl (.tmp 4) (.tmp 12) rfl rfl w2.heap.size (ringL l.length (pad l) (iota 12)) rfl rfl 168 (List.replicate 25 0) HZ.out rfl (ringL_length Hp.out (iota_length 12)) ?_
         intro w3 h3 g3
         have hr3 := Ring.of_heap (base := w.heap.size) (N := pad l) (C := iota 12) h3 Hp.out (iota_length 12) (by omega)
         have hb3 := below_grown HB.out g3 (Nat.le_refl _) (fun k hk => by injection hk with hk; omega)
         have c0 := hr3.c0
         have Hr3 := Lib.hid hr3
         have Hb3 := Lib.hid hb3
         clear g3 HZ HB h3 hr3 hb3)
      | (at_make; refine wpList_make_own _ rfl _ _ _ rfl w.heap.size 161 i0 (.agg #[.int .i64 0, .int .i64 0]) 2 Try.underlying150 hi hz0 hz1 _ _ _ (l.length - 3) rfl rfl (by omega) hbytes hmax Hb3.out.size ?_; intro w4 hown4 hgrow4))
    have hS : Search w l w2.heap.size (l.length - 3) (.slice (some ⟨w3.heap.size, 0, none⟩) 0 (l.length - 3)) w4 :=
      search_start HQ.out hn3 hn12 (own_far Hr3.out.own hgrow4 (fun _ _ e => by cases e)) hown4 (below_grown Hb3.out hgrow4 (Nat.le_refl _) (fun _ e => by cases e))
    have HS := Lib.hid hS
    clear hS hown4 hgrow4 Hr3 Hb3 c0 hbytes hmax hz0 hz1 hz2 hi HQ
    go_step3
    go_wp2
    obtain ⟨G, hG⟩ : ∃ G, G = w2.heap.size := ⟨_, rfl⟩
    rw [← hG] at HS ⊢
    clear hG
    go_loopg [5, 6, 7] (l.length - 3) (fun f s5 s6 s7 wx => Search w l G f s5 wx)
    case atStart => exact HS.out
    case round =>
      clear HS
      obtain ⟨N, C, out, g', c', rfl, h12, hN, hC, hnr, ho9, hof, hr, ho, hb⟩ := hrel
      have HN := Lib.hid hN
      have HC := Lib.hid hC
      have Hnr := Lib.hid hnr
      have Hof := Lib.hid hof
      have Hr := Lib.hid hr
      have Ho := Lib.hid ho
      have Hb := Lib.hid hb
      have c0 := hr.c0
      cases gk with
      | zero =>
        have hla : ∀ (g o : Nat) (w : World), (Instr.arrayAt 171 (.slice (some ⟨g, o, none⟩) 3 12)).run Try.prog w = .ok (.pointer (some ⟨g, o, none⟩)) w := fun _ _ _ => by kernel_rfl
        have n0 := hr.cN hN 0 (by omega)
        have n1 := hr.cN hN 1 (by omega)
        have n2 := hr.cN hN 2 (by omega)
        simp only [Nat.add_zero, Nat.reduceAdd] at n0 n1 n2
        have hrun := run_eq3 (N.getD 0 0) (N.getD 1 0) (N.getD 2 0)
        have hnl : N.take (0 + 3) = [N.getD 0 0, N.getD 1 0, N.getD 2 0] := by
          match N, hN with
          | [_, _, _, _, _, _, _, _, _, _, _, _], _ => rfl
        have hfin : triOf l = if N.getD 0 0 = 1 ∧ N.getD 1 0 = 1 ∧ N.getD 2 0 = 1 then (sortD out, true) else ([], false) := by
          rw [← hof, hnl]
          unfold ofI
          simp
        have Hfin := Lib.hid hfin
        clear hnl hfin
        generalize N.getD 0 0 = x at *
        generalize N.getD 1 0 = y at *
        generalize N.getD 2 0 = z at *
        have hb3 : decide (x = 1 ∧ y = 1 ∧ z = 1) = decide (x = 1 ∧ y = 1 ∧ z = 1) := rfl
        generalize hbb : decide (x = 1 ∧ y = 1 ∧ z = 1) = bb at hrun
        have Hbb := Lib.hid hbb
        clear hbb hb3
        clear hN hC hnr hof hr ho hb
        cases bb
        · have hno : triOf l = ([], false) := by rw [Hfin.out, if_neg (by have := Hbb.out; simpa using this)]
          have hres : RetD w (triOf l).1 (triOf l).2 (.returned (.tuple #[.slice none 0 0, .bool false])) wr := retD_no hno Hb.out
          have Hres := Lib.hid hres
          clear hres hno
          go_wp2_with fail
          try rw [Exit.noGoto_ret]
          go_ret2
          exact Hres.out
        · have hyes : triOf l = (sortD out, true) := by rw [Hfin.out, if_pos (by have := Hbb.out; simpa using this)]
          have Hyes := Lib.hid hyes
          clear hyes
          go_wp2_with fail
          refine (slices_SortFunc_n g' c' out.length w.heap.size 161 out _ rfl Ho.out (by omega)).mono ?_
          rintro e w5 ⟨rfl, o5, g5⟩
          have hres : RetD w (triOf l).1 (triOf l).2 (.returned (.tuple #[.slice (some ⟨g', 0, none⟩) out.length c', .bool true])) w5 := by
            rw [Hyes.out]
            have e := sortD_length out
            refine ⟨some ⟨g', 0, none⟩, c', by rw [e], by rw [e]; exact o5, below_grown Hb.out g5 (Nat.le_refl _) (fun k hk => by injection hk with hk; subst hk; exact (Ho.out.lt _ rfl).1)⟩
          have Hres := Lib.hid hres
          clear hres o5 g5
          go_wp2_with fail
          try rw [Exit.noGoto_ret]
          go_ret2
          exact Hres.out
      | succ f =>
        obtain ⟨m, hm⟩ : ∃ m, m = f + 1 + 3 := ⟨_, rfl⟩
        rw [← hm] at hr hof Hr Hof c0
        have m0 : (0 : Int) ≤ (m : Int) := by omega
        have m1 : (m : Int) ≤ 12 := by omega
        have m2 : (3 : Int) < (m : Int) := by omega
        have Hm := Lib.hid hm
        clear hN hC hnr hof hr ho hb hm
        obtain ⟨wo, rfl⟩ : ∃ wo : World, wo = wr := ⟨_, rfl⟩
        go_wp2
        go_loopg [5, 6, 7, 25] m (fun g2 s5 s6 s7 s25 wy => ∃ k : Nat, k + g2 = m ∧ s25 = .int .i64 k ∧ s5 = .slice (some ⟨g', 0, none⟩) out.length c' ∧ at1 (N.take m) k < 0 ∧ wo = wy)
        case atStart => exact ⟨0, by omega, rfl, rfl, by simp [at1], rfl⟩
        case round =>
          obtain ⟨k, hkg, rfl, rfl, hno, rfl⟩ := hrel
          have Hno := Lib.hid hno
          clear hno
          cases gk with
          | zero =>
            obtain rfl : k = m := by omega
            have hno : triOf l = ([], false) := search_none HN.out h12 (by rw [← Hm.out]; exact Hof.out) (by rw [← Hm.out]; exact Hno.out)
            have hres : RetD w (triOf l).1 (triOf l).2 (.returned (.tuple #[.slice none 0 0, .bool false])) wo := retD_no hno Hb.out
            have Hres := Lib.hid hres
            clear hres hno
            go_wp2_with fail
            try rw [Exit.noGoto_ret]
            go_ret2
            exact Hres.out
          | succ g2 =>
            have hkm : k < m := by omega
            have k0 : (0 : Int) ≤ (k : Int) := by omega
            have k1 : (k : Int) < (m : Int) := by omega
            have n0 := Hr.out.cN HN.out k (by omega)
            have hgt : (N.take m).getD k 0 = N.getD k 0 := take_getD N m k hkm
            by_cases hx : N.getD k 0 = 1
            · have hat : at1 (N.take m) m = (k : Int) := at1_hit (N.take m) k m Hno.out (by rw [hgt]; exact hx) hkm
              rw [hx] at n0
              have Hat := Lib.hid hat
              have hd5 : Near 100 N := Hnr.out.mono (by omega)
              have Hd5 := Lib.hid hd5
              clear hx hgt hat hd5
              go_wp2_with fail
              refine (impl_cut w.heap.size G m k N C _ Hr.out HN.out HC.out Hd5.out (by omega) (by omega) hkm).mono ?_
              rintro e w5 ⟨rfl, hr5, g5⟩
              have ho5 := own_far Ho.out g5 (own_ne Ho.out Hr.out.own (by decide))
              have hGw : w.heap.size ≤ G := (World.ownsRow.lt Hr.out.own _ rfl).1
              have hb5 := below_grown Hb.out g5 (Nat.le_refl _) (fun k hk => by injection hk with hk; omega)
              generalize hD : earD (C.take m) m k = D at *
              obtain ⟨d0, d1⟩ := D
              dsimp only
              have HD := Lib.hid hD
              have own2 := ho5.alloc (.cells #[.int .i64 d0, .int .i64 d1] 161)
              have hb6 := hb5.alloc hb5.size (.cells #[.int .i64 d0, .int .i64 d1] 161)
              have hr6 : Ring (w5.alloc (.cells #[.int .i64 d0, .int .i64 d1] 161)) w.heap.size G ((m : Int) - 1) (cutN N m k) (cutC C m k) := World.ownsRow.alloc hr5 _
              have Hr6 := Lib.hid hr6
              have Hb6 := Lib.hid hb6
              clear hD g5 ho5 hb5 hr5 hr6 hb6 n0 c0
              go_wp2_with (at_builtin; refine append1Dn _ rfl _ _ rfl w.heap.size (.slice (some ⟨g', 0, none⟩) out.length c') out.length out rfl rfl own2 w5.heap.size d0 d1 rfl ?c1 ?c2 ?c3 Hb6.out.size ?_; (case c1 => simp [go_sem]); (case c2 => simp [go_sem]); (case c3 => omega); intro A3 c3 w7 own3 hg3)
              have hr7 := own_far Hr6.out.own hg3 (own_ne Hr6.out.own own2 (by decide))
              have hb7 := below_grown Hb6.out hg3 (Nat.le_refl _) (fun j hj => (own2.lt j hj).1)
              have hE : Search w l G f (.slice A3 (out.length + 1) c3) w7 := by
                have hm := Hm.out
                subst hm
                exact search_step h12 HN.out HC.out Hnr.out ho9 Hof.out hkm Hat.out hr7 (by rw [HD.out]; exact own3) hb7
              have HE := Lib.hid hE
              clear hE hr7 hb7 own3 hg3 own2
              go_wp2
              go_roundg f
              case measure => omega
              case rel => exact HE.out
            · have hx' : (N.getD k 0 == 1) = false := by simpa using hx
              have hmiss : at1 (N.take m) (k + 1) < 0 := by rw [at1_miss _ _ (by rw [hgt]; exact hx)]; exact Hno.out
              have Hmiss := Lib.hid hmiss
              generalize N.getD k 0 = x at *
              clear hx hgt hmiss
              go_wp2
              go_roundg g2
              case measure => omega
              case rel => exact ⟨k + 1, by omega, by go_num, rfl, Hmiss.out, rfl⟩

theorem impl_IsQuiddity (A : Option Addr) (c B : Nat) (l : List Int) (w : World) (h : SlI w B A l) (hB : B ≤ w.heap.size) (hl : l.length ≤ 1048576) (hlc : l.length ≤ c) :
    Calls Try.prog 174 #[.slice A l.length c] w fun e w' => e = .returned (.bool (isQ l)) ∧ Below w.heap.size w w' := by
  go_enter Try.func174, Try.ntmps174
  go_wp2_with fail
  refine (impl_TriangulationOf A c B l _ h hB hl hlc).mono ?_
  rintro e w1 ⟨A', c', rfl, ho, hb⟩
  clear ho h
  go_wp2
  go_ret
  exact ⟨rfl, hb⟩

end Go.Proofs.Ytfkkbjbgjmaciaa
