/- Part 7 of 8 of the proof of the law WordsTold, no condition: one text out of several, since a claim holds 60 files at most. -/
import Derived.Test.YtfkkbjbgjmaciaaWordsToldP6
import Derived.Deep.LoopGhost
import Derived.OwnWalk
import Derived.ChangeKeysEq
import Derived.Deep.QuietTactic
import Derived.BigQuiet
import Derived.ArgAppend
import Derived.IntWalk
/- The program's TriangulationOf and IsQuiddity. -/
namespace Go.Proofs.Ytfkkbjbgjmaciaa
set_option linter.unusedVariables false
open Go.RowKit

theorem Near.mono {b b' : Nat} {l : List Int} (h : Near b l) (hb : b ≤ b') : Near b' l := fun i => by
  have := h i
  omega
theorem slices_SortFunc_n (g cap n base e : Nat) (l : List (Int × Int)) (w : World) (hn : l.length = n) (h : w.ownsRow base e 2 (.slice (some ⟨g, 0, none⟩) n cap) n (dcs l)) (h12 : n ≤ 12) :
    Calls Try.prog 193 #[.slice (some ⟨g, 0, none⟩) n cap, .func (.func 194) #[] #[]] w fun r w' =>
      r = .returned (.tuple #[]) ∧ w'.ownsRow base e 2 (.slice (some ⟨g, 0, none⟩) n cap) n (dcs (sortD l)) ∧ w.grownBy w' (some g) := by
  subst hn
  exact slices_SortFunc g cap base e l w h h12

theorem run_eq3 (x y z : Int) (w : World) : (Op.equalIn 10000 171 (.agg #[.int .i64 x, .int .i64 y, .int .i64 z]) (.agg #[.int .i64 1, .int .i64 1, .int .i64 1])).run Try.prog w = .ok (decide (x = 1 ∧ y = 1 ∧ z = 1)) w := by
  obtain ⟨i0, hi, hz0, hz1, hz2⟩ := info_parts infoI
  rw [run_equalIn_array (d := 9999) w _ _ Try.underlying171 hi]
  have p0 : ∀ (a b c : Value) (w : World), (part 3 #[a, b, c] (0 * Try.prog.cellsOf 3)).run Try.prog w = .ok a w := fun _ _ _ _ => by kernel_rfl
  have p1 : ∀ (a b c : Value) (w : World), (part 3 #[a, b, c] (1 * Try.prog.cellsOf 3)).run Try.prog w = .ok b w := fun _ _ _ _ => by kernel_rfl
  have p2 : ∀ (a b c : Value) (w : World), (part 3 #[a, b, c] (2 * Try.prog.cellsOf 3)).run Try.prog w = .ok c w := fun _ _ _ _ => by kernel_rfl
  have e : ∀ (a b : Int) (w : World), (Op.equalIn 9999 3 (.int .i64 a) (.int .i64 b)).run Try.prog w = .ok (a == b) w := fun a b w => run_equalIn_int w 9998 3 .i64 .i64 a b Try.underlying3
  rw [show List.range 3 = [0, 1, 2] from rfl]
  have key : decide (x = 1 ∧ y = 1 ∧ z = 1) = ((x == 1) && ((y == 1) && (z == 1))) := by rw [Bool.eq_iff_iff]; simp
  rw [key]
  simp only [Op.eqItems, Sem.run_bind, p0, e, Result.andThen_ok]
  generalize (x == 1) = bx
  cases bx
  · simp only [Bool.not_false, if_true, Sem.run_pure, Bool.false_and]
  · simp only [Bool.not_true, Bool.false_eq_true, if_false, Sem.run_bind, p1, e, Result.andThen_ok, Bool.true_and]
    generalize (y == 1) = by1
    cases by1
    · simp only [Bool.not_false, if_true, Sem.run_pure, Bool.false_and]
    · simp only [Bool.not_true, Bool.false_eq_true, if_false, Sem.run_bind, p2, e, Result.andThen_ok, Bool.true_and]
      generalize (z == 1) = bz
      cases bz
      · simp only [Bool.not_false, if_true, Sem.run_pure]
      · simp only [Bool.not_true, Bool.false_eq_true, if_false, Sem.run_pure]

/-- what holds at the head of the search for ears: f of them are still to be cut off -/
def Search (w : World) (l : List Int) (G f : Nat) (v : Value) (wr : World) : Prop :=
  ∃ (N C : List Int) (out : List (Int × Int)) (g' c' : Nat), v = .slice (some ⟨g', 0, none⟩) out.length c' ∧ f + 3 ≤ 12 ∧ N.length = 12 ∧ C.length = 12 ∧ Near (2 * (9 - f)) N ∧ out.length + f ≤ 9 ∧
    ofI f (N.take (f + 3)) (C.take (f + 3)) out = triOf l ∧ Ring wr w.heap.size G ((f + 3 : Nat) : Int) N C ∧ wr.ownsRow w.heap.size 161 2 (.slice (some ⟨g', 0, none⟩) out.length c') out.length (dcs out) ∧ Below w.heap.size w wr

theorem search_start {w w3 : World} {l : List Int} {G : Nat} (hq : couldB l = true) (h3 : 3 ≤ l.length) (h12 : l.length ≤ 12) (hr : Ring w3 w.heap.size G (l.length : Int) (pad l) (iota 12)) {gd c : Nat}
    (ho : w3.ownsRow w.heap.size 161 2 (.slice (some ⟨gd, 0, none⟩) 0 c) 0 []) (hb : Below w.heap.size w w3) : Search w l G (l.length - 3) (.slice (some ⟨gd, 0, none⟩) 0 c) w3 := by
  have e : l.length - 3 + 3 = l.length := by omega
  refine ⟨pad l, iota 12, [], gd, c, rfl, by omega, pad_length l h12, iota_length 12, ?_, by simp; omega, ?_, by rw [e]; exact hr, ho, hb⟩
  · intro i
    have hall : allB l 1 ((l.length : Int) - 2) = true := by
      unfold couldB at hq
      rw [Bool.and_eq_true] at hq
      exact hq.2
    rw [allB_iff] at hall
    by_cases hi : i < l.length
    · have := hall i hi
      have e : (pad l).getD i 0 = l.getD i 0 := by
        unfold pad
        simp only [List.getD_eq_getElem?_getD]
        rw [List.getElem?_append_left hi]
      rw [e]; omega
    · have e : (pad l).getD i 0 = 0 := by
        unfold pad
        simp only [List.getD_eq_getElem?_getD]
        rw [List.getElem?_append_right (by omega), List.getElem?_replicate]
        split <;> rfl
      rw [e]; omega
  · rw [e, pad_take, iota_take 12 l.length h12]
    unfold triOf
    rw [if_pos hq]
/-- an ear at k: the search goes on -/
theorem search_step {w w2 : World} {l : List Int} {G f k : Nat} {N C : List Int} {out : List (Int × Int)} {A3 : Option Addr} {c3 : Nat} (h12 : f + 1 + 3 ≤ 12) (hN : N.length = 12) (hC : C.length = 12) (hnr : Near (2 * (9 - (f + 1))) N)
    (ho9 : out.length + (f + 1) ≤ 9) (hof : ofI (f + 1) (N.take (f + 1 + 3)) (C.take (f + 1 + 3)) out = triOf l) (hk : k < f + 1 + 3) (hat : at1 (N.take (f + 1 + 3)) (f + 1 + 3) = (k : Int))
    (hr : Ring w2 w.heap.size G (((f + 1 + 3 : Nat) : Int) - 1) (cutN N (f + 1 + 3) k) (cutC C (f + 1 + 3) k))
    (ho : w2.ownsRow w.heap.size 161 2 (.slice A3 (out.length + 1) c3) (out.length + 1) (dcs (out ++ [((earD (C.take (f + 1 + 3)) (f + 1 + 3) k).1, (earD (C.take (f + 1 + 3)) (f + 1 + 3) k).2)]))) (hb : Below w.heap.size w w2) :
    Search w l G f (.slice A3 (out.length + 1) c3) w2 := by
  obtain ⟨g', cap, hv, _, _⟩ := ho.form (by omega)
  cases hv
  have hl : (N.take (f + 1 + 3)).length = f + 1 + 3 := by simp; omega
  refine ⟨cutN N (f + 1 + 3) k, cutC C (f + 1 + 3) k, out ++ [earD (C.take (f + 1 + 3)) (f + 1 + 3) k], g', c3, by simp, by omega, by rw [cutN_length _ _ _ hk (by omega)]; exact hN, by rw [cutC_length _ _ _ hk (by omega)]; exact hC, (hnr.cutN _ _).mono (by omega), by simp; omega, ?_, ?_, ?_, hb⟩
  · rw [← hof]
    conv => rhs; unfold ofI
    rw [hl, hat, if_neg (by omega), Int.toNat_natCast]
    have e1 := cutN_take N (f + 1 + 3) k (by omega) hk (by omega)
    have e2 := cutC_take C (f + 1 + 3) k hk (by omega)
    rw [show f + 1 + 3 - 1 = f + 3 by omega] at e1 e2
    rw [e1, e2]
  · rw [show ((f + 3 : Nat) : Int) = ((f + 1 + 3 : Nat) : Int) - 1 by omega]
    exact hr
  · simpa using ho
theorem search_none {l : List Int} {f : Nat} {N C : List Int} {out : List (Int × Int)} (hN : N.length = 12) (h12 : f + 1 + 3 ≤ 12) (hof : ofI (f + 1) (N.take (f + 1 + 3)) (C.take (f + 1 + 3)) out = triOf l) (hat : at1 (N.take (f + 1 + 3)) (f + 1 + 3) < 0) : triOf l = ([], false) := by
  have hl : (N.take (f + 1 + 3)).length = f + 1 + 3 := by simp; omega
  rw [← hof]
  unfold ofI
  rw [hl, if_pos hat]

theorem retD_no {w wr : World} {L : List (Int × Int)} {ok : Bool} (h : (L, ok) = ([], false)) (hb : Below w.heap.size w wr) : RetD w L ok (.returned (.tuple #[.slice none 0 0, .bool false])) wr := by
  cases h
  exact ⟨none, 0, rfl, World.ownsRow_nil _ _ _ _, hb⟩
theorem pair_eta {a : List (Int × Int) × Bool} : (a.1, a.2) = a := rfl

set_option maxRecDepth 100000 in
set_option maxHeartbeats 6400000 in
theorem impl_TriangulationOf (A : Option Addr) (c B : Nat) (l : List Int) (w : World) (h : SlI w B A l) (hB : B ≤ w.heap.size) (hl : l.length ≤ 1048576) (hlc : l.length ≤ c) :
    Calls Try.prog 184 #[.slice A l.length c] w (RetD w (triOf l).1 (triOf l).2) := by
  cases hq : couldB l
  · have hno : triOf l = ([], false) := by unfold triOf; rw [hq]; rfl
    go_enter Try.func184, Try.ntmps184
    go_wp2_with fail
    go_step3
    go_wp2_with fail
    refine (impl_couldBeQuiddity A c B l _ h hB hl).mono ?_
    rintro e w1 ⟨rfl, hb1⟩
    have hres : RetD w (triOf l).1 (triOf l).2 (.returned (.tuple #[.slice none 0 0, .bool false])) w1 := retD_no hno hb1
    have Hres := Lib.hid hres
    clear hres h hb1 hno
    rw [hq]
    go_wp2
    try rw [Exit.noGoto_ret]
    go_ret2
    exact Hres.out
  · have hn : 3 ≤ l.length ∧ l.length ≤ 12 := by
      unfold couldB poB at hq
      simp at hq
      omega
    obtain ⟨hn3, hn12⟩ := hn
    obtain ⟨i0, hi, hz0, hz1, hz2⟩ := info_parts infoD
    have hbytes : i0.bytes * (l.length - 3) ≤ 281474976710656 := by rw [hz2]; omega
    have hmax : l.length - 3 ≤ maxLen := by unfold maxLen; omega
    go_enter Try.func184, Try.ntmps184
    go_wp2_with fail
    go_step3
    go_wp2_with fail
    refine (impl_couldBeQuiddity A c B l _ h hB hl).mono ?_
    rintro e w1 ⟨rfl, hb1⟩
    rw [hq]
    go_wp2_with fail
    refine (impl_ringOf A c B l _ (h.below (hb1.mono hB)) (Nat.le_trans hB hb1.size) hn3 hn12).mono ?_
    rintro e w2 ⟨rfl, hb2⟩
    have hd2 := below_kept hb1 (Nat.le_refl _) hb2
    have HZ : Hid (Blk (w2.alloc (.cells (ics (List.replicate 25 0)).toArray 168)) w2.heap.size 168 (List.replicate 25 0)) := Lib.hid (Blk.new _ _ _)
    have HB : Hid (Below w.heap.size w (w2.alloc (.cells (ics (List.replicate 25 0)).toArray 168))) := Lib.hid (hd2.alloc hd2.size _)
    have hp := pad_length l hn12
    have Hp := Lib.hid hp
    have HQ := Lib.hid hq
    have Hsz := hd2.size
    clear hb1 hb2 hd2 h hp hq
    go_wp2_with (first
      | (refine wpList_store_ring rfl (.tmp 4) (.tmp 12) rfl rfl w2.heap.size (ringL l.length (pad l) (iota 12)) rfl rfl 168 (List.replicate 25 0) HZ.out rfl (ringL_length Hp.out (iota_length 12)) ?_
         intro w3 h3 g3
         have hr3 := Ring.of_heap (base := w.heap.size) (N := pad l) (C := iota 12) h3 Hp.out (iota_length 12) (by omega)
         have hb3 := below_grown HB.out g3 (Nat.le_refl _) (fun k hk => by injection hk with hk; omega)
         have c0 := hr3.c0
         have Hr3 := Lib.hid hr3
         have Hb3 := Lib.hid hb3
         clear g3 HZ HB h3 hr3 hb3)
      | (at_make; refine wpList_make_own _ rfl _ _ _ rfl w.heap.size 161 i0 (.agg #[.int .i64 0, .int .i64 0]) 2 Try.underlying150 hi hz0 hz1 _ _ _ (l.length - 3) rfl rfl (by omega) hbytes hmax Hb3.out.size ?_; intro w4 hown4 hgrow4))
    have hS : Search w l w2.heap.size (l.length - 3) (.slice (some ⟨w3.heap.size, 0, none⟩) 0 (l.length - 3)) w4 :=
      search_start HQ.out hn3 hn12 (own_far Hr3.out.own hgrow4 (fun _ _ e => by cases e)) hown4 (below_grown Hb3.out hgrow4 (Nat.le_refl _) (fun _ e => by cases e))
    have HS := Lib.hid hS
    clear hS hown4 hgrow4 Hr3 Hb3 c0 hbytes hmax hz0 hz1 hz2 hi HQ
    go_step3
    go_wp2
    obtain ⟨G, hG⟩ : ∃ G, G = w2.heap.size := ⟨_, rfl⟩
    rw [← hG] at HS ⊢
    clear hG
    go_loopg [5, 6, 7] (l.length - 3) (fun f s5 s6 s7 wx => Search w l G f s5 wx)
    case atStart => exact HS.out
    case round =>
      clear HS
      obtain ⟨N, C, out, g', c', rfl, h12, hN, hC, hnr, ho9, hof, hr, ho, hb⟩ := hrel
      have HN := Lib.hid hN
      have HC := Lib.hid hC
      have Hnr := Lib.hid hnr
      have Hof := Lib.hid hof
      have Hr := Lib.hid hr
      have Ho := Lib.hid ho
      have Hb := Lib.hid hb
      have c0 := hr.c0
      cases gk with
      | zero =>
        have hla : ∀ (g o : Nat) (w : World), (Instr.arrayAt 171 (.slice (some ⟨g, o, none⟩) 3 12)).run Try.prog w = .ok (.pointer (some ⟨g, o, none⟩)) w := fun _ _ _ => by kernel_rfl
        have n0 := hr.cN hN 0 (by omega)
        have n1 := hr.cN hN 1 (by omega)
        have n2 := hr.cN hN 2 (by omega)
        simp only [Nat.add_zero, Nat.reduceAdd] at n0 n1 n2
        have hrun := run_eq3 (N.getD 0 0) (N.getD 1 0) (N.getD 2 0)
        have hnl : N.take (0 + 3) = [N.getD 0 0, N.getD 1 0, N.getD 2 0] := by
          match N, hN with
          | [_, _, _, _, _, _, _, _, _, _, _, _], _ => rfl
        have hfin : triOf l = if N.getD 0 0 = 1 ∧ N.getD 1 0 = 1 ∧ N.getD 2 0 = 1 then (sortD out, true) else ([], false) := by
          rw [← hof, hnl]
          unfold ofI
          simp
        have Hfin := Lib.hid hfin
        clear hnl hfin
        generalize N.getD 0 0 = x at *
        generalize N.getD 1 0 = y at *
        generalize N.getD 2 0 = z at *
        have hb3 : decide (x = 1 ∧ y = 1 ∧ z = 1) = decide (x = 1 ∧ y = 1 ∧ z = 1) := rfl
        generalize hbb : decide (x = 1 ∧ y = 1 ∧ z = 1) = bb at hrun
        have Hbb := Lib.hid hbb
        clear hbb hb3
        clear hN hC hnr hof hr ho hb
        cases bb
        · have hno : triOf l = ([], false) := by rw [Hfin.out, if_neg (by have := Hbb.out; simpa using this)]
          have hres : RetD w (triOf l).1 (triOf l).2 (.returned (.tuple #[.slice none 0 0, .bool false])) wr := retD_no hno Hb.out
          have Hres := Lib.hid hres
          clear hres hno
          go_wp2_with fail
          try rw [Exit.noGoto_ret]
          go_ret2
          exact Hres.out
        · have hyes : triOf l = (sortD out, true) := by rw [Hfin.out, if_pos (by have := Hbb.out; simpa using this)]
          have Hyes := Lib.hid hyes
          clear hyes
          go_wp2_with fail
          refine (slices_SortFunc_n g' c' out.length w.heap.size 161 out _ rfl Ho.out (by omega)).mono ?_
          rintro e w5 ⟨rfl, o5, g5⟩
          have hres : RetD w (triOf l).1 (triOf l).2 (.returned (.tuple #[.slice (some ⟨g', 0, none⟩) out.length c', .bool true])) w5 := by
            rw [Hyes.out]
            have e := sortD_length out
            refine ⟨some ⟨g', 0, none⟩, c', by rw [e], by rw [e]; exact o5, below_grown Hb.out g5 (Nat.le_refl _) (fun k hk => by injection hk with hk; subst hk; exact (Ho.out.lt _ rfl).1)⟩
          have Hres := Lib.hid hres
          clear hres o5 g5
          go_wp2_with fail
          try rw [Exit.noGoto_ret]
          go_ret2
          exact Hres.out
      | succ f =>
        obtain ⟨m, hm⟩ : ∃ m, m = f + 1 + 3 := ⟨_, rfl⟩
        rw [← hm] at hr hof Hr Hof c0
        have m0 : (0 : Int) ≤ (m : Int) := by omega
        have m1 : (m : Int) ≤ 12 := by omega
        have m2 : (3 : Int) < (m : Int) := by omega
        have Hm := Lib.hid hm
        clear hN hC hnr hof hr ho hb hm
        obtain ⟨wo, rfl⟩ : ∃ wo : World, wo = wr := ⟨_, rfl⟩
        go_wp2
        go_loopg [5, 6, 7, 25] m (fun g2 s5 s6 s7 s25 wy => ∃ k : Nat, k + g2 = m ∧ s25 = .int .i64 k ∧ s5 = .slice (some ⟨g', 0, none⟩) out.length c' ∧ at1 (N.take m) k < 0 ∧ wo = wy)
        case atStart => exact ⟨0, by omega, rfl, rfl, by simp [at1], rfl⟩
        case round =>
          obtain ⟨k, hkg, rfl, rfl, hno, rfl⟩ := hrel
          have Hno := Lib.hid hno
          clear hno
          cases gk with
          | zero =>
            obtain rfl : k = m := by omega
            have hno : triOf l = ([], false) := search_none HN.out h12 (by rw [← Hm.out]; exact Hof.out) (by rw [← Hm.out]; exact Hno.out)
            have hres : RetD w (triOf l).1 (triOf l).2 (.returned (.tuple #[.slice none 0 0, .bool false])) wo := retD_no hno Hb.out
            have Hres := Lib.hid hres
            clear hres hno
            go_wp2_with fail
            try rw [Exit.noGoto_ret]
            go_ret2
            exact Hres.out
          | succ g2 =>
            have hkm : k < m := by omega
            have k0 : (0 : Int) ≤ (k : Int) := by omega
            have k1 : (k : Int) < (m : Int) := by omega
            have n0 := Hr.out.cN HN.out k (by omega)
            have hgt : (N.take m).getD k 0 = N.getD k 0 := take_getD N m k hkm
            by_cases hx : N.getD k 0 = 1
            · have hat : at1 (N.take m) m = (k : Int) := at1_hit (N.take m) k m Hno.out (by rw [hgt]; exact hx) hkm
              rw [hx] at n0
              have Hat := Lib.hid hat
              have hd5 : Near 100 N := Hnr.out.mono (by omega)
              have Hd5 := Lib.hid hd5
              clear hx hgt hat hd5
              go_wp2_with fail
              refine (impl_cut w.heap.size G m k N C _ Hr.out HN.out HC.out Hd5.out (by omega) (by omega) hkm).mono ?_
              rintro e w5 ⟨rfl, hr5, g5⟩
              have ho5 := own_far Ho.out g5 (own_ne Ho.out Hr.out.own (by decide))
              have hGw : w.heap.size ≤ G := (World.ownsRow.lt Hr.out.own _ rfl).1
              have hb5 := below_grown Hb.out g5 (Nat.le_refl _) (fun k hk => by injection hk with hk; omega)
              generalize hD : earD (C.take m) m k = D at *
              obtain ⟨d0, d1⟩ := D
              dsimp only
              have HD := Lib.hid hD
              have own2 := ho5.alloc (.cells #[.int .i64 d0, .int .i64 d1] 161)
              have hb6 := hb5.alloc hb5.size (.cells #[.int .i64 d0, .int .i64 d1] 161)
              have hr6 : Ring (w5.alloc (.cells #[.int .i64 d0, .int .i64 d1] 161)) w.heap.size G ((m : Int) - 1) (cutN N m k) (cutC C m k) := World.ownsRow.alloc hr5 _
              have Hr6 := Lib.hid hr6
              have Hb6 := Lib.hid hb6
              clear hD g5 ho5 hb5 hr5 hr6 hb6 n0 c0
              go_wp2_with (at_builtin; refine append1Dn _ rfl _ _ rfl w.heap.size (.slice (some ⟨g', 0, none⟩) out.length c') out.length out rfl rfl own2 w5.heap.size d0 d1 rfl ?c1 ?c2 ?c3 Hb6.out.size ?_; (case c1 => simp [go_sem]); (case c2 => simp [go_sem]); (case c3 => omega); intro A3 c3 w7 own3 hg3)
              have hr7 := own_far Hr6.out.own hg3 (own_ne Hr6.out.own own2 (by decide))
              have hb7 := below_grown Hb6.out hg3 (Nat.le_refl _) (fun j hj => (own2.lt j hj).1)
              have hE : Search w l G f (.slice A3 (out.length + 1) c3) w7 := by
                have hm := Hm.out
                subst hm
                exact search_step h12 HN.out HC.out Hnr.out ho9 Hof.out hkm Hat.out hr7 (by rw [HD.out]; exact own3) hb7
              have HE := Lib.hid hE
              clear hE hr7 hb7 own3 hg3 own2
              go_wp2
              go_roundg f
              case measure => omega
              case rel => exact HE.out
            · have hx' : (N.getD k 0 == 1) = false := by simpa using hx
              have hmiss : at1 (N.take m) (k + 1) < 0 := by rw [at1_miss _ _ (by rw [hgt]; exact hx)]; exact Hno.out
              have Hmiss := Lib.hid hmiss
              generalize N.getD k 0 = x at *
              clear hx hgt hmiss
              go_wp2
              go_roundg g2
              case measure => omega
              case rel => exact ⟨k + 1, by omega, by go_num, rfl, Hmiss.out, rfl⟩

theorem impl_IsQuiddity (A : Option Addr) (c B : Nat) (l : List Int) (w : World) (h : SlI w B A l) (hB : B ≤ w.heap.size) (hl : l.length ≤ 1048576) (hlc : l.length ≤ c) :
    Calls Try.prog 174 #[.slice A l.length c] w fun e w' => e = .returned (.bool (isQ l)) ∧ Below w.heap.size w w' := by
  go_enter Try.func174, Try.ntmps174
  go_wp2_with fail
  refine (impl_TriangulationOf A c B l _ h hB hl hlc).mono ?_
  rintro e w1 ⟨A', c', rfl, ho, hb⟩
  clear ho h
  go_wp2
  go_ret
  exact ⟨rfl, hb⟩

end Go.Proofs.Ytfkkbjbgjmaciaa

/- The walks of the laws of TriangulationOf and IsQuiddity. -/
namespace Go.Proofs.Ytfkkbjbgjmaciaa
set_option linter.unusedVariables false
open Go.RowKit

end Go.Proofs.Ytfkkbjbgjmaciaa

/- The program's continuants: functions that call themselves. -/
namespace Go.Proofs.Ytfkkbjbgjmaciaa
set_option linter.unusedVariables false
open Go.RowKit

/-- a number is given back; the world has only drawn -/
def NumQ (v : Int) (w : World) (e : Ending) (w' : World) : Prop := e = .returned (.int .i64 v) ∧ ∃ k, w' = w.drewN k

set_option maxRecDepth 100000 in
set_option maxHeartbeats 3200000 in
theorem impl_signed (s : Int) (hs : s = 1 ∨ s = -1) : ∀ (n : Nat) (A : Option Addr) (c B : Nat) (l : List Int) (w : World) (hn : l.length = n) (h10 : n ≤ 10) (hlc : n ≤ c) (h : SlI w B A l) (hsm : Small l),
    Calls Try.prog 169 #[.int .i64 s, .slice A n c] w fun e w' => e = .returned (.int .i64 (ctv s l)) ∧ ∃ k, w' = w.drewN k := by
  intro n
  induction n using Nat.strongRecOn with
  | _ n ih =>
  intro A c B l w hn h10 hlc h hsm
  have hfin0 : n = 0 → ctv s l = 1 := fun e => by
    obtain rfl : l = [] := List.eq_nil_of_length_eq_zero (by omega)
    exact ctv_nil s
  have hfin1 : n = 1 → ctv s l = l.getD 0 0 := fun e => by
    obtain ⟨x, rfl⟩ := List.length_eq_one_iff.1 (show l.length = 1 by omega)
    rw [ctv_one]; rfl
  have hfin2 : ∀ k, n = k + 2 → ctv s l = ctv s (l.take (k + 1)) * l.getD (k + 1) 0 + s * ctv s (l.take k) := fun k e => by
    have := ctv_take s l k (by omega)
    rw [List.take_of_length_le (by omega)] at this
    rw [this, Int.mul_comm]
  by_cases h0 : n = 0
  · have e := hfin0 h0
    subst h0
    have E := Lib.hid e
    clear e hfin0 hfin1 hfin2 ih hn h hsm hs
    go_enter Try.func169, Try.ntmps169
    go_wp2
    go_ret
    exact ⟨ret_int E.out.symm, 0, rfl⟩
  by_cases h1 : n = 1
  · have e := hfin1 h1
    subst h1
    obtain ⟨b, off, rfl, hb, hc⟩ := h (by omega)
    have g0 := hc 0 (by omega)
    rw [Nat.add_zero] at g0
    have E := Lib.hid e
    clear e hfin0 hfin1 hfin2 ih hn hsm hs hc h
    generalize l.getD 0 0 = x at *
    go_enter Try.func169, Try.ntmps169
    go_wp2
    go_ret
    exact ⟨ret_int E.out.symm, 0, rfl⟩
  · obtain ⟨k, hk⟩ : ∃ k, n = k + 2 := ⟨n - 2, by omega⟩
    have e := hfin2 k hk
    have E := Lib.hid e
    obtain ⟨b, off, rfl, hb, hc⟩ := h (by omega)
    have g0 := hc (k + 1) (by omega)
    have hx := hsm.get (k + 1) (by omega)
    have lt1 : (l.take (k + 1)).length = k + 1 := by simp; omega
    have lt2 : (l.take k).length = k := by simp; omega
    have bd1 := ctv_bd9 hs (l.take (k + 1)) (hsm.take _) (by omega)
    have bd2 := ctv_bd9 hs (l.take k) (hsm.take _) (by omega)
    have ih1 : ∀ w, SlI w B (some ⟨b, off, none⟩) l → Calls Try.prog 169 #[.int .i64 s, .slice (some ⟨b, off, none⟩) (k + 1) (k + 1)] w fun e w' => e = .returned (.int .i64 (ctv s (l.take (k + 1)))) ∧ ∃ k, w' = w.drewN k := fun w hw =>
      ih (k + 1) (by omega) _ _ B (l.take (k + 1)) w lt1 (by omega) (Nat.le_refl _) (hw.take _) (hsm.take _)
    have ih2 : ∀ w, SlI w B (some ⟨b, off, none⟩) l → Calls Try.prog 169 #[.int .i64 s, .slice (some ⟨b, off, none⟩) k k] w fun e w' => e = .returned (.int .i64 (ctv s (l.take k))) ∧ ∃ k, w' = w.drewN k := fun w hw =>
      ih k (by omega) _ _ B (l.take k) w lt2 (by omega) (Nat.le_refl _) (hw.take _) (hsm.take _)
    have hpr := mul_bd hx bd1
    have hsp : -26439622160671 ≤ s * ctv s (l.take k) ∧ s * ctv s (l.take k) ≤ 26439622160671 := by
      rcases hs with rfl | rfl <;> omega
    rw [Int.mul_comm (l.getD (k + 1) 0) _] at hpr
    obtain ⟨hp1, hp2⟩ := hpr
    obtain ⟨hs1, hs2⟩ := hsp
    generalize ctv s (l.take (k + 1)) = v1 at *
    generalize ctv s (l.take k) = v2 at *
    generalize l.getD (k + 1) 0 = x at *
    have hpr3 : -793188664820130 ≤ v1 * x := by omega
    have hpr4 : v1 * x ≤ 793188664820130 := by omega
    have hk8 : (k : Int) ≤ 8 := by omega
    have n1 : (n : Int) - 1 = (k : Int) + 1 := by omega
    have n0 : ((n : Int) == 0) = false := by simp; omega
    have n2 : ((n : Int) == 1) = false := by simp; omega
    have k1 : (k : Int) + 1 - 1 = (k : Int) := by omega
    have kc : (k : Int) + 1 ≤ (c : Int) := by omega
    have kn : (k : Int) + 1 < (n : Int) := by omega
    have kz : (0 : Int) ≤ (k : Int) + 1 := by omega
    have kz2 : (0 : Int) ≤ (k : Int) := by omega
    have kc2 : (k : Int) ≤ (c : Int) := by omega
    have kt : ((k : Int) + 1).toNat = k + 1 := by omega
    have Ih1 := Lib.hid ih1
    have Ih2 := Lib.hid ih2
    have H := Lib.hid h
    clear e hfin0 hfin1 hfin2 ih ih1 ih2 hn hsm hs hc h bd1 bd2 hx lt1 lt2 hp1 hp2 hk h0 h1
    go_enter Try.func169, Try.ntmps169
    go_wp2
    go_quiet (first
      | (go_at_call 169; with_reducible exact Calls.quiet_of (Ih1.out _ (H.out.drewN _)))
      | (go_at_call 169; with_reducible exact Calls.quiet_of (Ih2.out _ (H.out.drewN _))))
    go_wp2
    go_ret
    exact ⟨ret_int E.out.symm, _, rfl⟩

theorem impl_continuant (A : Option Addr) (n c B : Nat) (l : List Int) (w : World) (hn : l.length = n) (h10 : n ≤ 10) (hlc : n ≤ c) (h : SlI w B A l) (hsm : Small l) :
    Calls Try.prog 96 #[.slice A n c] w fun e w' => e = .returned (.int .i64 (ctv (-1) l)) ∧ ∃ k, w' = w.drewN k := by
  have Hn := Lib.hid hn
  have Hsm := Lib.hid hsm
  clear hn hsm
  go_enter Try.func96, Try.ntmps96
  go_wp2_with fail
  refine (impl_signed (-1) (.inr rfl) n A c B l _ Hn.out h10 hlc h Hsm.out).mono ?_
  rintro e w1 ⟨rfl, k, rfl⟩
  clear h
  go_wp2
  go_ret
  exact ⟨rfl, k, rfl⟩
theorem impl_plusContinuant (A : Option Addr) (n c B : Nat) (l : List Int) (w : World) (hn : l.length = n) (h10 : n ≤ 10) (hlc : n ≤ c) (h : SlI w B A l) (hsm : Small l) :
    Calls Try.prog 98 #[.slice A n c] w fun e w' => e = .returned (.int .i64 (ctv 1 l)) ∧ ∃ k, w' = w.drewN k := by
  have Hn := Lib.hid hn
  have Hsm := Lib.hid hsm
  clear hn hsm
  go_enter Try.func98, Try.ntmps98
  go_wp2_with fail
  refine (impl_signed 1 (.inl rfl) n A c B l _ Hn.out h10 hlc h Hsm.out).mono ?_
  rintro e w1 ⟨rfl, k, rfl⟩
  clear h
  go_wp2
  go_ret
  exact ⟨rfl, k, rfl⟩
end Go.Proofs.Ytfkkbjbgjmaciaa

/- Ones put into terms and taken out: plain mathematics. -/
namespace Go.Proofs.Ytfkkbjbgjmaciaa
set_option linter.unusedVariables false

def incr (l : List Int) (i : Nat) : List Int := l.set i (l.getD i 0 + 1)
theorem incr_length (l : List Int) (i : Nat) : (incr l i).length = l.length := by simp [incr]
theorem set_get (l : List Int) (i j : Nat) (x : Int) (h : i ≠ j) : (l.set i x).getD j 0 = l.getD j 0 := by
  simp only [List.getD_eq_getElem?_getD, List.getElem?_set]
  rw [if_neg h]
def putB (l : List Int) (k : Nat) : List Int := l.take k ++ [1] ++ l.drop k
def takB (l : List Int) (k : Nat) : List Int := l.take k ++ l.drop (k + 1)
theorem putB_length (l : List Int) (k : Nat) (h : k ≤ l.length) : (putB l k).length = l.length + 1 := by
  unfold putB
  simp
  omega
theorem takB_length (l : List Int) (k : Nat) (h : k < l.length) : (takB l k).length = l.length - 1 := by
  unfold takB
  simp
  omega
theorem putB_small {l : List Int} (h : Small l) (k : Nat) : Small (putB l k) := by
  intro x hx
  unfold putB at hx
  simp only [List.mem_append, List.mem_singleton] at hx
  rcases hx with (hx | rfl) | hx
  · exact h x (List.mem_of_mem_take hx)
  · omega
  · exact h x (List.mem_of_mem_drop hx)
theorem takB_small {l : List Int} (h : Small l) (k : Nat) : Small (takB l k) := by
  intro x hx
  unfold takB at hx
  simp only [List.mem_append] at hx
  rcases hx with hx | hx
  · exact h x (List.mem_of_mem_take hx)
  · exact h x (List.mem_of_mem_drop hx)
def putL (l : List Int) (k : Nat) : List Int := incr (incr (putB l k) (k - 1)) (k + 1)
def takL (l : List Int) (k : Nat) : List Int := decr (decr (takB l k) (k - 1)) k
theorem putL_length (l : List Int) (k : Nat) (h : k ≤ l.length) : (putL l k).length = l.length + 1 := by
  unfold putL
  rw [incr_length, incr_length, putB_length l k h]
theorem takL_length (l : List Int) (k : Nat) (h : k < l.length) : (takL l k).length = l.length - 1 := by
  unfold takL
  rw [decr_length, decr_length, takB_length l k h]
/-- what PutOne and TakeOne return -/
def poR (l : List Int) (k : Int) : Option (List Int) := if good l = true ∧ (1 ≤ k ∧ k ≤ (l.length : Int) - 1) ∧ good (putL l k.toNat) = true then some (putL l k.toNat) else none
def toR (l : List Int) (k : Int) : Option (List Int) := if good l = true ∧ (1 ≤ k ∧ k ≤ (l.length : Int) - 2) ∧ l.getD k.toNat 0 = 1 ∧ good (takL l k.toNat) = true then some (takL l k.toNat) else none
theorem poR_no1 {l : List Int} {k : Int} (h : good l = false) : poR l k = none := if_neg (by rw [h]; simp)
theorem poR_no2 {l : List Int} {k : Int} (h : ¬ (1 ≤ k ∧ k ≤ (l.length : Int) - 1)) : poR l k = none := if_neg (fun e => h e.2.1)
theorem poR_at {l : List Int} {k : Nat} (h : good l = true) (h1 : 1 ≤ k) (h2 : k < l.length) : poR l (k : Int) = if good (putL l k) = true then some (putL l k) else none := by
  unfold poR
  rw [Int.toNat_natCast]
  by_cases hg : good (putL l k) = true
  · rw [if_pos ⟨h, ⟨by omega, by omega⟩, hg⟩, if_pos hg]
  · rw [if_neg (fun e => hg e.2.2), if_neg hg]
theorem toR_no1 {l : List Int} {k : Int} (h : good l = false) : toR l k = none := if_neg (by rw [h]; simp)
theorem toR_no2 {l : List Int} {k : Int} (h : ¬ (1 ≤ k ∧ k ≤ (l.length : Int) - 2)) : toR l k = none := if_neg (fun e => h e.2.1)
theorem toR_no3 {l : List Int} {k : Nat} (h : l.getD k 0 ≠ 1) : toR l (k : Int) = none := if_neg (fun e => h (by have := e.2.2.1; rwa [Int.toNat_natCast] at this))
theorem toR_at {l : List Int} {k : Nat} (h : good l = true) (h1 : 1 ≤ k) (h2 : k + 1 < l.length) (hx : l.getD k 0 = 1) : toR l (k : Int) = if good (takL l k) = true then some (takL l k) else none := by
  unfold toR
  rw [Int.toNat_natCast]
  by_cases hg : good (takL l k) = true
  · rw [if_pos ⟨h, ⟨by omega, by omega⟩, hx, hg⟩, if_pos hg]
  · rw [if_neg (fun e => hg e.2.2.2), if_neg hg]
/-- a list or none -/
def optL (R : Option (List Int)) : List Int := R.getD []
theorem optL_length {R : Option (List Int)} (h : ∀ r, R = some r → r.length ≤ 100) : (optL R).length ≤ 1000000000 := by
  unfold optL
  cases R with
  | none => simp
  | some r =>
    have := h r rfl
    simp only [Option.getD_some]
    omega
theorem poR_length (l : List Int) (k : Int) : (optL (poR l k)).length ≤ 1000000000 := optL_length fun r h => by
  unfold poR at h
  split at h
  · rename_i hc
    injection h with h
    subst h
    have := (good_iff.1 hc.2.2).1
    omega
  · cases h
theorem toR_length (l : List Int) (k : Int) : (optL (toR l k)).length ≤ 1000000000 := optL_length fun r h => by
  unfold toR at h
  split at h
  · rename_i hc
    injection h with h
    subst h
    have := (good_iff.1 hc.2.2.2).1
    omega
  · cases h
end Go.Proofs.Ytfkkbjbgjmaciaa

/- Ones put in and taken out: appends of the program's own make, the model's ctTake, the program's TakeOne. -/
namespace Go.Proofs.Ytfkkbjbgjmaciaa
set_option linter.unusedVariables false
open Go.RowKit

theorem retO_no {R : Option (List Int)} {w w' : World} (h : R = none) (hb : Below w.heap.size w w') : RetI w (optL R) R.isSome (.returned (.tuple #[.slice none 0 0, .bool false])) w' := by
  subst h
  exact ⟨none, 0, rfl, World.ownsRow_nil _ _ _ _, hb⟩
theorem retO_yes {R : Option (List Int)} {out : List Int} {n : Nat} {w w' : World} {A : Option Addr} {c : Nat} (h : R = some out) (hn : out.length = n) (ho : w'.ownsRow w.heap.size 3 1 (.slice A n c) n (ics out)) (hb : Below w.heap.size w w') :
    RetI w (optL R) R.isSome (.returned (.tuple #[.slice A n c, .bool true])) w' := by
  subst h
  subst hn
  exact ⟨A, c, rfl, ho, hb⟩
theorem spec_l1Own_at (A : Option Addr) (n c B : Nat) (l : List Int) (w : World) (hn : l.length = n) (h : SlI w B A l) (hB : B ≤ w.heap.size) (hl : n ≤ 1000000) :
    Calls Try.prog 114 #[.slice A n c] w fun e w' => ∃ A' c', e = .returned (.slice A' n c') ∧ w'.ownsRow w.heap.size 3 1 (.slice A' n c') n (ics l) ∧ Below w.heap.size w w' := by
  refine (spec_l1Own A n c B l w hn h hB hl).mono ?_
  rintro e w' ⟨A', c', rfl, ho, hb⟩
  subst hn
  exact ⟨A', c', rfl, ho, hb⟩
theorem SlI.drw {w : World} {B : Nat} {A : Option Addr} {l : List Int} (h : SlI w B A l) : SlI w.drew B A l := h
theorem SlI.cutAt {w : World} {B b off : Nat} {l : List Int} (h : SlI w B (some ⟨b, off, none⟩) l) (k : Nat) : SlI w B (some ⟨b, off + k, none⟩) (l.drop k) := fun h0 => by
  have hl : k < l.length := by simp at h0; omega
  obtain ⟨b', off', e, hb, hcell⟩ := h (by omega)
  cases e
  refine ⟨b, off + k, rfl, hb, fun j hj => ?_⟩
  have hj2 : k + j < l.length := by simp at hj; omega
  have e : (l.drop k).getD j 0 = l.getD (k + j) 0 := by simp [List.getD_eq_getElem?_getD]
  rw [e, show off + k + j = off + (k + j) by omega]
  exact hcell (k + j) hj2
theorem SlI.cell1 {w : World} {g B : Nat} {y : Int} (h0 : w.cell? ⟨g, 0, none⟩ = some (.int .i64 y)) (hB : g < B) : SlI w B (some ⟨g, 0, none⟩) [y] := fun _ =>
  ⟨g, 0, rfl, hB, fun j hj => by
    obtain rfl : j = 0 := by simpa using hj
    simpa using h0⟩

section
variable {ops : Array Oper} {rest : List Oper} {o : Oper} {a : Act} {Q : Exit → Act → World → Prop}
/-- append to a slice that is full: a new row -/
theorem wp_growI {K : Act → World → Prop} (w : World) (s x : Operand) (ho : o.op = .call { callee := .builtin .append, args := #[s, x], argTypes := #[24, 24] })
    (A : Option Addr) (n B : Nat) (L : List Int) (hn : L.length = n) (h0 : 0 < n) (hs : a.eval s = .slice A n n) (hL : SlI w B A L) (A' : Option Addr) (m c B' N : Nat) (r : List Int) (hN : N = n + m) (hm : r.length = m) (hm0 : 0 < m) (hx : a.eval x = .slice A' m c) (hr : SlI w B' A' r) (hlen : N ≤ 1000000)
    (h : ∀ A2 c2 w', w'.ownsRow w.heap.size 3 1 (.slice A2 N c2) N (ics (L ++ r)) → w.grownBy w' none → K (a.put o.dst (.slice A2 N c2)) w') :
    o.wp Try.prog a w K Q := by
  subst hN hn hm
  obtain ⟨i0, hi, hz0, hz1, hz2⟩ := info_parts infoI
  obtain ⟨b, off, rfl, hb, hc⟩ := hL h0
  obtain ⟨b', off', rfl, hb', hc'⟩ := hr hm0
  have h1 : ∀ j u, (ics L)[j]? = some u → w.cell? ((⟨b, off, none⟩ : Addr).add j) = some u := by
    intro j u hu
    have hj : j < L.length := by
      have := (List.getElem?_eq_some_iff.1 hu).1
      rwa [ics_length] at this
    rw [Addr.add_lit, ← hu, ics_get L j hj]
    exact hc j hj
  have h2 : ∀ j u, (ics r)[j]? = some u → w.cell? ((⟨b', off', none⟩ : Addr).add j) = some u := by
    intro j u hu
    have hj : j < r.length := by
      have := (List.getElem?_eq_some_iff.1 hu).1
      rwa [ics_length] at this
    rw [Addr.add_lit, ← hu, ics_get r j hj]
    exact hc' j hj
  obtain ⟨v', w', hrun, r1, r2⟩ := run_append_arg_grows (P := Try.prog) w 24 o.type 3 i0 (.int .i64 0) 1 8 Try.underlying24 hi hz0 hz1 hz2 rfl (by decide) ⟨b, off, none⟩ L.length L.length (ics L) (by rw [ics_length, Nat.mul_one]) h1 ⟨b', off', none⟩ r.length c (ics r) (by rw [ics_length, Nat.mul_one]) h2 (by omega) (by unfold maxLen; omega) (by omega)
  rw [← ics_append] at r1
  obtain ⟨A2, c2, rfl⟩ := own_form r1
  unfold Oper.wp
  simp [execOp, ho, resolve, invoke, builtin, hs, hx, hrun, Result.andThen]
  exact h A2 c2 w' r1 r2
theorem wpList_growI (w : World) (hgd : o.guard = none) (s x : Operand) (ho : o.op = .call { callee := .builtin .append, args := #[s, x], argTypes := #[24, 24] })
    (A : Option Addr) (n B : Nat) (L : List Int) (hn : L.length = n) (h0 : 0 < n) (hs : a.eval s = .slice A n n) (hL : SlI w B A L) (A' : Option Addr) (m c B' N : Nat) (r : List Int) (hN : N = n + m) (hm : r.length = m) (hm0 : 0 < m) (hx : a.eval x = .slice A' m c) (hr : SlI w B' A' r) (hlen : N ≤ 1000000)
    (h : ∀ A2 c2 w', w'.ownsRow w.heap.size 3 1 (.slice A2 N c2) N (ics (L ++ r)) → w.grownBy w' none → wpList Try.prog ops Q rest (a.put o.dst (.slice A2 N c2)) w') :
    wpList Try.prog ops Q (o :: rest) a w :=
  wpList_plain hgd fun _ hK => wp_growI w s x ho A n B L hn h0 hs hL A' m c B' N r hN hm hm0 hx hr hlen fun A2 c2 w' h1 h2 => hK _ _ (h A2 c2 w' h1 h2)
theorem step_growI {K : Act → World → Prop} {E : Prop} (w : World) (hgd : o.guard = none) (s x : Operand) (ho : o.op = .call { callee := .builtin .append, args := #[s, x], argTypes := #[24, 24] })
    (A : Option Addr) (n B : Nat) (L : List Int) (hn : L.length = n) (h0 : 0 < n) (hs : a.eval s = .slice A n n) (hL : SlI w B A L) (A' : Option Addr) (m c B' N : Nat) (r : List Int) (hN : N = n + m) (hm : r.length = m) (hm0 : 0 < m) (hx : a.eval x = .slice A' m c) (hr : SlI w B' A' r) (hlen : N ≤ 1000000)
    (h : ∀ A2 c2 w', w'.ownsRow w.heap.size 3 1 (.slice A2 N c2) N (ics (L ++ r)) → w.grownBy w' none → K (a.put o.dst (.slice A2 N c2)) w') :
    if Region.wanted o (yielded ops a.tmps) = true then Oper.wp Try.prog o a w K Q else E := by
  have hw : Region.wanted o (yielded ops a.tmps) = true := by simp [Region.wanted, hgd]
  rw [if_pos hw]
  exact wp_growI w s x ho A n B L hn h0 hs hL A' m c B' N r hN hm hm0 hx hr hlen h
theorem step_ownP {K : Act → World → Prop} {E : Prop} (w : World) (hgd : o.guard = none) (x : Operand)
    (ho : o.op = .call { callee := .value (.func 114), args := #[x], argTypes := #[24] }) (A : Option Addr) (n c B : Nat) (l : List Int) (hx : a.eval x = .slice A n c) (hn : l.length = n) (h : SlI w B A l) (hB : B ≤ w.heap.size) (hl : n ≤ 1000000)
    (hK : ∀ A' c' w', w'.ownsRow w.heap.size 3 1 (.slice A' n c') n (ics l) → Below w.heap.size w w' → K (a.put o.dst (.slice A' n c')) w') :
    if Region.wanted o (yielded ops a.tmps) = true then Oper.wp Try.prog o a w K Q else E := by
  have hw : Region.wanted o (yielded ops a.tmps) = true := by simp [Region.wanted, hgd]
  rw [if_pos hw]
  have hrun : (execOp a.eval o).run Try.prog w = .ok (.enter 114 #[.slice A n c]) w := by
    have h1 : (#[x].map a.eval) = #[.slice A n c] := by simp [hx]
    unfold execOp
    simp only [ho, resolve, invoke, h1, Sem.run_bind, Result.andThen_ok, Act.eval]
    go_simp
  unfold Oper.wp
  rw [hrun, Oper.upon_enter]
  refine (spec_l1Own_at A n c B l w hn h hB hl).mono fun e w' hh => ?_
  obtain ⟨A', c', rfl, h1, h2⟩ := hh
  exact hK A' c' w' h1 h2
end
end Go.Proofs.Ytfkkbjbgjmaciaa

/- The model's GlueEar. -/
namespace Go.Proofs.Ytfkkbjbgjmaciaa
set_option linter.unusedVariables false
open Go.RowKit

/-- an ear is to be glued behind the first p numbers -/
def gluP (q : List Int) (p : Nat) : List Int := q.take p ++ [1] ++ q.drop p
def gInc (l : List Int) (k : Nat) : List Int := l.set k (l.getD k 0 + 1)
def glueL (q : List Int) (t : Nat) : List Int := gInc (gInc (gluP q (t + 1)) t) ((t + 2) % (q.length + 1))
def okG (q : List Int) (i : Int) : Bool := isQ q && !decide (q.length = 12) && inB i 1 (q.length : Int)
def glueR (q : List Int) (i : Int) : List Int := if okG q i = true then glueL q (i - 1).toNat else []
theorem okG_iff {q : List Int} {i : Int} : okG q i = true ↔ isQ q = true ∧ q.length ≠ 12 ∧ 1 ≤ i ∧ i ≤ (q.length : Int) := by
  unfold okG inB
  simp [and_assoc]
theorem gluP_length (q : List Int) (p : Nat) (h : p ≤ q.length) : (gluP q p).length = q.length + 1 := by simp [gluP]; omega
theorem gInc_length (l : List Int) (k : Nat) : (gInc l k).length = l.length := by simp [gInc]
theorem glueL_length (q : List Int) (t : Nat) (h : t + 1 ≤ q.length) : (glueL q t).length = q.length + 1 := by
  unfold glueL
  rw [gInc_length, gInc_length, gluP_length q _ h]
theorem glueR_length (q : List Int) (i : Int) : (glueR q i).length ≤ 1000000000 := by
  unfold glueR
  split
  · rename_i h
    obtain ⟨hq, h12, h0, h1⟩ := okG_iff.1 h
    have := isQ_len hq
    rw [glueL_length q _ (by omega)]
    omega
  · simp
theorem retG_no {q : List Int} {i : Int} {w w' : World} (h : okG q i = false) (hb : Below w.heap.size w w') : RetI w (glueR q i) (okG q i) (.returned (.tuple #[.slice none 0 0, .bool false])) w' := by
  unfold glueR
  rw [h]
  exact ⟨none, 0, rfl, World.ownsRow_nil _ _ _ _, hb⟩
theorem gluP_bd {q : List Int} {p : Nat} (h : ∀ i, i < q.length → 1 ≤ q.getD i 0 ∧ q.getD i 0 ≤ 12) (j : Nat) (hj : j < (gluP q p).length) : 1 ≤ (gluP q p).getD j 0 ∧ (gluP q p).getD j 0 ≤ 12 := by
  have hm : ∀ x ∈ q, 1 ≤ x ∧ x ≤ 12 := fun x hx => by
    obtain ⟨i, hi, rfl⟩ := List.mem_iff_getElem.1 hx
    have := h i hi
    simpa [hi] using this
  have e : (gluP q p).getD j 0 = (gluP q p)[j] := by simp [hj]
  rw [e]
  have hx : (gluP q p)[j] ∈ gluP q p := List.getElem_mem hj
  generalize (gluP q p)[j] = x at *
  unfold gluP at hx
  rw [List.mem_append, List.mem_append] at hx
  rcases hx with (hx | hx) | hx
  · exact hm x (List.mem_of_mem_take hx)
  · simp at hx; omega
  · exact hm x (List.mem_of_mem_drop hx)
theorem glue_cells {w4 : World} {base c4 n : Nat} {A4 : Option Addr} {L : List Int} (own4 : w4.ownsRow base 3 1 (.slice A4 (n + 1) c4) (n + 1) (ics L)) (hL : L.length = n + 1) (t b : Nat) (ht : t < n + 1) (hb : b < n + 1) :
    ∃ gl, A4 = some ⟨gl, 0, none⟩ ∧ (w4.cell? ⟨gl, t, none⟩ = some (.int .i64 (L.getD t 0)) ∧ w4.frozen? ⟨gl, t, none⟩ = false) ∧
      ((w4.setCell ⟨gl, t, none⟩ (.int .i64 (L.getD t 0 + 1))).cell? ⟨gl, b, none⟩ = some (.int .i64 ((gInc L t).getD b 0)) ∧ (w4.setCell ⟨gl, t, none⟩ (.int .i64 (L.getD t 0 + 1))).frozen? ⟨gl, b, none⟩ = false) ∧
      ((w4.setCell ⟨gl, t, none⟩ (.int .i64 (L.getD t 0 + 1))).setCell ⟨gl, b, none⟩ (.int .i64 ((gInc L t).getD b 0 + 1))).ownsRow base 3 1 (.slice A4 (n + 1) c4) (n + 1) (ics (gInc (gInc L t) b)) ∧
      w4.grownBy ((w4.setCell ⟨gl, t, none⟩ (.int .i64 (L.getD t 0 + 1))).setCell ⟨gl, b, none⟩ (.int .i64 ((gInc L t).getD b 0 + 1))) (some gl) ∧ base ≤ gl := by
  obtain ⟨gl, cap0, hv, hgl, _⟩ := own4.form (by omega)
  cases hv
  obtain ⟨h1, h2⟩ := own4.stored t (.int .i64 (L.getD t 0 + 1))
  rw [ics_set, show L.set t (L.getD t 0 + 1) = gInc L t from rfl] at h1
  obtain ⟨h3, h4⟩ := h1.stored b (.int .i64 ((gInc L t).getD b 0 + 1))
  rw [ics_set, show (gInc L t).set b ((gInc L t).getD b 0 + 1) = gInc (gInc L t) b from rfl] at h3
  exact ⟨gl, rfl, ⟨by rw [own4.cellAt t (by omega), ics_get _ _ (by omega)], own4.frozenAt t⟩, ⟨by rw [h1.cellAt b (by omega), ics_get _ _ (by rw [gInc_length]; omega)], h1.frozenAt b⟩, h3, h2.trans h4, hgl⟩
theorem gInc_bd {L : List Int} (h : ∀ j, j < L.length → 1 ≤ L.getD j 0 ∧ L.getD j 0 ≤ 12) (t b : Nat) (hb : b < L.length) : 1 ≤ (gInc L t).getD b 0 ∧ (gInc L t).getD b 0 ≤ 13 := by
  unfold gInc
  simp only [List.getD_eq_getElem?_getD, List.getElem?_set]
  have h1 := h b hb
  simp only [List.getD_eq_getElem?_getD] at h1
  split
  · rename_i e
    subst e
    rw [if_pos hb]
    show 1 ≤ L[t]?.getD 0 + 1 ∧ L[t]?.getD 0 + 1 ≤ 13
    omega
  · omega

end Go.Proofs.Ytfkkbjbgjmaciaa

/- Is a list of numbers a puzzle? The model's and the program's. -/
namespace Go.Proofs.Ytfkkbjbgjmaciaa
set_option linter.unusedVariables false
open Go.RowKit

/-- a puzzle's length; a puzzle -/
def pzL (n : Nat) : Bool := decide (3 ≤ n ∧ n ≤ 9)
def pzB (l : List Int) : Bool := pzL l.length && allB l 0 ((l.length : Int) - 2)
theorem pzB_len {l : List Int} (h : pzB l = true) : 3 ≤ l.length ∧ l.length ≤ 9 := by
  unfold pzB pzL at h
  simp at h
  omega
theorem pzB_get {l : List Int} (h : pzB l = true) (k : Nat) (hk : k < l.length) : 0 ≤ l.getD k 0 ∧ l.getD k 0 ≤ (l.length : Int) - 2 := by
  unfold pzB at h
  simp only [Bool.and_eq_true] at h
  exact allB_iff.1 h.2 k hk




end Go.Proofs.Ytfkkbjbgjmaciaa

/- The places that are no gaps, of the program; gaps counted, of the model and of the program. -/
namespace Go.Proofs.Ytfkkbjbgjmaciaa
set_option linter.unusedVariables false
open Go.RowKit

/-- the indices of the first k numbers that are not 0 -/
def fullF (q : List Int) (k : Nat) : List Int := ((List.range k).filter fun i => q.getD i 0 != 0).map fun (i : Nat) => (i : Int)
theorem fullF_zero (q : List Int) : fullF q 0 = [] := rfl
theorem fullF_hit (q : List Int) (k : Nat) (h : q.getD k 0 ≠ 0) : fullF q (k + 1) = fullF q k ++ [(k : Int)] := by
  unfold fullF
  rw [List.range_succ, List.filter_append]
  simp at h
  simp [h]
theorem fullF_miss (q : List Int) (k : Nat) (h : q.getD k 0 = 0) : fullF q (k + 1) = fullF q k := by
  unfold fullF
  rw [List.range_succ, List.filter_append]
  simp
  simpa using h
theorem fullF_le (q : List Int) (k : Nat) : (fullF q k).length ≤ k := by
  unfold fullF
  rw [List.length_map]
  have := List.length_filter_le (fun i => q.getD i 0 != 0) (List.range k)
  simpa using this
theorem fullF_get (q : List Int) : ∀ (k j : Nat), j < (fullF q k).length → ∃ p : Nat, (fullF q k).getD j 0 = (p : Int) ∧ p < k ∧ q.getD p 0 ≠ 0 := by
  intro k j hj
  unfold fullF at hj ⊢
  rw [List.length_map] at hj
  have hm := List.getElem_mem hj
  rw [List.mem_filter] at hm
  obtain ⟨h1, h2⟩ := hm
  refine ⟨((List.range k).filter fun i => q.getD i 0 != 0)[j], ?_, by simpa using h1, by simpa using h2⟩
  rw [List.getD_eq_getElem?_getD, List.getElem?_map, List.getElem?_eq_getElem hj]
  rfl
/-- how many of the first k are 0 -/
def gapN (q : List Int) (k : Nat) : Int := (k : Int) - ((fullF q k).length : Int)
theorem gapN_bd (q : List Int) (k : Nat) : 0 ≤ gapN q k ∧ gapN q k ≤ (k : Int) := by
  have := fullF_le q k
  unfold gapN
  omega
theorem gapN_hit (q : List Int) (k : Nat) (h : q.getD k 0 = 0) : gapN q (k + 1) = gapN q k + 1 := by
  unfold gapN
  rw [fullF_miss q k h]
  omega
theorem gapN_miss (q : List Int) (k : Nat) (h : q.getD k 0 ≠ 0) : gapN q (k + 1) = gapN q k := by
  unfold gapN
  rw [fullF_hit q k h]
  simp
  omega

/-- what holds at the head of the loop that collects the places -/
def Fulls (w2 : World) (q : List Int) (k : Nat) (v : Value) (wr : World) : Prop :=
  ∃ A' c', v = .slice A' (fullF q k).length c' ∧ wr.ownsRow w2.heap.size 3 1 (.slice A' (fullF q k).length c') (fullF q k).length (ics (fullF q k)) ∧ Below w2.heap.size w2 wr


/-- gaps counted, 0 of what is no puzzle -/
def gapR (l : List Int) : Int := if pzB l = true then gapN l l.length else 0
def GapE (l : List Int) (w : World) (e : Ending) (w' : World) : Prop := e = .returned (.tuple #[.int .i64 (gapR l), .bool (pzB l)]) ∧ Below w.heap.size w w'
theorem gapE_no {l : List Int} {w w' : World} (h : pzB l = false) (hb : Below w.heap.size w w') : GapE l w (.returned (.tuple #[.int .i64 0, .bool false])) w' := by
  unfold GapE gapR
  rw [h]
  exact ⟨rfl, hb⟩
theorem gapE_yes {l : List Int} {w w' : World} (h : pzB l = true) (hb : Below w.heap.size w w') : GapE l w (.returned (.tuple #[.int .i64 (gapN l l.length), .bool true])) w' := by
  unfold GapE gapR
  rw [h]
  exact ⟨rfl, hb⟩


end Go.Proofs.Ytfkkbjbgjmaciaa

/- Puzzles made by numbers: an ear put on a quiddity keeps it one; the numbers told; places that become gaps: plain mathematics. -/
namespace Go.Proofs.Ytfkkbjbgjmaciaa
set_option linter.unusedVariables false

theorem gluP_get (q : List Int) (p j : Nat) (h : p ≤ q.length) : (gluP q p).getD j 0 = if j < p then q.getD j 0 else if j = p then 1 else q.getD (j - 1) 0 := by
  have hl : (q.take p).length = p := by simp; omega
  unfold gluP
  simp only [List.getD_eq_getElem?_getD, List.append_assoc]
  by_cases h1 : j < p
  · rw [if_pos h1, List.getElem?_append_left (by omega)]
    simp [h1]
  · rw [if_neg h1, List.getElem?_append_right (by omega), hl]
    by_cases h2 : j = p
    · rw [if_pos h2]
      simp [h2]
    · rw [if_neg h2]
      obtain ⟨d, hd⟩ : ∃ d, j - p = d + 1 := ⟨j - p - 1, by omega⟩
      rw [hd]
      simp
      rw [show p + d = j - 1 by omega]
theorem gInc_get (l : List Int) (k j : Nat) (hj : j < l.length) : (gInc l k).getD j 0 = if k = j then l.getD j 0 + 1 else l.getD j 0 := by
  unfold gInc
  simp only [List.getD_eq_getElem?_getD]
  by_cases h : k = j
  · subst h
    simp [hj]
  · simp [h, List.getElem?_set_ne h]
theorem glueL_get (q : List Int) (t j : Nat) (h : t < q.length) (hj : j < q.length + 1) : (glueL q t).getD j 0 = (if j < t + 1 then q.getD j 0 else if j = t + 1 then 1 else q.getD (j - 1) 0) + (if t = j then 1 else 0) + (if (t + 2) % (q.length + 1) = j then 1 else 0) := by
  unfold glueL
  have h1 : (gluP q (t + 1)).length = q.length + 1 := gluP_length q (t + 1) (by omega)
  rw [gInc_get _ _ _ (by rw [gInc_length, h1]; exact hj), gInc_get _ _ _ (by rw [h1]; exact hj), gluP_get q (t + 1) j (by omega)]
  by_cases h2 : t = j <;> by_cases h3 : (t + 2) % (q.length + 1) = j <;> simp only [h2, h3, if_true, if_false] <;> omega
theorem cut_glue (q : List Int) (t : Nat) (h3 : 3 ≤ q.length) (h : t < q.length) : cutL (glueL q t) (t + 1) = q := by
  have hl := glueL_length q t (by omega)
  refine ext_getD (by rw [cutL_length _ _ (by omega), hl]; omega) fun j hj => ?_
  rw [cutL_length _ _ (by omega), hl] at hj
  have hm : (t + 2) % (q.length + 1) = if t + 2 = q.length + 1 then 0 else t + 2 := by
    split
    · next e => rw [e]; exact Nat.mod_self _
    · exact Nat.mod_eq_of_lt (by omega)
  rw [cutL_at _ _ _ (by omega) (by omega) (by omega), hl]
  have hpre : preL (q.length + 1) (t + 1) = t := by unfold preL; rw [if_neg (by omega)]; omega
  have hsuc : sucL (q.length + 1) (t + 1) = (t + 2) % (q.length + 1) := by
    rw [hm]
    unfold sucL
    split <;> omega
  unfold nbL
  rw [hpre, hsuc]
  rcases up_eq (t + 1) j with ⟨e1, e2⟩ | ⟨e1, e2⟩
  · rw [e2, glueL_get q t j h (by omega), if_pos e1]
    have e3 : (if j = t then (1 : Int) else 0) = if t = j then 1 else 0 := by split <;> split <;> omega
    have e4 : (if j = (t + 2) % (q.length + 1) then (1 : Int) else 0) = if (t + 2) % (q.length + 1) = j then 1 else 0 := by split <;> split <;> omega
    rw [e3, e4]
    omega
  · rw [e2, glueL_get q t (j + 1) h (by omega), if_neg (by omega), if_neg (by omega), Nat.add_sub_cancel]
    have e3 : (if j + 1 = t then (1 : Int) else 0) = if t = j + 1 then 1 else 0 := by split <;> split <;> omega
    have e4 : (if j + 1 = (t + 2) % (q.length + 1) then (1 : Int) else 0) = if (t + 2) % (q.length + 1) = j + 1 then 1 else 0 := by split <;> split <;> omega
    rw [e3, e4]
    omega
theorem glue_isQ {q : List Int} {t : Nat} (hq : isQ q = true) (h11 : q.length ≤ 11) (ht : t < q.length) : isQ (glueL q t) = true := by
  obtain ⟨h3, _⟩ := isQ_len hq
  have hl := glueL_length q t (by omega)
  have hb := fun i hi => isQ_get hq i hi
  rw [isQ_red] at hq ⊢
  rw [Bool.and_eq_true] at hq ⊢
  obtain ⟨f, hf⟩ : ∃ f, q.length = f + 3 := ⟨q.length - 3, by omega⟩
  have h1 : (glueL q t).getD (t + 1) 0 = 1 := by
    rw [glueL_get q t (t + 1) ht (by omega), if_neg (by omega), if_pos rfl, if_neg (by omega), if_neg]
    · rfl
    · intro e
      have : (t + 2) % (q.length + 1) = if t + 2 = q.length + 1 then 0 else t + 2 := by
        split
        · next e => rw [e]; exact Nat.mod_self _
        · exact Nat.mod_eq_of_lt (by omega)
      rw [this] at e
      split at e <;> omega
  constructor
  · unfold couldB poB
    rw [Bool.and_eq_true, hl]
    refine ⟨by simp; omega, allB_iff.2 fun i hi => ?_⟩
    rw [hl] at hi
    rw [glueL_get q t i ht hi]
    have hr : 1 ≤ (if i < t + 1 then q.getD i 0 else if i = t + 1 then 1 else q.getD (i - 1) 0) ∧ (if i < t + 1 then q.getD i 0 else if i = t + 1 then 1 else q.getD (i - 1) 0) ≤ (q.length : Int) - 2 := by
      split
      · exact hb i (by omega)
      · split
        · omega
        · exact hb (i - 1) (by omega)
    have hne : t ≠ (t + 2) % (q.length + 1) := by
      intro e
      have : (t + 2) % (q.length + 1) = if t + 2 = q.length + 1 then 0 else t + 2 := by
        split
        · next e => rw [e]; exact Nat.mod_self _
        · exact Nat.mod_eq_of_lt (by omega)
      rw [this] at e
      split at e <;> omega
    generalize (if i < t + 1 then q.getD i 0 else if i = t + 1 then 1 else q.getD (i - 1) 0) = x at *
    generalize (t + 2) % (q.length + 1) = r at *
    have : ¬(t = i ∧ r = i) := fun ⟨a, b⟩ => hne (a.trans b.symm)
    split <;> split <;> omega
  · rw [hl]
    have h5 : red f (cutL (glueL q t) (t + 1)) = true := by
      rw [cut_glue q t h3 ht]
      have := hq.2
      rw [hf] at this
      simpa using this
    have h6 := red_ear (anyEar f) (l := glueL q t) (by omega) (i := t + 1) (by omega) h1 h5
    rw [show q.length + 1 - 3 = f + 1 by omega]
    exact h6

/-- the next number -/
def mkZ (z : Int) : Int := (z * 187 + 3301) % 10007
theorem mkZ_bd {z : Int} (h : 0 ≤ z) : 0 ≤ mkZ z ∧ mkZ z ≤ 10006 := by
  unfold mkZ
  omega
theorem mkM_bd {z : Int} {m : Nat} (h : 0 ≤ z) (hm : 0 < m) : 0 ≤ mkZ z % (m : Int) ∧ mkZ z % (m : Int) < (m : Int) := by
  exact ⟨Int.emod_nonneg _ (by omega), Int.emod_lt_of_pos _ (by omega)⟩
/-- ears put on, so often -/
def mkA : Nat → Int → List Int → Int × List Int
  | 0, z, q => (z, q)
  | f + 1, z, q => mkA f (mkZ z) (glueL q (mkZ z % (q.length : Int)).toNat)
/-- gaps made, so often -/
def mkS (z : Int) (q : List Int) : List Int := q.set ((fullF q q.length).getD (mkZ z % ((fullF q q.length).length : Int)).toNat 0).toNat 0
def mkB : Nat → Int → List Int → List Int
  | 0, _, q => q
  | g + 1, z, q => mkB g (mkZ z) (mkS z q)
theorem mkS_length (z : Int) (q : List Int) : (mkS z q).length = q.length := by simp [mkS]
theorem mkB_length : ∀ (g : Nat) (z : Int) (q : List Int), (mkB g z q).length = q.length := by
  intro g
  induction g with
  | zero => intro z q; rfl
  | succ g ih => intro z q; rw [mkB, ih, mkS_length]
theorem mkA_isQ : ∀ (f : Nat) (z : Int) (q : List Int), 0 ≤ z → isQ q = true → q.length + f ≤ 12 → isQ (mkA f z q).2 = true ∧ (mkA f z q).2.length = q.length + f ∧ 0 ≤ (mkA f z q).1 := by
  intro f
  induction f with
  | zero => intro z q hz hq _; exact ⟨hq, rfl, hz⟩
  | succ f ih =>
    intro z q hz hq hl
    obtain ⟨h3, _⟩ := isQ_len hq
    obtain ⟨m0, m1⟩ := mkM_bd (m := q.length) hz (by omega)
    have ht : (mkZ z % (q.length : Int)).toNat < q.length := by omega
    have hg := glueL_length q _ (show (mkZ z % (q.length : Int)).toNat + 1 ≤ q.length by omega)
    obtain ⟨r1, r2, r3⟩ := ih (mkZ z) _ (mkZ_bd hz).1 (glue_isQ hq (by omega) ht) (by rw [hg]; omega)
    rw [hg] at r2
    exact ⟨r1, by rw [mkA, r2]; omega, r3⟩
theorem fullF_same (q : List Int) (k : Nat) (r : List Int) (h : ∀ i, i < k → (q.getD i 0 = 0 ↔ r.getD i 0 = 0)) : fullF q k = fullF r k := by
  induction k with
  | zero => rfl
  | succ k ih =>
    have ih' := ih fun i hi => h i (by omega)
    by_cases hx : q.getD k 0 = 0
    · rw [fullF_miss q k hx, fullF_miss r k ((h k (by omega)).1 hx), ih']
    · rw [fullF_hit q k hx, fullF_hit r k (fun e => hx ((h k (by omega)).2 e)), ih']
theorem set_getI (q : List Int) (p i : Nat) (hp : p < q.length) : (q.set p 0).getD i 0 = if i = p then 0 else q.getD i 0 := by
  simp only [List.getD_eq_getElem?_getD]
  by_cases h : i = p
  · subst h
    simp [hp]
  · simp [h, List.getElem?_set_ne (Ne.symm h)]
theorem fullF_set (q : List Int) (p : Nat) (hp : p < q.length) (hx : q.getD p 0 ≠ 0) : ∀ k, p < k → (fullF (q.set p 0) k).length + 1 = (fullF q k).length := by
  intro k
  induction k with
  | zero => intro h; omega
  | succ k ih =>
    intro hk
    by_cases hpk : p = k
    · subst hpk
      rw [fullF_miss (q.set p 0) p (by rw [set_getI q p p hp, if_pos rfl]), fullF_hit q p hx, fullF_same (q.set p 0) p q (fun i hi => by rw [set_getI q p i hp, if_neg (by omega)])]
      simp
    · have ih' := ih (by omega)
      have e := set_getI q p k hp
      rw [if_neg (by omega)] at e
      by_cases hz : q.getD k 0 = 0
      · rw [fullF_miss q k hz, fullF_miss _ k (by rw [e]; exact hz)]
        exact ih'
      · rw [fullF_hit q k hz, fullF_hit _ k (by rw [e]; exact hz)]
        simp
        omega
theorem mkS_full (z : Int) (q : List Int) (hz : 0 ≤ z) (h : 0 < (fullF q q.length).length) : (fullF (mkS z q) q.length).length + 1 = (fullF q q.length).length := by
  obtain ⟨m0, m1⟩ := mkM_bd (m := (fullF q q.length).length) hz h
  obtain ⟨p, e, hp, hx⟩ := fullF_get q q.length (mkZ z % ((fullF q q.length).length : Int)).toNat (by omega)
  unfold mkS
  rw [e]
  exact fullF_set q p hp hx q.length hp
theorem full_all {q : List Int} (h : ∀ i, i < q.length → q.getD i 0 ≠ 0) : ∀ k, k ≤ q.length → (fullF q k).length = k := by
  intro k
  induction k with
  | zero => intro _; rfl
  | succ k ih =>
    intro hk
    rw [fullF_hit q k (h k (by omega)), List.length_append, ih (by omega)]
    rfl
def mkOk (n g s : Int) : Bool := inB n 3 9 && inB g 0 n && inB s 0 9999
def mkR (n g s : Int) : List Int := if mkOk n g s = true then mkB g.toNat (mkA (n.toNat - 3) s [1, 1, 1]).1 (mkA (n.toNat - 3) s [1, 1, 1]).2 else []
theorem tri_isQ : isQ [1, 1, 1] = true := by decide +kernel
end Go.Proofs.Ytfkkbjbgjmaciaa

/- The cursor's quiddities. -/
namespace Go.Proofs.Ytfkkbjbgjmaciaa
set_option linter.unusedVariables false
open Go.RowKit

/-- a quiddity of n numbers drawn -/
def DrawnQ (w : World) (g N n : Nat) (e : Ending) (w' : World) : Prop :=
  ∃ (A : Option Addr) (c : Nat) (q : List Int), e = .returned (.slice A n c) ∧ q.length = n ∧ isQ q = true ∧ n ≤ c ∧ w'.ownsRow w.heap.size 3 1 (.slice A n c) n (ics q) ∧ Cur w' g N ∧ w.grownBy w' (some g)
/-- at the head of the loop -/
def QGrows (w : World) (g N m : Nat) (v : Value) (wr : World) : Prop :=
  ∃ (A : Option Addr) (c : Nat) (q : List Int), v = .slice A m c ∧ q.length = m ∧ isQ q = true ∧ m ≤ c ∧ wr.ownsRow w.heap.size 3 1 (.slice A m c) m (ics q) ∧ Cur wr g N ∧ w.grownBy wr (some g)

set_option maxRecDepth 100000 in
set_option maxHeartbeats 12800000 in
theorem spec_sureQuiddity (g N n : Nat) (w : World) (h : Cur w g N) (hN : N ≤ 10000000000) (n3 : 3 ≤ n) (n12 : n ≤ 12) :
    Calls Try.prog 172 #[.pointer (some ⟨g, 0, none⟩), .int .i64 n] w (DrawnQ w g (N + 30) n) := by
  have hgl := h.lt
  have hba : Below w.heap.size w (w.alloc (.cells #[.int .i64 1, .int .i64 1, .int .i64 1] 3)) := below_box (Below.refl _ _) (Nat.le_refl _) _
  have HG : Hid (QGrows w g (N + 2 * 3) 3 (.slice (some ⟨w.heap.size, 0, none⟩) 3 3) (w.alloc (.cells #[.int .i64 1, .int .i64 1, .int .i64 1] 3))) :=
    Lib.hid ⟨_, 3, [1, 1, 1], rfl, rfl, tri_isQ, Nat.le_refl _, ⟨by simp [ics], .inr ⟨w.heap.size, 3, #[.int .i64 1, .int .i64 1, .int .i64 1], rfl, Nat.le_refl _, heap_alloc_new w _, by omega, by decide, by simp, by simp [ics]⟩⟩, (h.kept hba).more (by omega), grownC_below (World.grownBy.refl w _) hba⟩
  have nn : (n : Int) ≤ 12 := by omega
  clear h hba
  go_enter Try.func172, Try.ntmps172
  go_wp2
  go_loopw [5, 6, 7] (fun v _ _ wr => ∃ m : Nat, 3 ≤ m ∧ m ≤ n ∧ QGrows w g (N + 2 * m) m v wr) (fun v _ _ _ => n - lenW v)
  case atStart => exact ⟨3, by omega, n3, HG.out⟩
  case round =>
    clear HG
    obtain ⟨m, m3, mn, A, c, q, rfl, hqm, hq, mc, ho, hc, hg⟩ := hrel
    by_cases hlt : m < n
    · have i0 : (m : Int) < (n : Int) := by omega
      have HP := Lib.hid (spec_pick g (N + 2 * m) m wr hc (by omega) (by omega))
      have Ho := Lib.hid ho
      have Hg := Lib.hid hg
      have Hq := Lib.hid hq
      have Hqm := Lib.hid hqm
      clear hc ho hg hq hqm
      go_wp2_with fail
      refine HP.out.mono ?_
      rintro e wp ⟨x, rfl, ⟨x0, x1⟩, hc2, hg2⟩
      obtain ⟨t, rfl⟩ := Int.eq_ofNat_of_zero_le x0
      have ht : t < m := by omega
      have o2 := own_far Ho.out hg2 (fun k hk e => by have := (Ho.out.lt k hk).1; injection e with e; omega)
      have g2 := Hg.out.trans hg2
      obtain ⟨gq, cap0, hv, hgq, hgql⟩ := o2.form (by omega)
      cases hv
      have Hs := Lib.hid (SlI.of_own o2)
      have Hc2 := Lib.hid hc2
      have HG2 := Lib.hid g2
      have hz := g2.size
      clear hc2 hg2 HP Ho Hg g2 o2 x1
      have Hget : Hid (∀ i, i < q.length → 1 ≤ q.getD i 0 ∧ q.getD i 0 ≤ 12) := Lib.hid fun i hi => by have h1 := isQ_get Hq.out i hi; have h2 := isQ_len Hq.out; omega
      have t1 : t + 1 ≤ m := by omega
      have Hlt : Hid ((q.take (t + 1)).length = t + 1) := Lib.hid (by rw [List.length_take, Hqm.out]; omega)
      have Hld : Hid ((q.drop (t + 1)).length = m - (t + 1)) := Lib.hid (by rw [List.length_drop, Hqm.out])
      have z0 : (0 : Int) ≤ (t : Int) + 1 := by omega
      have z1 : (t : Int) + 1 ≤ (c : Int) := by omega
      have z2 : (m : Int) ≤ (c : Int) := by omega
      have hpn : ((t : Int) + 1).toNat = t + 1 := by omega
      have hpn1 : (1 + (t : Int)).toNat = t + 1 := by omega
      have hcm : (1 : Int) + (t : Int) = (t : Int) + 1 := by omega
      have HE : Hid (∀ w6 A6 c6, w6.ownsRow wp.heap.size 3 1 (.slice A6 (m + 1) c6) (m + 1) (ics (glueL q t)) → Below wp.heap.size wp w6 → QGrows w g (N + 2 * (m + 1)) (m + 1) (.slice A6 (m + 1) c6) w6) := Lib.hid fun w6 A6 c6 o6 b6 =>
        ⟨A6, c6, glueL q t, rfl, by rw [glueL_length q t (by rw [Hqm.out]; exact t1), Hqm.out], glue_isQ Hq.out (by rw [Hqm.out]; omega) (by rw [Hqm.out]; exact ht), own_capI o6, o6.mono hz, (Hc2.out.kept b6).more (by omega), grownC_below HG2.out b6⟩
      go_wp2_with fail
      refine (spec_l1Own_at (some ⟨gq, 0, none⟩) (t + 1) c wp.heap.size (q.take (t + 1)) _ Hlt.out (Hs.out.take (t + 1)) (Nat.le_refl _) (by omega)).mono ?_
      rintro e w2 ⟨A2, c2, rfl, o2, b2⟩
      have own2 := o2.alloc (.cells #[.int .i64 1] 3)
      have hsz2 := b2.size
      have Hb2 := Lib.hid (b2.alloc hsz2 (.cells #[.int .i64 1] 3))
      have Hlw : Hid (∀ k, (Value.slice A2 (t + 1) c2).ownBlock = some k → wp.heap.size ≤ k) := Lib.hid fun k hk => (o2.lt k hk).1
      have t6 : t + 1 ≤ 1000000 := by omega
      have Hl1 : Hid ((q.take (t + 1) ++ [(1 : Int)]).length = t + 1 + 1) := Lib.hid (by rw [List.length_append, Hlt.out]; rfl)
      have HN1 : Hid (m + 1 = t + 1 + 1 + (m - (t + 1))) := Lib.hid (by omega)
      have HNl : Hid (gluP q (t + 1) = q.take (t + 1) ++ [1] ++ q.drop (t + 1)) := Lib.hid rfl
      have Hgl : Hid ((gluP q (t + 1)).length = m + 1) := Lib.hid (by rw [gluP_length q _ (by rw [Hqm.out]; exact t1), Hqm.out])
      have Hbd : Hid (∀ j, j < (gluP q (t + 1)).length → 1 ≤ (gluP q (t + 1)).getD j 0 ∧ (gluP q (t + 1)).getD j 0 ≤ 12) := Lib.hid fun j hj => gluP_bd Hget.out j hj
      obtain ⟨b, hbdef⟩ : ∃ b, b = (t + 2) % (m + 1) := ⟨_, rfl⟩
      have hbn : b < m + 1 := by rw [hbdef]; exact Nat.mod_lt _ (by omega)
      have hrem : ((t : Int) + 1 + 1) % ((m : Int) + 1) = (b : Int) := by
        rw [hbdef, show (t : Int) + 1 + 1 = ((t + 2 : Nat) : Int) by omega, show (m : Int) + 1 = ((m + 1 : Nat) : Int) by omega]
        rfl
      have HGL : Hid (glueL q t = gInc (gInc (gluP q (t + 1)) t) b) := Lib.hid (by unfold glueL; rw [Hqm.out, hbdef])
      have t0 : (0 : Int) ≤ (t : Int) := by omega
      have t2 : (t : Int) < (m : Int) + 1 := by omega
      have bb0 : (0 : Int) ≤ (b : Int) := by omega
      have bb1 : (b : Int) < (m : Int) + 1 := by omega
      have t7 : t + 1 + 1 ≤ 1000000 := by omega
      have t8 : m - (t + 1) ≤ 1000000 := by omega
      have t9 : t < m + 1 := by omega
      have hm1 : (m : Int) + 1 ≠ 0 := by omega
      have HsB : Hid (∀ w3, Below wp.heap.size wp w3 → SlI w3 wp.heap.size (some ⟨gq, 0, none⟩) q) := Lib.hid fun w3 h3 => Hs.out.below h3
      clear o2 b2 z0 z1 hbdef hpn1 hcm
      rcases Nat.lt_or_ge (t + 1) c with kc | kc
      · have kc2 : ¬ c = t + 1 := by omega
        go_wp2_with (first
            | (at_builtin; refine append1In _ rfl (.tmp 21) (.tmp 22) rfl wp.heap.size (.slice A2 (t + 1) c2) (t + 1) (q.take (t + 1)) Hlt.out rfl own2 w2.heap.size 1 rfl ?c1 t6 Hb2.out.size ?_; (case c1 => simp [go_sem])
               intro A3 c3 w3 own3 hg3
               have Own3 := Lib.hid own3
               have Hb3 := Lib.hid (below_grown Hb2.out hg3 (Nat.le_refl _) (fun k hk => Hlw.out k hk))
               clear own2 own3 hg3)
            | (at_builtin; refine wpList_appendNI _ rfl (.tmp 24) (.tmp 27) rfl wp.heap.size (.slice A3 (t + 1 + 1) c3) (t + 1 + 1) (q.take (t + 1) ++ [1]) Hl1.out rfl Own3.out _ (m - (t + 1)) _ (q.drop (t + 1)) wp.heap.size (m + 1) HN1.out rfl Hld.out ?_ t7 t8 Hb3.out.size ?_
               · first
                 | exact (HsB.out _ Hb3.out).cutAt (t + 1)
                 | (have hh := (HsB.out _ Hb3.out).cutAt (t + 1); simpa using hh)
                 | exact fun h0 => absurd h0 (by rw [Hld.out]; omega)
               intro A4 c4 w4 own4 hg4
               have hb4 := below_grown Hb3.out hg4 (Nat.le_refl _) (fun k hk => (Own3.out.lt k hk).1)
               obtain ⟨gl, rfl, ⟨ca, fa⟩, ⟨cb, fb⟩, o6, g6, hgl6⟩ := glue_cells (L := gluP q (t + 1)) own4 Hgl.out t b t9 hbn
               have hb6 := below_grown hb4 g6 (Nat.le_refl _) (fun k hk => by injection hk with hk; omega)
               obtain ⟨x1, x2⟩ := Hbd.out t (by rw [Hgl.out]; exact t9)
               obtain ⟨y1, y2⟩ := gInc_bd Hbd.out t b (by rw [Hgl.out]; exact hbn)
               have hF := HE.out _ (some ⟨gl, 0, none⟩) c4 (by rw [HGL.out]; exact o6) hb6
               have HF := Lib.hid hF
               clear hF o6 g6 hb6 hb4 own4 hg4 Own3 hgl6
               generalize (gInc (gluP q (t + 1)) t).getD b 0 = y at *
               generalize (gluP q (t + 1)).getD t 0 = x at *))
        go_roundw
        case rel => exact ⟨m + 1, by omega, by omega, HF.out⟩
        case measure => simp [lenW]; omega
      · have Hnl : Hid (∀ w3, SlI w3 wp.heap.size (some ⟨gq, 0, none⟩) (q.drop (t + 1))) := Lib.hid fun w3 h0 => absurd h0 (by rw [Hld.out]; omega)
        have HN0 : Hid (m + 1 = t + 1 + 1 + 0) := Lib.hid (by omega)
        have Hld0 : Hid ((q.drop (t + 1)).length = 0) := Lib.hid (by rw [Hld.out]; omega)
        have t80 : 0 ≤ 1000000 := by omega
        obtain rfl : c = t + 1 := by omega
        go_wp2_with (first
            | (at_builtin; refine append1In _ rfl (.tmp 21) (.tmp 22) rfl wp.heap.size (.slice A2 (t + 1) c2) (t + 1) (q.take (t + 1)) Hlt.out rfl own2 w2.heap.size 1 rfl ?c1 t6 Hb2.out.size ?_; (case c1 => simp [go_sem])
               intro A3 c3 w3 own3 hg3
               have Own3 := Lib.hid own3
               have Hb3 := Lib.hid (below_grown Hb2.out hg3 (Nat.le_refl _) (fun k hk => Hlw.out k hk))
               clear own2 own3 hg3)
            | (at_builtin; refine wpList_appendNI _ rfl (.tmp 24) (.tmp 27) rfl wp.heap.size (.slice A3 (t + 1 + 1) c3) (t + 1 + 1) (q.take (t + 1) ++ [1]) Hl1.out rfl Own3.out _ 0 _ (q.drop (t + 1)) wp.heap.size (m + 1) HN0.out rfl Hld0.out ?_ t7 t80 Hb3.out.size ?_
               · exact Hnl.out _
               intro A4 c4 w4 own4 hg4
               have hb4 := below_grown Hb3.out hg4 (Nat.le_refl _) (fun k hk => (Own3.out.lt k hk).1)
               obtain ⟨gl, rfl, ⟨ca, fa⟩, ⟨cb, fb⟩, o6, g6, hgl6⟩ := glue_cells (L := gluP q (t + 1)) own4 Hgl.out t b t9 hbn
               have hb6 := below_grown hb4 g6 (Nat.le_refl _) (fun k hk => by injection hk with hk; omega)
               obtain ⟨x1, x2⟩ := Hbd.out t (by rw [Hgl.out]; exact t9)
               obtain ⟨y1, y2⟩ := gInc_bd Hbd.out t b (by rw [Hgl.out]; exact hbn)
               have hF := HE.out _ (some ⟨gl, 0, none⟩) c4 (by rw [HGL.out]; exact o6) hb6
               have HF := Lib.hid hF
               clear hF o6 g6 hb6 hb4 own4 hg4 Own3 hgl6
               generalize (gInc (gluP q (t + 1)) t).getD b 0 = y at *
               generalize (gluP q (t + 1)).getD t 0 = x at *))
        go_roundw
        case rel => exact ⟨m + 1, by omega, by omega, HF.out⟩
        case measure => simp [lenW]; omega
    · obtain rfl : m = n := by omega
      have HD : Hid (DrawnQ w g (N + 30) m (.returned (.slice A m c)) wr) := Lib.hid ⟨A, c, q, rfl, hqm, hq, mc, ho, hc.more (by omega), hg⟩
      clear ho hc hg hq hqm
      go_wp2
      go_ret
      exact HD.out
end Go.Proofs.Ytfkkbjbgjmaciaa

/- The cursor's quiddities, at times something else; the draws of chapter 3. -/
namespace Go.Proofs.Ytfkkbjbgjmaciaa
set_option linter.unusedVariables false
open Go.RowKit

/-- a list drawn that is read alone -/
def DrawnS (w : World) (g N M : Nat) (e : Ending) (w' : World) : Prop :=
  ∃ (A : Option Addr) (c : Nat) (l : List Int), e = .returned (.slice A l.length c) ∧ l.length ≤ M ∧ l.length ≤ c ∧ SlI w' w'.heap.size A l ∧ Cur w' g N ∧ w.grownBy w' (some g) ∧ ∀ b off sp, A = some ⟨b, off, sp⟩ → w.heap.size ≤ b
/-- a list told by a draw: new memory -/
def GivS (w : World) (M : Nat) (e : Ending) (w' : World) : Prop :=
  ∃ (A : Option Addr) (c : Nat) (l : List Int), e = .returned (.slice A l.length c) ∧ l.length ≤ M ∧ l.length ≤ c ∧ SlI w' w'.heap.size A l ∧ Below w.heap.size w w'
theorem Drawn.s {w : World} {g N M : Nat} {e : Ending} {w' : World} (h : Drawn w g N M e w') : DrawnS w g N M e w' := by
  obtain ⟨A, c, l, h1, h2, h3, h4, h5⟩ := h
  exact ⟨A, c, l, h1, h2, own_capI h3, SlI.of_own h3, h4, h5, fun b off sp e => (h3.lt b (by rw [e]; rfl)).1⟩

set_option maxRecDepth 100000 in
set_option maxHeartbeats 12800000 in
theorem spec_quiddity (g N k : Nat) (w : World) (h : Cur w g N) (hN : N ≤ 1000000000) (k3 : 3 ≤ k) (k12 : k ≤ 12) :
    Calls Try.prog 106 #[.pointer (some ⟨g, 0, none⟩), .int .i64 k] w (DrawnS w g (N + 100) 12) := by
  have HP := Lib.hid (spec_pick g N ((k : Int) - 2) w h (by omega) (by omega))
  have hgl := h.lt
  have hw1 : IntKind.i64.wrap ((k : Int) - 2) = (k : Int) - 2 := IntWalk.i64_in _ (by omega)
  clear h
  go_enter Try.func106, Try.ntmps106
  go_wp2_with fail
  refine HP.out.mono ?_
  rintro e w1 ⟨x, rfl, ⟨x0, x1⟩, hc, hg⟩
  obtain ⟨d, rfl⟩ := Int.eq_ofNat_of_zero_le x0
  have hw2 : IntKind.i64.wrap (3 + (d : Int)) = ((d + 3 : Nat) : Int) := by rw [show 3 + (d : Int) = ((d + 3 : Nat) : Int) by omega]; exact IntWalk.i64_in _ (by omega)
  have hc3 : (3 : Int) + (d : Int) = ((d + 3 : Nat) : Int) := by omega
  have HQ := Lib.hid (spec_sureQuiddity g (N + 2) (d + 3) w1 hc (by omega) (by omega) (by omega))
  have Hg := Lib.hid hg
  obtain ⟨n, hn⟩ : ∃ n, n = d + 3 := ⟨_, rfl⟩
  rw [← hn] at HQ hw2 hc3
  have n12 : n ≤ 12 := by omega
  have n3 : 3 ≤ n := by omega
  clear HP hc hg x1 hn
  go_wp2_with fail
  refine HQ.out.mono ?_
  rintro e w2 ⟨A, c, q, rfl, hqn, hq, hnc, ho, hc2, hg2⟩
  have g2 := Hg.out.trans hg2
  obtain ⟨gq, cap0, hv, hgq, hgql⟩ := ho.form (by omega)
  cases hv
  have HP := Lib.hid (spec_pick g (N + 2 + 30) 14 w2 hc2 (by omega) (by omega))
  have Ho := Lib.hid (ho.mono (base' := w.heap.size) (Hg.out.size))
  have Hg2 := Lib.hid g2
  have hgne : gq ≠ g := by have := Hg.out.size; omega
  have hgqb : w.heap.size ≤ gq := by have := Hg.out.size; omega
  have Hqn := Lib.hid hqn
  clear HQ Hg ho hc2 hg2 g2 hc3 hw1 hw2 hq hqn
  go_wp2_with fail
  refine HP.out.mono ?_
  rintro e w3 ⟨x, rfl, ⟨x0, x1⟩, hc3, hg3⟩
  have o3 := own_far Ho.out hg3 (fun k hk e => by have := (Ho.out.lt k hk).1; injection e with e; omega)
  have g3 := Hg2.out.trans hg3
  have hz3 := g3.size
  clear HP Ho Hg2 hg3
  have nn : (n : Int) ≤ 12 := by omega
  have nn3 : (3 : Int) ≤ (n : Int) := by omega
  have ncc : (n : Int) ≤ (c : Int) := by omega
  by_cases hx0 : x = 0
  · subst hx0
    have HP := Lib.hid (spec_pick g (N + 2 + 30 + 2) n w3 hc3 (by omega) (by omega))
    have Ho := Lib.hid o3
    have Hg := Lib.hid g3
    clear hc3 o3 g3 x0 x1
    go_wp2_with fail
    refine HP.out.mono ?_
    rintro e w4 ⟨y, rfl, ⟨y0, y1⟩, hc4, hg4⟩
    obtain ⟨t, rfl⟩ := Int.eq_ofNat_of_zero_le y0
    have htn : t < n := by omega
    have hti : (t : Int) < (n : Int) := by omega
    have o4 := own_far Ho.out hg4 (fun k hk e => by have := (Ho.out.lt k hk).1; injection e with e; omega)
    have g4 := Hg.out.trans hg4
    have hba := (Below.refl w4.heap.size w4).alloc (Nat.le_refl _) (.cells #[.int .i64 (-1), .int .i64 0, .int .i64 1, .int .i64 2, .int .i64 13, .int .i64 4611686018427387904] 3)
    have HA := Lib.hid (spec_among g (N + 2 + 30 + 2 + 2) w4.heap.size 6 6 [-1, 0, 1, 2, 13, 4611686018427387904] _ (hc4.kept hba) (by omega) rfl (by simp) (by have := hc4.lt; omega) (fun j hj => by
      match j, hj with
      | 0, _ => simp [go_sem]
      | 1, _ => simp [go_sem]
      | 2, _ => simp [go_sem]
      | 3, _ => simp [go_sem]
      | 4, _ => simp [go_sem]
      | 5, _ => simp [go_sem]) (by omega) (by omega))
    have o5 := own_kept o4 hba
    have g5 := grownC_below g4 hba
    have Ho5 := Lib.hid o5
    have Hg5 := Lib.hid g5
    clear HP Ho Hg hc4 hg4 o4 g4 hba o5 g5 y1
    go_wp2_with fail
    refine HA.out.mono ?_
    rintro e w6 ⟨z, rfl, _, hc6, hg6⟩
    have o6 := own_far Ho5.out hg6 (fun k hk e => by have := (Ho5.out.lt k hk).1; injection e with e; omega)
    have g6 := Hg5.out.trans hg6
    have cc := o6.cellAt t (by omega)
    rw [ics_get _ _ (by rw [Hqn.out]; exact htn)] at cc
    have ff := o6.frozenAt t
    obtain ⟨o7, h7⟩ := o6.stored t (.int .i64 z)
    rw [ics_set] at o7
    have HD : Hid (DrawnS w g (N + 100) 12 (.returned (.slice (some ⟨gq, 0, none⟩) n c)) (w6.setCell ⟨gq, t, none⟩ (.int .i64 z))) :=
      Lib.hid ⟨some ⟨gq, 0, none⟩, c, q.set t z, by simp [Hqn.out], by simp [Hqn.out]; omega, by simp [Hqn.out]; omega, SlI.of_own o7, (hc6.far h7 (fun k hk => by have := (o6.lt k hk).1; omega)).more (by omega), grownC_new g6 h7 (fun k hk => (o6.lt k hk).1), fun b off sp e => by cases e; exact hgqb⟩
    clear HA Ho5 Hg5 hc6 hg6 o6 g6 o7 h7
    generalize q.getD t 0 = y at *
    go_wp2
    go_ret
    exact HD.out
  · by_cases hx1 : x = 1
    · subst hx1
      have HD : Hid (DrawnS w g (N + 100) 12 (.returned (.slice (some ⟨gq, 1, none⟩) (n - 1) (c - 1))) w3) :=
        Lib.hid ⟨some ⟨gq, 1, none⟩, c - 1, q.drop 1, by simp [Hqn.out], by simp [Hqn.out]; omega, by simp [Hqn.out]; omega, by simpa using (SlI.of_own o3).cutAt 1, hc3.more (by omega), g3, fun b off sp e => by cases e; exact hgqb⟩
      have c1 : ¬ c = 1 := by omega
      have c2 : 1 ≤ n := by omega
      have c3' : n ≤ c := hnc
      clear hc3 o3 g3 hx0 x0 x1
      go_wp2
      go_ret
      exact HD.out
    · by_cases hx2 : x = 2
      · subst hx2
        have cc0 := o3.cellAt 0 (by omega)
        have cc1 := o3.cellAt 1 (by omega)
        rw [ics_get _ _ (by rw [Hqn.out]; omega)] at cc0 cc1
        have ff0 := o3.frozenAt 0
        have ff1 := o3.frozenAt 1
        obtain ⟨o4, h4⟩ := o3.stored 0 (.int .i64 (q.getD 1 0))
        rw [ics_set] at o4
        have L3 := o3.lt
        obtain ⟨o5, h5⟩ := o4.stored 1 (.int .i64 (q.getD 0 0))
        rw [ics_set] at o5
        have h45 := h4.trans h5
        have HD : Hid (DrawnS w g (N + 100) 12 (.returned (.slice (some ⟨gq, 0, none⟩) n c)) ((w3.setCell ⟨gq, 0, none⟩ (.int .i64 (q.getD 1 0))).setCell ⟨gq, 1, none⟩ (.int .i64 (q.getD 0 0)))) :=
          Lib.hid ⟨some ⟨gq, 0, none⟩, c, (q.set 0 (q.getD 1 0)).set 1 (q.getD 0 0), by simp [Hqn.out], by simp [Hqn.out]; omega, by simp [Hqn.out]; omega, SlI.of_own o5, (hc3.far h45 (fun k hk => by have := (L3 k hk).1; omega)).more (by omega), grownC_new g3 h45 (fun k hk => (L3 k hk).1), fun b off sp e => by cases e; exact hgqb⟩
        clear hc3 o3 g3 o4 h4 o5 h5 h45 hx0 hx1 x0 x1
        generalize q.getD 1 0 = y1 at *
        generalize q.getD 0 0 = y0 at *
        go_wp2
        go_ret
        exact HD.out
      · have HD : Hid (DrawnS w g (N + 100) 12 (.returned (.slice (some ⟨gq, 0, none⟩) n c)) w3) :=
          Lib.hid ⟨some ⟨gq, 0, none⟩, c, q, by rw [Hqn.out], by rw [Hqn.out]; omega, by rw [Hqn.out]; exact hnc, SlI.of_own o3, hc3.more (by omega), g3, fun b off sp e => by cases e; exact hgqb⟩
        have n0 : (x == 0) = false := by simpa using hx0
        have n1 : (x == 1) = false := by simpa using hx1
        have n2 : (x == 2) = false := by simpa using hx2
        clear o3 hc3 g3 hx0 hx1 hx2 x1
        go_wp2
        go_ret
        exact HD.out
end Go.Proofs.Ytfkkbjbgjmaciaa

/- A draw's cursor as it begins; what a draw leaves behind. -/
namespace Go.Proofs.Ytfkkbjbgjmaciaa
set_option linter.unusedVariables false
open Go.RowKit

theorem CodeB.mono {w : World} {B B' : Nat} {A : Option Addr} {n : Nat} (h : CodeB w B A n) (hB : B ≤ B') : CodeB w B' A n := fun h0 => by
  obtain ⟨b, off, e, hb, hc⟩ := h h0
  exact ⟨b, off, e, Nat.lt_of_lt_of_le hb hB, hc⟩
theorem CodeB.below {w w' : World} {B : Nat} {A : Option Addr} {n : Nat} (h : CodeB w B A n) (hb : Below B w w') : CodeB w' B A n := h.keep fun _ _ hlt => hb.cell (p := ⟨_, _, none⟩) hlt
theorem heap_new (w : World) (o : Obj) : (w.alloc o).heap[w.heap.size]? = some o := by
  show (w.heap.push o)[w.heap.size]? = some o
  simp
/-- the cursor of a draw, as it begins -/
theorem cur_new {w : World} {B n c : Nat} {A : Option Addr} (h : CodeB w B A n) (hB : B ≤ w.heap.size) (hn : n ≤ 1048576) : Cur (w.alloc (.cells #[.slice A n c, .int .i64 0, .int .u64 0] 98)) w.heap.size 0 :=
  ⟨A, n, c, 0, 0, hn, Nat.le_refl _, ⟨by omega, by omega⟩, heap_new w _, (h.below ((Below.refl B w).alloc hB _)).mono hB⟩
theorem DrawnS.giv {w w1 w2 w' : World} {N M : Nat} {e : Ending} {o : Obj} (hw : w1 = w.alloc o) (hg : w1.grownBy w2 (some w.heap.size)) (h : DrawnS w2 w.heap.size N M e w') : GivS w M e w' := by
  obtain ⟨A, c, l, h1, h2, h3, h4, _, h6, _⟩ := h
  subst hw
  exact ⟨A, c, l, h1, h2, h3, h4, below_grown ((Below.refl w.heap.size w).alloc (Nat.le_refl _) o) (hg.trans h6) (Nat.le_refl _) (fun k hk => by injection hk with hk; omega)⟩
theorem giv_below {w w1 w' : World} {o : Obj} (hw : w1 = w.alloc o) (hg : w1.grownBy w' (some w.heap.size)) : Below w.heap.size w w' := by
  subst hw
  exact below_grown ((Below.refl w.heap.size w).alloc (Nat.le_refl _) o) hg (Nat.le_refl _) (fun k hk => by injection hk with hk; omega)
end Go.Proofs.Ytfkkbjbgjmaciaa

/- The draws of matrices. Made by wip/glaw/gl_draw1.py. -/
namespace Go.Proofs.Ytfkkbjbgjmaciaa
set_option linter.unusedVariables false
open Go.RowKit

/-- a matrix drawn -/
def DrawnM (w : World) (g N : Nat) (e : Ending) (w' : World) : Prop := ∃ a b c d : Int, e = .returned (.agg #[.int .i64 a, .int .i64 b, .int .i64 c, .int .i64 d]) ∧ Cur w' g N ∧ w.grownBy w' (some g)
theorem Bx4.far4 {w w' : World} {b : Nat} {x y z t : Int} {row : Option Nat} (h : Bx4 w b x y z t) (hg : w.grownBy w' row) (hne : some b ≠ row) : Bx4 w' b x y z t := h.grown hg hne
theorem spec_MatrixOfWord (a : ByteArray) (w : World) : Calls Try.prog 56 #[.string a] w (WEnd (wl a) w) := by
  by_cases h : a.size ≤ 40
  · exact spec_MatrixOfWord_fit a w h
  · exact spec_MatrixOfWord_long a w (by omega)
def mlF (l : List Int) : M4 × Bool := if good l = true then ((mlR l).fit, (mlR l).ok) else (M4.zero, false)
theorem spec_MatrixOfListA (A : Option Addr) (c B : Nat) (l : List Int) (w : World) (h : SlI w B A l) (hB : B ≤ w.heap.size) (hl : l.length ≤ 1048576) (hlc : l.length ≤ c) :
    Calls Try.prog 178 #[.slice A l.length c] w fun e w' => e = .returned (.tuple #[.agg #[.int .i64 (mlF l).1.a, .int .i64 (mlF l).1.b, .int .i64 (mlF l).1.c, .int .i64 (mlF l).1.d], .bool (mlF l).2]) ∧ Below w.heap.size w w' := by
  unfold mlF
  cases hg : good l with
  | true => rw [if_pos rfl]; exact spec_MatrixOfList_yes A c B l w hg h hB hl hlc
  | false => rw [if_neg (by simp)]; exact spec_MatrixOfList_no A c B l w hg h hB hl
set_option maxRecDepth 100000 in
set_option maxHeartbeats 12800000 in
theorem spec_matrix (g N : Nat)  (w : World) (h : Cur w g N) (hN : N ≤ 1000000000) :
    Calls Try.prog 143 #[.pointer (some ⟨g, 0, none⟩)] w (DrawnM w g (N + 500)) := by
  have hgl := h.lt
  obtain ⟨w1, hw1⟩ : ∃ w1, w1 = (w.alloc (.cells #[.int .i64 0, .int .i64 0, .int .i64 0, .int .i64 0] 53)) := ⟨_, rfl⟩
  have hb1 : Below w.heap.size w w1 := by rw [hw1]; exact ((Below.refl w.heap.size w).alloc (Nat.le_refl _) _)
  have hz1 : w1.heap.size = w.heap.size + 1 := by rw [hw1]; simp
  have hx0 : Bx4 w1 w.heap.size 0 0 0 0 := by
    have := (Bx4.new w 53 0 0 0 0)
    rw [hw1]; simpa using this
  have HX0 := Lib.hid hx0
  clear hx0
  have HC := Lib.hid (h.kept hb1)
  have HG := Lib.hid (grownC_below (World.grownBy.refl w (some g)) hb1)
  have HZ : w.heap.size + 1 ≤ w1.heap.size := by omega
  have Hw1 := Lib.hid hw1
  clear h hb1 hz1 hw1
  go_enter Try.func143, Try.ntmps143
  have HT := Lib.hid (spec_pick g (N) 10 w1 HC.out (by omega) (by omega))
  go_wp2_with fail
  rw [← Hw1.out]
  clear Hw1
  refine HT.out.mono ?_
  rintro e w11 ⟨r, rfl, ⟨r_0, r_1⟩, hc, hg⟩
  clear HT
  have hzn := hg.size
  have HX0n := Lib.hid (HX0.out.far4 hg (by first | (simp; omega) | simp))
  have HGn := Lib.hid (HG.out.trans hg)
  have HCn := Lib.hid (hc.more (show _ ≤ N + 2 by omega))
  clear HG HC hc hg HX0
  have HX0 := HX0n
  clear HX0n
  have HG := HGn
  have HC := HCn
  clear HGn HCn
  by_cases hr0 : r = 0
  · subst hr0
    have hba : Below w11.heap.size w11 (w11.alloc (.cells #[.int .i64 1, .int .i64 (-1), .int .i64 0, .int .i64 4611686018427387904] 3)) := (Below.refl _ _).alloc (Nat.le_refl _) _
    have HT := Lib.hid (spec_among g (N + 2) w11.heap.size 4 4 [1, -1, 0, 4611686018427387904] (w11.alloc (.cells #[.int .i64 1, .int .i64 (-1), .int .i64 0, .int .i64 4611686018427387904] 3)) (HC.out.kept hba) (by omega) rfl (by simp) (by have := HC.out.lt; omega) (fun j hj => by
      match j, hj with
      | 0, _ => simp [go_sem]
      | 1, _ => simp [go_sem]
      | 2, _ => simp [go_sem]
      | 3, _ => simp [go_sem]) (by omega) (by omega))
    have hzn := hba.size
    have HX0n := Lib.hid (HX0.out.kept hba)
    have HGn := Lib.hid (grownC_below HG.out hba)
    have HCn := Lib.hid (HC.out.kept hba)
    clear HG HC HX0
    have HX0 := HX0n
    clear HX0n
    have HG := HGn
    have HC := HCn
    clear HGn HCn
    clear hba
    go_wp2_with fail
    refine HT.out.mono ?_
    rintro e w12 ⟨a, rfl, a_m, hc, hg⟩
    clear HT
    clear a_m
    have hzn := hg.size
    have HX0n := Lib.hid (HX0.out.far4 hg (by first | (simp; omega) | simp))
    have HGn := Lib.hid (HG.out.trans hg)
    have HCn := Lib.hid (hc.more (show _ ≤ N + 4 by omega))
    clear HG HC hc hg HX0
    have HX0 := HX0n
    clear HX0n
    have HG := HGn
    have HC := HCn
    clear HGn HCn
    have hba : Below w12.heap.size w12 (w12.alloc (.cells #[.int .i64 0, .int .i64 1, .int .i64 1000000000, .int .i64 1000000001] 3)) := (Below.refl _ _).alloc (Nat.le_refl _) _
    have HT := Lib.hid (spec_among g (N + 4) w12.heap.size 4 4 [0, 1, 1000000000, 1000000001] (w12.alloc (.cells #[.int .i64 0, .int .i64 1, .int .i64 1000000000, .int .i64 1000000001] 3)) (HC.out.kept hba) (by omega) rfl (by simp) (by have := HC.out.lt; omega) (fun j hj => by
      match j, hj with
      | 0, _ => simp [go_sem]
      | 1, _ => simp [go_sem]
      | 2, _ => simp [go_sem]
      | 3, _ => simp [go_sem]) (by omega) (by omega))
    have hzn := hba.size
    have HX0n := Lib.hid (HX0.out.kept hba)
    have HGn := Lib.hid (grownC_below HG.out hba)
    have HCn := Lib.hid (HC.out.kept hba)
    clear HG HC HX0
    have HX0 := HX0n
    clear HX0n
    have HG := HGn
    have HC := HCn
    clear HGn HCn
    clear hba
    go_wp2_with fail
    refine HT.out.mono ?_
    rintro e w13 ⟨b, rfl, b_m, hc, hg⟩
    clear HT
    clear b_m
    have hzn := hg.size
    have HX0n := Lib.hid (HX0.out.far4 hg (by first | (simp; omega) | simp))
    have HGn := Lib.hid (HG.out.trans hg)
    have HCn := Lib.hid (hc.more (show _ ≤ N + 6 by omega))
    clear HG HC hc hg HX0
    have HX0 := HX0n
    clear HX0n
    have HG := HGn
    have HC := HCn
    clear HGn HCn
    have hba : Below w13.heap.size w13 (w13.alloc (.cells #[.int .i64 0, .int .i64 (-1)] 3)) := (Below.refl _ _).alloc (Nat.le_refl _) _
    have HT := Lib.hid (spec_among g (N + 6) w13.heap.size 2 2 [0, -1] (w13.alloc (.cells #[.int .i64 0, .int .i64 (-1)] 3)) (HC.out.kept hba) (by omega) rfl (by simp) (by have := HC.out.lt; omega) (fun j hj => by
      match j, hj with
      | 0, _ => simp [go_sem]
      | 1, _ => simp [go_sem]) (by omega) (by omega))
    have hzn := hba.size
    have HX0n := Lib.hid (HX0.out.kept hba)
    have HGn := Lib.hid (grownC_below HG.out hba)
    have HCn := Lib.hid (HC.out.kept hba)
    clear HG HC HX0
    have HX0 := HX0n
    clear HX0n
    have HG := HGn
    have HC := HCn
    clear HGn HCn
    clear hba
    go_wp2_with fail
    refine HT.out.mono ?_
    rintro e w14 ⟨c, rfl, c_m, hc, hg⟩
    clear HT
    clear c_m
    have hzn := hg.size
    have HX0n := Lib.hid (HX0.out.far4 hg (by first | (simp; omega) | simp))
    have HGn := Lib.hid (HG.out.trans hg)
    have HCn := Lib.hid (hc.more (show _ ≤ N + 8 by omega))
    clear HG HC hc hg HX0
    have HX0 := HX0n
    clear HX0n
    have HG := HGn
    have HC := HCn
    clear HGn HCn
    have hba : Below w14.heap.size w14 (w14.alloc (.cells #[.int .i64 1, .int .i64 (-1), .int .i64 0] 3)) := (Below.refl _ _).alloc (Nat.le_refl _) _
    have HT := Lib.hid (spec_among g (N + 8) w14.heap.size 3 3 [1, -1, 0] (w14.alloc (.cells #[.int .i64 1, .int .i64 (-1), .int .i64 0] 3)) (HC.out.kept hba) (by omega) rfl (by simp) (by have := HC.out.lt; omega) (fun j hj => by
      match j, hj with
      | 0, _ => simp [go_sem]
      | 1, _ => simp [go_sem]
      | 2, _ => simp [go_sem]) (by omega) (by omega))
    have hzn := hba.size
    have HX0n := Lib.hid (HX0.out.kept hba)
    have HGn := Lib.hid (grownC_below HG.out hba)
    have HCn := Lib.hid (HC.out.kept hba)
    clear HG HC HX0
    have HX0 := HX0n
    clear HX0n
    have HG := HGn
    have HC := HCn
    clear HGn HCn
    clear hba
    go_wp2_with fail
    refine HT.out.mono ?_
    rintro e w15 ⟨q, rfl, q_m, hc, hg⟩
    clear HT
    clear q_m
    have hzn := hg.size
    have HX0n := Lib.hid (HX0.out.far4 hg (by first | (simp; omega) | simp))
    have HGn := Lib.hid (HG.out.trans hg)
    have HCn := Lib.hid (hc.more (show _ ≤ N + 10 by omega))
    clear HG HC hc hg HX0
    have HX0 := HX0n
    clear HX0n
    have HG := HGn
    have HC := HCn
    clear HGn HCn
    have HR : Hid (DrawnM w g (N + 500) (.returned (.agg #[.int .i64 a, .int .i64 b, .int .i64 c, .int .i64 q])) ((((w15.setCell ⟨w.heap.size, 0, none⟩ (.int .i64 a)).setCell ⟨w.heap.size, 1, none⟩ (.int .i64 b)).setCell ⟨w.heap.size, 2, none⟩ (.int .i64 c)).setCell ⟨w.heap.size, 3, none⟩ (.int .i64 q))) := Lib.hid ⟨a, b, c, q, rfl, (((((HC.out.put (by omega)).put (by omega)).put (by omega)).put (by omega)).more (by omega)), (grownC_put (grownC_put (grownC_put (grownC_put HG.out (by simp)) (by simp)) (by simp)) (by simp))⟩
    obtain ⟨⟨c0_0, c0_1, c0_2, c0_3⟩, f0_0, f0_1, f0_2, f0_3⟩ := HX0.out
    clear HC HG HX0
    go_wp2
    refine bodyPost_ret (v := .agg #[.int .i64 a, .int .i64 b, .int .i64 c, .int .i64 q]) ?_ rfl ?_
    · simp [results, Try.results143, go_sem, c0_0, c0_1, c0_2, c0_3]
    · exact HR.out
  · by_cases hr4 : r = 4
    · subst hr4
      obtain ⟨w16, hwa⟩ : ∃ wa, wa = (w11.alloc (.cells #[.int .i64 1, .int .i64 0, .int .i64 0, .int .i64 1, .int .i64 (-1), .int .i64 0, .int .i64 0, .int .i64 (-1), .int .i64 0, .int .i64 (-1), .int .i64 1, .int .i64 0, .int .i64 1, .int .i64 (-1), .int .i64 1, .int .i64 0, .int .i64 0, .int .i64 (-1), .int .i64 1, .int .i64 (-1), .int .i64 1, .int .i64 5, .int .i64 0, .int .i64 1] 53)) := ⟨_, rfl⟩
      have hb : Below w11.heap.size w11 w16 := by rw [hwa]; exact (Below.refl _ _).alloc (Nat.le_refl _) _
      have hcell : ∀ j : Nat, j < 6 → ∃ a b c q : Int, w16.cell? ⟨w11.heap.size, j * 4, none⟩ = some (.int .i64 a) ∧ w16.cell? ⟨w11.heap.size, j * 4 + 1, none⟩ = some (.int .i64 b) ∧ w16.cell? ⟨w11.heap.size, j * 4 + 2, none⟩ = some (.int .i64 c) ∧ w16.cell? ⟨w11.heap.size, j * 4 + 3, none⟩ = some (.int .i64 q) := by
        intro j hj
        rw [hwa]
        match j, hj with
        | 0, _ => exact ⟨1, 0, 0, 1, by simp [go_sem], by simp [go_sem], by simp [go_sem], by simp [go_sem]⟩
        | 1, _ => exact ⟨(-1), 0, 0, (-1), by simp [go_sem], by simp [go_sem], by simp [go_sem], by simp [go_sem]⟩
        | 2, _ => exact ⟨0, (-1), 1, 0, by simp [go_sem], by simp [go_sem], by simp [go_sem], by simp [go_sem]⟩
        | 3, _ => exact ⟨1, (-1), 1, 0, by simp [go_sem], by simp [go_sem], by simp [go_sem], by simp [go_sem]⟩
        | 4, _ => exact ⟨0, (-1), 1, (-1), by simp [go_sem], by simp [go_sem], by simp [go_sem], by simp [go_sem]⟩
        | 5, _ => exact ⟨1, 5, 0, 1, by simp [go_sem], by simp [go_sem], by simp [go_sem], by simp [go_sem]⟩
      have HCE := Lib.hid hcell
      have hlt : w11.heap.size < w16.heap.size := by rw [hwa]; simp
      obtain ⟨gm, hgm⟩ : ∃ gm, gm = w11.heap.size := ⟨_, rfl⟩
      rw [← hgm] at HCE hlt
      have hgg : g ≠ gm := by have := HC.out.lt; omega
      have hzn := hb.size
      have HX0n := Lib.hid (HX0.out.kept hb)
      have HGn := Lib.hid (grownC_below HG.out hb)
      have HCn := Lib.hid (HC.out.kept hb)
      clear HG HC HX0
      have HX0 := HX0n
      clear HX0n
      have HG := HGn
      have HC := HCn
      clear HGn HCn
      have HT := Lib.hid (spec_pick g (N + 2) 6 w16 HC.out (by omega) (by omega))
      go_wp2_with fail
      rw [← hwa, ← hgm]
      clear hwa hgm hb hcell
      refine HT.out.mono ?_
      rintro e w17 ⟨x, rfl, ⟨x0, x1⟩, hc, hg⟩
      clear HT
      obtain ⟨j, rfl⟩ := Int.eq_ofNat_of_zero_le x0
      have hj : j < 6 := by omega
      have hji : (j : Int) < 6 := by omega
      obtain ⟨a, b, c, q, e0, e1, e2, e3⟩ := HCE.out j hj
      have m0 := (World.cell?_of_block (a := ⟨gm, j * 4, none⟩) (hg.block gm hlt (by simp; omega))).trans e0
      have m1 := (World.cell?_of_block (a := ⟨gm, j * 4 + 1, none⟩) (hg.block gm hlt (by simp; omega))).trans e1
      have m2 := (World.cell?_of_block (a := ⟨gm, j * 4 + 2, none⟩) (hg.block gm hlt (by simp; omega))).trans e2
      have m3 := (World.cell?_of_block (a := ⟨gm, j * 4 + 3, none⟩) (hg.block gm hlt (by simp; omega))).trans e3
      clear HCE e0 e1 e2 e3
      have hzn := hg.size
      have HX0n := Lib.hid (HX0.out.far4 hg (by first | (simp; omega) | simp))
      have HGn := Lib.hid (HG.out.trans hg)
      have HCn := Lib.hid (hc.more (show _ ≤ N + 4 by omega))
      clear HG HC hc hg HX0
      have HX0 := HX0n
      clear HX0n
      have HG := HGn
      have HC := HCn
      clear HGn HCn
      have HR : Hid (DrawnM w g (N + 500) (.returned (.agg #[.int .i64 a, .int .i64 b, .int .i64 c, .int .i64 q])) ((((w17.setCell ⟨w.heap.size, 0, none⟩ (.int .i64 a)).setCell ⟨w.heap.size, 1, none⟩ (.int .i64 b)).setCell ⟨w.heap.size, 2, none⟩ (.int .i64 c)).setCell ⟨w.heap.size, 3, none⟩ (.int .i64 q))) := Lib.hid ⟨a, b, c, q, rfl, (((((HC.out.put (by omega)).put (by omega)).put (by omega)).put (by omega)).more (by omega)), (grownC_put (grownC_put (grownC_put (grownC_put HG.out (by simp)) (by simp)) (by simp)) (by simp))⟩
      obtain ⟨⟨c0_0, c0_1, c0_2, c0_3⟩, f0_0, f0_1, f0_2, f0_3⟩ := HX0.out
      clear HC HG HX0
      go_wp2
      refine bodyPost_ret (v := .agg #[.int .i64 a, .int .i64 b, .int .i64 c, .int .i64 q]) ?_ rfl ?_
      · simp [results, Try.results143, go_sem, c0_0, c0_1, c0_2, c0_3]
      · exact HR.out
    · by_cases hr5 : r = 5
      · subst hr5
        have HR : Hid (DrawnM w g (N + 500) (.returned (.agg #[.int .i64 1, .int .i64 1000000000, .int .i64 0, .int .i64 1])) ((((w11.setCell ⟨w.heap.size, 0, none⟩ (.int .i64 1)).setCell ⟨w.heap.size, 1, none⟩ (.int .i64 1000000000)).setCell ⟨w.heap.size, 2, none⟩ (.int .i64 0)).setCell ⟨w.heap.size, 3, none⟩ (.int .i64 1))) := Lib.hid ⟨1, 1000000000, 0, 1, rfl, (((((HC.out.put (by omega)).put (by omega)).put (by omega)).put (by omega)).more (by omega)), (grownC_put (grownC_put (grownC_put (grownC_put HG.out (by simp)) (by simp)) (by simp)) (by simp))⟩
        obtain ⟨⟨c0_0, c0_1, c0_2, c0_3⟩, f0_0, f0_1, f0_2, f0_3⟩ := HX0.out
        clear HC HG HX0
        go_wp2
        refine bodyPost_ret (v := .agg #[.int .i64 1, .int .i64 1000000000, .int .i64 0, .int .i64 1]) ?_ rfl ?_
        · simp [results, Try.results143, go_sem, c0_0, c0_1, c0_2, c0_3]
        · exact HR.out
      · by_cases hr1 : r ≤ 3
        · have hr3 : r = 1 ∨ r = 2 ∨ r = 3 := by omega
          rcases hr3 with rfl | rfl | rfl
          · have HT := Lib.hid (spec_word g (N + 2) w11 HC.out (by omega))
            go_wp2_with fail
            refine HT.out.mono ?_
            rintro e w18 ⟨t, rfl, ht, hc, hg⟩
            clear HT
            have hzn := hg.size
            have HX0n := Lib.hid (HX0.out.far4 hg (by first | (simp; omega) | simp))
            have HGn := Lib.hid (HG.out.trans hg)
            have HCn := Lib.hid (hc.more (show _ ≤ N + 402 by omega))
            clear HG HC hc hg HX0
            have HX0 := HX0n
            clear HX0n
            have HG := HGn
            have HC := HCn
            clear HGn HCn
            obtain ⟨F, hF⟩ : ∃ F, wR (wl t) = F := ⟨_, rfl⟩
            have HT := Lib.hid (spec_MatrixOfWord t w18)
            unfold WEnd at HT
            rw [hF] at HT
            clear hF
            obtain ⟨fa, fb, fc, fd⟩ := F
            go_wp2_with fail
            refine HT.out.mono ?_
            rintro e w19 ⟨rfl, hb⟩
            clear HT
            have hzn := hb.size
            have HX0n := Lib.hid (HX0.out.kept hb)
            have HGn := Lib.hid (grownC_below HG.out hb)
            have HCn := Lib.hid (HC.out.kept hb)
            clear HG HC HX0
            have HX0 := HX0n
            clear HX0n
            have HG := HGn
            have HC := HCn
            clear HGn HCn
            clear hb
            obtain ⟨w20, hwa⟩ : ∃ wa, wa = (w19.alloc (.cells #[.int .i64 fa, .int .i64 fb, .int .i64 fc, .int .i64 fd] 53)) := ⟨_, rfl⟩
            have hb : Below w19.heap.size w19 w20 := by rw [hwa]; exact (Below.refl _ _).alloc (Nat.le_refl _) _
            have hm : Bx4 w20 w19.heap.size fa fb fc fd := by rw [hwa]; exact Bx4.new _ _ _ _ _ _
            have hzn := hb.size
            have HX0n := Lib.hid (HX0.out.kept hb)
            have HGn := Lib.hid (grownC_below HG.out hb)
            have HCn := Lib.hid (HC.out.kept hb)
            clear HG HC HX0
            have HX0 := HX0n
            clear HX0n
            have HG := HGn
            have HC := HCn
            clear HGn HCn
            go_upto_region 8 with fail
            rw [← hwa]
            clear hwa hb
            obtain ⟨⟨m0, m1, m2, m3⟩, _⟩ := hm
            have HR : Hid (DrawnM w g (N + 500) (.returned (.agg #[.int .i64 fa, .int .i64 fb, .int .i64 fc, .int .i64 fd])) ((((w20.setCell ⟨w.heap.size, 0, none⟩ (.int .i64 fa)).setCell ⟨w.heap.size, 1, none⟩ (.int .i64 fb)).setCell ⟨w.heap.size, 2, none⟩ (.int .i64 fc)).setCell ⟨w.heap.size, 3, none⟩ (.int .i64 fd))) := Lib.hid ⟨fa, fb, fc, fd, rfl, (((((HC.out.put (by omega)).put (by omega)).put (by omega)).put (by omega)).more (by omega)), (grownC_put (grownC_put (grownC_put (grownC_put HG.out (by simp)) (by simp)) (by simp)) (by simp))⟩
            obtain ⟨⟨c0_0, c0_1, c0_2, c0_3⟩, f0_0, f0_1, f0_2, f0_3⟩ := HX0.out
            clear HC HG HX0
            go_wp2
            refine bodyPost_ret (v := .agg #[.int .i64 fa, .int .i64 fb, .int .i64 fc, .int .i64 fd]) ?_ rfl ?_
            · simp [results, Try.results143, go_sem, c0_0, c0_1, c0_2, c0_3]
            · exact HR.out
          · have HT := Lib.hid (spec_word g (N + 2) w11 HC.out (by omega))
            go_wp2_with fail
            refine HT.out.mono ?_
            rintro e w21 ⟨t, rfl, ht, hc, hg⟩
            clear HT
            have hzn := hg.size
            have HX0n := Lib.hid (HX0.out.far4 hg (by first | (simp; omega) | simp))
            have HGn := Lib.hid (HG.out.trans hg)
            have HCn := Lib.hid (hc.more (show _ ≤ N + 402 by omega))
            clear HG HC hc hg HX0
            have HX0 := HX0n
            clear HX0n
            have HG := HGn
            have HC := HCn
            clear HGn HCn
            obtain ⟨F, hF⟩ : ∃ F, wR (wl t) = F := ⟨_, rfl⟩
            have HT := Lib.hid (spec_MatrixOfWord t w21)
            unfold WEnd at HT
            rw [hF] at HT
            clear hF
            obtain ⟨fa, fb, fc, fd⟩ := F
            go_wp2_with fail
            refine HT.out.mono ?_
            rintro e w22 ⟨rfl, hb⟩
            clear HT
            have hzn := hb.size
            have HX0n := Lib.hid (HX0.out.kept hb)
            have HGn := Lib.hid (grownC_below HG.out hb)
            have HCn := Lib.hid (HC.out.kept hb)
            clear HG HC HX0
            have HX0 := HX0n
            clear HX0n
            have HG := HGn
            have HC := HCn
            clear HGn HCn
            clear hb
            obtain ⟨w23, hwa⟩ : ∃ wa, wa = (w22.alloc (.cells #[.int .i64 fa, .int .i64 fb, .int .i64 fc, .int .i64 fd] 53)) := ⟨_, rfl⟩
            have hb : Below w22.heap.size w22 w23 := by rw [hwa]; exact (Below.refl _ _).alloc (Nat.le_refl _) _
            have hm : Bx4 w23 w22.heap.size fa fb fc fd := by rw [hwa]; exact Bx4.new _ _ _ _ _ _
            have hzn := hb.size
            have HX0n := Lib.hid (HX0.out.kept hb)
            have HGn := Lib.hid (grownC_below HG.out hb)
            have HCn := Lib.hid (HC.out.kept hb)
            clear HG HC HX0
            have HX0 := HX0n
            clear HX0n
            have HG := HGn
            have HC := HCn
            clear HGn HCn
            go_upto_region 8 with fail
            rw [← hwa]
            clear hwa hb
            obtain ⟨⟨m0, m1, m2, m3⟩, _⟩ := hm
            have HR : Hid (DrawnM w g (N + 500) (.returned (.agg #[.int .i64 fa, .int .i64 fb, .int .i64 fc, .int .i64 fd])) ((((w23.setCell ⟨w.heap.size, 0, none⟩ (.int .i64 fa)).setCell ⟨w.heap.size, 1, none⟩ (.int .i64 fb)).setCell ⟨w.heap.size, 2, none⟩ (.int .i64 fc)).setCell ⟨w.heap.size, 3, none⟩ (.int .i64 fd))) := Lib.hid ⟨fa, fb, fc, fd, rfl, (((((HC.out.put (by omega)).put (by omega)).put (by omega)).put (by omega)).more (by omega)), (grownC_put (grownC_put (grownC_put (grownC_put HG.out (by simp)) (by simp)) (by simp)) (by simp))⟩
            obtain ⟨⟨c0_0, c0_1, c0_2, c0_3⟩, f0_0, f0_1, f0_2, f0_3⟩ := HX0.out
            clear HC HG HX0
            go_wp2
            refine bodyPost_ret (v := .agg #[.int .i64 fa, .int .i64 fb, .int .i64 fc, .int .i64 fd]) ?_ rfl ?_
            · simp [results, Try.results143, go_sem, c0_0, c0_1, c0_2, c0_3]
            · exact HR.out
          · have HT := Lib.hid (spec_word g (N + 2) w11 HC.out (by omega))
            go_wp2_with fail
            refine HT.out.mono ?_
            rintro e w24 ⟨t, rfl, ht, hc, hg⟩
            clear HT
            have hzn := hg.size
            have HX0n := Lib.hid (HX0.out.far4 hg (by first | (simp; omega) | simp))
            have HGn := Lib.hid (HG.out.trans hg)
            have HCn := Lib.hid (hc.more (show _ ≤ N + 402 by omega))
            clear HG HC hc hg HX0
            have HX0 := HX0n
            clear HX0n
            have HG := HGn
            have HC := HCn
            clear HGn HCn
            obtain ⟨F, hF⟩ : ∃ F, wR (wl t) = F := ⟨_, rfl⟩
            have HT := Lib.hid (spec_MatrixOfWord t w24)
            unfold WEnd at HT
            rw [hF] at HT
            clear hF
            obtain ⟨fa, fb, fc, fd⟩ := F
            go_wp2_with fail
            refine HT.out.mono ?_
            rintro e w25 ⟨rfl, hb⟩
            clear HT
            have hzn := hb.size
            have HX0n := Lib.hid (HX0.out.kept hb)
            have HGn := Lib.hid (grownC_below HG.out hb)
            have HCn := Lib.hid (HC.out.kept hb)
            clear HG HC HX0
            have HX0 := HX0n
            clear HX0n
            have HG := HGn
            have HC := HCn
            clear HGn HCn
            clear hb
            obtain ⟨w26, hwa⟩ : ∃ wa, wa = (w25.alloc (.cells #[.int .i64 fa, .int .i64 fb, .int .i64 fc, .int .i64 fd] 53)) := ⟨_, rfl⟩
            have hb : Below w25.heap.size w25 w26 := by rw [hwa]; exact (Below.refl _ _).alloc (Nat.le_refl _) _
            have hm : Bx4 w26 w25.heap.size fa fb fc fd := by rw [hwa]; exact Bx4.new _ _ _ _ _ _
            have hzn := hb.size
            have HX0n := Lib.hid (HX0.out.kept hb)
            have HGn := Lib.hid (grownC_below HG.out hb)
            have HCn := Lib.hid (HC.out.kept hb)
            clear HG HC HX0
            have HX0 := HX0n
            clear HX0n
            have HG := HGn
            have HC := HCn
            clear HGn HCn
            go_upto_region 8 with fail
            rw [← hwa]
            clear hwa hb
            obtain ⟨⟨m0, m1, m2, m3⟩, _⟩ := hm
            have HR : Hid (DrawnM w g (N + 500) (.returned (.agg #[.int .i64 fa, .int .i64 fb, .int .i64 fc, .int .i64 fd])) ((((w26.setCell ⟨w.heap.size, 0, none⟩ (.int .i64 fa)).setCell ⟨w.heap.size, 1, none⟩ (.int .i64 fb)).setCell ⟨w.heap.size, 2, none⟩ (.int .i64 fc)).setCell ⟨w.heap.size, 3, none⟩ (.int .i64 fd))) := Lib.hid ⟨fa, fb, fc, fd, rfl, (((((HC.out.put (by omega)).put (by omega)).put (by omega)).put (by omega)).more (by omega)), (grownC_put (grownC_put (grownC_put (grownC_put HG.out (by simp)) (by simp)) (by simp)) (by simp))⟩
            obtain ⟨⟨c0_0, c0_1, c0_2, c0_3⟩, f0_0, f0_1, f0_2, f0_3⟩ := HX0.out
            clear HC HG HX0
            go_wp2
            refine bodyPost_ret (v := .agg #[.int .i64 fa, .int .i64 fb, .int .i64 fc, .int .i64 fd]) ?_ rfl ?_
            · simp [results, Try.results143, go_sem, c0_0, c0_1, c0_2, c0_3]
            · exact HR.out
        · have e0 : (r == 0) = false := by simpa using hr0
          have e1 : (r == 1) = false := by rw [beq_eq_false_iff_ne]; omega
          have e2 : (r == 2) = false := by rw [beq_eq_false_iff_ne]; omega
          have e3 : (r == 3) = false := by rw [beq_eq_false_iff_ne]; omega
          have e4 : (r == 4) = false := by simpa using hr4
          have e5 : (r == 5) = false := by simpa using hr5
          have HT := Lib.hid (spec_terms g (N + 2) (-2) 4 w11 HC.out (by omega) (by omega) (by omega) (by omega))
          go_wp2_with fail
          refine HT.out.mono ?_
          rintro e w27 ⟨A2, c2, l, rfl, hl, ho, hc, hg⟩
          have hlc : l.length ≤ c2 := own_capI ho
          have hS := Lib.hid (SlI.of_own ho)
          clear HT ho
          have hzn := hg.size
          have HX0n := Lib.hid (HX0.out.far4 hg (by first | (simp; omega) | simp))
          have HGn := Lib.hid (HG.out.trans hg)
          have HCn := Lib.hid (hc.more (show _ ≤ N + 102 by omega))
          clear HG HC hc hg HX0
          have HX0 := HX0n
          clear HX0n
          have HG := HGn
          have HC := HCn
          clear HGn HCn
          have HT := Lib.hid (spec_MatrixOfListA A2 c2 _ l w27 hS.out (Nat.le_refl _) (by omega) hlc)
          obtain ⟨F, ok, hF⟩ : ∃ F ok, mlF l = (F, ok) := ⟨_, _, rfl⟩
          rw [hF] at HT
          obtain ⟨fa, fb, fc, fd⟩ := F
          clear hS hF hlc
          go_wp2_with fail
          refine HT.out.mono ?_
          rintro e w28 ⟨rfl, hb⟩
          clear HT
          have hzn := hb.size
          have HX0n := Lib.hid (HX0.out.kept hb)
          have HGn := Lib.hid (grownC_below HG.out hb)
          have HCn := Lib.hid (HC.out.kept hb)
          clear HG HC HX0
          have HX0 := HX0n
          clear HX0n
          have HG := HGn
          have HC := HCn
          clear HGn HCn
          clear hb
          obtain ⟨w29, hwa⟩ : ∃ wa, wa = (w28.alloc (.cells #[.int .i64 fa, .int .i64 fb, .int .i64 fc, .int .i64 fd] 53)) := ⟨_, rfl⟩
          have hb : Below w28.heap.size w28 w29 := by rw [hwa]; exact (Below.refl _ _).alloc (Nat.le_refl _) _
          have hm : Bx4 w29 w28.heap.size fa fb fc fd := by rw [hwa]; exact Bx4.new _ _ _ _ _ _
          have hzn := hb.size
          have HX0n := Lib.hid (HX0.out.kept hb)
          have HGn := Lib.hid (grownC_below HG.out hb)
          have HCn := Lib.hid (HC.out.kept hb)
          clear HG HC HX0
          have HX0 := HX0n
          clear HX0n
          have HG := HGn
          have HC := HCn
          clear HGn HCn
          go_upto_region 14 with fail
          rw [← hwa]
          clear hwa hb
          obtain ⟨⟨m0, m1, m2, m3⟩, _⟩ := hm
          have HR : Hid (DrawnM w g (N + 500) (.returned (.agg #[.int .i64 fa, .int .i64 fb, .int .i64 fc, .int .i64 fd])) ((((w29.setCell ⟨w.heap.size, 0, none⟩ (.int .i64 fa)).setCell ⟨w.heap.size, 1, none⟩ (.int .i64 fb)).setCell ⟨w.heap.size, 2, none⟩ (.int .i64 fc)).setCell ⟨w.heap.size, 3, none⟩ (.int .i64 fd))) := Lib.hid ⟨fa, fb, fc, fd, rfl, (((((HC.out.put (by omega)).put (by omega)).put (by omega)).put (by omega)).more (by omega)), (grownC_put (grownC_put (grownC_put (grownC_put HG.out (by simp)) (by simp)) (by simp)) (by simp))⟩
          obtain ⟨⟨c0_0, c0_1, c0_2, c0_3⟩, f0_0, f0_1, f0_2, f0_3⟩ := HX0.out
          clear HC HG HX0
          go_wp2
          refine bodyPost_ret (v := .agg #[.int .i64 fa, .int .i64 fb, .int .i64 fc, .int .i64 fd]) ?_ rfl ?_
          · simp [results, Try.results143, go_sem, c0_0, c0_1, c0_2, c0_3]
          · exact HR.out
end Go.Proofs.Ytfkkbjbgjmaciaa
