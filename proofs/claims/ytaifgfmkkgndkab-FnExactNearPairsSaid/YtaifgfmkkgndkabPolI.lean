/- The program's test of polygons of fractions. -/
import Derived.Test.YtaifgfmkkgndkabPolW
import Derived.Test.YtaifgfmkkgndkabBx4
import Derived.Test.YtaifgfmkkgndkabKept
namespace Go.Proofs.Ytaifgfmkkgndkab
set_option linter.unusedVariables false
open Go.RowKit

theorem run_part_fr (xs : Array Value) (off : Nat) (w : World) : (part 32 xs off).run Try.prog w = .ok (.agg (xs.extract off (off + 2))) w := by
  unfold part
  simp [Try.isAgg32, Try.sizeOf32]
set_option maxRecDepth 100000 in
theorem run_pa_eq (a b c d e f g h : Int) (w : World) :
    (Op.equalIn 10000 77 (.agg #[.int .i64 a, .int .i64 b, .int .i64 c, .int .i64 d]) (.agg #[.int .i64 e, .int .i64 f, .int .i64 g, .int .i64 h])).run Try.prog w = .ok (((a == e) && (b == f)) && ((c == g) && (d == h))) w := by
  rw [run_equalIn_struct (d := 9999) w _ _ _ (by kernel_rfl) (by kernel_rfl)]
  have hf : (Try.prog.fieldsOf 77).toList.map (fun f => (decide (f.name ≠ "_"), f.type, f.offset)) = [(true, 32, 0), (true, 32, 2)] := by kernel_rfl
  generalize (Try.prog.fieldsOf 77).toList = fs at hf
  obtain ⟨f0, fs, rfl⟩ : ∃ x y, fs = x :: y := by cases fs with | nil => simp at hf | cons x y => exact ⟨x, y, rfl⟩
  obtain ⟨f1, fs, rfl⟩ : ∃ x y, fs = x :: y := by cases fs with | nil => simp at hf | cons x y => exact ⟨x, y, rfl⟩
  simp only [List.map_cons, List.cons.injEq, Prod.mk.injEq, decide_eq_true_eq, List.map_eq_nil_iff] at hf
  obtain ⟨⟨n0, t0, o0⟩, ⟨n1, t1, o1⟩, rfl⟩ := hf
  have p1 : ∀ (x y z u : Value) (w : World), (part 32 #[x, y, z, u] 0).run Try.prog w = .ok (.agg #[x, y]) w := fun x y z u w => (run_part_fr _ _ w).trans (by simp)
  have p2 : ∀ (x y z u : Value) (w : World), (part 32 #[x, y, z, u] 2).run Try.prog w = .ok (.agg #[z, u]) w := fun x y z u w => (run_part_fr _ _ w).trans (by simp)
  have q := run_fr_eqD 9997
  simp only [Op.eqFields, Sem.run_bind, if_pos n0, if_pos n1, t0, t1, o0, o1]
  rw [p1]
  simp only [Result.andThen_ok]
  rw [p1]
  simp only [Result.andThen_ok]
  rw [q]
  simp only [Result.andThen_ok]
  generalize ((a == e) && (b == f)) = b0
  cases b0
  · simp
  simp only [Bool.not_true, Bool.false_eq_true, if_false, Bool.true_and, Sem.run_bind]
  rw [p2]
  simp only [Result.andThen_ok]
  rw [p2]
  simp only [Result.andThen_ok]
  rw [q]
  simp only [Result.andThen_ok]
  generalize ((c == g) && (d == h)) = b1
  cases b1 <;> simp

theorem impl_firstParentsB (w : World) : Calls Try.prog 63 #[] w fun e w' => e = .returned (.agg #[.int .i64 0, .int .i64 1, .int .i64 1, .int .i64 0]) ∧ Below w.heap.size w w' := by
  go_enter Try.func63, Try.ntmps63
  go_wp2
  exact bodyPost_ret (v := .agg #[.int .i64 0, .int .i64 1, .int .i64 1, .int .i64 0]) (by simp [results, Try.results63, go_sem]) rfl ⟨rfl, below_one _ _⟩

theorem impl_areFractions1 (c d : Int) (w : World) :
    Calls Try.prog 88 #[.agg #[.int .i64 c, .int .i64 d]] w fun e w' => e = .returned (.bool (!nbB c d)) ∧ Below w.heap.size w w' := by
  have H := Lib.hid (impl_IsFraction c d)
  generalize nbB c d = r at *
  go_enter Try.func88, Try.ntmps88
  go_wp2_with fail
  refine (H.out _).mono ?_
  rintro e w1 ⟨rfl, hb1⟩
  have HD := Lib.hid ((below_one w _).trans (hb1.mono (by simp)))
  clear hb1
  go_wp2
  go_ret
  exact ⟨rfl, HD.out⟩

set_option maxHeartbeats 800000 in
theorem indexFunc_bad (A : Option Addr) (c B : Nat) (l : List (Int × Int)) (w : World) (h : SlD w B A l) (hB : B ≤ w.heap.size) (hl : l.length ≤ 1000000000) :
    Calls Try.prog 112 #[.slice A l.length c, .func (.func 88) #[] #[]] w (Found (anyB l) w) := by
  go_enter Try.func112, Try.ntmps112
  go_wp2
  go_loopw [5, 8] (fun _ i wr => ∃ k : Nat, k ≤ l.length ∧ i = .int .i64 k ∧ Below w.heap.size w wr ∧ anyB (l.take k) = false) (fun _ i _ => l.length - (intOf i).toNat)
  case atStart => exact ⟨0, Nat.zero_le _, rfl, Below.refl _ _, by simp [anyB]⟩
  case round =>
    obtain ⟨k, hk, rfl, hb, hno⟩ := hrel
    by_cases hlt : k < l.length
    · have hA := h.below (hb.mono hB)
      obtain ⟨b', off, rfl, hbB, hc⟩ := hA (by omega)
      obtain ⟨g0, g1⟩ := hc k hlt
      have i0 : (0 : Int) ≤ (k : Int) := by omega
      have i1 : (k : Int) < (l.length : Int) := by omega
      have hst := anyB_take l k hlt
      have hhit := anyB_hit l k hlt
      rw [hno, Bool.false_or] at hst
      clear hc h hA hno
      generalize (l.getD k (0, 0)).1 = x at *
      generalize (l.getD k (0, 0)).2 = y at *
      have Hst := Lib.hid hst
      have Hhit := Lib.hid hhit
      clear hst hhit
      go_wp2_with fail
      refine (impl_areFractions1 x y _).mono ?_
      rintro e w1 ⟨rfl, hb1⟩
      have hd := below_kept hb (Nat.le_refl _) hb1
      clear hb hb1 g0 g1
      cases hx : nbB x y
      · go_wp2
        go_ret
        exact ⟨k, rfl, by rw [Hhit.out hx]; simp, hd⟩
      · go_wp2
        go_roundw
        case rel => exact ⟨k + 1, by omega, by go_num, hd, by rw [Hst.out, hx]; rfl⟩
        case measure => simp [intOf]; omega
    · obtain rfl : k = l.length := by omega
      rw [List.take_length] at hno
      have Hno := Lib.hid hno
      clear hno
      go_wp2
      go_ret
      exact ⟨-1, rfl, by rw [Hno.out]; rfl, hb⟩
theorem containsFunc_bad (A : Option Addr) (c B : Nat) (l : List (Int × Int)) (w : World) (h : SlD w B A l) (hB : B ≤ w.heap.size) (hl : l.length ≤ 1000000000) :
    Calls Try.prog 87 #[.slice A l.length c, .func (.func 88) #[] #[]] w fun e w' => e = .returned (.bool (anyB l)) ∧ Below w.heap.size w w' := by
  go_enter Try.func87, Try.ntmps87
  go_wp2_with fail
  refine (indexFunc_bad A c B l _ h hB hl).mono ?_
  rintro e w1 ⟨r, rfl, hr, hb⟩
  have Hr := Lib.hid hr
  clear hr h
  go_wp2
  all_goals go_ret
  exact ⟨ret_bool Hr.out, hb⟩
theorem impl_areFractions (A : Option Addr) (c B : Nat) (l : List (Int × Int)) (w : World) (h : SlD w B A l) (hB : B ≤ w.heap.size) (hl : l.length ≤ 1000000000) :
    Calls Try.prog 62 #[.slice A l.length c] w fun e w' => e = .returned (.bool (allG l)) ∧ Below w.heap.size w w' := by
  have hg : allG l = !anyB l := by rw [anyB_all, Bool.not_not]
  have Hg := Lib.hid hg
  have HC := Lib.hid (fun w => containsFunc_bad A c B l w)
  clear hg
  generalize anyB l = r at *
  go_enter Try.func62, Try.ntmps62
  go_wp2_with fail
  refine (HC.out _ h hB hl).mono ?_
  rintro e w1 ⟨rfl, hb⟩
  have Hb := Lib.hid hb
  clear hb
  go_wp2
  go_ret
  exact ⟨ret_bool Hg.out.symm, Hb.out⟩

set_option maxRecDepth 100000 in
set_option maxHeartbeats 1600000 in
theorem impl_riseByOne (A : Option Addr) (c B : Nat) (l : List (Int × Int)) (w : World) (h : SlD w B A l) (hB : B ≤ w.heap.size) (h3 : 3 ≤ l.length) (h12 : l.length ≤ 12) (hlc : l.length ≤ c) (hg : allG l = true) :
    Calls Try.prog 64 #[.slice A l.length c] w fun e w' => e = .returned (.bool (riseT l (l.length - 1))) ∧ Below w.heap.size w w' := by
  obtain ⟨b, off, rfl, hbB, hc0⟩ := h (by omega)
  have H := Lib.hid h
  have HG := Lib.hid hg
  have c1 : ¬ c = 1 := by omega
  have e1 : ((c : Int) == 1) = false := by simp; omega
  have n1 : (1 : Int) ≤ (l.length : Int) := by omega
  have n0 : (0 : Int) < (l.length : Int) := by omega
  have hcl : (l.length : Int) ≤ (c : Int) := by omega
  clear hc0 h hg
  go_enter Try.func64, Try.ntmps64
  go_wp2
  go_loopw [3, 4, 8] (fun _ _ i wr => ∃ k : Nat, k ≤ l.length - 1 ∧ i = .int .i64 k ∧ riseT l k = true ∧ Below w.heap.size w wr) (fun _ _ i _ => l.length - (intOf i).toNat)
  case atStart => exact ⟨0, Nat.zero_le _, rfl, rfl, Below.refl _ _⟩
  case round =>
    obtain ⟨k, hk, rfl, hri, hb⟩ := hrel
    have hA := H.out.below (hb.mono hB)
    obtain ⟨b2, off2, e2, hbB2, hc⟩ := hA (by omega)
    cases e2
    by_cases hlt : k < l.length - 1
    · obtain ⟨g0, g1⟩ := hc k (by omega)
      obtain ⟨r0, r1⟩ := hc (k + 1) (by omega)
      have hrs := riseT_succ l k
      have hrm := @riseT_miss l k (l.length - 1) hlt
      have s1 := nbB_sm (allG_at HG.out (show k < l.length by omega))
      have s2 := nbB_sm (allG_at HG.out (show k + 1 < l.length by omega))
      have HC := Lib.hid (fun w => impl_crossF (l.getD k (0, 0)).1 (l.getD k (0, 0)).2 (l.getD (k + 1) (0, 0)).1 (l.getD (k + 1) (0, 0)).2 w s1.1 s1.2 s2.1 s2.2)
      rw [hri, Bool.true_and] at hrs
      have Hrs := Lib.hid hrs
      have Hrm := Lib.hid hrm
      clear hrs hrm s1 s2 hri hc
      generalize crs (l.getD k (0, 0)) (l.getD (k + 1) (0, 0)) = z at *
      generalize (l.getD k (0, 0)).1 = x at *
      generalize (l.getD k (0, 0)).2 = y at *
      generalize (l.getD (k + 1) (0, 0)).1 = u at *
      generalize (l.getD (k + 1) (0, 0)).2 = v at *
      rw [show ∀ o : Nat, o + (k + 1) * 2 = o + 2 + k * 2 from fun o => by omega] at r0 r1
      have i0 : (0 : Int) ≤ (k : Int) := by omega
      have i1 : (k : Int) < (l.length : Int) - 1 := by omega
      have i2 : (k : Int) < (l.length : Int) := by omega
      go_wp2_with fail
      have hbw : b < wr.heap.size := World.block_lt_of_cell? wr _ g0
      go_region_held3 (fun w' => w'.cell? ⟨b, off + k * 2, none⟩ = some (.int .i64 x) ∧ w'.cell? ⟨b, off + k * 2 + 1, none⟩ = some (.int .i64 y) ∧ w'.cell? ⟨wr.heap.size, 0, none⟩ = some (.int .i64 u) ∧ w'.cell? ⟨wr.heap.size, 1, none⟩ = some (.int .i64 v) ∧ Below w.heap.size w w')
        (first
          | with_reducible exact keptB4 (by assumption) hb1 (Nat.le_refl _)
          | exact ⟨by simp [go_sem, hbw, g0], by simp [go_sem, hbw, g1], by simp [go_sem], by simp [go_sem], (hb.alloc hb.size _).drew⟩)
        (first
          | (go_at_call 53; refine (HC.out _).mono ?_; rintro e w1 ⟨rfl, hb1⟩))
      rename_i hS
      have hd := Lib.hid hS.2.2.2.2
      clear hS hb1 hb g0 g1 r0 r1 HC hbw
      by_cases hz : z = 1
      · have hz1 : (z != 1) = false := by simpa using hz
        have hr3 := Hrs.out
        rw [show decide (z = 1) = true by simpa using hz] at hr3
        have Hr3 := Lib.hid hr3
        clear Hrs Hrm hr3 hz
        go_wp2
        go_roundw
        case rel => exact ⟨k + 1, by omega, by go_num, Hr3.out, hd.out⟩
        case measure => simp [intOf]; omega
      · have hz1 : (z != 1) = true := by simpa using hz
        have HE := Lib.hid (Hrm.out hz)
        clear Hrs Hrm hz
        go_wp2
        go_ret
        exact ⟨ret_bool HE.out.symm, hd.out⟩
    · obtain rfl : k = l.length - 1 := by omega
      have Hri := Lib.hid hri
      clear hri hc
      go_wp2
      go_ret
      exact ⟨ret_bool Hri.out.symm, hb⟩

set_option maxRecDepth 100000 in
set_option maxHeartbeats 3200000 in
theorem impl_IsFractionPolygon (A : Option Addr) (c B : Nat) (l : List (Int × Int)) (w : World) (h : SlD w B A l) (hB : B ≤ w.heap.size) (hl : l.length ≤ 1048576) (hlc : l.length ≤ c) :
    Calls Try.prog 31 #[.slice A l.length c] w fun e w' => e = .returned (.bool (polB l)) ∧ Below w.heap.size w w' := by
  have HA := Lib.hid (fun w h hB => impl_areFractions A c B l w h hB (by omega))
  by_cases hn : 3 ≤ l.length ∧ l.length ≤ 12
  · have hp : poB (l.length : Int) = true := by unfold poB; rw [decide_eq_true_eq]; omega
    obtain ⟨n3, n12⟩ := hn
    cases hg : allG l
    · have HE := Lib.hid (polB_bad hg)
      rw [hg] at HA
      clear hg
      go_enter Try.func31, Try.ntmps31
      go_wp2_with fail
      refine (impl_isPolygon _ _ _ hp).mono ?_
      rintro e w1 ⟨rfl, rfl⟩
      clear hp
      go_wp2_with fail
      refine (HA.out _ h hB).mono ?_
      rintro e w1 ⟨rfl, hb⟩
      have Hb := Lib.hid hb
      clear hb h
      go_wp2
      go_ret
      exact ⟨ret_bool HE.out.symm, Hb.out⟩
    · have HR := Lib.hid (fun w h hB => impl_riseByOne A c B l w h hB n3 n12 hlc hg)
      have Hall := Lib.hid (@polB_all l ⟨n3, n12⟩ hg)
      have Hrise := Lib.hid (@polB_rise l)
      have Hends := Lib.hid (@polB_ends l)
      rw [hg] at HA
      have H := Lib.hid h
      clear hg h
      generalize riseT l (l.length - 1) = rt at *
      go_enter Try.func31, Try.ntmps31
      go_wp2_with fail
      refine (impl_isPolygon _ _ _ hp).mono ?_
      rintro e w1 ⟨rfl, rfl⟩
      clear hp
      go_wp2_with fail
      refine (HA.out _ H.out hB).mono ?_
      rintro e w1 ⟨rfl, hb⟩
      have H1 := Lib.hid (H.out.below (hb.mono hB))
      have hz1 := hb.size
      have Hb := Lib.hid hb
      clear hb H HA
      obtain ⟨b, off, rfl, hbB, hc⟩ := H1.out (by omega)
      obtain ⟨p0, p1⟩ := hc 0 (by omega)
      simp only [Nat.zero_mul, Nat.add_zero] at p0 p1
      obtain ⟨q0, q1⟩ := hc (l.length - 1) (by omega)
      have j0 : (0 : Int) ≤ (l.length : Int) - 1 := by omega
      have j1 : (l.length : Int) - 1 < (l.length : Int) := by omega
      have j3 : ((l.length : Int) - 1).toNat = l.length - 1 := by omega
      have j4 : IntKind.i64.wrap ((l.length : Int) - 1) = (l.length : Int) - 1 := IntWalk.i64_in _ (by omega)
      have j5 : (1 : Int) ≤ (l.length : Int) := by omega
      have j6 : (0 : Int) < (l.length : Int) := by omega
      clear hc
      generalize l.getD 0 (0, 0) = P at *
      generalize l.getD (l.length - 1) (0, 0) = Q at *
      obtain ⟨p, p'⟩ := P
      obtain ⟨q, q'⟩ := Q
      dsimp only at p0 p1 q0 q1
      have hE := run_pa_eq p p' q q' 0 1 1 0
      have f1 : (decide ((p, p') = ((0 : Int), (1 : Int))) && decide ((q, q') = ((1 : Int), (0 : Int)))) = (((p == 0) && (p' == 1)) && ((q == 1) && (q' == 0))) := by
        rw [Bool.eq_iff_iff, Bool.and_eq_true, Bool.and_eq_true, frEq_iff, frEq_iff, decide_eq_true_eq, decide_eq_true_eq]
      rw [f1] at Hall Hends
      clear f1
      generalize (((p == 0) && (p' == 1)) && ((q == 1) && (q' == 0))) = z at *
      have hbw : b < w1.heap.size := World.block_lt_of_cell? w1 _ p0
      go_wp2
      go_region
      obtain ⟨w2, hw2⟩ : ∃ w2, w2 = (w1.alloc (.cells #[.int .i64 p, .int .i64 p', .int .i64 q, .int .i64 q'] 77)).drew := ⟨_, rfl⟩
      have X : Bx4 w2 w1.heap.size p p' q q' := by rw [hw2]; exact Bx4.new w1 77 p p' q q'
      have hb2 : Below w1.heap.size w1 w2 := by rw [hw2]; exact (below_one w1 _).drew
      rw [← hw2]
      clear hw2 p0 p1 q0 q1 j0 j1 j3 j4 j5 j6 hbw
      have hz2 := hb2.size
      have H2 := Lib.hid (H1.out.below (hb2.mono (Nat.le_trans hB hz1)))
      have Hb2 := Lib.hid (below_kept Hb.out (Nat.le_refl _) hb2)
      have hB2 : B ≤ w2.heap.size := by omega
      have HX := Lib.hid X
      clear hb2 X H1 Hb
      obtain ⟨⟨y0, y1, y2, y3⟩, f0, f1, f2, f3⟩ := id HX.out
      obtain ⟨g, hg⟩ : ∃ g, g = w1.heap.size := ⟨_, rfl⟩
      rw [← hg] at y0 y1 y2 y3 ⊢
      have hS0 := Lib.hid (And.intro y0 (And.intro y1 (And.intro y2 (And.intro y3 (Below.refl w2.heap.size w2)))))
      clear f0 f1 f2 f3 hg
      go_wp2
      clear y0 y1 y2 y3
      cases z
      · skip
        refine wp_region_held_drew (S := (fun w' => w'.cell? ⟨g, 0, none⟩ = some (.int .i64 p) ∧ w'.cell? ⟨g, 1, none⟩ = some (.int .i64 p') ∧ w'.cell? ⟨g, 2, none⟩ = some (.int .i64 q) ∧ w'.cell? ⟨g, 3, none⟩ = some (.int .i64 q') ∧ Below w2.heap.size w2 w')) (by kernel_rfl) ?_ (fun hH => ?_)
        · exact drewB4 hS0.out
        refine wpAnyH_take (i := 0) (oi := _) (v := ?_) rfl (by kernel_rfl) (by kernel_rfl) (by kernel_rfl) (fun _ _ _ h => h) (Or.inl ⟨by rfl, ?_⟩) hH ?_
        rotate_left
        · (intro w hSw; (try dsimp only at hSw); go_simp <;> (with_reducible rfl))
        try simp only [Act.put, List.getElem_toArray, List.getElem_cons_zero, List.setIfInBounds_toArray, List.set_cons_zero, List.set_cons_succ]
        refine wpAnyH_ready (rs := [1]) (by kernel_rfl) (by simp) ?_
        refine AllReadyH.cons rfl (fun K hK => ?_) AllReadyH.nil
        go_simp
        refine (impl_firstParentsB _).mono ?_
        rintro e w3 ⟨rfl, hb3⟩
        refine hK.out _ _ ?_ (fun hH => ?_)
        · exact keptB4 hH hb3 (Nat.le_refl _)
        clear hK K
        try simp only [Act.put, List.getElem_toArray, List.getElem_cons_succ, List.getElem_cons_zero, List.setIfInBounds_toArray, List.set_cons_zero, List.set_cons_succ]
        refine wpAnyH_take (i := 2) (oi := _) (v := ?_) rfl (by kernel_rfl) (by kernel_rfl) (by kernel_rfl) (fun _ _ _ h => h) (Or.inl ⟨by rfl, ?_⟩) hH ?_
        rotate_left
        · (intro w hSw; (try dsimp only at hSw); go_simp <;> (with_reducible rfl))
        try simp only [Act.put, List.getElem_toArray, List.getElem_cons_succ, List.getElem_cons_zero, List.setIfInBounds_toArray, List.set_cons_zero, List.set_cons_succ]
        refine wpAnyH_take (i := 3) (oi := _) (v := ?_) rfl (by kernel_rfl) (by kernel_rfl) (by kernel_rfl) (fun _ _ _ h => h) (Or.inl ⟨by rfl, ?_⟩) hH ?_
        rotate_left
        · (intro w hSw; (try dsimp only at hSw); go_simp <;> (with_reducible rfl))
        try simp only [Act.put, List.getElem_toArray, List.getElem_cons_succ, List.getElem_cons_zero, List.setIfInBounds_toArray, List.set_cons_zero, List.set_cons_succ]
        refine wpAnyH_take (i := 4) (oi := _) (v := undef) rfl (by kernel_rfl) (by kernel_rfl) (by kernel_rfl) (fun _ _ _ h => h) (Or.inr ⟨rfl, rfl⟩) hH ?_
        try simp only [Act.put, List.getElem_toArray, List.getElem_cons_succ, List.getElem_cons_zero, List.setIfInBounds_toArray, List.set_cons_zero, List.set_cons_succ]
        refine wpAnyH_take (i := 5) (oi := _) (v := undef) rfl (by kernel_rfl) (by kernel_rfl) (by kernel_rfl) (fun _ _ _ h => h) (Or.inr ⟨rfl, rfl⟩) hH ?_
        try simp only [Act.put, List.getElem_toArray, List.getElem_cons_succ, List.getElem_cons_zero, List.setIfInBounds_toArray, List.set_cons_zero, List.set_cons_succ]
        refine wpAnyH_take (i := 6) (oi := _) (v := ?_) rfl (by kernel_rfl) (by kernel_rfl) (by kernel_rfl) (fun _ _ _ h => h) (Or.inl ⟨by rfl, ?_⟩) hH ?_
        rotate_left
        · (intro w hSw; (try dsimp only at hSw); go_simp <;> (with_reducible rfl))
        try simp only [Act.put, List.getElem_toArray, List.getElem_cons_succ, List.getElem_cons_zero, List.setIfInBounds_toArray, List.set_cons_zero, List.set_cons_succ]
        refine wpAnyH_take (i := 7) (oi := _) (v := ?_) rfl (by kernel_rfl) (by kernel_rfl) (by kernel_rfl) (fun _ _ _ h => h) (Or.inl ⟨by rfl, ?_⟩) hH ?_
        rotate_left
        · (intro w hSw; (try dsimp only at hSw); go_simp <;> (with_reducible rfl))
        try simp only [Act.put, List.getElem_toArray, List.getElem_cons_succ, List.getElem_cons_zero, List.setIfInBounds_toArray, List.set_cons_zero, List.set_cons_succ]
        refine wpAnyH_done (by kernel_rfl) ?_ _
        have hd := Lib.hid (below_kept Hb2.out (Nat.le_refl _) hH.2.2.2.2)
        have HE := Lib.hid (Hends.out rfl)
        clear hH hb3 hS0
        go_wp2
        go_ret
        exact ⟨ret_bool HE.out.symm, hd.out⟩
      · skip
        refine wp_region_held_drew (S := (fun w' => w'.cell? ⟨g, 0, none⟩ = some (.int .i64 p) ∧ w'.cell? ⟨g, 1, none⟩ = some (.int .i64 p') ∧ w'.cell? ⟨g, 2, none⟩ = some (.int .i64 q) ∧ w'.cell? ⟨g, 3, none⟩ = some (.int .i64 q') ∧ Below w2.heap.size w2 w')) (by kernel_rfl) ?_ (fun hH => ?_)
        · exact drewB4 hS0.out
        refine wpAnyH_take (i := 0) (oi := _) (v := ?_) rfl (by kernel_rfl) (by kernel_rfl) (by kernel_rfl) (fun _ _ _ h => h) (Or.inl ⟨by rfl, ?_⟩) hH ?_
        rotate_left
        · (intro w hSw; (try dsimp only at hSw); go_simp <;> (with_reducible rfl))
        try simp only [Act.put, List.getElem_toArray, List.getElem_cons_zero, List.setIfInBounds_toArray, List.set_cons_zero, List.set_cons_succ]
        refine wpAnyH_ready (rs := [1]) (by kernel_rfl) (by simp) ?_
        refine AllReadyH.cons rfl (fun K hK => ?_) AllReadyH.nil
        go_simp
        refine (impl_firstParentsB _).mono ?_
        rintro e w3 ⟨rfl, hb3⟩
        refine hK.out _ _ ?_ (fun hH => ?_)
        · exact keptB4 hH hb3 (Nat.le_refl _)
        clear hK K
        try simp only [Act.put, List.getElem_toArray, List.getElem_cons_succ, List.getElem_cons_zero, List.setIfInBounds_toArray, List.set_cons_zero, List.set_cons_succ]
        refine wpAnyH_take (i := 2) (oi := _) (v := ?_) rfl (by kernel_rfl) (by kernel_rfl) (by kernel_rfl) (fun _ _ _ h => h) (Or.inl ⟨by rfl, ?_⟩) hH ?_
        rotate_left
        · (intro w hSw; (try dsimp only at hSw); go_simp <;> (with_reducible rfl))
        try simp only [Act.put, List.getElem_toArray, List.getElem_cons_succ, List.getElem_cons_zero, List.setIfInBounds_toArray, List.set_cons_zero, List.set_cons_succ]
        refine wpAnyH_take (i := 3) (oi := _) (v := ?_) rfl (by kernel_rfl) (by kernel_rfl) (by kernel_rfl) (fun _ _ _ h => h) (Or.inl ⟨by rfl, ?_⟩) hH ?_
        rotate_left
        · (intro w hSw; (try dsimp only at hSw); go_simp <;> (with_reducible rfl))
        try simp only [Act.put, List.getElem_toArray, List.getElem_cons_succ, List.getElem_cons_zero, List.setIfInBounds_toArray, List.set_cons_zero, List.set_cons_succ]
        refine wpAnyH_take (i := 4) (oi := _) (v := ?_) rfl (by kernel_rfl) (by kernel_rfl) (by kernel_rfl) (fun _ _ _ h => h) (Or.inl ⟨by rfl, ?_⟩) hH ?_
        rotate_left
        · (intro w hSw; (try dsimp only at hSw); go_simp <;> (with_reducible rfl))
        try simp only [Act.put, List.getElem_toArray, List.getElem_cons_succ, List.getElem_cons_zero, List.setIfInBounds_toArray, List.set_cons_zero, List.set_cons_succ]
        refine wpAnyH_ready (rs := [5]) (by kernel_rfl) (by simp) ?_
        refine AllReadyH.cons rfl (fun K hK => ?_) AllReadyH.nil
        go_simp
        refine (HR.out _ (H2.out.below (hH.2.2.2.2.mono hB2)) (Nat.le_trans hB2 hH.2.2.2.2.size)).mono ?_
        rintro e w4 ⟨rfl, hb4⟩
        refine hK.out _ _ ?_ (fun hH => ?_)
        · exact keptB4 hH hb4 (Nat.le_refl _)
        clear hK K
        try simp only [Act.put, List.getElem_toArray, List.getElem_cons_succ, List.getElem_cons_zero, List.setIfInBounds_toArray, List.set_cons_zero, List.set_cons_succ]
        refine wpAnyH_take (i := 6) (oi := _) (v := ?_) rfl (by kernel_rfl) (by kernel_rfl) (by kernel_rfl) (fun _ _ _ h => h) (Or.inl ⟨by rfl, ?_⟩) hH ?_
        rotate_left
        · (intro w hSw; (try dsimp only at hSw); go_simp <;> (with_reducible rfl))
        try simp only [Act.put, List.getElem_toArray, List.getElem_cons_succ, List.getElem_cons_zero, List.setIfInBounds_toArray, List.set_cons_zero, List.set_cons_succ]
        refine wpAnyH_take (i := 7) (oi := _) (v := ?_) rfl (by kernel_rfl) (by kernel_rfl) (by kernel_rfl) (fun _ _ _ h => h) (Or.inl ⟨by rfl, ?_⟩) hH ?_
        rotate_left
        · (intro w hSw; (try dsimp only at hSw); go_simp <;> (with_reducible rfl))
        try simp only [Act.put, List.getElem_toArray, List.getElem_cons_succ, List.getElem_cons_zero, List.setIfInBounds_toArray, List.set_cons_zero, List.set_cons_succ]
        refine wpAnyH_done (by kernel_rfl) ?_ _
        have hd := Lib.hid (below_kept Hb2.out (Nat.le_refl _) hH.2.2.2.2)
        have hE2 : polB l = rt := by
          cases rt
          · exact Hrise.out rfl
          · exact Hall.out rfl
        have HE := Lib.hid hE2
        clear hH hb3 hb4 hS0 hE2
        go_wp2
        go_ret
        exact ⟨ret_bool HE.out.symm, hd.out⟩
  · have hp : poB (l.length : Int) = false := by unfold poB; rw [decide_eq_false_iff_not]; omega
    have HE := Lib.hid (polB_len hn)
    clear h hn HA
    go_enter Try.func31, Try.ntmps31
    go_wp2_with fail
    refine (impl_isPolygon _ _ _ hp).mono ?_
    rintro e w1 ⟨rfl, rfl⟩
    clear hp
    go_wp2
    go_ret
    exact ⟨ret_bool HE.out.symm, Below.refl _ _⟩
end Go.Proofs.Ytaifgfmkkgndkab
