/- MakePuzzle: the model's, and the law's walk. -/
import Derived.Test.YtnoddecligmjbaaMkI
import Derived.Test.YtnoddecligmjbaaMakePuzzleC
import Derived.Deep.RegionLaw
namespace Go.Proofs.Ytnoddecligmjbaa
set_option linter.unusedVariables false
open Go.RowKit

theorem step_pzPut {ops : Array Oper} {o : Oper} {a : Act} {Q : Exit → Act → World → Prop} {K : Act → World → Prop} {E : Prop} (w : World) (hgd : o.guard = none) (x y : Operand)
    (ho : o.op = .call { callee := .value (.func 105), args := #[x, y, .const (.int .i64 0)], argTypes := #[27, 3, 3] }) (A : Option Addr) (n c B : Nat) (l : List Int) (k : Nat) (hx : a.eval x = .agg #[.slice A n c]) (hy : a.eval y = .int .i64 k) (hn : l.length = n) (h : SlI w B A l) (hB : B ≤ w.heap.size) (hl : n ≤ 9) (hk : k < n)
    (hK : ∀ A' c' w', w'.ownsRow w.heap.size 3 1 (.slice A' n c') n (ics (l.set k 0)) → Below w.heap.size w w' → K (a.put o.dst (.agg #[.slice A' n c'])) w') :
    if Region.wanted o (yielded ops a.tmps) = true then Oper.wp Try.prog o a w K Q else E := by
  subst hn
  have hw : Region.wanted o (yielded ops a.tmps) = true := by simp [Region.wanted, hgd]
  rw [if_pos hw]
  have hrun : (execOp a.eval o).run Try.prog w = .ok (.enter 105 #[.agg #[.slice A l.length c], .int .i64 k, .int .i64 0]) w := by
    have h1 : (#[x, y, .const (.int .i64 0)].map a.eval) = #[.agg #[.slice A l.length c], .int .i64 k, .int .i64 0] := by
      simp only [List.map_toArray, List.map_cons, List.map_nil, hx, hy]
      rfl
    unfold execOp
    simp only [ho, resolve, invoke, h1, Sem.run_bind, Result.andThen_ok, Act.eval]
    go_simp
  unfold Oper.wp
  rw [hrun, Oper.upon_enter]
  refine (spec_pzPut A c B l k 0 w h hB hl hk).mono fun e w' hh => ?_
  obtain ⟨A', c', rfl, h1, h2⟩ := hh
  rw [List.length_set] at h1 ⊢
  exact hK A' c' w' h1 h2

set_option maxRecDepth 100000 in
set_option maxHeartbeats 6400000 in
theorem spec_MakePuzzle_no (n g s : Int) (w : World) (h : mkOk n g s = false) : Calls Try.prog 32 #[.int .i64 n, .int .i64 g, .int .i64 s] w (MkE n g s w) := by
  have HF : Hid (MkE n g s w (.returned (.tuple #[.agg #[.slice none 0 0], .bool false])) (w.alloc (.cells #[.slice none 0 0] 27))) := Lib.hid (mkE_no h ⟨none, 0, rfl, World.ownsRow_nil _ _ _ _, below_box (Below.refl w.heap.size w) (Nat.le_refl _) _⟩)
  have hf : (inB n 3 9 && inB g 0 n && inB s 0 9999) = false := h
  clear h
  go_enter Try.func32, Try.ntmps32
  go_wp2_with fail
  refine (spec_l1In' _ _ _ _).mono ?_
  rintro e w1 ⟨rfl, rfl⟩
  cases h1 : inB n 3 9
  · clear hf h1
    go_wp2
    exact bodyPost_ret (v := .tuple #[.agg #[.slice none 0 0], .bool false]) (by simp [results, Try.results32, go_sem]) rfl HF.out
  · rw [h1, Bool.true_and] at hf
    clear h1
    go_wp2_with fail
    refine (spec_l1In' _ _ _ _).mono ?_
    rintro e w1 ⟨rfl, rfl⟩
    cases h2 : inB g 0 n
    · clear hf h2
      go_wp2
      exact bodyPost_ret (v := .tuple #[.agg #[.slice none 0 0], .bool false]) (by simp [results, Try.results32, go_sem]) rfl HF.out
    · rw [h2, Bool.true_and] at hf
      clear h2
      go_wp2_with fail
      refine (spec_l1In' _ _ _ _).mono ?_
      rintro e w1 ⟨rfl, rfl⟩
      rw [hf]
      clear hf
      go_wp2
      exact bodyPost_ret (v := .tuple #[.agg #[.slice none 0 0], .bool false]) (by simp [results, Try.results32, go_sem]) rfl HF.out

set_option maxRecDepth 100000 in
set_option maxHeartbeats 12800000 in
theorem spec_MakePuzzle_yes (n g : Nat) (s : Int) (w : World) (n3 : 3 ≤ n) (n9 : n ≤ 9) (hg : g ≤ n) (s0 : 0 ≤ s) (s1 : s ≤ 9999) : Calls Try.prog 32 #[.int .i64 n, .int .i64 g, .int .i64 s] w (MkE n g s w) := by
  have hok : mkOk n g s = true := mkOk_iff.2 ⟨by omega, by omega, by omega⟩
  have HYes : Hid (∀ L e w', mkB g (mkA (n - 3) s [1, 1, 1]).1 (mkA (n - 3) s [1, 1, 1]).2 = L → RetP w L true e w' → MkE n g s w e w') := Lib.hid fun L e w' hL hr => mkE_yes hok (by simpa using hL) hr
  have h1 : inB (n : Int) 3 9 = true := inBe_iff.2 (by omega)
  have h2 : inB (g : Int) 0 (n : Int) = true := inBe_iff.2 (by omega)
  have h3 : inB s 0 9999 = true := inBe_iff.2 ⟨s0, s1⟩
  obtain ⟨w1, hw1⟩ : ∃ w1, w1 = w.alloc (.cells #[.slice none 0 0] 27) := ⟨_, rfl⟩
  obtain ⟨w3, hw3⟩ : ∃ w3, w3 = w1.alloc (.cells #[.int .i64 1, .int .i64 1, .int .i64 1] 3) := ⟨_, rfl⟩
  have z1 : w1.heap.size = w.heap.size + 1 := by rw [hw1]; simp
  have b1 : Below w.heap.size w w1 := by rw [hw1]; exact below_box (Below.refl _ _) (Nat.le_refl _) _
  have b3 : Below w.heap.size w w3 := by rw [hw3]; exact below_box b1 (Nat.le_refl _) _
  have q1 : Bo w1 w.heap.size (.slice none 0 0) 27 := by rw [hw1]; exact Bo.new _ _ _
  have q13 : Bo w3 w.heap.size (.slice none 0 0) 27 := by rw [hw3]; exact q1.alloc _
  have o3 : w3.ownsRow (w.heap.size + 1) 3 1 (.slice (some ⟨w.heap.size + 1, 0, none⟩) 3 3) 3 (ics [1, 1, 1]) := by
    rw [hw3, ← z1]
    exact ⟨by simp [ics], .inr ⟨w1.heap.size, 3, #[.int .i64 1, .int .i64 1, .int .i64 1], rfl, Nat.le_refl _, heap_alloc_new w1 _, by omega, by decide, by simp, by simp [ics]⟩⟩
  have Hw1 := Lib.hid hw1
  have Hw3 := Lib.hid hw3
  have O3 := Lib.hid o3
  have Q1 := Lib.hid q13
  have B3 := Lib.hid b3
  have m9 : (n : Int) ≤ 9 := by omega
  clear hok hw1 hw3 o3 q1 q13 b1 b3
  go_enter Try.func32, Try.ntmps32
  go_wp2_with fail
  refine (spec_l1In' _ _ _ _).mono ?_
  rintro e wi ⟨rfl, rfl⟩
  rw [h1]
  clear h1
  go_wp2_with fail
  refine (spec_l1In' _ _ _ _).mono ?_
  rintro e wi ⟨rfl, rfl⟩
  rw [h2]
  clear h2
  go_wp2_with fail
  refine (spec_l1In' _ _ _ _).mono ?_
  rintro e wi ⟨rfl, rfl⟩
  rw [h3]
  clear h3
  go_wp2
  rw [← Hw1.out, ← Hw3.out]
  clear Hw1 Hw3 z1
  go_loopw [8, 9] (fun zv v wr => ∃ (m : Nat) (A : Option Addr) (c : Nat) (q : List Int) (z : Int), v = .slice A m c ∧ zv = .int .i64 z ∧ 3 ≤ m ∧ m ≤ n ∧ m ≤ c ∧ q.length = m ∧ isQ q = true ∧ 0 ≤ z ∧ z ≤ 10006 ∧ mkA (n - m) z q = mkA (n - 3) s [1, 1, 1] ∧
      wr.ownsRow (w.heap.size + 1) 3 1 (.slice A m c) m (ics q) ∧ Bo wr w.heap.size (.slice none 0 0) 27 ∧ Below w.heap.size w wr) (fun _ v _ => n - lenV v)
  case atStart => exact ⟨3, _, 3, [1, 1, 1], s, rfl, rfl, by omega, n3, by omega, rfl, tri_isQ, s0, by omega, rfl, O3.out, Q1.out, B3.out⟩
  case round =>
    clear O3 Q1 B3
    obtain ⟨m, A, c, q, z, rfl, rfl, m3, mn, mc, hqm, hq, z0, z1, hA, ho, hr, hb⟩ := hrel
    by_cases hlt : m < n
    · have i0 : (m : Int) < (n : Int) := by omega
      obtain ⟨x0, x1⟩ := mkM_bd (z := z) (m := m) z0 (by omega)
      have HG := Lib.hid (spec_GlueEar A c wr.heap.size q (mkZ z % (m : Int) + 1) wr (SlI.of_own ho) (Nat.le_refl _) (by omega) (by omega))
      rw [hqm] at HG
      have HR := Lib.hid fun (e : Ending) (w' : World) (h : RetI wr (glueR q (mkZ z % (m : Int) + 1)) (okG q (mkZ z % (m : Int) + 1)) e w') => glue_ret hq hqm (by omega) x0 x1 h
      obtain ⟨e5, e6⟩ := mkZ_bd z0
      have hA2 : mkA (n - (m + 1)) (mkZ z) (glueL q (mkZ z % (m : Int)).toNat) = mkA (n - 3) s [1, 1, 1] := by
        rw [← hA, show n - m = (n - (m + 1)) + 1 by omega, mkA, hqm]
      have hq2 : isQ (glueL q (mkZ z % (m : Int)).toNat) = true := glue_isQ hq (by omega) (by omega)
      have hl2 : (glueL q (mkZ z % (m : Int)).toNat).length = m + 1 := by rw [glueL_length q _ (by omega), hqm]
      have HA2 := Lib.hid hA2
      have Hq2 := Lib.hid hq2
      have Hl2 := Lib.hid hl2
      have Hr := Lib.hid hr
      have Hb := Lib.hid hb
      have hzd : (z * 187 + 3301) % 10007 = mkZ z := rfl
      have hw1 : IntKind.i64.wrap (mkZ z) = mkZ z := IntWalk.i64_in _ (by omega)
      have hw2 : IntKind.i64.wrap (mkZ z % (m : Int)) = mkZ z % (m : Int) := IntWalk.i64_in _ (by omega)
      have hw3 : IntKind.i64.wrap ((z * 187 + 3301) % 10007) = mkZ z := hw1
      have hw4 : IntKind.i64.wrap (mkZ z % (m : Int) + 1) = mkZ z % (m : Int) + 1 := IntWalk.i64_in _ (by omega)
      have m0 : (m : Int) ≠ 0 := by omega
      clear hA ho hr hb hA2 hq2 hl2 hq hqm
      go_wp2_with fail
      refine HG.out.mono ?_
      intro e w6 hret
      obtain ⟨A', c', rfl, o6, b6⟩ := HR.out _ _ hret
      have hcap := own_capI o6
      have o7 := o6.mono (base' := w.heap.size + 1) (Nat.succ_le_of_lt Hr.out.lt)
      have r7 := Hr.out.kept b6
      have b7 := below_kept Hb.out (Nat.le_refl _) b6
      clear hret HG HR Hr Hb o6 b6
      go_wp2
      go_roundw
      case rel => exact ⟨m + 1, A', c', _, mkZ z, rfl, rfl, by omega, by omega, hcap, Hl2.out, Hq2.out, e5, e6, HA2.out, o7, r7, b7⟩
      case measure => simp [lenV]; omega
    · obtain rfl : m = n := by omega
      have hzq : mkA (m - 3) s [1, 1, 1] = (z, q) := by rw [← hA, Nat.sub_self]; rfl
      rw [hzq] at HYes
      have hfull : (fullF q m).length + g = m + g := by
        have h1 := full_all (q := q) (fun i hi => by have := (isQ_get hq i hi).1; omega) m (by omega)
        omega
      have hnn : ∀ i, i < m → 0 ≤ q.getD i 0 ∧ q.getD i 0 ≤ 100 := fun i hi => by have := isQ_get hq i (by omega); omega
      obtain ⟨L0, hL0⟩ : ∃ L0, L0 = mkB g z q := ⟨_, rfl⟩
      have HL : Hid (L0.length = m) := Lib.hid (by rw [hL0, mkB_length, hqm])
      have HY := Lib.hid fun e w' (h : RetP w L0 true e w') => HYes.out L0 e w' hL0.symm h
      have HO := Lib.hid (spec_l1Own_at A m c wr.heap.size q wr hqm (SlI.of_own ho) (Nat.le_refl _) (by omega))
      have Hr := Lib.hid hr
      have Hb := Lib.hid hb
      have Hf := Lib.hid hfull
      have Hq := Lib.hid hqm
      have Hnn := Lib.hid hnn
      have HL0 := Lib.hid hL0.symm
      have hzb : w.heap.size < wr.heap.size := hr.lt
      clear ho hr hb hfull hqm hL0 HYes hzq hA hq hnn
      go_wp2_with fail
      refine HO.out.mono ?_
      rintro e w6 ⟨A', c', rfl, o6, b6⟩
      clear HO
      obtain ⟨w8, hw8⟩ : ∃ w8, w8 = w6.alloc (.cells #[.slice A' m c'] 27) := ⟨_, rfl⟩
      have hb8 : Below w6.heap.size w6 w8 := by rw [hw8]; exact below_box (Below.refl _ _) (Nat.le_refl _) _
      have o8 := (own_kept o6 hb8).mono (base' := w.heap.size + 1) (Nat.succ_le_of_lt hzb)
      have q8 : Bo w8 w6.heap.size (.slice A' m c') 27 := by rw [hw8]; exact Bo.new _ _ _
      have r8 := (Hr.out.kept b6).kept hb8
      have bb8 := below_kept (below_kept Hb.out (Nat.le_refl _) b6) (Nat.le_refl _) hb8
      have hb10 : w.heap.size < w6.heap.size := Nat.lt_of_lt_of_le hzb b6.size
      obtain ⟨b10, hb10e⟩ : ∃ b, b = w6.heap.size := ⟨_, rfl⟩
      rw [← hb10e] at q8 hb10
      have Hb10 := Lib.hid hb10e
      have Hw8 := Lib.hid hw8
      have O8 := Lib.hid o8
      have Q8 := Lib.hid q8
      have R8 := Lib.hid r8
      have B8 := Lib.hid bb8
      clear o6 b6 hb8 o8 q8 r8 bb8 hb10e hw8 Hr Hb hzb
      go_wp2
      rw [← Hw8.out, ← Hb10.out]
      clear Hw8 Hb10
      go_loopw [1, 8, 11] (fun gv zv _ wr => ∃ (r : Nat) (q : List Int) (z : Int) (A : Option Addr) (c : Nat), r ≤ g ∧ gv = .int .i64 r ∧ zv = .int .i64 z ∧ q.length = m ∧ (fullF q m).length + g = m + r ∧ (∀ i, i < m → 0 ≤ q.getD i 0 ∧ q.getD i 0 ≤ 100) ∧ 0 ≤ z ∧ z ≤ 10006 ∧ mkB r z q = L0 ∧
          wr.ownsRow (w.heap.size + 1) 3 1 (.slice A m c) m (ics q) ∧ Bo wr b10 (.slice A m c) 27 ∧ Bo wr w.heap.size (.slice none 0 0) 27 ∧ Below w.heap.size w wr) (fun gv _ _ _ => (intOf gv).toNat)
      case atStart => exact ⟨g, q, z, A', c', Nat.le_refl _, rfl, rfl, Hq.out, Hf.out, Hnn.out, z0, z1, HL0.out, O8.out, Q8.out, R8.out, B8.out⟩
      case round =>
        clear O8 Q8 R8 B8 Hq Hf Hnn HL0 z0 z1 mc
        obtain ⟨r, q, z, A, c, hrg, rfl, rfl, hqm, hfull, hnn, z0, z1, hB, ho, hq10, hr, hb⟩ := hrel
        obtain ⟨w0, hw0⟩ : ∃ w0, w0 = wr := ⟨_, rfl⟩
        subst hw0
        by_cases hr0 : 0 < r
        · have i0 : (0 : Int) < (r : Int) := by omega
          have r9 : (r : Int) ≤ 9 := by omega
          have c10 := hq10.cell
          have y10 := hq10.lt
          obtain ⟨gq, cap0, hv, hgq, hgl⟩ := ho.form (by omega)
          cases hv
          have Ho := Lib.hid ho
          have HQ10 := Lib.hid hq10
          have HR := Lib.hid hr
          have HB := Lib.hid hb
          have Hmk := Lib.hid hB
          have Hfull := Lib.hid hfull
          have Hnn := Lib.hid hnn
          have Hqm := Lib.hid hqm
          clear ho hq10 hr hb hB hfull hnn hqm
          go_wp2
          go_loopw [11, 12, 13, 59] (fun v _ _ i wr => ∃ k : Nat, k ≤ m ∧ i = .int .i64 k ∧ Fulls w0 q k v wr) (fun _ _ _ i _ => m - (intOf i).toNat)
          case atStart => exact ⟨0, Nat.zero_le _, rfl, none, 0, rfl, World.ownsRow_nil _ _ _ _, Below.refl _ _⟩
          case round =>
            obtain ⟨k, hk, rfl, A2, c2, rfl, o2, b2⟩ := hrel
            by_cases hlt : k < m
            · have hx := Hnn.out k hlt
              have g0 : wr.cell? ⟨gq, k, none⟩ = some (.int .i64 (q.getD k 0)) := by rw [(own_kept Ho.out b2).cellAt k (by omega), ics_get _ _ (by rw [Hqm.out]; exact hlt)]
              have j0 : (0 : Int) ≤ (k : Int) := by omega
              have j1 : (k : Int) < (m : Int) := by omega
              have hle := fullF_le q k
              have hzz := b2.size
              have Hobl := Lib.hid o2.lt
              by_cases hx0 : q.getD k 0 = 0
              · have hnext := fullF_miss q k hx0
                have HE : Hid (Fulls w0 q (k + 1) (.slice A2 (fullF q k).length c2) wr) := Lib.hid ⟨A2, c2, by rw [hnext], by rw [hnext]; exact o2, b2⟩
                rw [hx0] at g0
                clear hnext o2 b2 hx hx0
                go_wp2
                go_roundw
                case rel => exact ⟨k + 1, by omega, by go_num, HE.out⟩
                case measure => simp [intOf]; omega
              · have hnext := fullF_hit q k hx0
                have Hnext := Lib.hid hnext
                have hpos : 0 < q.getD k 0 := by omega
                have own2 := o2.alloc (.cells #[.int .i64 k] 3)
                have hb2 := b2.alloc b2.size (.cells #[.int .i64 k] 3)
                generalize q.getD k 0 = x at *
                clear hnext hx0 hx o2
                go_wp2_with (at_builtin; refine append1I _ rfl _ _ rfl w0.heap.size (.slice A2 (fullF q k).length c2) (fullF q k) rfl own2 wr.heap.size k rfl ?c1 ?c2 ?c3 ?_; (case c1 => simp [go_sem]); (case c2 => omega); (case c3 => simp; omega); intro A3 c3 w3 own3 hg3)
                have hb3 := hb2.grown hg3 hb2.size (fun j hj => (Hobl.out j hj).1)
                have HE : Hid (Fulls w0 q (k + 1) (.slice A3 ((fullF q k).length + 1) c3) w3) := Lib.hid ⟨A3, c3, by rw [Hnext.out]; simp, by rw [Hnext.out]; simpa using own3, hb3⟩
                clear own3 hg3 hb3 hb2 own2 b2
                go_wp2
                go_roundw
                case rel => exact ⟨k + 1, by omega, by go_num, HE.out⟩
                case measure => simp [intOf]; omega
            · obtain rfl : k = m := by omega
              obtain ⟨p, hp⟩ : ∃ p, (fullF q k).length = p := ⟨_, rfl⟩
              have hfull := Hfull.out
              have hqm := Hqm.out
              rw [hp] at o2 hfull ⊢
              have hp0 : 0 < p := by omega
              have hp9 : p ≤ 9 := by omega
              obtain ⟨x0, x1⟩ := mkM_bd (z := z) (m := p) z0 hp0
              obtain ⟨e5, e6⟩ := mkZ_bd z0
              obtain ⟨t, ht⟩ := Int.eq_ofNat_of_zero_le x0
              have htp : t < p := by omega
              obtain ⟨pp, hpp, hppm, hppx⟩ := fullF_get q k t (by omega)
              obtain ⟨r', hr'⟩ : ∃ r', r = r' + 1 := ⟨r - 1, by omega⟩
              have hB2 : mkB r' (mkZ z) (q.set pp 0) = L0 := by
                rw [← Hmk.out, hr', mkB]
                unfold mkS
                rw [hqm, hp, ht, Int.toNat_natCast, hpp]
                rfl
              have hf2 : (fullF (q.set pp 0) k).length + g = k + r' := by
                have := fullF_set q pp (by omega) hppx k hppm
                omega
              have HB2 := Lib.hid hB2
              have Hf2 := Lib.hid hf2
              have Hl2 : Hid ((q.set pp 0).length = k) := Lib.hid (by simp [hqm])
              have Hn2 : Hid (∀ i, i < k → 0 ≤ (q.set pp 0).getD i 0 ∧ (q.set pp 0).getD i 0 ≤ 100) := Lib.hid fun i hi => by
                rw [set_getI q pp i (by omega)]
                split
                · omega
                · exact Hnn.out i hi
              obtain ⟨g2, cap2, hv2, hg2b, hg2l⟩ := o2.form hp0
              cases hv2
              have q10 := HQ10.out.kept b2
              have hr3 := HR.out.kept b2
              have oq := own_kept Ho.out b2
              have bb := below_kept HB.out (Nat.le_refl _) b2
              have c10' := q10.cell
              have y10' := q10.lt
              have c2t : wr.cell? ⟨g2, t, none⟩ = some (.int .i64 (pp : Int)) := by rw [o2.cellAt t (by omega), ics_get _ _ (by rw [hp]; exact htp), hpp]
              have HS := Lib.hid (SlI.of_own oq)
              have Q10 := Lib.hid q10
              have R3 := Lib.hid hr3
              have BB := Lib.hid bb
              have hzd : (z * 187 + 3301) % 10007 = mkZ z := rfl
              have hw1 : IntKind.i64.wrap (mkZ z) = mkZ z := IntWalk.i64_in _ (by omega)
              have hw3 : IntKind.i64.wrap ((z * 187 + 3301) % 10007) = mkZ z := hw1
              have hw2 : IntKind.i64.wrap (mkZ z % (p : Int)) = (t : Int) := by rw [ht]; exact IntWalk.i64_in _ (by omega)
              have hwt : IntKind.i64.wrap ((t : Nat) : Int) = (t : Int) := IntWalk.i64_in _ (by omega)
              have p0 : (p : Int) ≠ 0 := by omega
              have p0n : ¬ p = 0 := by omega
              have htm : (mkZ z).tmod (p : Int) = (t : Int) := by rw [Int.tmod_eq_emod_of_nonneg e5]; exact ht
              have hppi : (pp : Int) < (k : Int) := by omega
              have hti : (t : Int) < (p : Int) := by omega
              have t0 : (0 : Int) ≤ (t : Int) := by omega
              have hr1 : (r : Int) - 1 = (r' : Int) := by omega
              have hwr : IntKind.i64.wrap ((r : Int) - 1) = (r' : Int) := by rw [hr1]; exact IntWalk.i64_in _ (by omega)
              have hr'g : r' ≤ g := by omega
              have hr'r : r' < r := by omega
              have hzw : w.heap.size + 1 ≤ wr.heap.size := by have := R3.out.lt; omega
              have Hqm2 := Lib.hid hqm
              clear hB2 hf2 hfull q10 hr3 oq bb o2 b2 hpp hp hppx hqm x0 x1 hr' Ho HQ10 HR HB Hmk Hfull Hnn Hqm
              go_wp2
              go_region_law (first
                | (refine step_pzPut wr.drew rfl (.tmp 75) (.tmp 82) rfl (some ⟨gq, 0, none⟩) k c wr.heap.size q pp (by simp [Act.eval, Act.put]) (by simp [Act.eval, Act.put]) Hqm2.out HS.out (Nat.le_refl _) n9 hppm ?_
                   intro A6 c6 w6 o6 b6
                   have q6 := Bo.kept (w := wr.drew) Q10.out b6
                   have r6 := Bo.kept (w := wr.drew) R3.out b6
                   have d6 := q6.cell
                   have f6 := q6.frozen
                   have y6 := q6.lt
                   have o7 := (ownsRow_setCell_below o6 (a := ⟨b10, 0, none⟩) y10' (.slice A6 k c6)).mono (base' := w.heap.size + 1) hzw
                   have b7 := (below_kept BB.out.drew (Nat.le_refl _) b6).setCell (p := ⟨b10, 0, none⟩) (Nat.le_of_lt hb10) (.slice A6 k c6)
                   have q7 := q6.set (.slice A6 k c6)
                   have r7 := r6.setFar (a := ⟨b10, 0, none⟩) (Nat.ne_of_lt hb10) (.slice A6 k c6)
                   have O7 := Lib.hid o7
                   have B7 := Lib.hid b7
                   have Q7 := Lib.hid q7
                   have R7 := Lib.hid r7
                   clear o6 b6 o7 b7 q7 r7 q6 r6))
              all_goals
                clear Q10 R3 BB HS c2t c10 c10'
                go_wp2
                go_roundw
                case rel => exact ⟨r', q.set pp 0, mkZ z, A6, c6, hr'g, rfl, rfl, Hl2.out, Hf2.out, Hn2.out, e5, e6, HB2.out, O7.out, Q7.out, R7.out, B7.out⟩
                case measure => simp [intOf]; omega
        · obtain rfl : r = 0 := by omega
          have hqL : q = L0 := hB
          rw [hqL] at ho
          have c10 := hq10.cell
          have d3 := hr.cell
          have f3 := hr.frozen
          have c8 := (hr.set (.slice A m c)).cell
          have HE := Lib.hid (HY.out (.returned (.tuple #[.agg #[.slice A m c], .bool true])) _ ⟨A, c, by rw [HL.out], by rw [HL.out]; exact (ownsRow_setCell_below ho (a := ⟨w.heap.size, 0, none⟩) (Nat.lt_succ_self _) (.slice A m c)).mono (by omega), hb.setCell (p := ⟨w.heap.size, 0, none⟩) (Nat.le_refl _) (.slice A m c)⟩)
          clear ho hr hb hB hfull HY HL hqL hnn hq10
          go_wp2
          exact bodyPost_ret (v := .tuple #[.agg #[.slice A m c], .bool true]) (by simp [results, Try.results32, go_sem, c8]) rfl HE.out

theorem mkR_length (n g s : Int) : (mkR n g s).length ≤ 1000000000 := by
  unfold mkR
  split
  · next h =>
    obtain ⟨⟨h3, h9⟩, _, hs, _⟩ := mkOk_iff.1 h
    rw [mkB_length]
    have := (mkA_isQ (n.toNat - 3) s [1, 1, 1] hs tri_isQ (by simp; omega)).2.1
    rw [this]
    simp
    omega
  · simp
theorem WMakePuzzle.walk (w : World) (n : Int) {p1 : Prop} (_ : p1) (g : Int) {p2 : Prop} (_ : p2) (s : Int) {p3 : Prop} (_ : p3) :
    Calls Try.prog 8 #[.int .i64 n, .int .i64 g, .int .i64 s] w fun e w' => e = .returned (.bool true) ∧ Below w.heap.size w w' := by
  cases h : mkOk n g s
  · exact WMakePuzzle.core w n g s (mkR n g s) (mkOk n g s) (mkR_length n g s) (Lib.hid fun w => spec_MakePuzzle_no n g s w h) (Lib.hid fun w => impl_MakePuzzle_no n g s w h)
  · obtain ⟨⟨h3, h9⟩, ⟨g0, g1⟩, s0, s1⟩ := mkOk_iff.1 h
    obtain ⟨n, rfl⟩ := Int.eq_ofNat_of_zero_le (show 0 ≤ n by omega)
    obtain ⟨g, rfl⟩ := Int.eq_ofNat_of_zero_le g0
    exact WMakePuzzle.core w n g s (mkR n g s) (mkOk n g s) (mkR_length n g s) (Lib.hid fun w => spec_MakePuzzle_yes n g s w (by omega) (by omega) (by omega) s0 s1) (Lib.hid fun w => impl_MakePuzzle_yes n g s w (by omega) (by omega) (by omega) s0 s1)
end Go.Proofs.Ytnoddecligmjbaa
