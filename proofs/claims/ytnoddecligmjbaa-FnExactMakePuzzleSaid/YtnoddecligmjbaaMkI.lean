/- MakePuzzle: the program's. -/
import Derived.Test.YtnoddecligmjbaaMkM
import Derived.Test.YtnoddecligmjbaaPzE
import Derived.Test.YtnoddecligmjbaaGluW
import Derived.IntWalk
namespace Go.Proofs.Ytnoddecligmjbaa
set_option linter.unusedVariables false
open Go.RowKit

/-- the length in a slice's value -/
def lenV : Value → Nat
  | .slice _ m _ => m
  | _ => 0
theorem glue_ret {q : List Int} {m : Nat} {x : Int} (hq : isQ q = true) (hm : q.length = m) (h8 : m ≤ 8) (x0 : 0 ≤ x) (x1 : x < (m : Int)) {w : World} {e : Ending} {w' : World} (h : RetI w (glueR q (x + 1)) (okG q (x + 1)) e w') :
    ∃ A' c', e = .returned (.tuple #[.slice A' (m + 1) c', .bool true]) ∧ w'.ownsRow w.heap.size 3 1 (.slice A' (m + 1) c') (m + 1) (ics (glueL q x.toNat)) ∧ Below w.heap.size w w' := by
  have hok : okG q (x + 1) = true := okG_iff.2 ⟨hq, by omega, by omega, by omega⟩
  have hr : glueR q (x + 1) = glueL q x.toNat := by
    unfold glueR
    rw [if_pos hok, show x + 1 - 1 = x by omega]
  have hl : (glueL q x.toNat).length = m + 1 := by rw [glueL_length q _ (by omega), hm]
  obtain ⟨A', c', rfl, ho, hb⟩ := h
  rw [hr, hl] at ho
  rw [hr, hl, hok]
  exact ⟨A', c', rfl, ho, hb⟩

theorem impl_mkNext (b : Nat) (z : Int) (m : Nat) (w : World) (h : Bo w b (.int .i64 z) 3) (hz : 0 ≤ z ∧ z ≤ 10006) (hm : 0 < m) (hm9 : m ≤ 9) :
    Calls Try.prog 112 #[.int .i64 m, .pointer (some ⟨b, 0, none⟩)] w fun e w' => e = .returned (.int .i64 (mkZ z % (m : Int))) ∧ w' = w.setCell ⟨b, 0, none⟩ (.int .i64 (mkZ z)) := by
  obtain ⟨hz0, hz1⟩ := hz
  have hc := h.cell
  have hf := h.frozen
  have hc2 := (h.set (.int .i64 (mkZ z))).cell
  have hzd : (z * 187 + 3301) % 10007 = mkZ z := rfl
  obtain ⟨k0, k1⟩ := mkZ_bd hz0
  obtain ⟨t0, t1⟩ := mkM_bd (m := m) hz0 hm
  have m0 : (m : Int) ≠ 0 := by omega
  have hw1 : IntKind.i64.wrap (mkZ z) = mkZ z := IntWalk.i64_in _ (by omega)
  have hw2 : IntKind.i64.wrap (mkZ z % (m : Int)) = mkZ z % (m : Int) := IntWalk.i64_in _ (by omega)
  have hw3 : IntKind.i64.wrap ((z * 187 + 3301) % 10007) = mkZ z := hw1
  clear h
  go_enter Try.func112, Try.ntmps112
  go_wp2
  go_ret
  exact ⟨rfl, rfl⟩

def MkE (n g s : Int) (w : World) (e : Ending) (w' : World) : Prop := RetP w (mkR n g s) (mkOk n g s) e w'
theorem mkE_no {n g s : Int} {w : World} {e : Ending} {w' : World} (h : mkOk n g s = false) (hr : RetP w [] false e w') : MkE n g s w e w' := by
  unfold MkE mkR
  rw [h]
  exact hr
theorem mkE_yes {n g s : Int} {w : World} {L : List Int} {e : Ending} {w' : World} (h : mkOk n g s = true) (hL : mkB g.toNat (mkA (n.toNat - 3) s [1, 1, 1]).1 (mkA (n.toNat - 3) s [1, 1, 1]).2 = L) (hr : RetP w L true e w') : MkE n g s w e w' := by
  unfold MkE mkR
  rw [h, if_pos rfl, hL]
  exact hr
theorem mkOk_iff {n g s : Int} : mkOk n g s = true ↔ (3 ≤ n ∧ n ≤ 9) ∧ (0 ≤ g ∧ g ≤ n) ∧ (0 ≤ s ∧ s ≤ 9999) := by
  unfold mkOk inB
  simp [and_assoc]
theorem mkOk_no {n g s : Int} (h : ¬((3 ≤ n ∧ n ≤ 9) ∧ (0 ≤ g ∧ g ≤ n) ∧ (0 ≤ s ∧ s ≤ 9999))) : mkOk n g s = false := by
  rw [Bool.eq_false_iff]
  intro e
  exact h (mkOk_iff.1 e)

set_option maxRecDepth 100000 in
set_option maxHeartbeats 6400000 in
theorem impl_MakePuzzle_no (n g s : Int) (w : World) (h : mkOk n g s = false) : Calls Try.prog 33 #[.int .i64 n, .int .i64 g, .int .i64 s] w (MkE n g s w) := by
  have HE := Lib.hid (mkE_no (w := w) h (retP_no (b := w.heap.size) (below_box (Below.refl w.heap.size w) (Nat.le_refl _) (.cells #[.slice none 0 0] 27)) (Nat.le_refl _) (.slice none 0 0)))
  have HF : Hid (MkE n g s w (.returned (.tuple #[.agg #[.slice none 0 0], .bool false])) (w.alloc (.cells #[.slice none 0 0] 27))) := Lib.hid (mkE_no h ⟨none, 0, rfl, World.ownsRow_nil _ _ _ _, below_box (Below.refl w.heap.size w) (Nat.le_refl _) _⟩)
  have hn : ¬((3 ≤ n ∧ n ≤ 9) ∧ (0 ≤ g ∧ g ≤ n) ∧ (0 ≤ s ∧ s ≤ 9999)) := fun e => by rw [mkOk_iff.2 e] at h; cases h
  clear h
  cases hi : inB n 3 9
  · go_enter Try.func33, Try.ntmps33
    go_wp2_with fail
    refine (impl_isPuzzleLength _ _).mono ?_
    rintro e w1 ⟨rfl, rfl⟩
    rw [hi]
    clear hi hn
    go_wp2
    exact bodyPost_ret (v := .tuple #[.agg #[.slice none 0 0], .bool false]) (by simp [results, Try.results33, go_sem]) rfl HF.out
  · have h39 : 3 ≤ n ∧ n ≤ 9 := by unfold inB at hi; simpa using hi
    go_enter Try.func33, Try.ntmps33
    go_wp2_with fail
    refine (impl_isPuzzleLength _ _).mono ?_
    rintro e w1 ⟨rfl, rfl⟩
    rw [hi]
    clear hi
    by_cases h1 : g < 0
    · clear hn
      go_wp2
      exact bodyPost_ret (v := .tuple #[.agg #[.slice none 0 0], .bool false]) (by simp [results, Try.results33, go_sem]) rfl HF.out
    · by_cases h2 : n < g
      · clear hn
        go_wp2
        exact bodyPost_ret (v := .tuple #[.agg #[.slice none 0 0], .bool false]) (by simp [results, Try.results33, go_sem]) rfl HF.out
      · by_cases h3 : s < 0
        · clear hn
          go_wp2
          exact bodyPost_ret (v := .tuple #[.agg #[.slice none 0 0], .bool false]) (by simp [results, Try.results33, go_sem]) rfl HF.out
        · have h4 : 9999 < s := by omega
          clear hn
          go_wp2
          exact bodyPost_ret (v := .tuple #[.agg #[.slice none 0 0], .bool false]) (by simp [results, Try.results33, go_sem]) rfl HF.out

set_option maxRecDepth 100000 in
set_option maxHeartbeats 12800000 in
theorem impl_MakePuzzle_yes (n g : Nat) (s : Int) (w : World) (n3 : 3 ≤ n) (n9 : n ≤ 9) (hg : g ≤ n) (s0 : 0 ≤ s) (s1 : s ≤ 9999) : Calls Try.prog 33 #[.int .i64 n, .int .i64 g, .int .i64 s] w (MkE n g s w) := by
  have hmf : ∀ (fn : Fn) (first cap : Array Value) (w : World), (Instr.makeFunc fn first cap).run Try.prog w = .ok (.func fn first cap) w := fun _ _ _ _ => rfl
  have hok : mkOk n g s = true := mkOk_iff.2 ⟨by omega, by omega, by omega⟩
  have HYes : Hid (∀ L e w', mkB g (mkA (n - 3) s [1, 1, 1]).1 (mkA (n - 3) s [1, 1, 1]).2 = L → RetP w L true e w' → MkE n g s w e w') := Lib.hid fun L e w' hL hr => mkE_yes hok (by simpa using hL) hr
  have hi : inB (n : Int) 3 9 = true := by unfold inB; simp; omega
  obtain ⟨w1, hw1⟩ : ∃ w1, w1 = w.alloc (.cells #[.slice none 0 0] 27) := ⟨_, rfl⟩
  obtain ⟨w2, hw2⟩ : ∃ w2, w2 = w1.alloc (.cells #[.int .i64 s] 3) := ⟨_, rfl⟩
  obtain ⟨w3, hw3⟩ : ∃ w3, w3 = w2.alloc (.cells #[.int .i64 1, .int .i64 1, .int .i64 1] 3) := ⟨_, rfl⟩
  have z1 : w1.heap.size = w.heap.size + 1 := by rw [hw1]; simp
  have z2 : w2.heap.size = w.heap.size + 2 := by rw [hw2]; simp [z1]
  have b1 : Below w.heap.size w w1 := by rw [hw1]; exact below_box (Below.refl _ _) (Nat.le_refl _) _
  have b2 : Below w.heap.size w w2 := by rw [hw2]; exact below_box b1 (Nat.le_refl _) _
  have b3 : Below w.heap.size w w3 := by rw [hw3]; exact below_box b2 (Nat.le_refl _) _
  have q1 : Bo w1 w.heap.size (.slice none 0 0) 27 := by rw [hw1]; exact Bo.new _ _ _
  have q2 : Bo w2 (w.heap.size + 1) (.int .i64 s) 3 := by rw [hw2, ← z1]; exact Bo.new _ _ _
  have q13 : Bo w3 w.heap.size (.slice none 0 0) 27 := by rw [hw3, hw2]; exact (q1.alloc _).alloc _
  have q23 : Bo w3 (w.heap.size + 1) (.int .i64 s) 3 := by rw [hw3]; exact q2.alloc _
  have o3 : w3.ownsRow (w.heap.size + 2) 3 1 (.slice (some ⟨w.heap.size + 2, 0, none⟩) 3 3) 3 (ics [1, 1, 1]) := by
    rw [hw3, ← z2]
    exact ⟨by simp [ics], .inr ⟨w2.heap.size, 3, #[.int .i64 1, .int .i64 1, .int .i64 1], rfl, Nat.le_refl _, heap_alloc_new w2 _, by omega, by decide, by simp, by simp [ics]⟩⟩
  have Hw1 := Lib.hid hw1
  have Hw2 := Lib.hid hw2
  have Hw3 := Lib.hid hw3
  have O3 := Lib.hid o3
  have Q1 := Lib.hid q13
  have Q2 := Lib.hid q23
  have B3 := Lib.hid b3
  have g0 : (0 : Int) ≤ (g : Int) := by omega
  have g1 : (g : Int) ≤ (n : Int) := by omega
  have m9 : (n : Int) ≤ 9 := by omega
  have t1 : decide ((g : Int) < 0) = false := by simp
  have t2 : decide ((n : Int) < (g : Int)) = false := by simp; omega
  have t2' : decide (n < g) = false := by simp; omega
  have t3 : decide (s < 0) = false := by simp; omega
  have t4 : decide (9999 < s) = false := by simp; omega
  clear hok hw1 hw2 hw3 o3 q1 q2 q13 q23 b1 b2 b3
  go_enter Try.func33, Try.ntmps33
  go_wp2_with fail
  refine (impl_isPuzzleLength _ _).mono ?_
  rintro e wi ⟨rfl, rfl⟩
  rw [hi]
  clear hi
  go_wp2
  rw [← Hw1.out, ← Hw2.out, ← Hw3.out]
  clear Hw1 Hw2 Hw3 z1 z2 t1 t2 t2' t3 t4
  go_loopw [10] (fun v wr => ∃ (m : Nat) (A : Option Addr) (c : Nat) (q : List Int) (z : Int), v = .slice A m c ∧ 3 ≤ m ∧ m ≤ n ∧ m ≤ c ∧ q.length = m ∧ isQ q = true ∧ 0 ≤ z ∧ z ≤ 10006 ∧ mkA (n - m) z q = mkA (n - 3) s [1, 1, 1] ∧
      wr.ownsRow (w.heap.size + 2) 3 1 (.slice A m c) m (ics q) ∧ Bo wr (w.heap.size + 1) (.int .i64 z) 3 ∧ Bo wr w.heap.size (.slice none 0 0) 27 ∧ Below w.heap.size w wr) (fun v _ => n - lenV v)
  case atStart => exact ⟨3, _, 3, [1, 1, 1], s, rfl, by omega, n3, by omega, rfl, tri_isQ, s0, by omega, rfl, O3.out, Q2.out, Q1.out, B3.out⟩
  case round =>
    clear O3 Q2 Q1 B3
    obtain ⟨m, A, c, q, z, rfl, m3, mn, mc, hqm, hq, z0, z1, hA, ho, hz, hr, hb⟩ := hrel
    by_cases hlt : m < n
    · have i0 : (m : Int) < (n : Int) := by omega
      obtain ⟨x0, x1⟩ := mkM_bd (z := z) (m := m) z0 (by omega)
      have HX := Lib.hid (impl_mkNext (w.heap.size + 1) z m wr hz ⟨z0, z1⟩ (by omega) (by omega))
      obtain ⟨w5, hw5⟩ : ∃ w5, w5 = wr.setCell ⟨w.heap.size + 1, 0, none⟩ (.int .i64 (mkZ z)) := ⟨_, rfl⟩
      have o5 : w5.ownsRow (w.heap.size + 2) 3 1 (.slice A m c) m (ics q) := by rw [hw5]; exact ownsRow_setCell_below ho (a := ⟨w.heap.size + 1, 0, none⟩) (Nat.lt_succ_self _) _
      have k5 : Bo w5 (w.heap.size + 1) (.int .i64 (mkZ z)) 3 := by rw [hw5]; exact hz.set _
      have r5 : Bo w5 w.heap.size (.slice none 0 0) 27 := by rw [hw5]; exact hr.setFar (by simp) _
      have b5 : Below w.heap.size w w5 := by rw [hw5]; exact hb.setCell (p := ⟨w.heap.size + 1, 0, none⟩) (Nat.le_succ _) _
      have HG := Lib.hid (impl_GlueEar A c w5.heap.size q (mkZ z % (m : Int) + 1) w5 (SlI.of_own o5) (Nat.le_refl _) (by omega) (by omega))
      rw [hqm] at HG
      have HR := Lib.hid fun (e : Ending) (w' : World) (h : RetI w5 (glueR q (mkZ z % (m : Int) + 1)) (okG q (mkZ z % (m : Int) + 1)) e w') => glue_ret hq hqm (by omega) x0 x1 h
      obtain ⟨e5, e6⟩ := mkZ_bd z0
      have hA2 : mkA (n - (m + 1)) (mkZ z) (glueL q (mkZ z % (m : Int)).toNat) = mkA (n - 3) s [1, 1, 1] := by
        rw [← hA, show n - m = (n - (m + 1)) + 1 by omega, mkA, hqm]
      have hq2 : isQ (glueL q (mkZ z % (m : Int)).toNat) = true := glue_isQ hq (by omega) (by omega)
      have hl2 : (glueL q (mkZ z % (m : Int)).toNat).length = m + 1 := by rw [glueL_length q _ (by omega), hqm]
      have HA2 := Lib.hid hA2
      have Hq2 := Lib.hid hq2
      have Hl2 := Lib.hid hl2
      have Hw5 := Lib.hid hw5
      have K5 := Lib.hid k5
      have R5 := Lib.hid r5
      have B5 := Lib.hid b5
      have hzz := hz.lt
      clear hA ho hz hr hb o5 k5 r5 b5 hA2 hq2 hl2 hw5 hq hqm
      go_wp2_with fail
      refine HX.out.mono ?_
      rintro e w6 ⟨rfl, hw6⟩
      rw [← Hw5.out] at hw6
      subst hw6
      clear HX Hw5
      generalize mkZ z % (m : Int) = x at *
      generalize mkZ z = z' at *
      go_wp2_with fail
      refine HG.out.mono ?_
      intro e w6 hret
      obtain ⟨A', c', rfl, o6, b6⟩ := HR.out _ _ hret
      have hcap := own_capI o6
      have o7 := o6.mono (base' := w.heap.size + 2) (Nat.succ_le_of_lt K5.out.lt)
      have k7 := K5.out.kept b6
      have r7 := R5.out.kept b6
      have b7 := below_kept B5.out (Nat.le_refl _) b6
      clear hret HG HR K5 R5 B5 o6 b6
      go_wp2
      go_roundw
      case rel => exact ⟨m + 1, A', c', _, z', rfl, by omega, by omega, hcap, Hl2.out, Hq2.out, e5, e6, HA2.out, o7, k7, r7, b7⟩
      case measure => simp [lenV]; omega
    · obtain rfl : m = n := by omega
      have hzq : mkA (m - 3) s [1, 1, 1] = (z, q) := by rw [← hA, Nat.sub_self]; rfl
      rw [hzq] at HYes
      have hfull : (fullF q m).length + 0 = m := by
        have h1 := full_all (q := q) (fun i hi => by have := (isQ_get hq i hi).1; omega) m (by omega)
        omega
      obtain ⟨L0, hL0⟩ : ∃ L0, L0 = mkB g z q := ⟨_, rfl⟩
      have HL : Hid (L0.length = m) := Lib.hid (by rw [hL0, mkB_length, hqm])
      have HY := Lib.hid fun e w' (h : RetP w L0 true e w') => HYes.out L0 e w' hL0.symm h
      obtain ⟨gq, cap0, hv, hgq, hgl⟩ := ho.form (by omega)
      cases hv
      have Ho := Lib.hid ho
      have Hz := Lib.hid hz
      have Hr := Lib.hid hr
      have Hb := Lib.hid hb
      have Hf := Lib.hid hfull
      have Hq := Lib.hid hqm
      have HL0 := Lib.hid hL0.symm
      clear ho hz hr hb hfull hqm hL0 HYes hzq hA hq
      go_wp2
      go_loopw [11, 51] (fun _ i wr => ∃ (k : Nat) (q : List Int) (z : Int), k ≤ g ∧ i = .int .i64 k ∧ q.length = m ∧ (fullF q m).length + k = m ∧ 0 ≤ z ∧ z ≤ 10006 ∧ mkB (g - k) z q = L0 ∧
          wr.ownsRow (w.heap.size + 2) 3 1 (.slice (some ⟨gq, 0, none⟩) m c) m (ics q) ∧ Bo wr (w.heap.size + 1) (.int .i64 z) 3 ∧ Bo wr w.heap.size (.slice none 0 0) 27 ∧ Below w.heap.size w wr) (fun _ i _ => g - (intOf i).toNat)
      case atStart => exact ⟨0, q, z, Nat.zero_le _, rfl, Hq.out, Hf.out, z0, z1, HL0.out, Ho.out, Hz.out, Hr.out, Hb.out⟩
      case round =>
        clear Ho Hz Hr Hb Hf Hq HL0 z0 z1 q z
        obtain ⟨k, q, z, hk, rfl, hqm, hfull, z0, z1, hB, ho, hz, hr, hb⟩ := hrel
        by_cases hlt : k < g
        · have i0 : (0 : Int) ≤ (k : Int) := by omega
          have i1 : (k : Int) < (g : Int) := by omega
          obtain ⟨p, hp⟩ : ∃ p, p = (fullF q m).length := ⟨_, rfl⟩
          have hp0 : 0 < p := by omega
          have hp9 : p ≤ 9 := by omega
          have HP : Hid (∀ e w', GivI wr (fullF q q.length) e w' → ∃ A2 c2, e = .returned (.slice A2 p c2) ∧ w'.ownsRow wr.heap.size 3 1 (.slice A2 p c2) p (ics (fullF q m)) ∧ Below wr.heap.size wr w') := Lib.hid (by
            rintro e w' ⟨A2, c2, rfl, o2, b2⟩
            rw [hqm, ← hp] at o2 ⊢
            exact ⟨A2, c2, rfl, o2, b2⟩)
          have HC := Lib.hid (impl_placesOfNumbers (some ⟨gq, 0, none⟩) c wr.heap.size q wr (SlI.of_own ho) (Nat.le_refl _) (by omega))
          rw [hqm] at HC
          obtain ⟨x0, x1⟩ := mkM_bd (z := z) (m := p) z0 hp0
          obtain ⟨e5, e6⟩ := mkZ_bd z0
          obtain ⟨pp, hpp, hppm, hppx⟩ := fullF_get q m (mkZ z % (p : Int)).toNat (by omega)
          have hB2 : mkB (g - (k + 1)) (mkZ z) (q.set pp 0) = L0 := by
            rw [← hB, show g - k = (g - (k + 1)) + 1 by omega, mkB]
            unfold mkS
            rw [hqm, ← hp, hpp]
            rfl
          have hf2 : (fullF (q.set pp 0) m).length + (k + 1) = m := by
            have := fullF_set q pp (by omega) hppx m hppm
            omega
          have HB2 := Lib.hid hB2
          have Hf2 := Lib.hid hf2
          have Hl2 : Hid ((q.set pp 0).length = m) := Lib.hid (by simp [hqm])
          have Hpp := Lib.hid hpp
          have Ho := Lib.hid ho
          have Hz := Lib.hid hz
          have Hr := Lib.hid hr
          have Hb := Lib.hid hb
          have Hqm := Lib.hid hqm
          have Hp := Lib.hid hp
          clear hB2 hf2 hB hfull ho hz hr hb hqm hpp hppx hp
          go_wp2_with fail
          refine HC.out.mono ?_
          intro e w5 hret
          rw [Hqm.out] at HP
          obtain ⟨A2, c2, rfl, o2, b5⟩ := HP.out _ _ hret
          clear hret HP HC
          obtain ⟨g2, cap2, hv2, hg2b, hg2l⟩ := o2.form hp0
          cases hv2
          have hbase : w.heap.size + 2 ≤ wr.heap.size := by have := Hz.out.lt; omega
          have o5 := own_kept Ho.out b5
          have k5 := Hz.out.kept b5
          have r5 := Hr.out.kept b5
          have bb5 := below_kept Hb.out (Nat.le_refl _) b5
          have HX := Lib.hid (impl_mkNext (w.heap.size + 1) z p w5 k5 ⟨z0, z1⟩ hp0 hp9)
          obtain ⟨w6, hw6⟩ : ∃ w6, w6 = w5.setCell ⟨w.heap.size + 1, 0, none⟩ (.int .i64 (mkZ z)) := ⟨_, rfl⟩
          have o6 : w6.ownsRow (w.heap.size + 2) 3 1 (.slice (some ⟨gq, 0, none⟩) m c) m (ics q) := by rw [hw6]; exact ownsRow_setCell_below o5 (a := ⟨w.heap.size + 1, 0, none⟩) (Nat.lt_succ_self _) _
          have o26 : w6.ownsRow wr.heap.size 3 1 (.slice (some ⟨g2, 0, none⟩) p c2) p (ics (fullF q m)) := by rw [hw6]; exact ownsRow_setCell_below o2 (a := ⟨w.heap.size + 1, 0, none⟩) (by show w.heap.size + 1 < wr.heap.size; omega) _
          have k6 : Bo w6 (w.heap.size + 1) (.int .i64 (mkZ z)) 3 := by rw [hw6]; exact k5.set _
          have r6 : Bo w6 w.heap.size (.slice none 0 0) 27 := by rw [hw6]; exact r5.setFar (by simp) _
          have b6 : Below w.heap.size w w6 := by rw [hw6]; exact bb5.setCell (p := ⟨w.heap.size + 1, 0, none⟩) (Nat.le_succ _) _
          obtain ⟨t, ht⟩ := Int.eq_ofNat_of_zero_le x0
          have htp : t < p := by omega
          have c2t : w6.cell? ⟨g2, t, none⟩ = some (.int .i64 (pp : Int)) := by
            rw [o26.cellAt t (by omega), ics_get _ _ (by rw [← Hp.out]; exact htp)]
            have h1 := Hpp.out
            rw [ht] at h1
            simp only [Int.toNat_natCast] at h1
            rw [h1]
          have cpp : w6.cell? ⟨gq, pp, none⟩ = some (.int .i64 (q.getD pp 0)) := by rw [o6.cellAt pp (by omega), ics_get _ _ (by rw [Hqm.out]; exact hppm)]
          have fpp := o6.frozenAt pp
          obtain ⟨o7, g7⟩ := o6.stored pp (.int .i64 0)
          rw [ics_set] at o7
          have k7 := k6.setFar (a := ⟨gq, pp, none⟩) (show w.heap.size + 1 ≠ gq by omega) (.int .i64 0)
          have r7 := r6.setFar (a := ⟨gq, pp, none⟩) (show w.heap.size ≠ gq by omega) (.int .i64 0)
          have b7 := b6.setCell (p := ⟨gq, pp, none⟩) (show w.heap.size ≤ gq by omega) (.int .i64 0)
          have O7 := Lib.hid o7
          have K7 := Lib.hid k7
          have R7 := Lib.hid r7
          have B7 := Lib.hid b7
          have Hw6 := Lib.hid hw6
          have hppi : (pp : Int) < (m : Int) := by omega
          have hti : (t : Int) < (p : Int) := by omega
          rw [ht] at HX
          clear o7 g7 k7 r7 b7 o6 o26 k6 r6 b6 o5 k5 r5 bb5 o2 b5 Ho Hz Hr Hb hw6 ht Hpp x0 x1
          generalize q.getD pp 0 = y at *
          go_wp2_with fail
          refine HX.out.mono ?_
          rintro e w7 ⟨rfl, hw7⟩
          rw [← Hw6.out] at hw7
          subst hw7
          clear HX Hw6
          go_wp2
          go_roundw
          case rel => exact ⟨k + 1, q.set pp 0, mkZ z, by omega, by go_num, Hl2.out, Hf2.out, e5, e6, HB2.out, O7.out, K7.out, R7.out, B7.out⟩
          case measure => simp [intOf]; omega
        · obtain rfl : k = g := by omega
          have hqL : q = L0 := by rw [← hB, Nat.sub_self]; rfl
          rw [hqL] at ho
          have d3 := hr.cell
          have f3 := hr.frozen
          have y3 := hr.lt
          have c8 := (hr.set (.slice (some ⟨gq, 0, none⟩) m c)).cell
          have HE := Lib.hid (HY.out (.returned (.tuple #[.agg #[.slice (some ⟨gq, 0, none⟩) m c], .bool true])) _ ⟨some ⟨gq, 0, none⟩, c, by rw [HL.out], by rw [HL.out]; exact (ownsRow_setCell_below ho (a := ⟨w.heap.size, 0, none⟩) (by show w.heap.size < w.heap.size + 2; omega) (.slice (some ⟨gq, 0, none⟩) m c)).mono (by omega), hb.setCell (p := ⟨w.heap.size, 0, none⟩) (Nat.le_refl _) (.slice (some ⟨gq, 0, none⟩) m c)⟩)
          clear ho hz hr hb hB hfull HY HL hqL
          go_wp2
          exact bodyPost_ret (v := .tuple #[.agg #[.slice (some ⟨gq, 0, none⟩) m c], .bool true]) (by simp [results, Try.results33, go_sem, c8]) rfl HE.out
end Go.Proofs.Ytnoddecligmjbaa
