/- EntryByContinuant: the model's and the program's contract, and the law's walk. -/
import Derived.Test.YtkekjcfhkecggabContI
import Derived.Test.YtkekjcfhkecggabEntryOfW
import Derived.Test.YtkekjcfhkecggabEntryByContinuantC
namespace Go.Proofs.Ytkekjcfhkecggab
set_option linter.unusedVariables false
open Go.RowKit

/-- the numbers of the quiddity behind i, m of them -/
def btL (q : List Int) (i : Int) (m : Nat) : List Int := (List.range m).map fun (t : Nat) => q.getD (mdI (i + 1 + t) q.length).toNat 0
theorem btL_length (q : List Int) (i : Int) (m : Nat) : (btL q i m).length = m := by simp [btL]
theorem btL_succ (q : List Int) (i : Int) (m : Nat) : btL q i (m + 1) = btL q i m ++ [q.getD (mdI (i + 1 + m) q.length).toNat 0] := by simp [btL, List.range_succ]
theorem btL_small {q : List Int} (hq : isQ q = true) (i : Int) (m : Nat) : Small (btL q i m) := by
  intro x hx
  unfold btL at hx
  rw [List.mem_map] at hx
  obtain ⟨t, _, rfl⟩ := hx
  obtain ⟨h3, h12⟩ := isQ_len hq
  have hb := mdI_bd (i + 1 + t) q.length (by omega)
  have := isQ_get hq (mdI (i + 1 + t) q.length).toNat (by omega)
  omega
def okB (q : List Int) (i j : Int) : Bool := isQ q && inB i (-1000) 1000 && inB j (i + 1) (i + min (q.length : Int) 11)
theorem okB_iff {q : List Int} {i j : Int} : okB q i j = true ↔ isQ q = true ∧ (-1000 ≤ i ∧ i ≤ 1000) ∧ (i + 1 ≤ j ∧ j ≤ i + min (q.length : Int) 11) := by
  unfold okB
  rw [Bool.and_eq_true, Bool.and_eq_true, inB_iff', inB_iff', and_assoc]
def ebR (q : List Int) (i j : Int) : Int := if okB q i j = true then ctv (-1) (btL q i (j - i - 1).toNat) else 0
def EbEnd (q : List Int) (i j : Int) (w : World) (e : Ending) (w' : World) : Prop := e = .returned (.tuple #[.int .i64 (ebR q i j), .bool (okB q i j)]) ∧ Below w.heap.size w w'
theorem ebEnd_no {q : List Int} {i j : Int} {w w' : World} (h : okB q i j = false) (hb : Below w.heap.size w w') : EbEnd q i j w (.returned (.tuple #[.int .i64 0, .bool false])) w' := by
  unfold EbEnd ebR
  rw [h]
  exact ⟨rfl, hb⟩
theorem ebEnd_yes {q : List Int} {i j : Int} {m : Nat} {w w' : World} (h : okB q i j = true) (hm : j - i - 1 = (m : Int)) (hb : Below w.heap.size w w') : EbEnd q i j w (.returned (.tuple #[.int .i64 (ctv (-1) (btL q i m)), .bool true])) w' := by
  unfold EbEnd ebR
  rw [h, hm, Int.toNat_natCast]
  exact ⟨rfl, hb⟩

set_option maxRecDepth 100000 in
set_option maxHeartbeats 3200000 in
theorem spec_EntryByContinuant (A : Option Addr) (c B : Nat) (q : List Int) (i j : Int) (w : World) (h : SlI w B A q) (hB : B ≤ w.heap.size) (hl : q.length ≤ 1048576) (hlc : q.length ≤ c) :
    Calls Try.prog 17 #[.slice A q.length c, .int .i64 i, .int .i64 j] w (EbEnd q i j w) := by
  go_enter Try.func17, Try.ntmps17
  go_wp2_with fail
  refine (spec_IsQuiddity A c B q _ h hB hl hlc).mono ?_
  rintro e w1 ⟨rfl, hb1⟩
  cases hq : isQ q
  · have HE := Lib.hid (ebEnd_no (q := q) (i := i) (j := j) (by unfold okB; rw [hq]; rfl) hb1)
    clear h hb1
    go_wp2
    go_ret2
    exact HE.out
  · obtain ⟨hn3, hn12⟩ := isQ_len hq
    go_wp2_with fail
    refine (spec_l1In' _ _ _ _).mono ?_
    rintro e w2 ⟨rfl, rfl⟩
    cases hi : inB i (-1000) 1000
    · have HE := Lib.hid (ebEnd_no (q := q) (i := i) (j := j) (by unfold okB; rw [hi]; simp) hb1)
      clear h hb1
      go_wp2
      go_ret2
      exact HE.out
    · obtain ⟨i0, i1⟩ := inB_iff'.1 hi
      have n0 : (3 : Int) ≤ (q.length : Int) := by omega
      have n1 : (q.length : Int) ≤ 12 := by omega
      go_wp2_with fail
      refine (spec_l1Least _ _ _).mono ?_
      rintro e w2 ⟨rfl, rfl⟩
      have m0 : 3 ≤ min (q.length : Int) 11 := by omega
      have m1 : min (q.length : Int) 11 ≤ 11 := by omega
      have hov : okB q i j = inB j (i + 1) (i + min (q.length : Int) 11) := by unfold okB; rw [hq, hi]; rfl
      have hml : min (q.length : Int) 11 ≤ (q.length : Int) := by omega
      have Hov := Lib.hid hov
      clear hov
      generalize min (q.length : Int) 11 = mn at *
      go_wp2_with fail
      refine (spec_l1In' _ _ _ _).mono ?_
      rintro e w2 ⟨rfl, rfl⟩
      cases hj : inB j (i + 1) (i + mn)
      · have HE := Lib.hid (ebEnd_no (q := q) (i := i) (j := j) (by rw [Hov.out, hj]) hb1)
        clear h hb1 hj
        go_wp2
        go_ret2
        exact HE.out
      · obtain ⟨j0, j1⟩ := inB_iff'.1 hj
        obtain ⟨m, hm⟩ := Int.eq_ofNat_of_zero_le (show 0 ≤ j - i - 1 by omega)
        have Hyes := Lib.hid fun w' => ebEnd_yes (q := q) (i := i) (j := j) (m := m) (w := w) (w' := w') (by rw [Hov.out, hj]) hm
        have Hm := Lib.hid hm
        have Hsm := Lib.hid (btL_small hq i m)
        have H := Lib.hid (h.below (hb1.mono hB))
        have Hb1 := Lib.hid hb1
        have m10 : m ≤ 10 := by omega
        have jm : j = i + 1 + (m : Int) := by omega
        have Jm := Lib.hid jm
        clear hj hm hb1 h jm hq hi
        go_wp2
        go_loopw [9, 10] (fun v k wr => ∃ (t : Nat) (A' : Option Addr) (c' : Nat), t ≤ m ∧ k = .int .i64 (i + 1 + (t : Int)) ∧ v = .slice A' t c' ∧ wr.ownsRow w1.heap.size 3 1 (.slice A' t c') t (ics (btL q i t)) ∧ Below w1.heap.size w1 wr) (fun _ k _ => (j - intOf k).toNat)
        case atStart => exact ⟨0, none, 0, Nat.zero_le _, by simp, rfl, World.ownsRow_nil _ _ _ _, Below.refl _ _⟩
        case round =>
          obtain ⟨t, A', c', ht, rfl, rfl, ho, hb⟩ := hrel
          have hob := ho.lt
          have Hob := Lib.hid hob
          have hsz := hb.size
          clear hob
          by_cases hlt : t < m
          · have hs := H.out.keep (w' := wr) (fun b o hbb => hb.cell (p := ⟨b, o, none⟩) (by show b < w1.heap.size; exact Nat.lt_of_lt_of_le hbb (Nat.le_trans hB Hb1.out.size)))
            obtain ⟨b', off, rfl, hbB, hc⟩ := hs (by omega)
            obtain ⟨r, hr, hre, hrm⟩ := md_at (i + 1 + (t : Int)) q.length (by omega)
            have hst := btL_succ q i t
            rw [hrm] at hst
            have g0 := hc r hr
            have tb := tmod_bd (i + 1 + (t : Int)) (q.length : Int) (by omega)
            obtain ⟨tb0, tb1⟩ := tb
            have r0 : (0 : Int) ≤ (r : Int) := by omega
            have r1 : (r : Int) < (q.length : Int) := by omega
            have k0 : -3000 ≤ i + 1 + (t : Int) := by omega
            have k1 : i + 1 + (t : Int) ≤ 3000 := by omega
            have k2 : i + 1 + (t : Int) < j := by have := Jm.out; omega
            have q1 : (1 : Int) ≤ (q.length : Int) := by omega
            have ht1 : i + 1 + ((t + 1 : Nat) : Int) = i + 1 + (t : Int) + 1 := by omega
            have Ht1 := Lib.hid ht1
            have Hl := Lib.hid (btL_length q i t)
            have t10 : t ≤ 1000000 := by omega
            generalize btL q i t = L at *
            generalize q.getD r 0 = x at *
            have Hst := Lib.hid hst
            have Hb := Lib.hid hb
            have Ho := Lib.hid ho
            have own2 := Ho.out.alloc (.cells #[.int .i64 x] 3)
            have hb2 := Hb.out.alloc hsz (.cells #[.int .i64 x] 3)
            have Hb2 := Lib.hid hb2
            clear hst hrm hc hs ht1 hb ho hb2
            go_wp2_with (at_builtin; refine append1In _ rfl _ _ rfl w1.heap.size (.slice A' t c') t L Hl.out rfl own2 wr.heap.size x rfl ?c1 ?c2 Hb2.out.size ?_; (case c1 => simp [go_sem]); (case c2 => exact t10); intro A3 c3 w3 own3 hg3)
            have hb3 := below_grown Hb2.out hg3 (Nat.le_refl _) (fun k hk => (Hob.out k hk).1)
            rw [← Hst.out] at own3
            have Hb3 := Lib.hid hb3
            have Ow3 := Lib.hid own3
            clear hg3 own2 hb3 own3
            go_wp2
            go_roundw
            case rel => exact ⟨t + 1, A3, c3, by omega, by rw [Ht1.out], rfl, Ow3.out, Hb3.out⟩
            case measure => simp [intOf]; omega
          · obtain rfl : t = m := by omega
            have k2 : ¬ i + 1 + (t : Int) < j := by have := Jm.out; omega
            have hs := SlI.of_own (l := btL q i t) ho
            have Hs := Lib.hid hs
            have HE := Lib.hid (Hyes.out _ (below_kept Hb1.out (Nat.le_refl _) hb))
            have Hl := Lib.hid (btL_length q i t)
            clear hs ho hb
            go_wp2_with fail
            refine (spec_ctValue A' t c' _ (btL q i t) (-1) _ Hl.out (.inr rfl) Hs.out Hsm.out m10).mono ?_
            rintro e w3 ⟨rfl, rfl⟩
            generalize ctv (-1) (btL q i t) = v at *
            go_wp2
            go_ret2
            exact HE.out

set_option maxRecDepth 100000 in
set_option maxHeartbeats 3200000 in
theorem impl_EntryByContinuant (A : Option Addr) (c B : Nat) (q : List Int) (i j : Int) (w : World) (h : SlI w B A q) (hB : B ≤ w.heap.size) (hl : q.length ≤ 1048576) (hlc : q.length ≤ c) :
    Calls Try.prog 18 #[.slice A q.length c, .int .i64 i, .int .i64 j] w (EbEnd q i j w) := by
  go_enter Try.func18, Try.ntmps18
  go_wp2_with fail
  refine (impl_hasEntry A c B q i j _ h hB hl hlc).mono ?_
  rintro e w1 ⟨rfl, hb1⟩
  cases hok : okE q i j
  · have HE := Lib.hid (ebEnd_no (q := q) (i := i) (j := j) (by rw [Bool.eq_false_iff]; intro e; obtain ⟨e1, e2, e3, e4⟩ := okB_iff.1 e; rw [okE_iff.2 ⟨e1, e2, by omega, by omega⟩] at hok; cases hok) hb1)
    clear h hb1
    go_wp2
    go_ret2
    exact HE.out
  · obtain ⟨hq, ⟨i0, i1⟩, j0, j1⟩ := okE_iff.1 hok
    obtain ⟨hn3, hn12⟩ := isQ_len hq
    have n0 : (3 : Int) ≤ (q.length : Int) := by omega
    have n1 : (q.length : Int) ≤ 12 := by omega
    by_cases hji : j = i
    · have HE := Lib.hid (ebEnd_no (q := q) (i := i) (j := j) (by rw [Bool.eq_false_iff]; intro e; have := okB_iff.1 e; omega) hb1)
      have hjb : (j == i) = true := by rw [hji]; simp
      clear h hb1 hji
      go_wp2
      go_ret2
      exact HE.out
    · have hjb : (j == i) = false := by rw [beq_eq_false_iff_ne]; exact hji
      by_cases hj11 : i + 10 + 1 < j
      · have HE := Lib.hid (ebEnd_no (q := q) (i := i) (j := j) (by rw [Bool.eq_false_iff]; intro e; have := okB_iff.1 e; omega) hb1)
        clear h hb1 hji
        go_wp2
        go_ret2
        exact HE.out
      · obtain ⟨m, hm⟩ := Int.eq_ofNat_of_zero_le (show 0 ≤ j - i - 1 by omega)
        have Hyes := Lib.hid fun w' => ebEnd_yes (q := q) (i := i) (j := j) (m := m) (w := w) (w' := w') (okB_iff.2 ⟨hq, ⟨i0, i1⟩, by omega, by omega⟩) hm
        have Hm : Hid (j - i - 1 = (m : Int)) := Lib.hid hm
        have Hsm := Lib.hid (btL_small hq i m)
        have H := Lib.hid (h.below (hb1.mono hB))
        have Hb1 := Lib.hid hb1
        have m10 : m ≤ 10 := by omega
        obtain ⟨i0', hii, hz0, hz1, hz3⟩ := info_parts infoI
        have hbytes : i0'.bytes * m ≤ 281474976710656 := by rw [hz3]; omega
        have hmax : m ≤ maxLen := by unfold maxLen; omega
        clear hm hb1 h hq hok hji
        go_wp2_with (at_make; refine wpList_make_full _ rfl _ _ _ rfl w1.heap.size 3 i0' (.int .i64 0) 1 Try.underlying22 hii hz0 hz1 _ _ _ _ m rfl rfl ?_ ?_ hbytes hmax (Nat.le_refl _) ?_
                     · exact Hm.out
                     · exact Hm.out
                     intro w3 hown3 hgrow3)
        have hb3 : Below w1.heap.size w1 w3 := (Below.refl _ _).grown hgrow3 (Nat.le_refl _) (fun _ e => by cases e)
        have e1 : (madeCells (Value.int .i64 0).cells (m * 1)).toList = ics (btL q i 0 ++ List.replicate (m - 0) 0) := by
          rw [Nat.mul_one]
          show (madeCells #[Value.int .i64 0] m).toList = _
          rw [toList_madeCells_one]
          simp [ics, btL]
        rw [e1] at hown3
        have Hb3 := Lib.hid hb3
        have Ho3 := Lib.hid hown3
        clear hown3 hgrow3 e1 hb3 hii hz0 hz1 hz3 hbytes hmax
        go_wp2
        go_loopw [9, 34] (fun _ k wr => ∃ t : Nat, t ≤ m ∧ k = .int .i64 t ∧ wr.ownsRow w1.heap.size 3 1 (.slice (some ⟨w1.heap.size, 0, none⟩) m m) m (ics (btL q i t ++ List.replicate (m - t) 0)) ∧ Below w1.heap.size w1 wr) (fun _ k _ => m - (intOf k).toNat)
        case atStart => exact ⟨0, Nat.zero_le _, rfl, Ho3.out, Hb3.out⟩
        case round =>
          clear Ho3 Hb3
          obtain ⟨t, ht, rfl, ho, hb⟩ := hrel
          by_cases hlt : t < m
          · have hs := H.out.keep (w' := wr) (fun b o hbb => hb.cell (p := ⟨b, o, none⟩) (by show b < w1.heap.size; exact Nat.lt_of_lt_of_le hbb (Nat.le_trans hB Hb1.out.size)))
            obtain ⟨b', off, rfl, hbB, hc⟩ := hs (by omega)
            have hmd := mdI_bd (i + 1 + (t : Int)) q.length (by omega)
            obtain ⟨r, hr⟩ := Int.eq_ofNat_of_zero_le hmd.1
            have hrl : r < q.length := by omega
            have hst := btL_succ q i t
            rw [hr, Int.toNat_natCast] at hst
            have g0 := hc r hrl
            have hll : (btL q i t ++ List.replicate (m - t) 0).length = m := by rw [List.length_append, btL_length, List.length_replicate]; omega
            have hcell : wr.cell? ⟨w1.heap.size, t, none⟩ = some (.int .i64 ((btL q i t ++ List.replicate (m - t) 0).getD t 0)) := by
              rw [ho.cellAt t (by omega), ics_get _ _ (by omega)]
            have hfro := ho.frozenAt t
            have hsto := ho.stored t (.int .i64 (q.getD r 0))
            have hset : (btL q i t ++ List.replicate (m - t) 0).set t (q.getD r 0) = btL q i (t + 1) ++ List.replicate (m - (t + 1)) 0 := by
              rw [List.set_append_right _ _ (by rw [btL_length]; exact Nat.le_refl _), btL_length, Nat.sub_self, show m - t = (m - (t + 1)) + 1 by omega, List.replicate_succ, List.set_cons_zero, hst, List.append_assoc]
              rfl
            rw [ics_set, hset] at hsto
            obtain ⟨hs1, hs2⟩ := hsto
            have hb2 := below_grown hb hs2 (Nat.le_refl _) (fun k hk => by injection hk with hk; omega)
            have r0 : (0 : Int) ≤ (r : Int) := by omega
            have r1 : (r : Int) < (q.length : Int) := by omega
            have t0 : (0 : Int) ≤ (t : Int) := by omega
            have t1 : (t : Int) < (m : Int) := by omega
            have t2 : (t : Int) ≤ 10 := by omega
            have cmod : ∀ w : World, Calls Try.prog 46 #[.int .i64 (i + 1 + (t : Int)), .int .i64 q.length] w fun e w' => e = .returned (.int .i64 (r : Int)) ∧ w' = w := fun w => by
              have := impl_modulo (i + 1 + (t : Int)) q.length w ⟨by omega, by omega⟩ ⟨by omega, by omega⟩
              rwa [hr] at this
            have Cmod := Lib.hid cmod
            have Hs1 := Lib.hid hs1
            have Hb2 := Lib.hid hb2
            generalize (btL q i t ++ List.replicate (m - t) 0).getD t 0 = y at *
            generalize q.getD r 0 = x at *
            clear hst hset hc hs hs1 hs2 hb hb2 ho cmod hr hmd hll
            go_wp2_with (go_at_call 46; refine (Cmod.out _).mono ?_; rintro e w5 ⟨rfl, rfl⟩)
            go_roundw
            case rel => exact ⟨t + 1, by omega, by go_num, Hs1.out, Hb2.out⟩
            case measure => simp [intOf]; omega
          · obtain rfl : t = m := by omega
            have hll : btL q i t ++ List.replicate (t - t) 0 = btL q i t := by simp
            rw [hll] at ho
            have Hs := Lib.hid (SlI.of_own (l := btL q i t) ho)
            have HY := Lib.hid fun z => Hyes.out _ (below_drewN (below_kept Hb1.out (Nat.le_refl _) hb) z)
            have Hl := Lib.hid (btL_length q i t)
            clear ho hb hll
            go_wp2_with fail
            refine (impl_continuant _ t _ _ (btL q i t) _ Hl.out m10 (Nat.le_refl _) Hs.out Hsm.out).mono ?_
            rintro e w3 ⟨rfl, z, rfl⟩
            have HE := Lib.hid (HY.out z)
            generalize ctv (-1) (btL q i t) = v at *
            go_wp2
            go_ret2
            exact HE.out

theorem WEntryByContinuant.walk (w : World) (A : Option Addr) (c : Nat) (l : List Int) (h : SlI w w.heap.size A l)
    (hj : l.length ≤ c ∧ c ≤ maxLen ∧ ∀ x ∈ l, (Lit.int .i64 x).wf = true) (i : Int) (wi : (Lit.int .i64 i).wf = true) (j : Int) (wj : (Lit.int .i64 j).wf = true) :
    Calls Try.prog 4 #[.slice A l.length c, .int .i64 i, .int .i64 j] w fun e w' => e = .returned (.bool true) ∧ Below w.heap.size w w' :=
  WEntryByContinuant.core w A c l i j h hj.1 hj.2.1 (ebR l i j) (okB l i j)
    (Lib.hid fun A c w h hl hlc => spec_EntryByContinuant A c _ l i j w h (Nat.le_refl _) hl hlc)
    (Lib.hid fun A c w h hl hlc => impl_EntryByContinuant A c _ l i j w h (Nat.le_refl _) hl hlc)
end Go.Proofs.Ytkekjcfhkecggab
