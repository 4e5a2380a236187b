/- EarsOf: the model's and the program's contract, and the law's walk. -/
import Derived.Test.YtlnnnjnboknoeabQuiddityOfW
import Derived.Test.YtlnnnjnboknoeabEarsOfC
import Derived.Test.YtlnnnjnboknoeabApp
namespace Go.Proofs.Ytlnnnjnboknoeab
set_option linter.unusedVariables false
open Go.RowKit

/-- the ears of a triangulation; none of another list -/
def earsL (n : Int) (ds : List (Int × Int)) : List Int := onesF (quidL n ds) (quidL n ds).length
theorem earsL_no {n : Int} {l : List (Int × Int)} (h : triB n l = false) : earsL n l = [] := by simp [earsL, quidL_no h, onesF]
theorem earsL_yes {n : Int} {l : List (Int × Int)} (h : triB n l = true) : earsL n l = onesF (quidF n.toNat l) (quidF n.toNat l).length := by simp [earsL, quidL_yes h]
theorem earsL_length (n : Int) (l : List (Int × Int)) : (earsL n l).length ≤ 1000000000 := Nat.le_trans (onesF_le _ _) (quidL_length n l)

/-- what holds at the head of the loop that collects the ears -/
def Ears (w2 : World) (q : List Int) (k : Nat) (v : Value) (wr : World) : Prop :=
  ∃ A' c', v = .slice A' (onesF q k).length c' ∧ wr.ownsRow w2.heap.size 3 1 (.slice A' (onesF q k).length c') (onesF q k).length (ics (onesF q k)) ∧ Below w2.heap.size w2 wr

set_option maxRecDepth 100000 in
set_option maxHeartbeats 3200000 in
theorem spec_EarsOf (n : Int) (A : Option Addr) (c B : Nat) (l : List (Int × Int)) (w : World) (h : SlD w B A l) (hB : B ≤ w.heap.size) (hl : l.length ≤ 1048576) (hlc : l.length ≤ c) :
    Calls Try.prog 43 #[.int .i64 n, .slice A l.length c] w (RetI w (earsL n l) (triB n l)) := by
  go_enter Try.func43, Try.ntmps43
  go_wp2_with fail
  refine (spec_poGood n A c B l _ h hB hl hlc).mono ?_
  rintro e w1 ⟨rfl, hb1⟩
  cases ht : triB n l
  · have hres : RetI w (earsL n l) (triB n l) (.returned (.tuple #[.slice none 0 0, .bool false])) w1 := by rw [earsL_no ht, ht]; exact retI_nil hb1
    have Hres := Lib.hid hres
    clear hres h hb1
    go_wp2
    go_ret2
    exact Hres.out
  · go_wp2_with fail
    refine (spec_poQuiddity n A c B l _ (h.below (hb1.mono hB)) (Nat.le_trans hB hb1.size) ht).mono ?_
    rintro e w2 ⟨Aq, cq, rfl, ho, hb2⟩
    have hd2 := below_kept hb1 (Nat.le_refl _) hb2
    have hq := SlI.of_own ho
    have hfin : ∀ (A' : Option Addr) (c' : Nat) (wr : World), Ears w2 (quidF n.toNat l) (quidF n.toNat l).length (.slice A' (onesF (quidF n.toNat l) (quidF n.toNat l).length).length c') wr → RetI w (earsL n l) (triB n l) (.returned (.tuple #[.slice A' (onesF (quidF n.toNat l) (quidF n.toNat l).length).length c', .bool true])) wr := by
      rintro A' c' wr ⟨A2, c2, e, ho2, hb2⟩
      cases e
      rw [earsL_yes ht, ht]
      exact ⟨A', c', rfl, ho2.mono hd2.size, below_kept hd2 (Nat.le_refl _) hb2⟩
    have Hfin := Lib.hid hfin
    have hlen : (quidF n.toNat l).length ≤ 12 := by rw [quidF_length]; have := tri_n ht; omega
    clear hfin ho hb1 hb2 h
    generalize quidF n.toNat l = q at *
    go_wp2
    go_loopw [6, 7, 8, 17] (fun v _ _ i wr => ∃ k : Nat, k ≤ q.length ∧ i = .int .i64 k ∧ Ears w2 q k v wr) (fun _ _ _ i _ => q.length - (intOf i).toNat)
    case atStart => exact ⟨0, Nat.zero_le _, rfl, none, 0, rfl, World.ownsRow_nil _ _ _ _, Below.refl _ _⟩
    case round =>
      obtain ⟨k, hk, rfl, A', c', rfl, ho, hb⟩ := hrel
      by_cases hlt : k < q.length
      · obtain ⟨b, off, rfl, hbB, hc⟩ := hq.below hb (by omega)
        have g := hc k hlt
        have i0 : (0 : Int) ≤ (k : Int) := by omega
        have i1 : (k : Int) < (q.length : Int) := by omega
        have hle := onesF_le q k
        have hzz := hb.size
        have hobl := ho.lt
        have Hobl := Lib.hid hobl
        clear hc hobl
        by_cases hx : q.getD k 0 = 1
        · have hnext := onesF_hit q k hx
          have Hnext := Lib.hid hnext
          rw [hx] at g
          have own2 := ho.alloc (.cells #[.int .i64 k] 3)
          have hb2 := hb.alloc hb.size (.cells #[.int .i64 k] 3)
          clear hnext hx hq ho
          go_wp2_with (at_builtin; refine append1I _ rfl _ _ rfl w2.heap.size (.slice A' (onesF q k).length c') (onesF q k) rfl own2 wr.heap.size k rfl ?c1 ?c2 ?c3 ?_; (case c1 => simp [go_sem]); (case c2 => omega); (case c3 => simp; omega); intro A3 c3 w3 own3 hg3)
          have hb3 := hb2.grown hg3 hb2.size (fun j hj => (Hobl.out j hj).1)
          have hE : Ears w2 q (k + 1) (.slice A3 ((onesF q k).length + 1) c3) w3 := by
            refine ⟨A3, c3, ?_, ?_, hb3⟩
            · rw [Hnext.out]; simp
            · rw [Hnext.out]; simpa using own3
          have HE := Lib.hid hE
          clear hE own3 hg3 hb3 hb2 own2
          go_wp2
          go_roundw
          case rel => exact ⟨k + 1, by omega, by go_num, HE.out⟩
          case measure => simp [intOf]; omega
        · have hnext := onesF_miss q k hx
          have hE : Ears w2 q (k + 1) (.slice A' (onesF q k).length c') wr := by
            refine ⟨A', c', ?_, ?_, hb⟩ <;> rw [hnext]
            exact ho
          have HE := Lib.hid hE
          have hx' : (q.getD k 0 == 1) = false := by simpa using hx
          generalize q.getD k 0 = x at *
          clear hnext hE hq ho hx
          go_wp2
          go_roundw
          case rel => exact ⟨k + 1, by omega, by go_num, HE.out⟩
          case measure => simp [intOf]; omega
      · obtain rfl : k = q.length := by omega
        have hres := Hfin.out A' c' wr ⟨A', c', rfl, ho, hb⟩
        have Hres := Lib.hid hres
        clear hres ho hb hq Hfin
        go_wp2
        go_ret2
        exact Hres.out

set_option maxRecDepth 100000 in
set_option maxHeartbeats 3200000 in
theorem impl_EarsOf (n : Int) (A : Option Addr) (c B : Nat) (l : List (Int × Int)) (w : World) (h : SlD w B A l) (hB : B ≤ w.heap.size) (hl : l.length ≤ 1048576) (hlc : l.length ≤ c) :
    Calls Try.prog 44 #[.int .i64 n, .slice A l.length c] w (RetI w (earsL n l) (triB n l)) := by
  go_enter Try.func44, Try.ntmps44
  go_wp2_with fail
  refine (impl_IsTriangulation n A c B l _ h hB hl hlc).mono ?_
  rintro e w1 ⟨rfl, hb1⟩
  cases ht : triB n l
  · have hres : RetI w (earsL n l) (triB n l) (.returned (.tuple #[.slice none 0 0, .bool false])) w1 := by rw [earsL_no ht, ht]; exact retI_nil hb1
    have Hres := Lib.hid hres
    clear hres h hb1
    go_wp2
    go_ret2
    exact Hres.out
  · obtain ⟨hn3, hn12, hlen⟩ := tri_n ht
    obtain ⟨m, rfl⟩ := Int.eq_ofNat_of_zero_le (show 0 ≤ n by omega)
    have hmem := tri_mem ht
    go_wp2_with fail
    refine (impl_countPieces A c B l _ (h.below (hb1.mono hB)) (Nat.le_trans hB hb1.size) (by omega) (fun d hd => by have := hmem d hd; omega)).mono ?_
    rintro e w0 ⟨rfl, hb2⟩
    have hcut := quidF_cut 12 m (by omega) l (fun d hd => by have := hmem d hd; omega)
    have hq := quidF_length 12 l
    have hqm := quidF_length m l
    have hd1 := below_kept hb1 (Nat.le_refl _) hb2
    generalize quidF 12 l = Q at *
    obtain ⟨q0, q1, q2, q3, q4, q5, q6, q7, q8, q9, q10, q11, rfl⟩ := list12 hq
    have hd2 := hd1.alloc hd1.size (.cells (ics [q0, q1, q2, q3, q4, q5, q6, q7, q8, q9, q10, q11]).toArray 68)
    have ho := World.ownsRow_lit (e := 68) (size := 1) (base := w.heap.size) w0 (ics [q0, q1, q2, q3, q4, q5, q6, q7, q8, q9, q10, q11]).toArray 12 hd1.size (by decide) rfl
    have hq2 : SlI (w0.alloc (.cells (ics [q0, q1, q2, q3, q4, q5, q6, q7, q8, q9, q10, q11]).toArray 68)) (w0.alloc (.cells (ics [q0, q1, q2, q3, q4, q5, q6, q7, q8, q9, q10, q11]).toArray 68)).heap.size (some ⟨w0.heap.size, 0, none⟩) (quidF m l) := by
      rw [← hcut]
      have := SlI.of_own (A := some ⟨w0.heap.size, 0, none⟩) (l := [q0, q1, q2, q3, q4, q5, q6, q7, q8, q9, q10, q11]) ho
      exact this.take m
    have m0 : (0 : Int) ≤ (m : Int) := by omega
    have m1 : (m : Int) ≤ 12 := by omega
    have ha : arr12 [q0, q1, q2, q3, q4, q5, q6, q7, q8, q9, q10, q11] = .agg #[.int .i64 q0, .int .i64 q1, .int .i64 q2, .int .i64 q3, .int .i64 q4, .int .i64 q5, .int .i64 q6, .int .i64 q7, .int .i64 q8, .int .i64 q9, .int .i64 q10, .int .i64 q11] := rfl
    rw [ha]
    have harr : (ics [q0, q1, q2, q3, q4, q5, q6, q7, q8, q9, q10, q11]).toArray = #[.int .i64 q0, .int .i64 q1, .int .i64 q2, .int .i64 q3, .int .i64 q4, .int .i64 q5, .int .i64 q6, .int .i64 q7, .int .i64 q8, .int .i64 q9, .int .i64 q10, .int .i64 q11] := rfl
    rw [harr] at hd2 hq2
    have hfin : ∀ (A' : Option Addr) (c' : Nat) (wr : World), Ears (w0.alloc (.cells #[.int .i64 q0, .int .i64 q1, .int .i64 q2, .int .i64 q3, .int .i64 q4, .int .i64 q5, .int .i64 q6, .int .i64 q7, .int .i64 q8, .int .i64 q9, .int .i64 q10, .int .i64 q11] 68)) (quidF m l) (quidF m l).length (.slice A' (onesF (quidF m l) (quidF m l).length).length c') wr → RetI w (earsL m l) (triB m l) (.returned (.tuple #[.slice A' (onesF (quidF m l) (quidF m l).length).length c', .bool true])) wr := by
      rintro A' c' wr ⟨A2, c2, e, ho2, hb2⟩
      cases e
      rw [earsL_yes ht, ht, Int.toNat_natCast]
      exact ⟨A', c', rfl, ho2.mono hd2.size, below_kept hd2 (Nat.le_refl _) hb2⟩
    have Hfin := Lib.hid hfin
    clear hfin ho hb1 hb2 h ha harr hcut hq hlen hmem hd1 hd2
    generalize quidF m l = q at *
    obtain rfl := hqm
    go_wp2_with fail
    generalize hw2 : w0.alloc (.cells #[.int .i64 q0, .int .i64 q1, .int .i64 q2, .int .i64 q3, .int .i64 q4, .int .i64 q5, .int .i64 q6, .int .i64 q7, .int .i64 q8, .int .i64 q9, .int .i64 q10, .int .i64 q11] 68) = w2 at *
    have Hw2 := Lib.hid hw2
    clear hw2
    go_loopw [6, 8, 9, 19] (fun v _ _ i wr => ∃ k : Nat, k ≤ q.length ∧ i = .int .i64 k ∧ Ears w2 q k v wr) (fun _ _ _ i _ => q.length - (intOf i).toNat)
    case atStart => exact ⟨0, Nat.zero_le _, rfl, none, 0, rfl, World.ownsRow_nil _ _ _ _, Below.refl _ _⟩
    case round =>
      obtain ⟨k, hk, rfl, A', c', rfl, ho, hb⟩ := hrel
      by_cases hlt : k < q.length
      · obtain ⟨b, off, eA, hbB, hc⟩ := hq2.below hb (by omega)
        cases eA
        have g := hc k hlt
        rw [Nat.zero_add] at g
        have i0 : (0 : Int) ≤ (k : Int) := by omega
        have i1 : (k : Int) < (q.length : Int) := by omega
        have hle := onesF_le q k
        have hzz := hb.size
        have hobl := ho.lt
        have Hobl := Lib.hid hobl
        clear hc hobl
        by_cases hx : q.getD k 0 = 1
        · have hnext := onesF_hit q k hx
          have Hnext := Lib.hid hnext
          rw [hx] at g
          have own2 := ho.alloc (.cells #[.int .i64 k] 3)
          have hb2 := hb.alloc hb.size (.cells #[.int .i64 k] 3)
          clear hnext hx hq2 ho
          go_wp2_with (at_builtin; refine append1I _ rfl _ _ rfl w2.heap.size (.slice A' (onesF q k).length c') (onesF q k) rfl own2 wr.heap.size k rfl ?c1 ?c2 ?c3 ?_; (case c1 => simp [go_sem]); (case c2 => omega); (case c3 => simp; omega); intro A3 c3 w3 own3 hg3)
          have hb3 := hb2.grown hg3 hb2.size (fun j hj => (Hobl.out j hj).1)
          have hE : Ears w2 q (k + 1) (.slice A3 ((onesF q k).length + 1) c3) w3 := by
            refine ⟨A3, c3, ?_, ?_, hb3⟩
            · rw [Hnext.out]; simp
            · rw [Hnext.out]; simpa using own3
          have HE := Lib.hid hE
          clear hE own3 hg3 hb3 hb2 own2
          go_wp2
          go_roundw
          case rel => exact ⟨k + 1, by omega, by go_num, HE.out⟩
          case measure => simp [intOf]; omega
        · have hnext := onesF_miss q k hx
          have hE : Ears w2 q (k + 1) (.slice A' (onesF q k).length c') wr := by
            refine ⟨A', c', ?_, ?_, hb⟩ <;> rw [hnext]
            exact ho
          have HE := Lib.hid hE
          have hx' : (q.getD k 0 == 1) = false := by simpa using hx
          generalize q.getD k 0 = x at *
          clear hnext hE hq2 ho hx
          go_wp2
          go_roundw
          case rel => exact ⟨k + 1, by omega, by go_num, HE.out⟩
          case measure => simp [intOf]; omega
      · obtain rfl : k = q.length := by omega
        have hres := Hfin.out A' c' wr ⟨A', c', rfl, ho, hb⟩
        have Hres := Lib.hid hres
        clear hres ho hb hq2 Hfin
        go_wp2
        go_ret2
        exact Hres.out

theorem WEarsOf.walk (w : World) (n : Int) (wn : (Lit.int .i64 n).wf = true) (A : Option Addr) (c : Nat) (l : List (Int × Int)) (h : SlD w w.heap.size A l)
    (hj : l.length ≤ c ∧ c ≤ maxLen ∧ ∀ x ∈ l, (Lit.int .i64 x.1).wf = true ∧ (Lit.int .i64 x.2).wf = true) :
    Calls Try.prog 11 #[.int .i64 n, .slice A l.length c] w fun e w' => e = .returned (.bool true) ∧ Below w.heap.size w w' :=
  WEarsOf.core w n A c l h hj.1 hj.2.1 (earsL n l) (triB n l) (earsL_length n l)
    (Lib.hid fun A c w h hl hlc => spec_EarsOf n A c _ l w h (Nat.le_refl _) hl hlc)
    (Lib.hid fun A c w h hl hlc => impl_EarsOf n A c _ l w h (Nat.le_refl _) hl hlc)

end Go.Proofs.Ytlnnnjnboknoeab
