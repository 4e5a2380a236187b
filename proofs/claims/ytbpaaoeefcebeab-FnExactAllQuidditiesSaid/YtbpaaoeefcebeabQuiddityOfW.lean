/- QuiddityOf: the model's and the program's contract, and the law's walk. -/
import Derived.Test.YtbpaaoeefcebeabCount
import Derived.Test.YtbpaaoeefcebeabClone
import Derived.Test.YtbpaaoeefcebeabLawM
import Derived.Test.YtbpaaoeefcebeabTriS
namespace Go.Proofs.Ytbpaaoeefcebeab
set_option linter.unusedVariables false
open Go.RowKit

theorem quidL_no {n : Int} {l : List (Int × Int)} (h : triB n l = false) : quidL n l = [] := by simp [quidL, h]
theorem quidL_yes {n : Int} {l : List (Int × Int)} (h : triB n l = true) : quidL n l = quidF n.toNat l := by simp [quidL, h]
theorem retI_nil {w w' : World} (hb : Below w.heap.size w w') : RetI w [] false (.returned (.tuple #[.slice none 0 0, .bool false])) w' := ⟨none, 0, rfl, World.ownsRow_nil _ _ _ _, hb⟩

theorem impl_QuiddityOf (n : Int) (A : Option Addr) (c B : Nat) (l : List (Int × Int)) (w : World) (h : SlD w B A l) (hB : B ≤ w.heap.size) (hl : l.length ≤ 1048576) (hlc : l.length ≤ c) :
    Calls Try.prog 82 #[.int .i64 n, .slice A l.length c] w (RetI w (quidL n l) (triB n l)) := by
  go_enter Try.func82, Try.ntmps82
  go_wp2_with fail
  refine (impl_IsTriangulation n A c B l _ h hB hl hlc).mono ?_
  rintro e w1 ⟨rfl, hb1⟩
  cases ht : triB n l
  · have hres : RetI w (quidL n l) (triB n l) (.returned (.tuple #[.slice none 0 0, .bool false])) w1 := by rw [quidL_no ht, ht]; exact retI_nil hb1
    have Hres := Lib.hid hres
    clear hres h hb1
    go_wp2
    go_ret2
    exact Hres.out
  · obtain ⟨hn3, hn12, hlen⟩ := tri_n ht
    obtain ⟨m, rfl⟩ := Int.eq_ofNat_of_zero_le (show 0 ≤ n by omega)
    have hmem := tri_mem ht
    go_wp2_with fail
    refine (impl_countPieces A c B l _ (h.below (hb1.mono hB)) (Nat.le_trans hB hb1.size) (by omega) (fun d hd => by have := hmem d hd; omega)).mono ?_
    rintro e w2 ⟨rfl, hb2⟩
    have hcut := quidF_cut 12 m (by omega) l (fun d hd => by have := hmem d hd; omega)
    have hq := quidF_length 12 l
    have hqm := quidF_length m l
    have hd2 := below_kept hb1 (Nat.le_refl _) hb2
    generalize quidF 12 l = Q at *
    obtain ⟨q0, q1, q2, q3, q4, q5, q6, q7, q8, q9, q10, q11, rfl⟩ := list12 hq
    have ho := World.ownsRow_lit (e := 101) (size := 1) (base := w.heap.size) w2 (ics [q0, q1, q2, q3, q4, q5, q6, q7, q8, q9, q10, q11]).toArray 12 hd2.size (by decide) rfl
    have hs : SlI (w2.alloc (.cells (ics [q0, q1, q2, q3, q4, q5, q6, q7, q8, q9, q10, q11]).toArray 101)) (w2.heap.size + 1) (some ⟨w2.heap.size, 0, none⟩) (quidF m l) := by
      rw [← hcut]
      have := SlI.of_own (A := some ⟨w2.heap.size, 0, none⟩) (l := [q0, q1, q2, q3, q4, q5, q6, q7, q8, q9, q10, q11]) ho
      exact (this.take m).mono (by simp)
    have hs2 := Lib.hid hs
    have Hcut := Lib.hid hcut
    have Hqm := Lib.hid hqm
    clear hs hcut hqm ho h hb1 hb2 hq hmem hlen
    have m0 : (0 : Int) ≤ (m : Int) := by omega
    have m1 : (m : Int) ≤ 12 := by omega
    have ha : arr12 [q0, q1, q2, q3, q4, q5, q6, q7, q8, q9, q10, q11] = .agg #[.int .i64 q0, .int .i64 q1, .int .i64 q2, .int .i64 q3, .int .i64 q4, .int .i64 q5, .int .i64 q6, .int .i64 q7, .int .i64 q8, .int .i64 q9, .int .i64 q10, .int .i64 q11] := rfl
    rw [ha]
    clear ha
    go_wp2_with fail
    refine (slices_Clone_n (some ⟨w2.heap.size, 0, none⟩) m 12 (w2.heap.size + 1) (quidF m l) _ Hqm.out hs2.out (by simp) (by omega) (by omega)).mono ?_
    rintro e w3 ⟨A', c', rfl, ho, hb3⟩
    have hd3 := below_kept (hd2.alloc hd2.size (.cells (ics [q0, q1, q2, q3, q4, q5, q6, q7, q8, q9, q10, q11]).toArray 101)) (Nat.le_refl _) hb3
    have hres : RetI w (quidL m l) (triB m l) (.returned (.tuple #[.slice A' (quidF m l).length c', .bool true])) w3 := by
      rw [quidL_yes ht, ht, Int.toNat_natCast]
      exact ⟨A', c', rfl, ho.mono (by have := hd2.size; simp; omega), hd3⟩
    have Hres := Lib.hid hres
    clear hres ho hb3 hd3 hd2 hs2
    go_wp2
    go_ret2
    exact Hres.out

theorem quidL_length (n : Int) (l : List (Int × Int)) : (quidL n l).length ≤ 1000000000 := by
  unfold quidL
  split
  · rename_i h
    have := tri_n h
    rw [quidF_length]; omega
  · simp

end Go.Proofs.Ytbpaaoeefcebeab
