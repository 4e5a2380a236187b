/- MatrixOfList and ClosesUp: both contracts, and the laws' walks. -/
import Derived.Test.YtfffnkbjhbaceaaSqW
import Derived.Test.YtfffnkbjhbaceaaClosesUpC
import Derived.Test.YtfffnkbjhbaceaaMatrixOfListC
namespace Go.Proofs.Ytfffnkbjhbaceaa
set_option linter.unusedVariables false
open Go.RowKit

theorem spec_MatrixOfList_no (A : Option Addr) (c B : Nat) (l : List Int) (w : World) (hg : good l = false) (h : SlI w B A l) (hB : B ≤ w.heap.size) (hl : l.length ≤ 1048576) :
    Calls Try.prog 38 #[.slice A l.length c] w fun e w' => e = .returned (.tuple #[.agg #[.int .i64 0, .int .i64 0, .int .i64 0, .int .i64 0], .bool false]) ∧ Below w.heap.size w w' := by
  have hc := spec_ctGood A _ c B l _ rfl (h.below ((Below.refl B w).alloc hB (.cells #[.int .i64 0, .int .i64 0, .int .i64 0, .int .i64 0] 25))) hl
  rw [hg] at hc
  have Hc := Lib.hid hc
  clear hc hg h
  go_enter Try.func38, Try.ntmps38
  go_wp2_with fail
  refine Hc.out.mono ?_
  rintro e w1 ⟨rfl, rfl⟩
  have hd : Below w.heap.size w (w.alloc (.cells #[.int .i64 0, .int .i64 0, .int .i64 0, .int .i64 0] 25)) := (Below.refl _ _).alloc (Nat.le_refl _) _
  clear Hc
  go_wp2
  exact bodyPost_ret (v := .tuple #[.agg #[.int .i64 0, .int .i64 0, .int .i64 0, .int .i64 0], .bool false]) (by simp [results, Try.results38, go_sem]) rfl ⟨rfl, by first | exact hd | exact below_set4 hd (Nat.le_refl _)⟩
set_option maxHeartbeats 800000 in
theorem spec_MatrixOfList_yes (A : Option Addr) (c B : Nat) (l : List Int) (w : World) (hg : good l = true) (h : SlI w B A l) (hB : B ≤ w.heap.size) (hl : l.length ≤ 1048576) (hlc : l.length ≤ c) :
    Calls Try.prog 38 #[.slice A l.length c] w (RetMx (mlR l) w) := by
  have hs := h.below ((Below.refl B w).alloc hB (.cells #[.int .i64 0, .int .i64 0, .int .i64 0, .int .i64 0] 25))
  have hc := spec_ctGood A _ c B l _ rfl hs hl
  rw [hg] at hc
  have Hc := Lib.hid hc
  have Hl := Lib.hid (spec_mxList A _ c B l _ rfl (hs) (by simp; omega) (good_small hg) (good_iff.1 hg).1 hlc)
  generalize mlR l = R at *
  obtain ⟨okm, hok⟩ : ∃ x, R.ok = x := ⟨_, rfl⟩
  obtain ⟨F, hF⟩ : ∃ x, R.fit = x := ⟨_, rfl⟩
  have Hm := Lib.hid (fun w => spec_mxIf_as R F okm hF hok w)
  have HE := Lib.hid (fun w' (hb : Below w.heap.size w w') => retMx_any (m := R) hb)
  rw [hF, hok] at HE
  clear hF hok hc hg h hs hl hlc
  go_enter Try.func38, Try.ntmps38
  go_wp2_with fail
  refine Hc.out.mono ?_
  rintro e w1 ⟨rfl, rfl⟩
  go_wp2_with fail
  refine Hl.out.mono ?_
  rintro e w2 ⟨rfl, hb2⟩
  have R0 := (Zb.new w 25).kept hb2
  have hd := ((Below.refl w.heap.size w).alloc (Nat.le_refl _) _).trans (hb2.mono (by simp))
  clear hb2 Hc Hl
  have yz := R0.1.lt
  go_wp2_with fail
  refine (Hm.out _).mono ?_
  rintro e w3 ⟨rfl, hb3⟩
  obtain ⟨⟨z0, z1, z2, z3⟩, ⟨f0, f1, f2, f3⟩⟩ := R0.kept hb3
  replace hd := below_kept hd (Nat.le_refl _) hb3
  clear hb3 Hm
  have hE := Lib.hid (below_set4 (g := w.heap.size) (x0 := .int .i64 F.a) (x1 := .int .i64 F.b) (x2 := .int .i64 F.c) (x3 := .int .i64 F.d) hd (Nat.le_refl _))
  go_wp2
  refine bodyPost_ret (v := .tuple #[.agg #[.int .i64 F.a, .int .i64 F.b, .int .i64 F.c, .int .i64 F.d], .bool okm]) ?hr rfl ?hR
  case hr => simp [results, Try.results38, go_sem, z0, z1, z2, z3]
  case hR => exact HE.out _ hE.out
theorem spec_ClosesUp_no (A : Option Addr) (c B : Nat) (l : List Int) (w : World) (hg : good l = false) (h : SlI w B A l) (hl : l.length ≤ 1048576) :
    Calls Try.prog 42 #[.slice A l.length c] w fun e w' => e = .returned (.tuple #[.bool false, .bool false]) ∧ Below w.heap.size w w' := by
  have hc := spec_ctGood A _ c B l w rfl h hl
  rw [hg] at hc
  have Hc := Lib.hid hc
  clear hc hg h
  have hE := Lib.hid (Below.refl w.heap.size w)
  go_enter Try.func42, Try.ntmps42
  go_wp2_with fail
  refine Hc.out.mono ?_
  rintro e w1 ⟨rfl, rfl⟩
  clear Hc
  go_wp2
  go_ret2
  exact ⟨rfl, hE.out⟩
set_option maxHeartbeats 800000 in
theorem spec_ClosesUp_yes (A : Option Addr) (c B : Nat) (l : List Int) (w : World) (hg : good l = true) (h : SlI w B A l) (hB : B ≤ w.heap.size) (hl : l.length ≤ 1048576) (hlc : l.length ≤ c) :
    Calls Try.prog 42 #[.slice A l.length c] w fun e w' => e = .returned (.tuple #[.bool ((mlR l).eqB ⟨-1, 0, 0, -1⟩), .bool true]) ∧ Below w.heap.size w w' := by
  have hc := spec_ctGood A _ c B l w rfl h hl
  rw [hg] at hc
  have Hc := Lib.hid hc
  have Hl := Lib.hid (spec_mxList A _ c B l _ rfl (h) (hB) (good_small hg) (good_iff.1 hg).1 hlc)
  generalize mlR l = R at *
  obtain ⟨p, q, r, s⟩ := R
  have hrun := run_mx_eq p q r s (-1) 0 0 (-1)
  generalize M4.eqB ⟨p, q, r, s⟩ ⟨-1, 0, 0, -1⟩ = bq at *
  clear hc hg h hl hlc
  go_enter Try.func42, Try.ntmps42
  go_wp2_with fail
  refine Hc.out.mono ?_
  rintro e w1 ⟨rfl, rfl⟩
  go_wp2_with fail
  refine Hl.out.mono ?_
  rintro e w2 ⟨rfl, hb2⟩
  have hE := Lib.hid hb2
  clear hb2 Hc Hl
  go_wp2
  go_ret2
  exact ⟨rfl, hE.out⟩
theorem impl_MatrixOfList_no (A : Option Addr) (c B : Nat) (l : List Int) (w : World) (hg : good l = false) (h : SlI w B A l) (hB : B ≤ w.heap.size) (hl : l.length ≤ 1048576) :
    Calls Try.prog 40 #[.slice A l.length c] w fun e w' => e = .returned (.tuple #[.agg #[.int .i64 0, .int .i64 0, .int .i64 0, .int .i64 0], .bool false]) ∧ Below w.heap.size w w' := by
  have hc := impl_IsTermList A _ c B l _ rfl (h.below ((Below.refl B w).alloc hB (.cells #[.int .i64 0, .int .i64 0, .int .i64 0, .int .i64 0] 25))) hl
  rw [hg] at hc
  have Hc := Lib.hid hc
  clear hc hg h
  go_enter Try.func40, Try.ntmps40
  go_wp2_with fail
  refine Hc.out.mono ?_
  rintro e w1 ⟨rfl, rfl⟩
  have hd : Below w.heap.size w (w.alloc (.cells #[.int .i64 0, .int .i64 0, .int .i64 0, .int .i64 0] 25)) := (Below.refl _ _).alloc (Nat.le_refl _) _
  clear Hc
  go_wp2
  exact bodyPost_ret (v := .tuple #[.agg #[.int .i64 0, .int .i64 0, .int .i64 0, .int .i64 0], .bool false]) (by simp [results, Try.results40, go_sem]) rfl ⟨rfl, by first | exact hd | exact below_set4 hd (Nat.le_refl _)⟩
set_option maxHeartbeats 800000 in
theorem impl_MatrixOfList_yes (A : Option Addr) (c B : Nat) (l : List Int) (w : World) (hg : good l = true) (h : SlI w B A l) (hB : B ≤ w.heap.size) (hl : l.length ≤ 1048576) (hlc : l.length ≤ c) :
    Calls Try.prog 40 #[.slice A l.length c] w (RetMx (mlR l) w) := by
  have hs := h.below ((Below.refl B w).alloc hB (.cells #[.int .i64 0, .int .i64 0, .int .i64 0, .int .i64 0] 25))
  have hc := impl_IsTermList A _ c B l _ rfl hs hl
  rw [hg] at hc
  have Hc := Lib.hid hc
  have Hl := Lib.hid (impl_squareOfTerms A _ c B l _ rfl (hs) (by simp; omega) (good_small hg) (good_iff.1 hg).1)
  generalize mlR l = R at *
  obtain ⟨okm, hok⟩ : ∃ x, R.ok = x := ⟨_, rfl⟩
  obtain ⟨F, hF⟩ : ∃ x, R.fit = x := ⟨_, rfl⟩
  have Hm := Lib.hid (fun w => impl_matrixOf_as R F okm hF hok w)
  have HE := Lib.hid (fun w' (hb : Below w.heap.size w w') => retMx_any (m := R) hb)
  rw [hF, hok] at HE
  clear hF hok hc hg h hs hl hlc
  go_enter Try.func40, Try.ntmps40
  go_wp2_with fail
  refine Hc.out.mono ?_
  rintro e w1 ⟨rfl, rfl⟩
  go_wp2_with fail
  refine Hl.out.mono ?_
  rintro e w2 ⟨rfl, hb2⟩
  have R0 := (Zb.new w 25).kept hb2
  have hd := ((Below.refl w.heap.size w).alloc (Nat.le_refl _) _).trans (hb2.mono (by simp))
  clear hb2 Hc Hl
  have yz := R0.1.lt
  go_wp2_with fail
  refine (Hm.out _).mono ?_
  rintro e w3 ⟨rfl, hb3⟩
  obtain ⟨⟨z0, z1, z2, z3⟩, ⟨f0, f1, f2, f3⟩⟩ := R0.kept hb3
  replace hd := below_kept hd (Nat.le_refl _) hb3
  clear hb3 Hm
  have hE := Lib.hid (below_set4 (g := w.heap.size) (x0 := .int .i64 F.a) (x1 := .int .i64 F.b) (x2 := .int .i64 F.c) (x3 := .int .i64 F.d) hd (Nat.le_refl _))
  go_wp2
  refine bodyPost_ret (v := .tuple #[.agg #[.int .i64 F.a, .int .i64 F.b, .int .i64 F.c, .int .i64 F.d], .bool okm]) ?hr rfl ?hR
  case hr => simp [results, Try.results40, go_sem, z0, z1, z2, z3]
  case hR => exact HE.out _ hE.out
theorem impl_ClosesUp_no (A : Option Addr) (c B : Nat) (l : List Int) (w : World) (hg : good l = false) (h : SlI w B A l) (hl : l.length ≤ 1048576) :
    Calls Try.prog 43 #[.slice A l.length c] w fun e w' => e = .returned (.tuple #[.bool false, .bool false]) ∧ Below w.heap.size w w' := by
  have hc := impl_IsTermList A _ c B l w rfl h hl
  rw [hg] at hc
  have Hc := Lib.hid hc
  clear hc hg h
  have hE := Lib.hid (Below.refl w.heap.size w)
  go_enter Try.func43, Try.ntmps43
  go_wp2_with fail
  refine Hc.out.mono ?_
  rintro e w1 ⟨rfl, rfl⟩
  clear Hc
  go_wp2
  go_ret2
  exact ⟨rfl, hE.out⟩
set_option maxHeartbeats 800000 in
theorem impl_ClosesUp_yes (A : Option Addr) (c B : Nat) (l : List Int) (w : World) (hg : good l = true) (h : SlI w B A l) (hB : B ≤ w.heap.size) (hl : l.length ≤ 1048576) (hlc : l.length ≤ c) :
    Calls Try.prog 43 #[.slice A l.length c] w fun e w' => e = .returned (.tuple #[.bool ((mlR l).eqB ⟨-1, 0, 0, -1⟩), .bool true]) ∧ Below w.heap.size w w' := by
  have hc := impl_IsTermList A _ c B l w rfl h hl
  rw [hg] at hc
  have Hc := Lib.hid hc
  have Hl := Lib.hid (impl_squareOfTerms A _ c B l _ rfl (h) (hB) (good_small hg) (good_iff.1 hg).1)
  generalize mlR l = R at *
  obtain ⟨p, q, r, s⟩ := R
  have hrun := run_sq_eq p q r s (-1) 0 0 (-1)
  generalize M4.eqB ⟨p, q, r, s⟩ ⟨-1, 0, 0, -1⟩ = bq at *
  clear hc hg h hl hlc
  go_enter Try.func43, Try.ntmps43
  go_wp2_with fail
  refine Hc.out.mono ?_
  rintro e w1 ⟨rfl, rfl⟩
  go_wp2_with fail
  refine Hl.out.mono ?_
  rintro e w2 ⟨rfl, hb2⟩
  have hE := Lib.hid hb2
  clear hb2 Hc Hl
  go_wp2
  go_ret2
  exact ⟨rfl, hE.out⟩
theorem WMatrixOfList.walk (w : World) (A : Option Addr) (c : Nat) (l : List Int) (h : SlI w w.heap.size A l) (hj : l.length ≤ c ∧ c ≤ maxLen ∧ ∀ x ∈ l, (Lit.int .i64 x).wf = true) : Calls Try.prog 13 #[.slice A l.length c] w fun e w' => e = .returned (.bool true) ∧ Below w.heap.size w w' := by
  cases hg : good l
  · exact WMatrixOfList.core w A c l h hj.1 hj.2.1 0 0 0 0 false (Lib.hid fun A c w h hl hlc => spec_MatrixOfList_no A c _ l w hg h (Nat.le_refl _) hl) (Lib.hid fun A c w h hl hlc => impl_MatrixOfList_no A c _ l w hg h (Nat.le_refl _) hl)
  · exact WMatrixOfList.core w A c l h hj.1 hj.2.1 _ _ _ _ _ (Lib.hid fun A c w h hl hlc => spec_MatrixOfList_yes A c _ l w hg h (Nat.le_refl _) hl hlc) (Lib.hid fun A c w h hl hlc => impl_MatrixOfList_yes A c _ l w hg h (Nat.le_refl _) hl hlc)
theorem WClosesUp.walk (w : World) (A : Option Addr) (c : Nat) (l : List Int) (h : SlI w w.heap.size A l) (hj : l.length ≤ c ∧ c ≤ maxLen ∧ ∀ x ∈ l, (Lit.int .i64 x).wf = true) : Calls Try.prog 14 #[.slice A l.length c] w fun e w' => e = .returned (.bool true) ∧ Below w.heap.size w w' := by
  cases hg : good l
  · exact WClosesUp.core w A c l h hj.1 hj.2.1 false false (Lib.hid fun A c w h hl hlc => spec_ClosesUp_no A c _ l w hg h hl) (Lib.hid fun A c w h hl hlc => impl_ClosesUp_no A c _ l w hg h hl)
  · exact WClosesUp.core w A c l h hj.1 hj.2.1 _ _ (Lib.hid fun A c w h hl hlc => spec_ClosesUp_yes A c _ l w hg h (Nat.le_refl _) hl hlc) (Lib.hid fun A c w h hl hlc => impl_ClosesUp_yes A c _ l w hg h (Nat.le_refl _) hl hlc)
end Go.Proofs.Ytfffnkbjhbaceaa
