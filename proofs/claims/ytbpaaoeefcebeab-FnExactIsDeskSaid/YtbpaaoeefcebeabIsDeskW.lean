/- Is it a desk? The model's and the program's; the law's walk. -/
import Derived.Test.YtbpaaoeefcebeabIsDeskC
import Derived.Test.YtbpaaoeefcebeabTriOfJ
import Derived.Test.YtbpaaoeefcebeabTriOfS
import Derived.Test.YtbpaaoeefcebeabL1
import Derived.Test.YtbpaaoeefcebeabLawK
import Derived.IntWalk
namespace Go.Proofs.Ytbpaaoeefcebeab
set_option linter.unusedVariables false
open Go.RowKit

def dskB (l : List Int) (m : Int) : Bool := isQ l && inB m 0 999999

theorem spec_coGood (A : Option Addr) (c B : Nat) (l : List Int) (m : Int) (w : World) (h : SlI w B A l) (hB : B ≤ w.heap.size) (hl : l.length ≤ 1048576) (hlc : l.length ≤ c) :
    Calls Try.prog 89 #[.agg #[.slice A l.length c, .int .i64 m]] w fun e w' => e = .returned (.bool (dskB l m)) ∧ Below w.heap.size w w' := by
  obtain ⟨w1, hw1⟩ : ∃ w1, w1 = w.alloc (.cells #[.slice A l.length c, .int .i64 m] 52) := ⟨_, rfl⟩
  have hb : Below w.heap.size w w1 := hw1 ▸ below_box (Below.refl w.heap.size w) (Nat.le_refl _) _
  have q0 : Bd w1 w.heap.size (.slice A l.length c) m 52 := hw1 ▸ Bd.new w (.slice A l.length c) m 52
  have HQ := Lib.hid (spec_IsQuiddity A c B l w1 (h.below (hb.mono hB)) (Nat.le_trans hB hb.size) hl hlc)
  have Hfin := Lib.hid (show dskB l m = (isQ l && inB m 0 999999) from rfl)
  obtain ⟨q, hq⟩ : ∃ q, isQ l = q := ⟨_, rfl⟩
  rw [hq] at HQ Hfin
  have Hb := Lib.hid hb
  have Q0 := Lib.hid q0
  have Hw1 := Lib.hid hw1
  clear hb h q0 hw1 hq
  go_enter Try.func89, Try.ntmps89
  go_wp2_with fail
  rw [← Hw1.out]
  clear Hw1
  refine HQ.out.mono ?_
  rintro e w2 ⟨rfl, hb2⟩
  obtain ⟨c0, d0⟩ := (Q0.out.kept hb2).cell
  have y0 := Q0.out.lt
  have HE := Lib.hid (below_kept Hb.out (Nat.le_refl _) hb2)
  clear hb2 HQ Q0 Hb
  cases q
  · clear c0 d0 y0
    go_wp2
    go_ret
    exact ⟨ret_bool (by rw [Hfin.out]; rfl), HE.out⟩
  · go_wp2_with fail
    refine (spec_l1In' _ _ _ _).mono ?_
    rintro e w3 ⟨rfl, rfl⟩
    clear c0 d0 y0
    go_wp2
    go_ret
    exact ⟨ret_bool (by rw [Hfin.out]; rfl), HE.out⟩
theorem spec_IsDesk (A : Option Addr) (c B : Nat) (l : List Int) (m : Int) (w : World) (h : SlI w B A l) (hB : B ≤ w.heap.size) (hl : l.length ≤ 1048576) (hlc : l.length ≤ c) :
    Calls Try.prog 52 #[.agg #[.slice A l.length c, .int .i64 m]] w fun e w' => e = .returned (.bool (dskB l m)) ∧ Below w.heap.size w w' := by
  have hb := below_box (Below.refl w.heap.size w) (Nat.le_refl _) (.cells #[.slice A l.length c, .int .i64 m] 52)
  have hs := h.below (hb.mono hB)
  have Hb := Lib.hid hb
  clear hb h
  go_enter Try.func52, Try.ntmps52
  go_wp2_with fail
  refine (spec_coGood A c B l m _ hs (by simp; omega) hl hlc).mono ?_
  rintro e w1 ⟨rfl, hb1⟩
  have hE := Lib.hid (below_kept Hb.out (Nat.le_refl _) hb1)
  clear hb1 hs
  go_wp2
  go_ret
  exact ⟨rfl, hE.out⟩
theorem impl_IsDesk (A : Option Addr) (c B : Nat) (l : List Int) (m : Int) (w : World) (h : SlI w B A l) (hB : B ≤ w.heap.size) (hl : l.length ≤ 1048576) (hlc : l.length ≤ c) :
    Calls Try.prog 54 #[.agg #[.slice A l.length c, .int .i64 m]] w fun e w' => e = .returned (.bool (dskB l m)) ∧ Below w.heap.size w w' := by
  obtain ⟨w1, hw1⟩ : ∃ w1, w1 = w.alloc (.cells #[.slice A l.length c, .int .i64 m] 52) := ⟨_, rfl⟩
  have hb : Below w.heap.size w w1 := hw1 ▸ below_box (Below.refl w.heap.size w) (Nat.le_refl _) _
  have q0 : Bd w1 w.heap.size (.slice A l.length c) m 52 := hw1 ▸ Bd.new w (.slice A l.length c) m 52
  have HQ := Lib.hid (impl_IsQuiddity A c B l w1 (h.below (hb.mono hB)) (Nat.le_trans hB hb.size) hl hlc)
  have Hfin := Lib.hid (show dskB l m = (isQ l && inB m 0 999999) from rfl)
  obtain ⟨q, hq⟩ : ∃ q, isQ l = q := ⟨_, rfl⟩
  rw [hq] at HQ Hfin
  have Hb := Lib.hid hb
  have Q0 := Lib.hid q0
  have Hw1 := Lib.hid hw1
  clear hb h q0 hw1 hq
  go_enter Try.func54, Try.ntmps54
  go_wp2_with fail
  rw [← Hw1.out]
  clear Hw1
  refine HQ.out.mono ?_
  rintro e w2 ⟨rfl, hb2⟩
  obtain ⟨c0, d0⟩ := (Q0.out.kept hb2).cell
  have y0 := Q0.out.lt
  have HE := Lib.hid (below_kept Hb.out (Nat.le_refl _) hb2)
  clear hb2 HQ Q0 Hb
  cases q
  · clear c0 d0 y0
    go_wp2
    go_ret
    exact ⟨ret_bool (by rw [Hfin.out]; rfl), HE.out⟩
  · by_cases h0 : 0 ≤ m
    · by_cases h1 : m ≤ 999999
      · have HR : Hid (inB m 0 999999 = true) := Lib.hid (by unfold inB; simp; omega)
        go_wp2
        go_ret
        exact ⟨ret_bool (by rw [Hfin.out, HR.out]; first | rfl | (simp; omega)), HE.out⟩
      · have HR : Hid (inB m 0 999999 = false) := Lib.hid (by unfold inB; simp; omega)
        go_wp2
        go_ret
        exact ⟨ret_bool (by rw [Hfin.out, HR.out]; first | rfl | (simp; omega)), HE.out⟩
    · have HR : Hid (inB m 0 999999 = false) := Lib.hid (by unfold inB; simp; omega)
      go_wp2
      go_ret
      exact ⟨ret_bool (by rw [Hfin.out, HR.out]; first | rfl | (simp; omega)), HE.out⟩
theorem WIsDesk.walk (w : World) (A0 : Option Addr) (c0 : Nat) (l0 : List Int) (m0 : Int) (h0 : SlI w w.heap.size A0 l0) (j0 : l0.length ≤ c0 ∧ c0 ≤ maxLen ∧ ∀ x ∈ l0, (Lit.int .i64 x).wf = true) :
    Calls Try.prog 14 #[.agg #[.slice A0 l0.length c0, .int .i64 m0]] w fun e w' => e = .returned (.bool true) ∧ Below w.heap.size w w' :=
  WIsDesk.core w A0 c0 l0 m0 h0 j0.1 j0.2.1 (dskB l0 m0) (Lib.hid fun A c w h hl hlc => spec_IsDesk A c w.heap.size l0 m0 w h (Nat.le_refl _) hl hlc) (Lib.hid fun A c w h hl hlc => impl_IsDesk A c w.heap.size l0 m0 w h (Nat.le_refl _) hl hlc)
end Go.Proofs.Ytbpaaoeefcebeab
