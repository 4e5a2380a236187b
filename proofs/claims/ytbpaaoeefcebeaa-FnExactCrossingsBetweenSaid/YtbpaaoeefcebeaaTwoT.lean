/- Two triangulations of one polygon: the model's and the program's test. -/
import Derived.Test.YtbpaaoeefcebeaaFlipM
import Derived.Test.YtbpaaoeefcebeaaLawK2
import Derived.Test.YtbpaaoeefcebeaaTriS
import Derived.Test.YtbpaaoeefcebeaaTriJ
namespace Go.Proofs.Ytbpaaoeefcebeaa
set_option linter.unusedVariables false
open Go.RowKit

/-- two triangulations of one polygon -/
def twoB (n : Int) (a b : List (Int × Int)) : Bool := triB n a && triB n b
theorem twoB_len {n : Int} {a b : List (Int × Int)} (h : twoB n a b = true) : a.length ≤ 9 ∧ b.length ≤ 9 := by
  unfold twoB at h
  rw [Bool.and_eq_true] at h
  have h1 := (tri_of h.1)
  have h2 := (tri_of h.2)
  have := h1.len
  have := h1.n12
  have := h2.len
  omega

theorem spec_flTwo (n : Int) (A A2 : Option Addr) (m m2 c c2 B B2 : Nat) (l r : List (Int × Int)) (w : World) (h : SlD w B A l) (h2 : SlD w B2 A2 r) (hlm : l.length = m) (hrm : r.length = m2) (hB : B ≤ w.heap.size) (hB2 : B2 ≤ w.heap.size) (hl : m ≤ 1048576) (hl2 : m2 ≤ 1048576) (hlc : m ≤ c) (hlc2 : m2 ≤ c2) :
    Calls Try.prog 73 #[.int .i64 n, .slice A m c, .slice A2 m2 c2] w fun e w' => e = .returned (.bool (twoB n l r)) ∧ Below w.heap.size w w' := by
  subst hlm hrm
  have e0 : twoB n l r = (triB n l && triB n r) := rfl
  have E0 := Lib.hid e0
  have H2 := Lib.hid h2
  clear e0 h2
  go_enter Try.func73, Try.ntmps73
  go_wp2_with fail
  refine (spec_poGood n A c B l _ h hB hl hlc).mono ?_
  rintro e w1 ⟨rfl, hb1⟩
  cases ht : triB n l
  · have hE : twoB n l r = false := by rw [E0.out, ht]; rfl
    have HE := Lib.hid hE
    clear hE h
    go_wp2
    go_ret
    exact ⟨ret_bool HE.out.symm, hb1⟩
  · have hE : twoB n l r = triB n r := by rw [E0.out, ht]; rfl
    have HE := Lib.hid hE
    clear hE h
    go_wp2_with fail
    refine (spec_poGood n A2 c2 B2 r _ (H2.out.below (hb1.mono hB2)) (Nat.le_trans hB2 hb1.size) hl2 hlc2).mono ?_
    rintro e w2 ⟨rfl, hb2⟩
    have hd := below_kept hb1 (Nat.le_refl _) hb2
    clear hb1 hb2
    go_wp2
    go_ret
    exact ⟨ret_bool HE.out.symm, hd⟩

theorem impl_areTriangulations (n : Int) (A A2 : Option Addr) (m m2 c c2 B B2 : Nat) (l r : List (Int × Int)) (w : World) (h : SlD w B A l) (h2 : SlD w B2 A2 r) (hlm : l.length = m) (hrm : r.length = m2) (hB : B ≤ w.heap.size) (hB2 : B2 ≤ w.heap.size) (hl : m ≤ 1048576) (hl2 : m2 ≤ 1048576) (hlc : m ≤ c) (hlc2 : m2 ≤ c2) :
    Calls Try.prog 74 #[.int .i64 n, .slice A m c, .slice A2 m2 c2] w fun e w' => e = .returned (.bool (twoB n l r)) ∧ Below w.heap.size w w' := by
  subst hlm hrm
  have e0 : twoB n l r = (triB n l && triB n r) := rfl
  have E0 := Lib.hid e0
  have H2 := Lib.hid h2
  clear e0 h2
  go_enter Try.func74, Try.ntmps74
  go_wp2_with fail
  refine (impl_IsTriangulation n A c B l _ h hB hl hlc).mono ?_
  rintro e w1 ⟨rfl, hb1⟩
  cases ht : triB n l
  · have hE : twoB n l r = false := by rw [E0.out, ht]; rfl
    have HE := Lib.hid hE
    clear hE h
    go_wp2
    go_ret
    exact ⟨ret_bool HE.out.symm, hb1⟩
  · have hE : twoB n l r = triB n r := by rw [E0.out, ht]; rfl
    have HE := Lib.hid hE
    clear hE h
    go_wp2_with fail
    refine (impl_IsTriangulation n A2 c2 B2 r _ (H2.out.below (hb1.mono hB2)) (Nat.le_trans hB2 hb1.size) hl2 hlc2).mono ?_
    rintro e w2 ⟨rfl, hb2⟩
    have hd := below_kept hb1 (Nat.le_refl _) hb2
    clear hb1 hb2
    go_wp2
    go_ret
    exact ⟨ret_bool HE.out.symm, hd⟩
end Go.Proofs.Ytbpaaoeefcebeaa
