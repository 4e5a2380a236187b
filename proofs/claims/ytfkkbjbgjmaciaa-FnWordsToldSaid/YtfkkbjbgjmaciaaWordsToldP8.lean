/- Part 8 of 8 of the proof of the law WordsTold, no condition: one text out of several, since a claim holds 60 files at most. -/
import Derived.Test.YtfkkbjbgjmaciaaWordsToldP7
import Derived.IntWalk
import Derived.Deep.DeepCutAuto
import Derived.Deep.Cut
import Derived.Deep.QuietTactic
import Derived.BigQuiet
import Derived.WalkSpells
import Derived.ProofKit
import Derived.OpenShut
import Derived.ShutString
import Derived.ChangeOld
import Derived.Below
import Derived.Lib.SmallJoins
import Derived.Deep.Slices
import Derived.Deep.Fields
import Derived.ChangeSame
/- The draws of words, matrices, moved fractions. Made by wip/glaw/gl_draw2.py. -/
namespace Go.Proofs.Ytfkkbjbgjmaciaa
set_option linter.unusedVariables false
open Go.RowKit

def GivT (w : World) (M : Nat) (e : Ending) (w' : World) : Prop := ∃ s : ByteArray, e = .returned (.string s) ∧ s.size ≤ M ∧ Below w.heap.size w w'
def GivM (w : World) (e : Ending) (w' : World) : Prop := ∃ a b c d : Int, e = .returned (.agg #[.int .i64 a, .int .i64 b, .int .i64 c, .int .i64 d]) ∧ Below w.heap.size w w'
def GivMF (w : World) (e : Ending) (w' : World) : Prop := ∃ a b c d x y : Int, e = .returned (.tuple #[.agg #[.int .i64 a, .int .i64 b, .int .i64 c, .int .i64 d], .agg #[.int .i64 x, .int .i64 y]]) ∧ Below w.heap.size w w'
set_option maxRecDepth 100000 in
set_option maxHeartbeats 12800000 in
theorem spec_DrawMatrixOfWord (A : Option Addr) (n c B : Nat) (w : World) (h : CodeB w B A n) (hB : B ≤ w.heap.size) (hn : n ≤ 1048576) :
    Calls Try.prog 54 #[.slice A n c] w (GivT w 50) := by
  have hb0 : Below w.heap.size w w := (Below.refl w.heap.size w)
  obtain ⟨w1, hw1⟩ : ∃ w1, w1 = w.alloc (.cells #[.slice A n c, .int .i64 0, .int .u64 0] 98) := ⟨_, rfl⟩
  have hc : Cur w1 w.heap.size 0 := hw1 ▸ cur_new (h.keep fun b o hb => hb0.cell (p := ⟨b, o, none⟩) (Nat.lt_of_lt_of_le hb hB)) (by omega) hn
  have hb1 : Below w.heap.size w w1 := by rw [hw1]; exact (Below.refl w.heap.size w).alloc (Nat.le_refl _) _
  have hz1 : w1.heap.size = w.heap.size + 1 := by rw [hw1]; simp
  have HW : Hid (∀ w', w1.grownBy w' (some w.heap.size) → Below w.heap.size w w') := Lib.hid fun w' hg => below_kept hb0 (Nat.le_refl _) (giv_below hw1 hg)
  skip
  have HC := Lib.hid hc
  have HG := Lib.hid (World.grownBy.refl w1 (some w.heap.size))
  have HZ : w.heap.size + 1 ≤ w1.heap.size := by omega
  have Hw1 := Lib.hid hw1
  have hwz : w.heap.size ≤ w.heap.size := by omega
  clear h hc hb0 hb1 hz1 hw1
  go_enter Try.func54, Try.ntmps54
  have HT := Lib.hid (spec_word w.heap.size (0) w1 HC.out (by omega))
  go_wp2_with fail
  rw [← Hw1.out]
  clear Hw1
  refine HT.out.mono ?_
  rintro e w11 ⟨t, rfl, ht, hc, hg⟩
  clear HT
  have hzn := hg.size
  have HGn := Lib.hid (HG.out.trans hg)
  have HCn := Lib.hid (hc.more (show _ ≤ 400 by omega))
  clear HG HC hc hg 
  have HG := HGn
  have HC := HCn
  clear HGn HCn
  have HR : Hid (GivT w 50 (.returned (.string t)) w11) := Lib.hid ⟨t, rfl, ht, (HW.out _ HG.out)⟩
  clear HC HG HW 
  go_wp2
  go_ret
  exact HR.out
set_option maxRecDepth 100000 in
set_option maxHeartbeats 12800000 in
theorem spec_DrawIsMatrix (A : Option Addr) (n c B : Nat) (w : World) (h : CodeB w B A n) (hB : B ≤ w.heap.size) (hn : n ≤ 1048576) :
    Calls Try.prog 141 #[.slice A n c] w (GivM w) := by
  obtain ⟨w0, hw0⟩ : ∃ w0, w0 = (w.alloc (.cells #[.int .i64 0, .int .i64 0, .int .i64 0, .int .i64 0] 53)) := ⟨_, rfl⟩
  have hb0 : Below w.heap.size w w0 := by rw [hw0]; exact ((Below.refl w.heap.size w).alloc (Nat.le_refl _) _)
  have hz0 : w0.heap.size = w.heap.size + 1 := by rw [hw0]; simp
  obtain ⟨w1, hw1⟩ : ∃ w1, w1 = w0.alloc (.cells #[.slice A n c, .int .i64 0, .int .u64 0] 98) := ⟨_, rfl⟩
  have hc : Cur w1 w0.heap.size 0 := hw1 ▸ cur_new (h.keep fun b o hb => hb0.cell (p := ⟨b, o, none⟩) (Nat.lt_of_lt_of_le hb hB)) (by omega) hn
  have hb1 : Below w0.heap.size w0 w1 := by rw [hw1]; exact (Below.refl w0.heap.size w0).alloc (Nat.le_refl _) _
  have hx0 : Bx4 w0 w.heap.size 0 0 0 0 := by
    have := (Bx4.new w 53 0 0 0 0)
    rw [hw0]; simpa using this
  have HX0 := Lib.hid (hx0.kept hb1)
  clear hx0
  have hz1 : w1.heap.size = w0.heap.size + 1 := by rw [hw1]; simp
  have HW : Hid (∀ w', w1.grownBy w' (some (w.heap.size + 1)) → Below w.heap.size w w') := Lib.hid fun w' hg => below_kept hb0 (Nat.le_refl _) (giv_below hw1 (by rw [hz0]; exact hg))
  rw [hz0] at hc
  have HC := Lib.hid hc
  have HG := Lib.hid (World.grownBy.refl w1 (some (w.heap.size + 1)))
  have HZ : (w.heap.size + 1) + 1 ≤ w1.heap.size := by omega
  have Hw1 := Lib.hid hw1
  have Hw0 := Lib.hid hw0
  have hwz : w.heap.size ≤ w0.heap.size := by omega
  clear h hc hb0 hb1 hz1 hw0 hw1
  go_enter Try.func141, Try.ntmps141
  have HT := Lib.hid (spec_matrix (w.heap.size + 1) (0) w1 HC.out (by omega))
  go_wp2_with fail
  rw [← Hw0.out, ← Hw1.out]
  clear Hw0 Hw1
  refine HT.out.mono ?_
  rintro e w11 ⟨a, b, p, q, rfl, hc, hg⟩
  clear HT
  have hzn := hg.size
  have HX0n := Lib.hid (HX0.out.far4 hg (by first | (simp; omega) | simp))
  have HGn := Lib.hid (HG.out.trans hg)
  have HCn := Lib.hid (hc.more (show _ ≤ 500 by omega))
  clear HG HC hc hg HX0
  have HX0 := HX0n
  clear HX0n
  have HG := HGn
  have HC := HCn
  clear HGn HCn
  have HR : Hid (GivM w (.returned (.agg #[.int .i64 a, .int .i64 b, .int .i64 p, .int .i64 q])) ((((w11.setCell ⟨w.heap.size, 0, none⟩ (.int .i64 a)).setCell ⟨w.heap.size, 1, none⟩ (.int .i64 b)).setCell ⟨w.heap.size, 2, none⟩ (.int .i64 p)).setCell ⟨w.heap.size, 3, none⟩ (.int .i64 q))) := Lib.hid ⟨a, b, p, q, rfl, (((((HW.out _ HG.out).setCell (p := ⟨w.heap.size, 0, none⟩) (by simp) _).setCell (p := ⟨w.heap.size, 1, none⟩) (by simp) _).setCell (p := ⟨w.heap.size, 2, none⟩) (by simp) _).setCell (p := ⟨w.heap.size, 3, none⟩) (by simp) _)⟩
  obtain ⟨⟨c0_0, c0_1, c0_2, c0_3⟩, f0_0, f0_1, f0_2, f0_3⟩ := HX0.out
  clear HC HG HW HX0
  go_wp2
  refine bodyPost_ret (v := .agg #[.int .i64 a, .int .i64 b, .int .i64 p, .int .i64 q]) ?_ rfl ?_
  · simp [results, Try.results141, go_sem, c0_0, c0_1, c0_2, c0_3]
  · have hR := HR.out
    with_reducible exact hR
set_option maxRecDepth 100000 in
theorem spec_DrawWordOfMatrix (A : Option Addr) (n c B : Nat) (w : World) (h : CodeB w B A n) (hB : B ≤ w.heap.size) (hn : n ≤ 1048576) :
    Calls Try.prog 59 #[.slice A n c] w (GivM w) := by
  obtain ⟨w0, hw0⟩ : ∃ w0, w0 = w.alloc (.cells #[.int .i64 0, .int .i64 0, .int .i64 0, .int .i64 0] 53) := ⟨_, rfl⟩
  have hb0 : Below w.heap.size w w0 := by rw [hw0]; exact (Below.refl w.heap.size w).alloc (Nat.le_refl _) _
  have hx : Bx4 w0 w.heap.size 0 0 0 0 := by rw [hw0]; exact Bx4.new _ _ _ _ _ _
  have hz0 : w0.heap.size = w.heap.size + 1 := by rw [hw0]; simp
  have HT := Lib.hid (spec_DrawIsMatrix A n c B w0 (h.keep fun b o hb => hb0.cell (p := ⟨b, o, none⟩) (Nat.lt_of_lt_of_le hb hB)) (by omega) hn)
  clear h
  go_enter Try.func59, Try.ntmps59
  go_wp2_with fail
  rw [← hw0]
  clear hw0
  refine HT.out.mono ?_
  rintro e w1 ⟨a, b, p, q, rfl, hb1⟩
  have hb := below_kept hb0 (Nat.le_refl _) (hb1.mono (by omega))
  have HR : Hid (GivM w (.returned (.agg #[.int .i64 a, .int .i64 b, .int .i64 p, .int .i64 q])) ((((w1.setCell ⟨w.heap.size, 0, none⟩ (.int .i64 a)).setCell ⟨w.heap.size, 1, none⟩ (.int .i64 b)).setCell ⟨w.heap.size, 2, none⟩ (.int .i64 p)).setCell ⟨w.heap.size, 3, none⟩ (.int .i64 q))) := Lib.hid ⟨a, b, p, q, rfl, ((((hb.setCell (p := ⟨w.heap.size, 0, none⟩) (by simp) _).setCell (p := ⟨w.heap.size, 1, none⟩) (by simp) _).setCell (p := ⟨w.heap.size, 2, none⟩) (by simp) _).setCell (p := ⟨w.heap.size, 3, none⟩) (by simp) _)⟩
  obtain ⟨⟨c0, c1, c2, c3⟩, f0, f1, f2, f3⟩ := hx.kept hb1
  clear HT hx hb0 hb1 hb
  go_wp2
  refine bodyPost_ret (v := .agg #[.int .i64 a, .int .i64 b, .int .i64 p, .int .i64 q]) ?_ rfl ?_
  · simp [results, Try.results59, go_sem, c0, c1, c2, c3]
  · have hR := HR.out
    with_reducible exact hR
set_option maxRecDepth 100000 in
set_option maxHeartbeats 12800000 in
theorem spec_DrawMoveFraction (A : Option Addr) (n c B : Nat) (w : World) (h : CodeB w B A n) (hB : B ≤ w.heap.size) (hn : n ≤ 1048576) :
    Calls Try.prog 61 #[.slice A n c] w (GivMF w) := by
  obtain ⟨w0, hw0⟩ : ∃ w0, w0 = ((w.alloc (.cells #[.int .i64 0, .int .i64 0, .int .i64 0, .int .i64 0] 53)).alloc (.cells #[.int .i64 0, .int .i64 0] 61)) := ⟨_, rfl⟩
  have hb0 : Below w.heap.size w w0 := by rw [hw0]; exact (((Below.refl w.heap.size w).alloc (Nat.le_refl _) _).alloc (by simp) _)
  have hz0 : w0.heap.size = w.heap.size + 2 := by rw [hw0]; simp
  obtain ⟨w1, hw1⟩ : ∃ w1, w1 = w0.alloc (.cells #[.slice A n c, .int .i64 0, .int .u64 0] 98) := ⟨_, rfl⟩
  have hc : Cur w1 w0.heap.size 0 := hw1 ▸ cur_new (h.keep fun b o hb => hb0.cell (p := ⟨b, o, none⟩) (Nat.lt_of_lt_of_le hb hB)) (by omega) hn
  have hb1 : Below w0.heap.size w0 w1 := by rw [hw1]; exact (Below.refl w0.heap.size w0).alloc (Nat.le_refl _) _
  have hx0 : Bx4 w0 w.heap.size 0 0 0 0 := by
    have := (Bx4.new w 53 0 0 0 0).alloc (.cells #[.int .i64 0, .int .i64 0] 61)
    rw [hw0]; simpa using this
  have HX0 := Lib.hid (hx0.kept hb1)
  clear hx0
  have hx1 : Bx2 w0 (w.heap.size + 1) 0 0 := by
    have := (Bx2.new (w.alloc (.cells #[.int .i64 0, .int .i64 0, .int .i64 0, .int .i64 0] 53)) 61 0 0)
    rw [hw0]; simpa using this
  have HX1 := Lib.hid (hx1.kept hb1)
  clear hx1
  have hz1 : w1.heap.size = w0.heap.size + 1 := by rw [hw1]; simp
  have HW : Hid (∀ w', w1.grownBy w' (some (w.heap.size + 2)) → Below w.heap.size w w') := Lib.hid fun w' hg => below_kept hb0 (Nat.le_refl _) (giv_below hw1 (by rw [hz0]; exact hg))
  rw [hz0] at hc
  have HC := Lib.hid hc
  have HG := Lib.hid (World.grownBy.refl w1 (some (w.heap.size + 2)))
  have HZ : (w.heap.size + 2) + 1 ≤ w1.heap.size := by omega
  have Hw1 := Lib.hid hw1
  have Hw0 := Lib.hid hw0
  have hwz : w.heap.size ≤ w0.heap.size := by omega
  clear h hc hb0 hb1 hz1 hw0 hw1
  go_enter Try.func61, Try.ntmps61
  have HT := Lib.hid (spec_matrix (w.heap.size + 2) (0) w1 HC.out (by omega))
  go_wp2_with fail
  rw [← Hw0.out, ← Hw1.out]
  clear Hw0 Hw1
  refine HT.out.mono ?_
  rintro e w11 ⟨a, b, p, q, rfl, hc, hg⟩
  clear HT
  have hzn := hg.size
  have HX0n := Lib.hid (HX0.out.far4 hg (by first | (simp; omega) | simp))
  have HX1n := Lib.hid (HX1.out.far hg (by first | (simp; omega) | simp))
  have HGn := Lib.hid (HG.out.trans hg)
  have HCn := Lib.hid (hc.more (show _ ≤ 500 by omega))
  clear HG HC hc hg HX0 HX1
  have HX0 := HX0n
  clear HX0n
  have HX1 := HX1n
  clear HX1n
  have HG := HGn
  have HC := HCn
  clear HGn HCn
  have HT := Lib.hid (spec_fraction (w.heap.size + 2) (500) w11 HC.out (by omega))
  go_wp2_with fail
  refine HT.out.mono ?_
  rintro e w12 ⟨x, y, rfl, hc, hg⟩
  clear HT
  have hzn := hg.size
  have HX0n := Lib.hid (HX0.out.far4 hg (by first | (simp; omega) | simp))
  have HX1n := Lib.hid (HX1.out.far hg (by first | (simp; omega) | simp))
  have HGn := Lib.hid (HG.out.trans hg)
  have HCn := Lib.hid (hc.more (show _ ≤ 600 by omega))
  clear HG HC hc hg HX0 HX1
  have HX0 := HX0n
  clear HX0n
  have HX1 := HX1n
  clear HX1n
  have HG := HGn
  have HC := HCn
  clear HGn HCn
  have HR : Hid (GivMF w (.returned (.tuple #[.agg #[.int .i64 a, .int .i64 b, .int .i64 p, .int .i64 q], .agg #[.int .i64 x, .int .i64 y]])) ((((((w12.setCell ⟨w.heap.size, 0, none⟩ (.int .i64 a)).setCell ⟨w.heap.size, 1, none⟩ (.int .i64 b)).setCell ⟨w.heap.size, 2, none⟩ (.int .i64 p)).setCell ⟨w.heap.size, 3, none⟩ (.int .i64 q)).setCell ⟨(w.heap.size + 1), 0, none⟩ (.int .i64 x)).setCell ⟨(w.heap.size + 1), 1, none⟩ (.int .i64 y))) := Lib.hid ⟨a, b, p, q, x, y, rfl, (((((((HW.out _ HG.out).setCell (p := ⟨w.heap.size, 0, none⟩) (by simp) _).setCell (p := ⟨w.heap.size, 1, none⟩) (by simp) _).setCell (p := ⟨w.heap.size, 2, none⟩) (by simp) _).setCell (p := ⟨w.heap.size, 3, none⟩) (by simp) _).setCell (p := ⟨(w.heap.size + 1), 0, none⟩) (by simp) _).setCell (p := ⟨(w.heap.size + 1), 1, none⟩) (by simp) _)⟩
  obtain ⟨⟨c0_0, c0_1, c0_2, c0_3⟩, f0_0, f0_1, f0_2, f0_3⟩ := HX0.out
  obtain ⟨⟨c1_0, c1_1⟩, f1_0, f1_1⟩ := HX1.out
  clear HC HG HW HX0 HX1
  go_wp2
  refine bodyPost_ret (v := .tuple #[.agg #[.int .i64 a, .int .i64 b, .int .i64 p, .int .i64 q], .agg #[.int .i64 x, .int .i64 y]]) ?_ rfl ?_
  · simp [results, Try.results61, go_sem, c0_0, c0_1, c0_2, c0_3, c1_0, c1_1]
  · have hR := HR.out
    with_reducible exact hR
end Go.Proofs.Ytfkkbjbgjmaciaa

/- The general laws' bound on their arguments. -/
namespace Go.Proofs.Ytfkkbjbgjmaciaa
set_option linter.unusedVariables false
open Go.RowKit

def BigEnd (n1 n2 : Nat) (w : World) (e : Ending) (w' : World) : Prop := ∃ b : Bool, e = .returned (.bool b) ∧ (b = false → n1 + n2 ≤ 1048576) ∧ w = w'
theorem laws_big (A1 A2 : Option Addr) (n1 c1 n2 c2 : Nat) (w : World) (h1 : n1 ≤ maxLen) (h2 : n2 ≤ maxLen) :
    Calls Try.prog 7 #[.slice A1 n1 c1, .slice A2 n2 c2] w (BigEnd n1 n2 w) := by
  have HE : Hid (∀ b, (b = false → n1 + n2 ≤ 1048576) → BigEnd n1 n2 w (.returned (.bool b)) w) := Lib.hid fun b h => ⟨b, rfl, h, rfl⟩
  have m1 : (n1 : Int) ≤ (maxLen : Int) := by omega
  have m2 : (n2 : Int) ≤ (maxLen : Int) := by omega
  unfold maxLen at m1 m2
  by_cases h : 1048576 < n1
  · have i1 : (1048576 : Int) < (n1 : Int) := by omega
    clear h1 h2
    go_enter Try.func7, Try.ntmps7
    go_wp2
    go_ret
    exact HE.out _ (fun h => by cases h)
  · have i1 : ¬ (1048576 : Int) < (n1 : Int) := by omega
    have hw : IntKind.i64.wrap (1048576 - (n1 : Int)) = 1048576 - (n1 : Int) := IntWalk.i64_in _ (by omega)
    clear h1 h2
    go_enter Try.func7, Try.ntmps7
    go_wp2
    go_ret
    exact HE.out _ (fun h => by simp at h; omega)
end Go.Proofs.Ytfkkbjbgjmaciaa

/- The walk of the law of words. Made by wip/glaw/gl_words.py. -/
namespace Go.Proofs.Ytfkkbjbgjmaciaa
set_option linter.unusedVariables false
open Go.RowKit

set_option maxRecDepth 100000 in
set_option maxHeartbeats 25600000 in
theorem WWordsTold.walk (w : World) (A1 : Option Addr) (n1 c1 : Nat) (h1 : CodeB w w.heap.size A1 n1) (m1 : n1 ≤ maxLen) (A2 : Option Addr) (n2 c2 : Nat) (h2 : CodeB w w.heap.size A2 n2) (m2 : n2 ≤ maxLen) :
    Calls Try.prog 5 #[.slice A1 n1 c1, .slice A2 n2 c2] w fun e w' => e = .returned (.bool true) ∧ Below w.heap.size w w' := by
  have HB := Lib.hid (laws_big A1 A2 n1 c1 n2 c2 w m1 m2)
  have H2 := Lib.hid h2
  have H1 := Lib.hid h1
  clear h1 h2 m1 m2
  go_enter Try.func5, Try.ntmps5
  go_wp2_with fail
  refine HB.out.mono ?_
  rintro e w' ⟨b, rfl, hb, rfl⟩
  cases b
  · have hn := hb rfl
    clear hb HB
    have H1 := Lib.hid (spec_DrawMatrixOfWord A1 n1 c1 w.heap.size w H1.out (Nat.le_refl _) (by omega))
    go_wp2_with fail
    refine H1.out.mono ?_
    rintro e w1 ⟨t, rfl, ht, hb⟩
    have K1 := Lib.hid hb
    clear hb H1
    clear H1
    obtain ⟨⟨a, b, c, d⟩, hF⟩ : ∃ F, wR (wl t) = F := ⟨_, rfl⟩
    obtain ⟨ok, hok⟩ : ∃ ok, wOk (wl t) = ok := ⟨_, rfl⟩
    have HF := Lib.hid hF
    have HOK := Lib.hid hok
    clear hF hok
    have hKK : (ok != ok) = false := by simp
    have H2 := Lib.hid (impl_wml t a b c d ok w1 HF.out HOK.out)
    go_wp2_with fail
    refine H2.out.mono ?_
    rintro e w2 ⟨rfl, hb⟩
    have K2 := Lib.hid hb
    clear hb H2
    obtain ⟨w3, hwa⟩ : ∃ wa, wa = (w2.alloc (.cells #[.int .i64 a, .int .i64 b, .int .i64 c, .int .i64 d] 53)) := ⟨_, rfl⟩
    have K3 : Hid (Below w2.heap.size w2 w3) := Lib.hid (by rw [hwa]; exact ((Below.refl w2.heap.size w2).alloc (by exact Nat.le_refl _) _))
    obtain ⟨g_m, hga⟩ : ∃ gg, gg = w2.heap.size := ⟨_, rfl⟩
    have HX_m : Hid (Bx4 w3 g_m (a) (b) (c) (d)) := Lib.hid (by
      have := (Bx4.new w2 53 (a) (b) (c) (d))
      rw [hwa, hga]; simpa using this)
    go_upto_region 5 with fail
    rw [← hwa, ← hga]
    clear hwa hga
    have H3 := Lib.hid (spec_wml t a b c d ok w3 HF.out HOK.out)
    go_wp2_with fail
    refine H3.out.mono ?_
    rintro e w4 ⟨rfl, hb⟩
    have K4 := Lib.hid hb
    clear hb H3
    obtain ⟨w5, hwa⟩ : ∃ wa, wa = (w4.alloc (.cells #[.int .i64 a, .int .i64 b, .int .i64 c, .int .i64 d] 53)) := ⟨_, rfl⟩
    have K5 : Hid (Below w4.heap.size w4 w5) := Lib.hid (by rw [hwa]; exact ((Below.refl w4.heap.size w4).alloc (by exact Nat.le_refl _) _))
    obtain ⟨g_right, hga⟩ : ∃ gg, gg = w4.heap.size := ⟨_, rfl⟩
    have HX_right : Hid (Bx4 w5 g_right (a) (b) (c) (d)) := Lib.hid (by
      have := (Bx4.new w4 53 (a) (b) (c) (d))
      rw [hwa, hga]; simpa using this)
    go_upto_region 6 with fail
    rw [← hwa, ← hga]
    clear hwa hga
    obtain ⟨⟨x4_0, x4_1, x4_2, x4_3⟩, _⟩ := (HX_m.out.kept (below_kept K4.out (Nat.le_refl _) K5.out))
    obtain ⟨⟨x5_0, x5_1, x5_2, x5_3⟩, _⟩ := HX_right.out
    have hEm : ∀ w, (Op.equalIn 10000 53 (.agg #[.int .i64 a, .int .i64 b, .int .i64 c, .int .i64 d]) (.agg #[.int .i64 a, .int .i64 b, .int .i64 c, .int .i64 d])).run Try.prog w = .ok true w := fun w => by rw [run_mx_eq, M4.eqB_iff.2 rfl]
    go_upto_if 63 with fail
    go_cut [] from 10 to 133 (fun wx => Below w5.heap.size w5 wx)
    case first =>
      as_aux_lemma =>
        clear H2 hKK
        cases ok
        · go_wp2_with fail
          go_meet
          exact Below.refl _ _
        · obtain ⟨hw1, hw2, hw3, hw4⟩ := word_tells HOK.out
          rw [HF.out] at hw1 hw2 hw3
          obtain ⟨e, f, p0, q0, p, q, r, s, ⟨hA, hAo, hAk⟩, ⟨hB, hBo, hBk⟩, hM, hMk⟩ := word_halves HOK.out HF.out (t.size / 2)
          have HW1 := Lib.hid hw1
          have HA := Lib.hid hA
          have HAO := Lib.hid hAo
          have HAK := Lib.hid hAk
          have HB2 := Lib.hid hB
          have HBO := Lib.hid hBo
          have HBK := Lib.hid hBk
          have HM := Lib.hid hM
          have HMK := Lib.hid hMk
          obtain ⟨n1', n2', n3', n4'⟩ := hw2
          have m1 : ¬ a < 0 := by dsimp only at n1'; omega
          have m2 : ¬ b < 0 := by dsimp only at n2'; omega
          have m3 : ¬ c < 0 := by dsimp only at n3'; omega
          have m4 : ¬ d < 0 := by dsimp only at n4'; omega
          have hq : (t.size : Int).tdiv 2 = ((t.size / 2 : Nat) : Int) := by rw [Int.tdiv_eq_ediv_of_nonneg (by omega)]; omega
          have hq1 : t.size / 2 ≤ t.size := Nat.div_le_self _ _
          generalize t.size / 2 = k at *
          have k0 : (0 : Int) ≤ (k : Int) := Int.natCast_nonneg _
          have k1 : (k : Int) ≤ (t.size : Int) := Int.ofNat_le.2 hq1
          have hk50 : k ≤ 50 := Nat.le_trans hq1 ht
          have kw : Go.RowKit.wrap64 (k : Int) = (k : Int) := by clear hq k1; unfold Go.RowKit.wrap64; omega
          clear hw1 hw3 hw4 hA hAo hAk hB hBo hBk hM hMk n1' n2' n3' n4' ht
          have H6 := Lib.hid (impl_woml a b c d t.data.toList t true w5 HW1.out (bsL_data t))
          go_wp2_with fail
          refine H6.out.mono ?_
          rintro e w6 ⟨rfl, hb⟩
          have K6 := Lib.hid hb
          clear hb H6
          as_aux_lemma =>
            obtain ⟨⟨x7_0, x7_1, x7_2, x7_3⟩, _⟩ := (HX_m.out.kept (below_kept (below_kept K4.out (Nat.le_refl _) K5.out) (Nat.le_refl _) K6.out))
            go_upto_region 13 with fail
            as_aux_lemma =>
              have H8 := Lib.hid (impl_wml (t.extract 0 k) e f p0 q0 true w6 HA.out HAO.out)
              go_wp2_with fail
              refine H8.out.mono ?_
              rintro e w7 ⟨rfl, hb⟩
              have K7 := Lib.hid hb
              clear hb H8
              obtain ⟨w8, hwa⟩ : ∃ wa, wa = (w7.alloc (.cells #[.int .i64 e, .int .i64 f, .int .i64 p0, .int .i64 q0] 53)) := ⟨_, rfl⟩
              have K8 : Hid (Below w7.heap.size w7 w8) := Lib.hid (by rw [hwa]; exact ((Below.refl w7.heap.size w7).alloc (by exact Nat.le_refl _) _))
              obtain ⟨g_ha, hga⟩ : ∃ gg, gg = w7.heap.size := ⟨_, rfl⟩
              have HX_ha : Hid (Bx4 w8 g_ha (e) (f) (p0) (q0)) := Lib.hid (by
                have := (Bx4.new w7 53 (e) (f) (p0) (q0))
                rw [hwa, hga]; simpa using this)
              go_upto_region 14 with fail
              rw [← hwa, ← hga]
              clear hwa hga
              as_aux_lemma =>
                have H9 := Lib.hid (impl_wml (t.extract k t.size) p q r s true w8 HB2.out HBO.out)
                go_wp2_with fail
                refine H9.out.mono ?_
                rintro e w9 ⟨rfl, hb⟩
                have K9 := Lib.hid hb
                clear hb H9
                obtain ⟨w10, hwa⟩ : ∃ wa, wa = (w9.alloc (.cells #[.int .i64 p, .int .i64 q, .int .i64 r, .int .i64 s] 53)) := ⟨_, rfl⟩
                have K10 : Hid (Below w9.heap.size w9 w10) := Lib.hid (by rw [hwa]; exact ((Below.refl w9.heap.size w9).alloc (by exact Nat.le_refl _) _))
                obtain ⟨g_hb2, hga⟩ : ∃ gg, gg = w9.heap.size := ⟨_, rfl⟩
                have HX_hb2 : Hid (Bx4 w10 g_hb2 (p) (q) (r) (s)) := Lib.hid (by
                  have := (Bx4.new w9 53 (p) (q) (r) (s))
                  rw [hwa, hga]; simpa using this)
                go_upto_region 15 with fail
                rw [← hwa, ← hga]
                clear hwa hga
                as_aux_lemma =>
                  obtain ⟨⟨x10_0, x10_1, x10_2, x10_3⟩, _⟩ := (HX_ha.out.kept (below_kept K9.out (Nat.le_refl _) K10.out))
                  obtain ⟨⟨x11_0, x11_1, x11_2, x11_3⟩, _⟩ := HX_hb2.out
                  have H12 := Lib.hid (impl_tml e f p0 q0 p q r s a b c d w10 HAK.out HBK.out HM.out HMK.out)
                  go_wp2_with fail
                  refine H12.out.mono ?_
                  rintro e w11 ⟨rfl, hb⟩
                  have K11 := Lib.hid hb
                  clear hb H12
                  obtain ⟨w12, hwa⟩ : ∃ wa, wa = (w11.alloc (.cells #[.int .i64 a, .int .i64 b, .int .i64 c, .int .i64 d] 53)) := ⟨_, rfl⟩
                  have K12 : Hid (Below w11.heap.size w11 w12) := Lib.hid (by rw [hwa]; exact ((Below.refl w11.heap.size w11).alloc (by exact Nat.le_refl _) _))
                  obtain ⟨g_cc, hga⟩ : ∃ gg, gg = w11.heap.size := ⟨_, rfl⟩
                  have HX_cc : Hid (Bx4 w12 g_cc (a) (b) (c) (d)) := Lib.hid (by
                    have := (Bx4.new w11 53 (a) (b) (c) (d))
                    rw [hwa, hga]; simpa using this)
                  go_upto_region 16 with fail
                  rw [← hwa, ← hga]
                  clear hwa hga
                  obtain ⟨⟨x13_0, x13_1, x13_2, x13_3⟩, _⟩ := (HX_m.out.kept (below_kept (below_kept (below_kept (below_kept (below_kept (below_kept (below_kept (below_kept K4.out (Nat.le_refl _) K5.out) (Nat.le_refl _) K6.out) (Nat.le_refl _) K7.out) (Nat.le_refl _) K8.out) (Nat.le_refl _) K9.out) (Nat.le_refl _) K10.out) (Nat.le_refl _) K11.out) (Nat.le_refl _) K12.out))
                  obtain ⟨⟨x14_0, x14_1, x14_2, x14_3⟩, _⟩ := HX_cc.out
                  go_wp2_with fail
                  go_meet
                  exact (below_kept (below_kept (below_kept (below_kept (below_kept (below_kept K6.out (Nat.le_refl _) K7.out) (Nat.le_refl _) K8.out) (Nat.le_refl _) K9.out) (Nat.le_refl _) K10.out) (Nat.le_refl _) K11.out) (Nat.le_refl _) K12.out)
    case rest =>
      as_aux_lemma =>
        clear HF HOK hKK HX_m HX_right ht
        obtain ⟨v15, hv0⟩ : ∃ v0, v0 = wc := ⟨_, rfl⟩
        subst hv0
        have K6 := Lib.hid hcut
        clear hcut
        have H16 := Lib.hid (spec_DrawWordOfMatrix A2 n2 c2 w.heap.size v15 (H2.out.below (below_kept (below_kept (below_kept (below_kept (below_kept K1.out (Nat.le_refl _) K2.out) (Nat.le_refl _) K3.out) (Nat.le_refl _) K4.out) (Nat.le_refl _) K5.out) (Nat.le_refl _) K6.out)) (below_kept (below_kept (below_kept (below_kept (below_kept K1.out (Nat.le_refl _) K2.out) (Nat.le_refl _) K3.out) (Nat.le_refl _) K4.out) (Nat.le_refl _) K5.out) (Nat.le_refl _) K6.out).size (by omega))
        go_wp2_with fail
        refine H16.out.mono ?_
        rintro e w7 ⟨ka, kb, kc, kd, rfl, hb⟩
        have K7 := Lib.hid hb
        clear hb H16
        obtain ⟨w8, hwa⟩ : ∃ wa, wa = (w7.alloc (.cells #[.int .i64 ka, .int .i64 kb, .int .i64 kc, .int .i64 kd] 53)) := ⟨_, rfl⟩
        have K8 : Hid (Below w7.heap.size w7 w8) := Lib.hid (by rw [hwa]; exact ((Below.refl w7.heap.size w7).alloc (by exact Nat.le_refl _) _))
        obtain ⟨g_k, hga⟩ : ∃ gg, gg = w7.heap.size := ⟨_, rfl⟩
        have HX_k : Hid (Bx4 w8 g_k (ka) (kb) (kc) (kd)) := Lib.hid (by
          have := (Bx4.new w7 53 (ka) (kb) (kc) (kd))
          rw [hwa, hga]; simpa using this)
        go_upto_region 19 with fail
        rw [← hwa, ← hga]
        clear hwa hga
        obtain ⟨⟨R, one⟩, hR⟩ : ∃ R, womR ka kb kc kd = R := ⟨_, rfl⟩
        obtain ⟨u, hu⟩ : ∃ u, bsL R = u := ⟨_, rfl⟩
        have HR := Lib.hid hR
        have HU := Lib.hid hu
        clear hR hu
        have hOO : (one != one) = false := by simp
        obtain ⟨⟨x17_0, x17_1, x17_2, x17_3⟩, _⟩ := HX_k.out
        have H18 := Lib.hid (impl_woml ka kb kc kd R u one w8 HR.out HU.out)
        go_wp2_with fail
        refine H18.out.mono ?_
        rintro e w9 ⟨rfl, hb⟩
        have K9 := Lib.hid hb
        clear hb H18
        obtain ⟨⟨x19_0, x19_1, x19_2, x19_3⟩, _⟩ := (HX_k.out.kept K9.out)
        have H20 := Lib.hid (spec_woml ka kb kc kd R u one w9 HR.out HU.out)
        go_wp2_with fail
        refine H20.out.mono ?_
        rintro e w10 ⟨rfl, hb⟩
        have K10 := Lib.hid hb
        clear hb H20
        have H21 := Lib.hid (spec_DrawMoveFraction A2 n2 c2 w.heap.size w10 (H2.out.below (below_kept (below_kept (below_kept (below_kept (below_kept (below_kept (below_kept (below_kept (below_kept K1.out (Nat.le_refl _) K2.out) (Nat.le_refl _) K3.out) (Nat.le_refl _) K4.out) (Nat.le_refl _) K5.out) (Nat.le_refl _) K6.out) (Nat.le_refl _) K7.out) (Nat.le_refl _) K8.out) (Nat.le_refl _) K9.out) (Nat.le_refl _) K10.out)) (below_kept (below_kept (below_kept (below_kept (below_kept (below_kept (below_kept (below_kept (below_kept K1.out (Nat.le_refl _) K2.out) (Nat.le_refl _) K3.out) (Nat.le_refl _) K4.out) (Nat.le_refl _) K5.out) (Nat.le_refl _) K6.out) (Nat.le_refl _) K7.out) (Nat.le_refl _) K8.out) (Nat.le_refl _) K9.out) (Nat.le_refl _) K10.out).size (by omega))
        go_wp2_with fail
        refine H21.out.mono ?_
        rintro e w11 ⟨pa, pb, pc, pd, x, y, rfl, hb⟩
        have K11 := Lib.hid hb
        clear hb H21
        obtain ⟨w12, hwa⟩ : ∃ wa, wa = ((w11.alloc (.cells #[.int .i64 pa, .int .i64 pb, .int .i64 pc, .int .i64 pd] 53)).alloc (.cells #[.int .i64 x, .int .i64 y] 61)) := ⟨_, rfl⟩
        have K12 : Hid (Below w11.heap.size w11 w12) := Lib.hid (by rw [hwa]; exact (((Below.refl w11.heap.size w11).alloc (by exact Nat.le_refl _) _).alloc (by simp) _))
        obtain ⟨g_p, hga⟩ : ∃ gg, gg = w11.heap.size := ⟨_, rfl⟩
        have HX_p : Hid (Bx4 w12 g_p (pa) (pb) (pc) (pd)) := Lib.hid (by
          have := (Bx4.new w11 53 (pa) (pb) (pc) (pd)).alloc (.cells #[.int .i64 x, .int .i64 y] 61)
          rw [hwa, hga]; simpa using this)
        have HX_f : Hid (Bx2 w12 (g_p + 1) (x) (y)) := Lib.hid (by
          have := (Bx2.new (w11.alloc (.cells #[.int .i64 pa, .int .i64 pb, .int .i64 pc, .int .i64 pd] 53)) 61 (x) (y))
          rw [hwa, hga]; simpa using this)
        go_upto_region 22 with fail
        rw [← hwa, ← hga]
        clear hwa hga
        obtain ⟨⟨X, Y, three⟩, hV⟩ : ∃ V, mvAll pa pb pc pd x y = V := ⟨_, rfl⟩
        have HV := Lib.hid hV
        clear hV
        have hTT : (three != three) = false := by simp
        have hXX : (X != X) = false := by simp
        have hYY : (Y != Y) = false := by simp
        obtain ⟨⟨x22_0, x22_1, x22_2, x22_3⟩, _⟩ := HX_p.out
        obtain ⟨⟨x23_0, x23_1⟩, _⟩ := HX_f.out
        have H24 := Lib.hid (impl_mvl pa pb pc pd x y X Y three w12 HV.out)
        go_wp2_with fail
        refine H24.out.mono ?_
        rintro e w13 ⟨rfl, hb⟩
        have K13 := Lib.hid hb
        clear hb H24
        obtain ⟨⟨x25_0, x25_1, x25_2, x25_3⟩, _⟩ := (HX_p.out.kept K13.out)
        obtain ⟨⟨x26_0, x26_1⟩, _⟩ := (HX_f.out.kept K13.out)
        have H27 := Lib.hid (spec_mvl pa pb pc pd x y X Y three w13 HV.out)
        go_wp2_with fail
        refine H27.out.mono ?_
        rintro e w14 ⟨rfl, hb⟩
        have K14 := Lib.hid hb
        clear hb H27
        go_upto_if 188 with fail
        go_cut [] from 32 to 200 (fun wx => Below w14.heap.size w14 wx)
        case first =>
          as_aux_lemma =>
            clear hOO hTT hXX hYY H2
            cases one
            · go_wp2_with fail
              go_meet
              exact Below.refl _ _
            · obtain ⟨g1, g2⟩ := wom_tells HR.out
              rw [HU.out] at g1 g2
              have HG1 := Lib.hid g1
              have HG2 := Lib.hid g2
              clear g1 g2
              have hEk : ∀ w, (Op.equalIn 10000 53 (.agg #[.int .i64 ka, .int .i64 kb, .int .i64 kc, .int .i64 kd]) (.agg #[.int .i64 ka, .int .i64 kb, .int .i64 kc, .int .i64 kd])).run Try.prog w = .ok true w := fun w => by rw [run_mx_eq, M4.eqB_iff.2 rfl]
              have H28 := Lib.hid (impl_wml u ka kb kc kd true w14 HG2.out HG1.out)
              go_wp2_with fail
              refine H28.out.mono ?_
              rintro e w15 ⟨rfl, hb⟩
              have K15 := Lib.hid hb
              clear hb H28
              obtain ⟨w16, hwa⟩ : ∃ wa, wa = (w15.alloc (.cells #[.int .i64 ka, .int .i64 kb, .int .i64 kc, .int .i64 kd] 53)) := ⟨_, rfl⟩
              have K16 : Hid (Below w15.heap.size w15 w16) := Lib.hid (by rw [hwa]; exact ((Below.refl w15.heap.size w15).alloc (by exact Nat.le_refl _) _))
              obtain ⟨g_again, hga⟩ : ∃ gg, gg = w15.heap.size := ⟨_, rfl⟩
              have HX_again : Hid (Bx4 w16 g_again (ka) (kb) (kc) (kd)) := Lib.hid (by
                have := (Bx4.new w15 53 (ka) (kb) (kc) (kd))
                rw [hwa, hga]; simpa using this)
              go_upto_region 28 with fail
              rw [← hwa, ← hga]
              clear hwa hga
              obtain ⟨⟨x29_0, x29_1, x29_2, x29_3⟩, _⟩ := (HX_k.out.kept (below_kept (below_kept (below_kept (below_kept (below_kept (below_kept (below_kept K9.out (Nat.le_refl _) K10.out) (Nat.le_refl _) K11.out) (Nat.le_refl _) K12.out) (Nat.le_refl _) K13.out) (Nat.le_refl _) K14.out) (Nat.le_refl _) K15.out) (Nat.le_refl _) K16.out))
              obtain ⟨⟨x30_0, x30_1, x30_2, x30_3⟩, _⟩ := HX_again.out
              go_wp2_with fail
              go_meet
              exact (below_kept K15.out (Nat.le_refl _) K16.out)
        case rest =>
          as_aux_lemma =>
            clear HR HU hOO HX_k hTT
            obtain ⟨v31, hv0⟩ : ∃ v0, v0 = wc := ⟨_, rfl⟩
            subst hv0
            have K15 := Lib.hid hcut
            clear hcut
            cases three
            · clear HV HX_p HX_f H2
              go_wp2_with fail
              go_ret
              exact ⟨rfl, (below_kept (below_kept (below_kept (below_kept (below_kept (below_kept (below_kept (below_kept (below_kept (below_kept (below_kept (below_kept (below_kept (below_kept K1.out (Nat.le_refl _) K2.out) (Nat.le_refl _) K3.out) (Nat.le_refl _) K4.out) (Nat.le_refl _) K5.out) (Nat.le_refl _) K6.out) (Nat.le_refl _) K7.out) (Nat.le_refl _) K8.out) (Nat.le_refl _) K9.out) (Nat.le_refl _) K10.out) (Nat.le_refl _) K11.out) (Nat.le_refl _) K12.out) (Nat.le_refl _) K13.out) (Nat.le_refl _) K14.out) (Nat.le_refl _) K15.out)⟩
            · obtain ⟨v1, v2, v3, v4⟩ := mv_all HV.out
              have i1 : ¬ Y < 0 := by omega
              have HV4 := Lib.hid v4
              have HV3 := Lib.hid v3
              clear v4 v3 H2 HV
              by_cases hy0 : Y = 0
              · have hx1 : (X != 1) = false := by rw [v2 hy0]; rfl
                have hyb : (Y == 0) = true := by simpa using hy0
                clear v1 v2 hy0
                by_cases hin : 0 ≤ X ∧ X ≤ 1000000 ∧ Y ≤ 1000000
                · obtain ⟨j1, j2, j3⟩ := hin
                  obtain ⟨g1, g2⟩ := HV4.out j1 j2 j3
                  have HG1 := Lib.hid g1
                  have HG2 := Lib.hid g2
                  clear g1 g2 HV4
                  go_upto_region 35 with fail
                  obtain ⟨w16, hwa⟩ : ∃ wa, wa = (v31.alloc (.cells #[.int .i64 X, .int .i64 Y] 61)) := ⟨_, rfl⟩
                  have K16 : Hid (Below v31.heap.size v31 w16) := Lib.hid (by rw [hwa]; exact ((Below.refl v31.heap.size v31).alloc (by exact Nat.le_refl _) _))
                  obtain ⟨g_mv, hga⟩ : ∃ gg, gg = v31.heap.size := ⟨_, rfl⟩
                  have HX_mv : Hid (Bx2 w16 g_mv (X) (Y)) := Lib.hid (by
                    have := (Bx2.new v31 61 (X) (Y))
                    rw [hwa, hga]; simpa using this)
                  skip
                  rw [← hwa, ← hga]
                  clear hwa hga
                  obtain ⟨⟨x32_0, x32_1, x32_2, x32_3⟩, _⟩ := (HX_p.out.kept (below_kept (below_kept (below_kept K13.out (Nat.le_refl _) K14.out) (Nat.le_refl _) K15.out) (Nat.le_refl _) K16.out))
                  have H33 := Lib.hid (impl_InverseMatrix_yes pa pb pc pd w16 HV3.out)
                  go_wp2_with fail
                  refine H33.out.mono ?_
                  rintro e w17 ⟨rfl, hb⟩
                  have K17 := Lib.hid hb
                  clear hb H33
                  obtain ⟨w18, hwa⟩ : ∃ wa, wa = (w17.alloc (.cells #[.int .i64 pd, .int .i64 (-pb), .int .i64 (-pc), .int .i64 pa] 53)) := ⟨_, rfl⟩
                  have K18 : Hid (Below w17.heap.size w17 w18) := Lib.hid (by rw [hwa]; exact ((Below.refl w17.heap.size w17).alloc (by exact Nat.le_refl _) _))
                  obtain ⟨g_inv, hga⟩ : ∃ gg, gg = w17.heap.size := ⟨_, rfl⟩
                  have HX_inv : Hid (Bx4 w18 g_inv (pd) ((-pb)) ((-pc)) (pa)) := Lib.hid (by
                    have := (Bx4.new w17 53 (pd) ((-pb)) ((-pc)) (pa))
                    rw [hwa, hga]; simpa using this)
                  go_upto_region 36 with fail
                  rw [← hwa, ← hga]
                  clear hwa hga
                  obtain ⟨⟨x34_0, x34_1, x34_2, x34_3⟩, _⟩ := HX_inv.out
                  obtain ⟨⟨x35_0, x35_1⟩, _⟩ := (HX_mv.out.kept (below_kept K17.out (Nat.le_refl _) K18.out))
                  have H36 := Lib.hid (impl_mvl pd (-pb) (-pc) pa X Y x y true w18 HG2.out)
                  go_wp2_with fail
                  refine H36.out.mono ?_
                  rintro e w19 ⟨rfl, hb⟩
                  have K19 := Lib.hid hb
                  clear hb H36
                  obtain ⟨⟨x37_0, x37_1⟩, _⟩ := (HX_mv.out.kept (below_kept (below_kept K17.out (Nat.le_refl _) K18.out) (Nat.le_refl _) K19.out))
                  have H38 := Lib.hid (impl_isf X Y w19 HG1.out)
                  go_wp2_with fail
                  refine H38.out.mono ?_
                  rintro e w20 ⟨rfl, hb⟩
                  have K20 := Lib.hid hb
                  clear hb H38
                  obtain ⟨⟨x39_0, x39_1⟩, _⟩ := (HX_f.out.kept (below_kept (below_kept (below_kept (below_kept (below_kept (below_kept (below_kept K13.out (Nat.le_refl _) K14.out) (Nat.le_refl _) K15.out) (Nat.le_refl _) K16.out) (Nat.le_refl _) K17.out) (Nat.le_refl _) K18.out) (Nat.le_refl _) K19.out) (Nat.le_refl _) K20.out))
                  have hxx : (x != x) = false := by simp
                  have hyy : (y != y) = false := by simp
                  go_wp2_with fail
                  go_ret
                  exact ⟨rfl, (below_kept (below_kept (below_kept (below_kept (below_kept (below_kept (below_kept (below_kept (below_kept (below_kept (below_kept (below_kept (below_kept (below_kept (below_kept (below_kept (below_kept (below_kept (below_kept K1.out (Nat.le_refl _) K2.out) (Nat.le_refl _) K3.out) (Nat.le_refl _) K4.out) (Nat.le_refl _) K5.out) (Nat.le_refl _) K6.out) (Nat.le_refl _) K7.out) (Nat.le_refl _) K8.out) (Nat.le_refl _) K9.out) (Nat.le_refl _) K10.out) (Nat.le_refl _) K11.out) (Nat.le_refl _) K12.out) (Nat.le_refl _) K13.out) (Nat.le_refl _) K14.out) (Nat.le_refl _) K15.out) (Nat.le_refl _) K16.out) (Nat.le_refl _) K17.out) (Nat.le_refl _) K18.out) (Nat.le_refl _) K19.out) (Nat.le_refl _) K20.out)⟩
                · clear HV4 HV3 HX_p HX_f
                  by_cases j1 : 0 ≤ X
                  · by_cases j2 : X ≤ 1000000
                    · have j3 : ¬ Y ≤ 1000000 := fun h => hin ⟨j1, j2, h⟩
                      clear hin
                      go_wp2_with fail
                      go_ret
                      exact ⟨rfl, (below_kept (below_kept (below_kept (below_kept (below_kept (below_kept (below_kept (below_kept (below_kept (below_kept (below_kept (below_kept (below_kept (below_kept K1.out (Nat.le_refl _) K2.out) (Nat.le_refl _) K3.out) (Nat.le_refl _) K4.out) (Nat.le_refl _) K5.out) (Nat.le_refl _) K6.out) (Nat.le_refl _) K7.out) (Nat.le_refl _) K8.out) (Nat.le_refl _) K9.out) (Nat.le_refl _) K10.out) (Nat.le_refl _) K11.out) (Nat.le_refl _) K12.out) (Nat.le_refl _) K13.out) (Nat.le_refl _) K14.out) (Nat.le_refl _) K15.out)⟩
                    · clear hin
                      go_wp2_with fail
                      go_ret
                      exact ⟨rfl, (below_kept (below_kept (below_kept (below_kept (below_kept (below_kept (below_kept (below_kept (below_kept (below_kept (below_kept (below_kept (below_kept (below_kept K1.out (Nat.le_refl _) K2.out) (Nat.le_refl _) K3.out) (Nat.le_refl _) K4.out) (Nat.le_refl _) K5.out) (Nat.le_refl _) K6.out) (Nat.le_refl _) K7.out) (Nat.le_refl _) K8.out) (Nat.le_refl _) K9.out) (Nat.le_refl _) K10.out) (Nat.le_refl _) K11.out) (Nat.le_refl _) K12.out) (Nat.le_refl _) K13.out) (Nat.le_refl _) K14.out) (Nat.le_refl _) K15.out)⟩
                  · clear hin
                    go_wp2_with fail
                    go_ret
                    exact ⟨rfl, (below_kept (below_kept (below_kept (below_kept (below_kept (below_kept (below_kept (below_kept (below_kept (below_kept (below_kept (below_kept (below_kept (below_kept K1.out (Nat.le_refl _) K2.out) (Nat.le_refl _) K3.out) (Nat.le_refl _) K4.out) (Nat.le_refl _) K5.out) (Nat.le_refl _) K6.out) (Nat.le_refl _) K7.out) (Nat.le_refl _) K8.out) (Nat.le_refl _) K9.out) (Nat.le_refl _) K10.out) (Nat.le_refl _) K11.out) (Nat.le_refl _) K12.out) (Nat.le_refl _) K13.out) (Nat.le_refl _) K14.out) (Nat.le_refl _) K15.out)⟩
              · have hyb : (Y == 0) = false := by simpa using hy0
                clear v1 v2 hy0
                by_cases hin : 0 ≤ X ∧ X ≤ 1000000 ∧ Y ≤ 1000000
                · obtain ⟨j1, j2, j3⟩ := hin
                  obtain ⟨g1, g2⟩ := HV4.out j1 j2 j3
                  have HG1 := Lib.hid g1
                  have HG2 := Lib.hid g2
                  clear g1 g2 HV4
                  go_upto_region 35 with fail
                  obtain ⟨w16, hwa⟩ : ∃ wa, wa = (v31.alloc (.cells #[.int .i64 X, .int .i64 Y] 61)) := ⟨_, rfl⟩
                  have K16 : Hid (Below v31.heap.size v31 w16) := Lib.hid (by rw [hwa]; exact ((Below.refl v31.heap.size v31).alloc (by exact Nat.le_refl _) _))
                  obtain ⟨g_mv, hga⟩ : ∃ gg, gg = v31.heap.size := ⟨_, rfl⟩
                  have HX_mv : Hid (Bx2 w16 g_mv (X) (Y)) := Lib.hid (by
                    have := (Bx2.new v31 61 (X) (Y))
                    rw [hwa, hga]; simpa using this)
                  skip
                  rw [← hwa, ← hga]
                  clear hwa hga
                  obtain ⟨⟨x40_0, x40_1, x40_2, x40_3⟩, _⟩ := (HX_p.out.kept (below_kept (below_kept (below_kept K13.out (Nat.le_refl _) K14.out) (Nat.le_refl _) K15.out) (Nat.le_refl _) K16.out))
                  have H41 := Lib.hid (impl_InverseMatrix_yes pa pb pc pd w16 HV3.out)
                  go_wp2_with fail
                  refine H41.out.mono ?_
                  rintro e w17 ⟨rfl, hb⟩
                  have K17 := Lib.hid hb
                  clear hb H41
                  obtain ⟨w18, hwa⟩ : ∃ wa, wa = (w17.alloc (.cells #[.int .i64 pd, .int .i64 (-pb), .int .i64 (-pc), .int .i64 pa] 53)) := ⟨_, rfl⟩
                  have K18 : Hid (Below w17.heap.size w17 w18) := Lib.hid (by rw [hwa]; exact ((Below.refl w17.heap.size w17).alloc (by exact Nat.le_refl _) _))
                  obtain ⟨g_inv, hga⟩ : ∃ gg, gg = w17.heap.size := ⟨_, rfl⟩
                  have HX_inv : Hid (Bx4 w18 g_inv (pd) ((-pb)) ((-pc)) (pa)) := Lib.hid (by
                    have := (Bx4.new w17 53 (pd) ((-pb)) ((-pc)) (pa))
                    rw [hwa, hga]; simpa using this)
                  go_upto_region 36 with fail
                  rw [← hwa, ← hga]
                  clear hwa hga
                  obtain ⟨⟨x42_0, x42_1, x42_2, x42_3⟩, _⟩ := HX_inv.out
                  obtain ⟨⟨x43_0, x43_1⟩, _⟩ := (HX_mv.out.kept (below_kept K17.out (Nat.le_refl _) K18.out))
                  have H44 := Lib.hid (impl_mvl pd (-pb) (-pc) pa X Y x y true w18 HG2.out)
                  go_wp2_with fail
                  refine H44.out.mono ?_
                  rintro e w19 ⟨rfl, hb⟩
                  have K19 := Lib.hid hb
                  clear hb H44
                  obtain ⟨⟨x45_0, x45_1⟩, _⟩ := (HX_mv.out.kept (below_kept (below_kept K17.out (Nat.le_refl _) K18.out) (Nat.le_refl _) K19.out))
                  have H46 := Lib.hid (impl_isf X Y w19 HG1.out)
                  go_wp2_with fail
                  refine H46.out.mono ?_
                  rintro e w20 ⟨rfl, hb⟩
                  have K20 := Lib.hid hb
                  clear hb H46
                  obtain ⟨⟨x47_0, x47_1⟩, _⟩ := (HX_f.out.kept (below_kept (below_kept (below_kept (below_kept (below_kept (below_kept (below_kept K13.out (Nat.le_refl _) K14.out) (Nat.le_refl _) K15.out) (Nat.le_refl _) K16.out) (Nat.le_refl _) K17.out) (Nat.le_refl _) K18.out) (Nat.le_refl _) K19.out) (Nat.le_refl _) K20.out))
                  have hxx : (x != x) = false := by simp
                  have hyy : (y != y) = false := by simp
                  go_wp2_with fail
                  go_ret
                  exact ⟨rfl, (below_kept (below_kept (below_kept (below_kept (below_kept (below_kept (below_kept (below_kept (below_kept (below_kept (below_kept (below_kept (below_kept (below_kept (below_kept (below_kept (below_kept (below_kept (below_kept K1.out (Nat.le_refl _) K2.out) (Nat.le_refl _) K3.out) (Nat.le_refl _) K4.out) (Nat.le_refl _) K5.out) (Nat.le_refl _) K6.out) (Nat.le_refl _) K7.out) (Nat.le_refl _) K8.out) (Nat.le_refl _) K9.out) (Nat.le_refl _) K10.out) (Nat.le_refl _) K11.out) (Nat.le_refl _) K12.out) (Nat.le_refl _) K13.out) (Nat.le_refl _) K14.out) (Nat.le_refl _) K15.out) (Nat.le_refl _) K16.out) (Nat.le_refl _) K17.out) (Nat.le_refl _) K18.out) (Nat.le_refl _) K19.out) (Nat.le_refl _) K20.out)⟩
                · clear HV4 HV3 HX_p HX_f
                  by_cases j1 : 0 ≤ X
                  · by_cases j2 : X ≤ 1000000
                    · have j3 : ¬ Y ≤ 1000000 := fun h => hin ⟨j1, j2, h⟩
                      clear hin
                      go_wp2_with fail
                      go_ret
                      exact ⟨rfl, (below_kept (below_kept (below_kept (below_kept (below_kept (below_kept (below_kept (below_kept (below_kept (below_kept (below_kept (below_kept (below_kept (below_kept K1.out (Nat.le_refl _) K2.out) (Nat.le_refl _) K3.out) (Nat.le_refl _) K4.out) (Nat.le_refl _) K5.out) (Nat.le_refl _) K6.out) (Nat.le_refl _) K7.out) (Nat.le_refl _) K8.out) (Nat.le_refl _) K9.out) (Nat.le_refl _) K10.out) (Nat.le_refl _) K11.out) (Nat.le_refl _) K12.out) (Nat.le_refl _) K13.out) (Nat.le_refl _) K14.out) (Nat.le_refl _) K15.out)⟩
                    · clear hin
                      go_wp2_with fail
                      go_ret
                      exact ⟨rfl, (below_kept (below_kept (below_kept (below_kept (below_kept (below_kept (below_kept (below_kept (below_kept (below_kept (below_kept (below_kept (below_kept (below_kept K1.out (Nat.le_refl _) K2.out) (Nat.le_refl _) K3.out) (Nat.le_refl _) K4.out) (Nat.le_refl _) K5.out) (Nat.le_refl _) K6.out) (Nat.le_refl _) K7.out) (Nat.le_refl _) K8.out) (Nat.le_refl _) K9.out) (Nat.le_refl _) K10.out) (Nat.le_refl _) K11.out) (Nat.le_refl _) K12.out) (Nat.le_refl _) K13.out) (Nat.le_refl _) K14.out) (Nat.le_refl _) K15.out)⟩
                  · clear hin
                    go_wp2_with fail
                    go_ret
                    exact ⟨rfl, (below_kept (below_kept (below_kept (below_kept (below_kept (below_kept (below_kept (below_kept (below_kept (below_kept (below_kept (below_kept (below_kept (below_kept K1.out (Nat.le_refl _) K2.out) (Nat.le_refl _) K3.out) (Nat.le_refl _) K4.out) (Nat.le_refl _) K5.out) (Nat.le_refl _) K6.out) (Nat.le_refl _) K7.out) (Nat.le_refl _) K8.out) (Nat.le_refl _) K9.out) (Nat.le_refl _) K10.out) (Nat.le_refl _) K11.out) (Nat.le_refl _) K12.out) (Nat.le_refl _) K13.out) (Nat.le_refl _) K14.out) (Nat.le_refl _) K15.out)⟩
  · clear HB H1 H2 hb
    go_wp2
    go_ret
    exact ⟨rfl, Below.refl _ _⟩
end Go.Proofs.Ytfkkbjbgjmaciaa

/- Arguments of a general law opened: slices of bytes. -/
namespace Go.Proofs.Ytfkkbjbgjmaciaa
set_option linter.unusedVariables false
open Go.ChangeShapes Go.WideShapes Go.ChangeAt Go.RowKit Go.Joins Go.Deep

namespace Opens
section
variable {H : Type} {enc : TypeId × Value → H} {P : Program} {w : World} {base : Nat} {spare : Nat → Bool} {held : Bool}
theorem bytes_ {r : Reach} {b0 : Nat} {t e : TypeId} {v : Value} {d : DataW H} {p : List MemPlace} (hs : P.underlying t = some (.slice e)) (he : P.underlying e = some (.int .u8)) (hC : P.cellsOf e = 1)
    (hv : Value.okWide P w r b0 t v) (h : DataW.Trod enc P w base spare held t v d p) :
    ∃ (A : Option Addr) (n c : Nat), v = .slice A n c ∧ CodeB w w.heap.size A n ∧ n ≤ maxLen := by
  obtain ⟨A, n, c, rfl⟩ := okWide_slice hs hv
  obtain ⟨fuel, hf⟩ := h
  rcases open_ints hs he hC hf with ⟨hcs, _⟩ | ⟨a, len, cap, zs, hcs, _, hl, hm, hz, _, hcell, hwz⟩
  · simp [Value.cells] at hcs
    obtain ⟨rfl, rfl, rfl⟩ := hcs
    exact ⟨none, 0, 0, rfl, fun h => by omega, by simp [maxLen]⟩
  · simp [Value.cells] at hcs
    obtain ⟨rfl, rfl, rfl⟩ := hcs
    have hle : n ≤ zs.length := by rw [hz]; split <;> omega
    refine ⟨some a, n, c, rfl, fun h0 => ?_, by omega⟩
    have hc0 := hcell 0 (by omega)
    obtain ⟨b, off, spot⟩ := a
    have hsp : spot = none := by simpa [Addr.add] using World.cell?_spot hc0
    subst hsp
    refine ⟨b, off, rfl, ?_, fun j hj => ?_⟩
    · have := World.block_lt_of_cell? w _ hc0
      simpa [Addr.add] using this
    · have hcj := hcell j (by omega)
      rw [Addr.add_lit] at hcj
      have hj2 : j < zs.length := by omega
      refine ⟨zs.getD j 0, bounds_u8 (hwz _ ?_), hcj⟩
      rw [List.getD_eq_getElem?_getD, List.getElem?_eq_getElem hj2]
      exact List.getElem_mem hj2
end
end Opens
end Go.Proofs.Ytfkkbjbgjmaciaa

/- The law of WordsTold: the frame round the walk. No conditions. -/
namespace Go.Proofs.Ytfkkbjbgjmaciaa.lawWordsTold
open Go.ChangeShapes Go.WideShapes Go.ChangeAt Go.RowKit Go.Joins
open Go.ChangeMaps (open_string shut_string)
set_option linter.unusedVariables false

set_option maxRecDepth 100000 in
theorem lifted (os : Os) (started : os.Started) (H : Type) (enc : TypeId × Value → H) :
    ReturnsInHanded {} Try.checked os 5 .any (Rows.fnWordsToldSpec.pre6 enc Try.prog Try.f5 Rows.fnWordsToldRow.domain false) (Rows.fnWordsToldSpec.post enc Try.prog Try.f5 false true false false) := by
  refine returnsInHanded_of_change (C := Try.checked) own started (by kernel_rfl) Try.func5
    (ChangeSpec.witness6 (enc := enc) (C := Try.checked) false ⟨#[], #[.slice none 0 0, .slice none 0 0], []⟩ 8 (by kernel_rfl) (by kernel_rfl) (by kernel_rfl) (by kernel_rfl)) ?_
  intro W base args ds gs before hval0 hW hcnd _
  have hval : ∀ (j : Nat) t v, Try.f5.params[j]? = some t → args[j]? = some v → Value.okWide Try.prog W .any base t v := hval0
  have hW' := hW
  obtain ⟨p, q, hA0, hV, rfl, hfz, hnd⟩ := hW
  have hA : DataW.TrodAll enc Try.prog W 0 (fun _ => true) true Try.f5.params.toList args.toList ds p := hA0
  rw [Try.params5] at hA hval
  obtain ⟨v0, vs0, d0, ds0, p0, q0, hargs, rfl, rfl, h0, r0⟩ := trodAll_cons hA
  obtain ⟨v1, vs1, d1, ds1, p1, q1, rfl, rfl, rfl, h1, r1⟩ := trodAll_cons r0
  obtain ⟨rfl, rfl, rfl⟩ := trodAll_nil r1
  obtain rfl : args = #[v0, v1] := by cases args; simp_all
  obtain ⟨rfl, rfl⟩ := trodVars_none hV
  have k0 := h0
  have lt0 : ∀ x ∈ p0, x.block < W.heap.size := by obtain ⟨m, hm⟩ := k0; exact DataW.trod_lt m _ _ _ hm
  obtain ⟨A0, n0, c0, rfl, s0, j0⟩ := Opens.bytes_ Try.underlying22 Try.underlying5 (by kernel_rfl) (hval 0 22 v0 rfl rfl) h0
  have k1 := h1
  have lt1 : ∀ x ∈ p1, x.block < W.heap.size := by obtain ⟨m, hm⟩ := k1; exact DataW.trod_lt m _ _ _ hm
  obtain ⟨A1, n1, c1, rfl, s1, j1⟩ := Opens.bytes_ Try.underlying22 Try.underlying5 (by kernel_rfl) (hval 1 22 v1 rfl rfl) h1
  clear hA0 hval0
  refine (WWordsTold.walk W A0 n0 c0 s0 j0 A1 n1 c1 s1 j1).mono fun e W' ⟨he, bel⟩ => ?_
  subst he
  exact ⟨_, rfl, _, _, _, [], _, [], hW', trodAll_mk1 (shut_bool Try.underlying4 _), (trodAll_cons_mk (Below.trod laidOut (by kernel_rfl) (of_decide_eq_true (by kernel_rfl)) k0 bel lt0) (trodAll_cons_mk (Below.trod laidOut (by kernel_rfl) (of_decide_eq_true (by kernel_rfl)) k1 bel lt1) trodAll_mk0)), rfl, bel.frame _, fun h => by cases h⟩

theorem over : Rows.fnWordsToldRow.holds Try.pinned (OpenSpec.ofChange Rows.fnWordsToldSpec) :=
  OpenClaim.holds_of_wide 5 Try.f5 rfl rfl rfl rfl rfl rfl rfl ⟨rfl, rfl, rfl, rfl, rfl⟩ rfl rfl rfl rfl rfl (by kernel_rfl) Try.func5 (by kernel_rfl)
    (of_decide_eq_true (by kernel_rfl)) (by unfold Func.isWrapper; first | (rw [if_pos (by decide +kernel)]; kernel_rfl) | (rw [if_neg (by decide +kernel)]; exact ⟨rfl, rfl⟩))
    (fun os started H enc _ => lifted os started H enc)

theorem proved : Rows.FnWordsToldSaid := over
#print axioms proved
end Go.Proofs.Ytfkkbjbgjmaciaa.lawWordsTold
