/- FreeDiagonals: both sides, and the law's walk. -/
import Derived.Test.YtlnnnjnboknoeaaDlDI
import Derived.Test.YtlnnnjnboknoeaaCuFS
import Derived.Test.YtlnnnjnboknoeaaFreeDiagonalsC
namespace Go.Proofs.Ytlnnnjnboknoeaa
set_option linter.unusedVariables false
open Go.RowKit

def freR (n : Int) (l : List (Int × Int)) : List (Int × Int) := if cutB n l = true then freL n.toNat l else []
theorem freR_no {n : Int} {l : List (Int × Int)} (h : cutB n l = false) : freR n l = [] := by unfold freR; rw [h]; rfl
theorem freR_yes {n : Nat} {l : List (Int × Int)} (h : cutB (n : Int) l = true) : freR (n : Int) l = freL n l := by unfold freR; rw [if_pos h, Int.toNat_natCast]
theorem freL_len (n : Nat) (l : List (Int × Int)) (hn : n ≤ 12) : (freL n l).length ≤ 1000 := by
  have h2 := rws_length (freP n l) n n
  have h3 : n * n ≤ 12 * 12 := Nat.mul_le_mul hn hn
  unfold freL
  omega
theorem retD_fre_no {n : Int} {l : List (Int × Int)} {w w' : World} (h : cutB n l = false) (hb : Below w.heap.size w w') : RetD w (freR n l) (cutB n l) (.returned (.tuple #[.slice none 0 0, .bool false])) w' := by
  rw [freR_no h, h]
  exact ⟨none, 0, rfl, World.ownsRow_nil _ _ _ _, hb⟩

set_option maxRecDepth 100000 in
set_option maxHeartbeats 1600000 in
theorem spec_FreeDiagonals (n : Int) (A : Option Addr) (c B : Nat) (l : List (Int × Int)) (w : World) (h : SlD w B A l) (hB : B ≤ w.heap.size) (hl : l.length ≤ 1048576) (hlc : l.length ≤ c) :
    Calls Try.prog 41 #[.int .i64 n, .slice A l.length c] w (RetD w (freR n l) (cutB n l)) := by
  have hcut := spec_cuGood n A c B l w h hB hl hlc
  cases hc : cutB n l
  · have HE := Lib.hid fun w' hb => retD_fre_no (w := w) (w' := w') hc hb
    rw [hc] at hcut HE
    have Hcut := Lib.hid hcut
    clear hcut hc h hl hlc
    go_enter Try.func41, Try.ntmps41
    go_wp2_with fail
    refine Hcut.out.mono ?_
    rintro e w1 ⟨rfl, hb1⟩
    have HF := Lib.hid (HE.out _ hb1)
    clear hb1 HE
    go_wp2
    go_ret2
    exact HF.out
  · have hn := cutB_len hc
    obtain ⟨m, rfl⟩ := Int.eq_ofNat_of_zero_le (show 0 ≤ n by omega)
    have n3 : 3 ≤ m := by omega
    have n12 : m ≤ 12 := by omega
    have hfr := freR_yes hc
    rw [hc] at hcut
    rw [hfr]
    obtain ⟨q, hq⟩ : ∃ q, l.length = q := ⟨_, rfl⟩
    rw [hq] at hcut hl hlc ⊢
    have q9 : q ≤ 9 := by omega
    have Hcut := Lib.hid hcut
    have Hfree := Lib.hid fun (w' : World) (hb : Below w.heap.size w w') => spec_cuFree m A q c B l w' n3 n12 (h.below (hb.mono hB)) (Nat.le_trans hB hb.size) hq (by omega)
    clear hcut hc h hq hfr hn
    generalize freL m l = F at *
    go_enter Try.func41, Try.ntmps41
    go_wp2_with fail
    refine Hcut.out.mono ?_
    rintro e w1 ⟨rfl, hb1⟩
    go_wp2_with fail
    refine (Hfree.out _ hb1).mono ?_
    rintro e w2 ⟨A2, c2, rfl, o2, b2⟩
    have hres : RetD w F true (.returned (.tuple #[.slice A2 F.length c2, .bool true])) w2 := ⟨A2, c2, rfl, o2.mono hb1.size, below_kept hb1 (Nat.le_refl _) b2⟩
    have Hres := Lib.hid hres
    clear hres o2 b2 hb1
    go_wp2
    go_ret2
    exact Hres.out

set_option maxRecDepth 100000 in
set_option maxHeartbeats 3200000 in
theorem impl_FreeDiagonals (n : Int) (A : Option Addr) (c B : Nat) (l : List (Int × Int)) (w : World) (h : SlD w B A l) (hB : B ≤ w.heap.size) (hl : l.length ≤ 1048576) (hlc : l.length ≤ c) :
    Calls Try.prog 42 #[.int .i64 n, .slice A l.length c] w (RetD w (freR n l) (cutB n l)) := by
  have hmf : ∀ (fn : Fn) (first cap : Array Value) (w : World), (Instr.makeFunc fn first cap).run Try.prog w = .ok (.func fn first cap) w := fun _ _ _ _ => rfl
  obtain ⟨q, hq⟩ : ∃ q, l.length = q := ⟨_, rfl⟩
  have Hq := Lib.hid hq
  obtain ⟨W1, hW1⟩ : ∃ W1, W1 = (w.alloc (.cells #[.int .i64 n] 3)).alloc (.cells #[.slice A q c] 25) := ⟨_, rfl⟩
  have hb1 : Below w.heap.size w W1 := by rw [hW1]; exact ((Below.refl _ _).alloc (Nat.le_refl _) _).alloc (by simp) _
  have hz1 : W1.heap.size = w.heap.size + 1 + 1 := by rw [hW1]; simp
  have q0 : W1.cell? ⟨w.heap.size, 0, none⟩ = some (.int .i64 n) := by rw [hW1]; simp [go_sem]
  have q1 : W1.cell? ⟨w.heap.size + 1, 0, none⟩ = some (.slice A q c) := by rw [hW1]; simp [go_sem]
  have hs1 := h.below (hb1.mono hB)
  have hcut := impl_IsCut n A c B l W1 hs1 (Nat.le_trans hB hb1.size) hl hlc
  have HW1 := Lib.hid hW1
  have Hb1 := Lib.hid hb1
  have Hs1 := Lib.hid hs1
  have Q0 := Lib.hid q0
  have Q1 := Lib.hid q1
  have Hz1 := Lib.hid hz1
  rw [hq] at hcut hl hlc ⊢
  cases hc : cutB n l
  · have HE := Lib.hid fun w' hb => retD_fre_no (w := w) (w' := w') hc hb
    rw [hc] at hcut HE
    have Hcut := Lib.hid hcut
    clear hcut hc h hl hlc hq hs1 hb1 hz1 q0 q1 hW1
    go_enter Try.func42, Try.ntmps42
    go_wp2_with fail
    rw [← HW1.out]
    refine Hcut.out.mono ?_
    rintro e w2 ⟨rfl, hb2⟩
    have HF := Lib.hid (HE.out _ (below_kept Hb1.out (Nat.le_refl _) hb2))
    clear hb2 HE
    go_wp2
    go_ret2
    exact HF.out
  · have hn := cutB_len hc
    obtain ⟨m, rfl⟩ := Int.eq_ofNat_of_zero_le (show 0 ≤ n by omega)
    have n3 : 3 ≤ m := by omega
    have n12 : m ≤ 12 := by omega
    have hfr := freR_yes hc
    have hfil : (rws (dB m) m m).filter (addB (m : Int) l) = freL m l := by
      rw [freL_filter]
      congr 1
      funext d
      unfold addB
      rw [hc, Bool.true_and]
    rw [hc] at hcut
    rw [hfr, ← hfil]
    have Hcut := Lib.hid hcut
    have q9 : q ≤ 9 := by omega
    have hT : TellF w.heap.size (w.heap.size + 1) (addB (m : Int) l) W1 := fun x y w' hb =>
      fre_closure w.heap.size (w.heap.size + 1) m A q c B l x y w' ((hb.cell (p := ⟨w.heap.size, 0, none⟩) (by show w.heap.size < _; omega)).trans Q0.out) ((hb.cell (p := ⟨w.heap.size + 1, 0, none⟩) (by show w.heap.size + 1 < _; omega)).trans Q1.out)
        (Hs1.out.below (hb.mono (by omega))) (Nat.le_trans (Nat.le_trans hB Hb1.out.size) hb.size) Hq.out hl hlc
    have HT := Lib.hid hT
    have hll : (rws (dB m) m m).length ≤ 1000 := by
      have h2 := rws_length (dB m) m m
      have h3 : m * m ≤ 12 * 12 := Nat.mul_le_mul n12 n12
      omega
    have Hall := Lib.hid fun w' => impl_allDiagonals m w' n3 n12
    clear hcut hc h hq hfr hn hfil hT hs1 hb1 q0 q1 hW1
    generalize rws (dB m) m m = D at *
    generalize addB (m : Int) l = P at *
    go_enter Try.func42, Try.ntmps42
    go_wp2_with fail
    rw [← HW1.out]
    refine Hcut.out.mono ?_
    rintro e w2 ⟨rfl, hb2⟩
    have r0 : w2.cell? ⟨w.heap.size, 0, none⟩ = some (.int .i64 m) := cell_kept hb2 Q0.out
    have B2 := Lib.hid hb2
    clear hb2
    go_wp2_with fail
    refine (Hall.out _).mono ?_
    rintro e w3 ⟨A3, c3, rfl, o3, b3⟩
    have B3 := Lib.hid (below_kept B2.out (Nat.le_refl _) b3)
    have hdel := deleteFunc_free w.heap.size (w.heap.size + 1) P W1 A3 c3 W1.heap.size D.length D w3 HT.out (B3.out.mono (by omega)) (by omega) B3.out.size (o3.mono B2.out.size) rfl (by omega)
    have Hdel := Lib.hid hdel
    clear hdel o3 b3
    go_wp2_with fail
    refine Hdel.out.mono ?_
    rintro e w4 ⟨A4, c4, rfl, o4, b4⟩
    have hres : RetD w (D.filter P) true (.returned (.tuple #[.slice A4 (D.filter P).length c4, .bool true])) w4 :=
      ⟨A4, c4, rfl, o4.mono Hb1.out.size, Hb1.out.trans ((B3.out.trans b4).mono Hb1.out.size)⟩
    have Hres := Lib.hid hres
    clear hres o4 b4
    go_wp2
    go_ret2
    exact Hres.out
theorem freR_length (n : Int) (l : List (Int × Int)) : (freR n l).length ≤ 1000000000 := by
  cases h : cutB n l
  · rw [freR_no h]; simp
  · have hn := cutB_len h
    obtain ⟨m, rfl⟩ := Int.eq_ofNat_of_zero_le (show 0 ≤ n by omega)
    rw [freR_yes h]
    have := freL_len m l (by omega)
    omega
theorem WFreeDiagonals.walk (w : World) (n : Int) (wn : (Lit.int .i64 n).wf = true) (A : Option Addr) (c : Nat) (l : List (Int × Int)) (h : SlD w w.heap.size A l)
    (hj : l.length ≤ c ∧ c ≤ maxLen ∧ ∀ x ∈ l, (Lit.int .i64 x.1).wf = true ∧ (Lit.int .i64 x.2).wf = true) :
    Calls Try.prog 10 #[.int .i64 n, .slice A l.length c] w fun e w' => e = .returned (.bool true) ∧ Below w.heap.size w w' :=
  WFreeDiagonals.core w n A c l h hj.1 hj.2.1 (freR n l) (cutB n l) (freR_length n l)
    (Lib.hid fun A c w h hl hlc => spec_FreeDiagonals n A c _ l w h (Nat.le_refl _) hl hlc)
    (Lib.hid fun A c w h hl hlc => impl_FreeDiagonals n A c _ l w h (Nat.le_refl _) hl hlc)
end Go.Proofs.Ytlnnnjnboknoeaa
