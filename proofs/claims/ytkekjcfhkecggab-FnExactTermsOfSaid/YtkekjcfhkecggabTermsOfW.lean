/- TermsOf: the law's walk. -/
import Derived.Test.YtkekjcfhkecggabTmsI
namespace Go.Proofs.Ytkekjcfhkecggab
set_option linter.unusedVariables false
open Go.RowKit

theorem tmR'_yes {l : List Int} (h : good l = true) : tmR' l = tms l 1 := if_pos h
theorem retT'_no {l : List Int} {w w' : World} (h : good l = false) (hb : Below w.heap.size w w') : RetI w (tmR' l) (good l) (.returned (.tuple #[.slice none 0 0, .bool false])) w' := by
  have e : tmR' l = [] := if_neg (by rw [h]; simp)
  rw [e, h]
  exact ⟨none, 0, rfl, World.ownsRow_nil _ _ _ _, hb⟩
theorem retT'_yes {l : List Int} {n : Nat} {w w' : World} {A : Option Addr} {c : Nat} (h : good l = true) (hn : (tms l 1).length = n) (ho : w'.ownsRow w.heap.size 3 1 (.slice A n c) n (ics (tms l 1))) (hb : Below w.heap.size w w') :
    RetI w (tmR' l) (good l) (.returned (.tuple #[.slice A n c, .bool true])) w' := by
  rw [tmR'_yes h, h]
  subst hn
  exact ⟨A, c, rfl, ho, hb⟩

theorem spec_TermsOf (A : Option Addr) (c B : Nat) (l : List Int) (w : World) (h : SlI w B A l) (hB : B ≤ w.heap.size) (hl : l.length ≤ 1048576) (hlc : l.length ≤ c) :
    Calls Try.prog 19 #[.slice A l.length c] w (RetI w (tmR' l) (good l)) := by
  obtain ⟨n, hn⟩ : ∃ n, l.length = n := ⟨_, rfl⟩
  rw [hn] at hl hlc ⊢
  have Hn := Lib.hid hn
  go_enter Try.func19, Try.ntmps19
  go_wp2_with fail
  refine (spec_ctGood A _ c B l _ Hn.out h hl).mono ?_
  rintro e w1 ⟨rfl, rfl⟩
  cases hg : good l
  · have HE := Lib.hid (retT'_no (w := w) hg (Below.refl _ _))
    clear h hn hg
    go_wp2
    go_ret2
    exact HE.out
  · have Hg := Lib.hid hg
    have hcall := spec_ctTerms A n c B l hn (by have := (good_iff.1 hg).1; omega) hlc (good_small hg) n 0 1 w (by omega) (by omega) Bd.one h hB
    rw [List.drop_zero] at hcall
    have Hcall := Lib.hid hcall
    clear hcall hn hg h
    go_wp2_with fail
    refine Hcall.out.mono ?_
    rintro e w2 ⟨A2, c2, n2, rfl, hn2, o2, b2⟩
    have HE := Lib.hid (retT'_yes (w := w) Hg.out hn2 o2 b2)
    clear o2 b2 hn2
    go_wp2
    go_ret2
    exact HE.out

/-- the closure's three boxes, as they lie before its first call -/
theorem tell_start {w : World} {A : Option Addr} {n c B : Nat} {l : List Int} (F : Value) (hs : SlI w B A l) (hB : B ≤ w.heap.size) {W3 : World} (hW : W3 = ((w.alloc (.cells #[.slice A n c] 22)).alloc (.cells #[.slice none 0 0] 22)).alloc (.cells #[F] 44)) :
    TS W3 w.heap.size (.slice A n c) F none 0 0 [] ∧ SlI W3 B A l ∧ Below w.heap.size w W3 := by
  obtain ⟨W1, hW1⟩ : ∃ W1, W1 = w.alloc (.cells #[.slice A n c] 22) := ⟨_, rfl⟩
  obtain ⟨W2, hW2⟩ : ∃ W2, W2 = W1.alloc (.cells #[.slice none 0 0] 22) := ⟨_, rfl⟩
  have s1 : W1.heap.size = w.heap.size + 1 := by rw [hW1]; exact World.size_alloc _ _
  have s2 : W2.heap.size = w.heap.size + 1 + 1 := by rw [hW2, World.size_alloc, s1]
  rw [← hW1, ← hW2] at hW
  have s3 : W3.heap.size = w.heap.size + 1 + 1 + 1 := by rw [hW, World.size_alloc, s2]
  have b1 : Below w.heap.size w W1 := by rw [hW1]; exact (Below.refl _ _).alloc (Nat.le_refl _) _
  have b12 : Below W1.heap.size W1 W2 := by rw [hW2]; exact (Below.refl _ _).alloc (Nat.le_refl _) _
  have b23 : Below W2.heap.size W2 W3 := by rw [hW]; exact (Below.refl _ _).alloc (Nat.le_refl _) _
  have c1 : W1.cell? ⟨w.heap.size, 0, none⟩ = some (.slice A n c) := by rw [hW1]; exact World.cell?_alloc_new w _ _ 0
  have c3 : W3.cell? ⟨w.heap.size + 2, 0, none⟩ = some F := by
    have := World.cell?_alloc_new W2 #[F] 44 0
    rw [← hW, s2] at this
    exact this
  have q2 : W2.ownsRow w.heap.size 22 1 (.slice (some ⟨w.heap.size + 1, 0, none⟩) 1 1) 1 [.slice none 0 0] := by
    rw [hW2, ← s1]
    exact ⟨rfl, .inr ⟨W1.heap.size, 1, _, rfl, by omega, heap_alloc_new W1 _, Nat.le_refl _, by unfold maxLen; decide, rfl, rfl⟩⟩
  have b03 : Below w.heap.size w W3 := (b1.trans (b12.mono (by omega))).trans (b23.mono (by omega))
  exact ⟨⟨own_kept q2 b23, cell_kept b23 (cell_kept b12 c1), c3, rfl, World.ownsRow_nil _ _ _ _, by omega⟩, hs.below (b03.mono hB), b03⟩

set_option maxRecDepth 100000 in
set_option maxHeartbeats 3200000 in
theorem impl_TermsOf (A : Option Addr) (c B : Nat) (l : List Int) (w : World) (h : SlI w B A l) (hB : B ≤ w.heap.size) (hl : l.length ≤ 1048576) (hlc : l.length ≤ c) :
    Calls Try.prog 20 #[.slice A l.length c] w (RetI w (tmR' l) (good l)) := by
  have hmf : ∀ (fn : Fn) (first cap : Array Value) (w : World), (Instr.makeFunc fn first cap).run Try.prog w = .ok (.func fn first cap) w := fun _ _ _ _ => rfl
  obtain ⟨n, hn⟩ : ∃ n, l.length = n := ⟨_, rfl⟩
  rw [hn] at hl hlc ⊢
  have Hn := Lib.hid hn
  have hb1 : Below w.heap.size w (w.alloc (.cells #[.slice A n c] 22)) := (Below.refl _ _).alloc (Nat.le_refl _) _
  have Hs1 := Lib.hid (h.below (hb1.mono hB))
  have Hb1 := Lib.hid hb1
  clear hb1
  go_enter Try.func20, Try.ntmps20
  go_wp2_with fail
  refine (impl_IsTermList A _ c B l _ Hn.out Hs1.out hl).mono ?_
  rintro e w1 ⟨rfl, rfl⟩
  cases hg : good l
  · have HE := Lib.hid (retT'_no (w := w) hg Hb1.out)
    clear h hn hg
    go_wp2
    go_ret2
    exact HE.out
  · have Hg := Lib.hid hg
    have n10 : n ≤ 10 := by have := (good_iff.1 hg).1; omega
    have hsm := good_small hg
    obtain ⟨hT3, hs3, hb3⟩ := tell_start (n := n) (c := c) (.func (.func 49) #[] #[.pointer (some ⟨w.heap.size + 1, 0, none⟩), .pointer (some ⟨w.heap.size, 0, none⟩), .pointer (some ⟨w.heap.size + 1 + 1, 0, none⟩)]) h hB rfl
    have htl : (tms (l.drop 0) 1).length ≤ 100000 := by
      have := tms_len 10 (l.drop 0) 1 (by rw [List.length_drop]; omega)
      show (tmsL (l.drop 0) 1).length + 1 ≤ 100000
      omega
    have Hcall := Lib.hid (impl_tell A n c B w.heap.size l hn n10 hlc hsm hB n 0 1 none 0 0 [] _ (by omega) (by omega) Bd.one hs3 (by simpa using htl) hT3)
    have Hb3 := Lib.hid hb3
    clear h hn hg hsm n10 htl hT3 hs3 hb3
    have hsf : ∀ (a : Addr) (fn : Fn) (first cap : Array Value) (m : Mode) (w : World), (store a (.func fn first cap) m).run Try.prog w = stored Try.prog w a (.func fn first cap) m := fun a fn first cap m w => run_store _ w a _ m rfl
    go_wp2_with fail
    refine Hcall.out.mono ?_
    rintro e w2 ⟨rfl, ⟨A2, c2, d2, hT2⟩, b2⟩
    have g2 : w2.cell? ⟨w.heap.size + 1, 0, none⟩ = some (.slice A2 d2 c2) := hT2.1.cellAt 0 (by omega)
    have ho : w2.ownsRow w.heap.size 3 1 (.slice A2 d2 c2) d2 (ics (tms l 1)) := by
      have := hT2.2.2.2.2.1.mono (show w.heap.size ≤ w.heap.size + 3 by omega)
      rwa [List.nil_append, List.drop_zero] at this
    have HE := Lib.hid (retT'_yes (w := w) Hg.out (by have := hT2.2.2.2.1; rwa [List.nil_append, List.drop_zero] at this) ho (Hb3.out.trans b2))
    clear hT2 b2 ho Hb3 Hs1 Hb1 Hcall
    go_wp2
    go_ret2
    exact HE.out

theorem WTermsOf.walk (w : World) (A : Option Addr) (c : Nat) (l : List Int) (h : SlI w w.heap.size A l)
    (hj : l.length ≤ c ∧ c ≤ maxLen ∧ ∀ x ∈ l, (Lit.int .i64 x).wf = true) :
    Calls Try.prog 5 #[.slice A l.length c] w fun e w' => e = .returned (.bool true) ∧ Below w.heap.size w w' :=
  WTermsOf.core w A c l h hj.1 hj.2.1 (tmR' l) (good l) (tmR'_length l)
    (Lib.hid fun A c w h hl hlc => spec_TermsOf A c _ l w h (Nat.le_refl _) hl hlc)
    (Lib.hid fun A c w h hl hlc => impl_TermsOf A c _ l w h (Nat.le_refl _) hl hlc)
end Go.Proofs.Ytkekjcfhkecggab
