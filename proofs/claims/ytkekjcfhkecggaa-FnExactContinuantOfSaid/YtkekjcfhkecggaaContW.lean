/- IsTermList, ContinuantOf, PlusContinuantOf: the model's and the program's contracts, and the laws' walks. -/
import Derived.Test.YtkekjcfhkecggaaContI
import Derived.Test.YtkekjcfhkecggaaIsTermListC
import Derived.Test.YtkekjcfhkecggaaContinuantOfC
import Derived.Test.YtkekjcfhkecggaaPlusContinuantOfC
namespace Go.Proofs.Ytkekjcfhkecggaa
set_option linter.unusedVariables false
open Go.RowKit

theorem spec_IsTermList (A : Option Addr) (c B : Nat) (l : List Int) (w : World) (h : SlI w B A l) (hl : l.length ≤ 1048576) :
    Calls Try.prog 15 #[.slice A l.length c] w fun e w' => e = .returned (.bool (good l)) ∧ Below w.heap.size w w' := by
  go_enter Try.func15, Try.ntmps15
  go_wp2_with fail
  refine (spec_ctGood A _ c B l _ rfl h hl).mono ?_
  rintro e w1 ⟨rfl, rfl⟩
  clear h
  go_wp2
  go_ret
  exact ⟨rfl, Below.refl _ _⟩

theorem WIsTermList.walk (w : World) (A : Option Addr) (c : Nat) (l : List Int) (h : SlI w w.heap.size A l)
    (hj : l.length ≤ c ∧ c ≤ maxLen ∧ ∀ x ∈ l, (Lit.int .i64 x).wf = true) :
    Calls Try.prog 3 #[.slice A l.length c] w fun e w' => e = .returned (.bool true) ∧ Below w.heap.size w w' :=
  WIsTermList.core w A c l h hj.1 hj.2.1 (good l)
    (Lib.hid fun A c w h hl hlc => spec_IsTermList A c _ l w h hl)
    (Lib.hid fun A c w h hl hlc => (impl_IsTermList A _ c _ l w rfl h hl).mono fun e w' ⟨he, hw⟩ => by subst hw; exact ⟨he, Below.refl _ _⟩)

/-- the continuant, 0 of what are no terms -/
def ctR (s : Int) (l : List Int) : Int := if good l = true then ctv s l else 0
def CtEnd (s : Int) (l : List Int) (w : World) (e : Ending) (w' : World) : Prop := e = .returned (.tuple #[.int .i64 (ctR s l), .bool (good l)]) ∧ Below w.heap.size w w'
theorem ctEnd_no {s : Int} {l : List Int} {w w' : World} (h : good l = false) (hb : Below w.heap.size w w') : CtEnd s l w (.returned (.tuple #[.int .i64 0, .bool false])) w' := by
  unfold CtEnd ctR
  rw [h]
  exact ⟨rfl, hb⟩
theorem ctEnd_yes {s : Int} {l : List Int} {w w' : World} (h : good l = true) (hb : Below w.heap.size w w') : CtEnd s l w (.returned (.tuple #[.int .i64 (ctv s l), .bool true])) w' := by
  unfold CtEnd ctR
  rw [h]
  exact ⟨rfl, hb⟩

theorem spec_ContinuantOf (A : Option Addr) (c B : Nat) (l : List Int) (w : World) (h : SlI w B A l) (hl : l.length ≤ 1048576) :
    Calls Try.prog 19 #[.slice A l.length c] w (CtEnd (-1) l w) := by
  go_enter Try.func19, Try.ntmps19
  go_wp2_with fail
  refine (spec_ctGood A _ c B l _ rfl h hl).mono ?_
  rintro e w1 ⟨rfl, rfl⟩
  cases hg : good l
  · have Hres := Lib.hid (ctEnd_no (s := -1) hg (Below.refl w.heap.size w))
    clear h
    go_wp2
    go_ret2
    exact Hres.out
  · have Hres := Lib.hid (ctEnd_yes (s := -1) hg (Below.refl w.heap.size w))
    have Hg := Lib.hid hg
    go_wp2_with fail
    refine (spec_ctValue A _ c B l (-1) _ rfl (.inr rfl) h (good_small Hg.out) (good_iff.1 Hg.out).1).mono ?_
    rintro e w1 ⟨rfl, rfl⟩
    clear h
    go_wp2
    go_ret2
    exact Hres.out
theorem spec_PlusContinuantOf (A : Option Addr) (c B : Nat) (l : List Int) (w : World) (h : SlI w B A l) (hl : l.length ≤ 1048576) :
    Calls Try.prog 21 #[.slice A l.length c] w (CtEnd 1 l w) := by
  go_enter Try.func21, Try.ntmps21
  go_wp2_with fail
  refine (spec_ctGood A _ c B l _ rfl h hl).mono ?_
  rintro e w1 ⟨rfl, rfl⟩
  cases hg : good l
  · have Hres := Lib.hid (ctEnd_no (s := 1) hg (Below.refl w.heap.size w))
    clear h
    go_wp2
    go_ret2
    exact Hres.out
  · have Hres := Lib.hid (ctEnd_yes (s := 1) hg (Below.refl w.heap.size w))
    have Hg := Lib.hid hg
    go_wp2_with fail
    refine (spec_ctValue A _ c B l 1 _ rfl (.inl rfl) h (good_small Hg.out) (good_iff.1 Hg.out).1).mono ?_
    rintro e w1 ⟨rfl, rfl⟩
    clear h
    go_wp2
    go_ret2
    exact Hres.out

theorem impl_ContinuantOf (A : Option Addr) (c B : Nat) (l : List Int) (w : World) (h : SlI w B A l) (hl : l.length ≤ 1048576) (hlc : l.length ≤ c) :
    Calls Try.prog 20 #[.slice A l.length c] w (CtEnd (-1) l w) := by
  go_enter Try.func20, Try.ntmps20
  go_wp2_with fail
  refine (impl_IsTermList A _ c B l _ rfl h hl).mono ?_
  rintro e w1 ⟨rfl, rfl⟩
  cases hg : good l
  · have Hres := Lib.hid (ctEnd_no (s := -1) hg (Below.refl w.heap.size w))
    clear h
    go_wp2
    go_ret2
    exact Hres.out
  · have Hres := Lib.hid fun k => ctEnd_yes (s := -1) hg (below_drewN (Below.refl w.heap.size w) k)
    have Hg := Lib.hid hg
    go_wp2_with fail
    refine (impl_continuant A _ c B l _ rfl (good_iff.1 Hg.out).1 hlc h (good_small Hg.out)).mono ?_
    rintro e w1 ⟨rfl, k, rfl⟩
    clear h
    go_wp2
    go_ret2
    exact Hres.out k
theorem impl_PlusContinuantOf (A : Option Addr) (c B : Nat) (l : List Int) (w : World) (h : SlI w B A l) (hl : l.length ≤ 1048576) (hlc : l.length ≤ c) :
    Calls Try.prog 22 #[.slice A l.length c] w (CtEnd 1 l w) := by
  go_enter Try.func22, Try.ntmps22
  go_wp2_with fail
  refine (impl_IsTermList A _ c B l _ rfl h hl).mono ?_
  rintro e w1 ⟨rfl, rfl⟩
  cases hg : good l
  · have Hres := Lib.hid (ctEnd_no (s := 1) hg (Below.refl w.heap.size w))
    clear h
    go_wp2
    go_ret2
    exact Hres.out
  · have Hres := Lib.hid fun k => ctEnd_yes (s := 1) hg (below_drewN (Below.refl w.heap.size w) k)
    have Hg := Lib.hid hg
    go_wp2_with fail
    refine (impl_plusContinuant A _ c B l _ rfl (good_iff.1 Hg.out).1 hlc h (good_small Hg.out)).mono ?_
    rintro e w1 ⟨rfl, k, rfl⟩
    clear h
    go_wp2
    go_ret2
    exact Hres.out k

theorem WContinuantOf.walk (w : World) (A : Option Addr) (c : Nat) (l : List Int) (h : SlI w w.heap.size A l)
    (hj : l.length ≤ c ∧ c ≤ maxLen ∧ ∀ x ∈ l, (Lit.int .i64 x).wf = true) :
    Calls Try.prog 4 #[.slice A l.length c] w fun e w' => e = .returned (.bool true) ∧ Below w.heap.size w w' :=
  WContinuantOf.core w A c l h hj.1 hj.2.1 (ctR (-1) l) (good l)
    (Lib.hid fun A c w h hl hlc => spec_ContinuantOf A c _ l w h hl)
    (Lib.hid fun A c w h hl hlc => impl_ContinuantOf A c _ l w h hl hlc)
theorem WPlusContinuantOf.walk (w : World) (A : Option Addr) (c : Nat) (l : List Int) (h : SlI w w.heap.size A l)
    (hj : l.length ≤ c ∧ c ≤ maxLen ∧ ∀ x ∈ l, (Lit.int .i64 x).wf = true) :
    Calls Try.prog 5 #[.slice A l.length c] w fun e w' => e = .returned (.bool true) ∧ Below w.heap.size w w' :=
  WPlusContinuantOf.core w A c l h hj.1 hj.2.1 (ctR 1 l) (good l)
    (Lib.hid fun A c w h hl hlc => spec_PlusContinuantOf A c _ l w h hl)
    (Lib.hid fun A c w h hl hlc => impl_PlusContinuantOf A c _ l w h hl hlc)
end Go.Proofs.Ytkekjcfhkecggaa
