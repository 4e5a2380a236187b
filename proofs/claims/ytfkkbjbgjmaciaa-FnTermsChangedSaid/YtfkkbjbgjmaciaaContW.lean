/- IsTermList, ContinuantOf, PlusContinuantOf: the model's and the program's contracts, and the laws' walks. -/
import Derived.Test.YtfkkbjbgjmaciaaContI
import Derived.Test.YtfkkbjbgjmaciaaLawM
namespace Go.Proofs.Ytfkkbjbgjmaciaa
set_option linter.unusedVariables false
open Go.RowKit

theorem spec_IsTermList (A : Option Addr) (c B : Nat) (l : List Int) (w : World) (h : SlI w B A l) (hl : l.length ≤ 1048576) :
    Calls Try.prog 22 #[.slice A l.length c] w fun e w' => e = .returned (.bool (good l)) ∧ Below w.heap.size w w' := by
  go_enter Try.func22, Try.ntmps22
  go_wp2_with fail
  refine (spec_ctGood A _ c B l _ rfl h hl).mono ?_
  rintro e w1 ⟨rfl, rfl⟩
  clear h
  go_wp2
  go_ret
  exact ⟨rfl, Below.refl _ _⟩

/-- the continuant, 0 of what are no terms -/
def ctR (s : Int) (l : List Int) : Int := if good l = true then ctv s l else 0
def CtEnd (s : Int) (l : List Int) (w : World) (e : Ending) (w' : World) : Prop := e = .returned (.tuple #[.int .i64 (ctR s l), .bool (good l)]) ∧ Below w.heap.size w w'
theorem ctEnd_no {s : Int} {l : List Int} {w w' : World} (h : good l = false) (hb : Below w.heap.size w w') : CtEnd s l w (.returned (.tuple #[.int .i64 0, .bool false])) w' := by
  unfold CtEnd ctR
  rw [h]
  exact ⟨rfl, hb⟩
theorem ctEnd_yes {s : Int} {l : List Int} {w w' : World} (h : good l = true) (hb : Below w.heap.size w w') : CtEnd s l w (.returned (.tuple #[.int .i64 (ctv s l), .bool true])) w' := by
  unfold CtEnd ctR
  rw [h]
  exact ⟨rfl, hb⟩

theorem spec_ContinuantOf (A : Option Addr) (c B : Nat) (l : List Int) (w : World) (h : SlI w B A l) (hl : l.length ≤ 1048576) :
    Calls Try.prog 12 #[.slice A l.length c] w (CtEnd (-1) l w) := by
  go_enter Try.func12, Try.ntmps12
  go_wp2_with fail
  refine (spec_ctGood A _ c B l _ rfl h hl).mono ?_
  rintro e w1 ⟨rfl, rfl⟩
  cases hg : good l
  · have Hres := Lib.hid (ctEnd_no (s := -1) hg (Below.refl w.heap.size w))
    clear h
    go_wp2
    go_ret2
    exact Hres.out
  · have Hres := Lib.hid (ctEnd_yes (s := -1) hg (Below.refl w.heap.size w))
    have Hg := Lib.hid hg
    go_wp2_with fail
    refine (spec_ctValue A _ c B l (-1) _ rfl (.inr rfl) h (good_small Hg.out) (good_iff.1 Hg.out).1).mono ?_
    rintro e w1 ⟨rfl, rfl⟩
    clear h
    go_wp2
    go_ret2
    exact Hres.out
theorem spec_PlusContinuantOf (A : Option Addr) (c B : Nat) (l : List Int) (w : World) (h : SlI w B A l) (hl : l.length ≤ 1048576) :
    Calls Try.prog 14 #[.slice A l.length c] w (CtEnd 1 l w) := by
  go_enter Try.func14, Try.ntmps14
  go_wp2_with fail
  refine (spec_ctGood A _ c B l _ rfl h hl).mono ?_
  rintro e w1 ⟨rfl, rfl⟩
  cases hg : good l
  · have Hres := Lib.hid (ctEnd_no (s := 1) hg (Below.refl w.heap.size w))
    clear h
    go_wp2
    go_ret2
    exact Hres.out
  · have Hres := Lib.hid (ctEnd_yes (s := 1) hg (Below.refl w.heap.size w))
    have Hg := Lib.hid hg
    go_wp2_with fail
    refine (spec_ctValue A _ c B l 1 _ rfl (.inl rfl) h (good_small Hg.out) (good_iff.1 Hg.out).1).mono ?_
    rintro e w1 ⟨rfl, rfl⟩
    clear h
    go_wp2
    go_ret2
    exact Hres.out

theorem impl_ContinuantOf (A : Option Addr) (c B : Nat) (l : List Int) (w : World) (h : SlI w B A l) (hl : l.length ≤ 1048576) (hlc : l.length ≤ c) :
    Calls Try.prog 11 #[.slice A l.length c] w (CtEnd (-1) l w) := by
  go_enter Try.func11, Try.ntmps11
  go_wp2_with fail
  refine (impl_IsTermList A _ c B l _ rfl h hl).mono ?_
  rintro e w1 ⟨rfl, rfl⟩
  cases hg : good l
  · have Hres := Lib.hid (ctEnd_no (s := -1) hg (Below.refl w.heap.size w))
    clear h
    go_wp2
    go_ret2
    exact Hres.out
  · have Hres := Lib.hid fun k => ctEnd_yes (s := -1) hg (below_drewN (Below.refl w.heap.size w) k)
    have Hg := Lib.hid hg
    go_wp2_with fail
    refine (impl_continuant A _ c B l _ rfl (good_iff.1 Hg.out).1 hlc h (good_small Hg.out)).mono ?_
    rintro e w1 ⟨rfl, k, rfl⟩
    clear h
    go_wp2
    go_ret2
    exact Hres.out k
theorem impl_PlusContinuantOf (A : Option Addr) (c B : Nat) (l : List Int) (w : World) (h : SlI w B A l) (hl : l.length ≤ 1048576) (hlc : l.length ≤ c) :
    Calls Try.prog 13 #[.slice A l.length c] w (CtEnd 1 l w) := by
  go_enter Try.func13, Try.ntmps13
  go_wp2_with fail
  refine (impl_IsTermList A _ c B l _ rfl h hl).mono ?_
  rintro e w1 ⟨rfl, rfl⟩
  cases hg : good l
  · have Hres := Lib.hid (ctEnd_no (s := 1) hg (Below.refl w.heap.size w))
    clear h
    go_wp2
    go_ret2
    exact Hres.out
  · have Hres := Lib.hid fun k => ctEnd_yes (s := 1) hg (below_drewN (Below.refl w.heap.size w) k)
    have Hg := Lib.hid hg
    go_wp2_with fail
    refine (impl_plusContinuant A _ c B l _ rfl (good_iff.1 Hg.out).1 hlc h (good_small Hg.out)).mono ?_
    rintro e w1 ⟨rfl, k, rfl⟩
    clear h
    go_wp2
    go_ret2
    exact Hres.out k

end Go.Proofs.Ytfkkbjbgjmaciaa
