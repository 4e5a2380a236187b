/- The laws' own helpers over fractions and lists of them: copied, compared, marked, held, sized; how results of that kind are told. -/
import Derived.Test.YtaifgfmkkgndkaaLawM
import Derived.Test.YtaifgfmkkgndkaaNbB
import Derived.Test.YtaifgfmkkgndkaaMatF
namespace Go.Proofs.Ytaifgfmkkgndkaa
set_option linter.unusedVariables false
open Go.RowKit

theorem infoF : (Try.prog.info? 25).map (fun i => (i.zero, i.size, i.bytes)) = some (some (.agg #[.int .i64 0, .int .i64 0]), 2, 16) := by kernel_rfl

theorem laws_eqFraction (a b : Int) (w : World) :
    Calls Try.prog 24 #[.agg #[.int .i64 a, .int .i64 b], .agg #[.int .i64 a, .int .i64 b]] w fun e w' => e = .returned (.bool true) ∧ Below w.heap.size w w' := by
  go_enter Try.func24, Try.ntmps24
  go_wp2
  go_ret
  exact ⟨rfl, ((Below.refl _ _).alloc (Nat.le_refl _) _).alloc (by simp) _⟩

def RetF (w : World) (L : List (Int × Int)) (ok : Bool) (e : Ending) (w' : World) : Prop :=
  ∃ A c, e = .returned (.tuple #[.slice A L.length c, .bool ok]) ∧ w'.ownsRow w.heap.size 25 2 (.slice A L.length c) L.length (dcs L) ∧ Below w.heap.size w w'

def GivF (w : World) (L : List (Int × Int)) (e : Ending) (w' : World) : Prop :=
  ∃ A c, e = .returned (.slice A L.length c) ∧ w'.ownsRow w.heap.size 25 2 (.slice A L.length c) L.length (dcs L) ∧ Below w.heap.size w w'


end Go.Proofs.Ytaifgfmkkgndkaa
