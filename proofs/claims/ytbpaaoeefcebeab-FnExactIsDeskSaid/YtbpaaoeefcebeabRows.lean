/-
  No cell of these rows narrows 'for every input' (looked for: loops, veiled, ifaces, maps, wideKeys, modest, calm, conditions, laid).
  DERIVED. THE GIVEN ROWS OF THIS SEAT. 12 by the template 'for every input the law returns true; each argument reads behind the call as it read before'; 0 by the template 'total and deterministic' (their statements: YtbpaaoeefcebeabTotals.lean).
  GIVEN WITH THE SEED: the statements are not yours to turn. If you find one false, say at which input.
  Laid BY PROGRAM, IN A SANDBOX (cutbox-rows.mjs): the forced cells as the released guide's own fill.sh prints them over the translation 77a175a9842d5cf1… (all of the seat's roots in one cut). By AI agents, Wed Nov 11 2026. No macro, syntax, notation, axiom, sorry.
-/
import Derived.Test.YtbpaaoeefcebeabChecked
import GoSem.Claim
import GoSem.ClaimJoined
import GoSem.ClaimMapViews
import Derived.JoinedTies
import Derived.KernelRfl
namespace Go.Proofs.Ytbpaaoeefcebeab
/- THE CELL 'sum', in the pinned program and in every row, IS THE sha256 OF THE DUMP (.gsa) THAT YtbpaaoeefcebeabProg.lean LOADS. Nothing in Lean hashes anything: it is a label: what it is worth is what the hold of that sum in a sandbox is worth. -/
noncomputable def Try.pinned : Pinned := { name := "ytbpaaoeefcebeab", sum := "77a175a9842d5cf1c0964a5bb1dacaffefc75579d04ca32507619cff5ab1601a", checked := Try.checked }
namespace Rows
def none {H : Type} : Left H := { results := [], args := [] }

/-- 'laws.FnExactRankOfTriangulation': WHATEVER THE INPUT: true; the input reads as it did. -/
def fnExactRankOfTriangulationSpec : ChangeSpec := { name := "fnExactRankOfTriangulation", fn := fun _ => fun
  | [d1, d2] => { results := [.lit (.bool true)], args := [d1, d2] }
  | _ => none }
def fnExactRankOfTriangulationRow : OpenClaim := { program := "ytbpaaoeefcebeab", sum := "77a175a9842d5cf1c0964a5bb1dacaffefc75579d04ca32507619cff5ab1601a", func := "loop.example/g01236/laws.FnExactRankOfTriangulation", spec := "fnExactRankOfTriangulation", unfollowed := true, recurses := true, apart := false }
def FnExactRankOfTriangulationSaid : Prop := fnExactRankOfTriangulationRow.holds Try.pinned (OpenSpec.ofChange fnExactRankOfTriangulationSpec)

/-- ITS FALSE NEIGHBOUR: 'it returns false'. Refute it at one input. -/
def fnExactRankOfTriangulationWrong : ChangeSpec := { name := "fnExactRankOfTriangulation", fn := fun _ => fun
  | [d1, d2] => { results := [.lit (.bool false)], args := [d1, d2] }
  | _ => none }
def FnExactRankOfTriangulationWrongFalsely : Prop := fnExactRankOfTriangulationRow.holds Try.pinned (OpenSpec.ofChange fnExactRankOfTriangulationWrong)

/-- 'laws.FnExactTriangulationOfRank': WHATEVER THE INPUT: true; the input reads as it did. -/
def fnExactTriangulationOfRankSpec : ChangeSpec := { name := "fnExactTriangulationOfRank", fn := fun _ => fun
  | [d1, d2] => { results := [.lit (.bool true)], args := [d1, d2] }
  | _ => none }
def fnExactTriangulationOfRankRow : OpenClaim := { program := "ytbpaaoeefcebeab", sum := "77a175a9842d5cf1c0964a5bb1dacaffefc75579d04ca32507619cff5ab1601a", func := "loop.example/g01236/laws.FnExactTriangulationOfRank", spec := "fnExactTriangulationOfRank", unfollowed := true, recurses := true, apart := false }
def FnExactTriangulationOfRankSaid : Prop := fnExactTriangulationOfRankRow.holds Try.pinned (OpenSpec.ofChange fnExactTriangulationOfRankSpec)

/-- ITS FALSE NEIGHBOUR: 'it returns false'. Refute it at one input. -/
def fnExactTriangulationOfRankWrong : ChangeSpec := { name := "fnExactTriangulationOfRank", fn := fun _ => fun
  | [d1, d2] => { results := [.lit (.bool false)], args := [d1, d2] }
  | _ => none }
def FnExactTriangulationOfRankWrongFalsely : Prop := fnExactTriangulationOfRankRow.holds Try.pinned (OpenSpec.ofChange fnExactTriangulationOfRankWrong)

/-- 'laws.FnExactLeastTurned': WHATEVER THE INPUT: true; the input reads as it did. -/
def fnExactLeastTurnedSpec : ChangeSpec := { name := "fnExactLeastTurned", fn := fun _ => fun
  | [d1, d2] => { results := [.lit (.bool true)], args := [d1, d2] }
  | _ => none }
def fnExactLeastTurnedRow : OpenClaim := { program := "ytbpaaoeefcebeab", sum := "77a175a9842d5cf1c0964a5bb1dacaffefc75579d04ca32507619cff5ab1601a", func := "loop.example/g01236/laws.FnExactLeastTurned", spec := "fnExactLeastTurned", unfollowed := true, recurses := true, apart := false }
def FnExactLeastTurnedSaid : Prop := fnExactLeastTurnedRow.holds Try.pinned (OpenSpec.ofChange fnExactLeastTurnedSpec)

/-- ITS FALSE NEIGHBOUR: 'it returns false'. Refute it at one input. -/
def fnExactLeastTurnedWrong : ChangeSpec := { name := "fnExactLeastTurned", fn := fun _ => fun
  | [d1, d2] => { results := [.lit (.bool false)], args := [d1, d2] }
  | _ => none }
def FnExactLeastTurnedWrongFalsely : Prop := fnExactLeastTurnedRow.holds Try.pinned (OpenSpec.ofChange fnExactLeastTurnedWrong)

/-- 'laws.FnExactLeastOfClass': WHATEVER THE INPUT: true; the input reads as it did. -/
def fnExactLeastOfClassSpec : ChangeSpec := { name := "fnExactLeastOfClass", fn := fun _ => fun
  | [d1, d2] => { results := [.lit (.bool true)], args := [d1, d2] }
  | _ => none }
def fnExactLeastOfClassRow : OpenClaim := { program := "ytbpaaoeefcebeab", sum := "77a175a9842d5cf1c0964a5bb1dacaffefc75579d04ca32507619cff5ab1601a", func := "loop.example/g01236/laws.FnExactLeastOfClass", spec := "fnExactLeastOfClass", unfollowed := true, recurses := true, apart := false }
def FnExactLeastOfClassSaid : Prop := fnExactLeastOfClassRow.holds Try.pinned (OpenSpec.ofChange fnExactLeastOfClassSpec)

/-- ITS FALSE NEIGHBOUR: 'it returns false'. Refute it at one input. -/
def fnExactLeastOfClassWrong : ChangeSpec := { name := "fnExactLeastOfClass", fn := fun _ => fun
  | [d1, d2] => { results := [.lit (.bool false)], args := [d1, d2] }
  | _ => none }
def FnExactLeastOfClassWrongFalsely : Prop := fnExactLeastOfClassRow.holds Try.pinned (OpenSpec.ofChange fnExactLeastOfClassWrong)

/-- 'laws.FnExactCountTurned': WHATEVER THE INPUT: true; the input reads as it did. -/
def fnExactCountTurnedSpec : ChangeSpec := { name := "fnExactCountTurned", fn := fun _ => fun
  | [d] => { results := [.lit (.bool true)], args := [d] }
  | _ => none }
def fnExactCountTurnedRow : OpenClaim := { program := "ytbpaaoeefcebeab", sum := "77a175a9842d5cf1c0964a5bb1dacaffefc75579d04ca32507619cff5ab1601a", func := "loop.example/g01236/laws.FnExactCountTurned", spec := "fnExactCountTurned", unfollowed := true, recurses := true, apart := false }
def FnExactCountTurnedSaid : Prop := fnExactCountTurnedRow.holds Try.pinned (OpenSpec.ofChange fnExactCountTurnedSpec)

/-- ITS FALSE NEIGHBOUR: 'it returns false'. Refute it at one input. -/
def fnExactCountTurnedWrong : ChangeSpec := { name := "fnExactCountTurned", fn := fun _ => fun
  | [d] => { results := [.lit (.bool false)], args := [d] }
  | _ => none }
def FnExactCountTurnedWrongFalsely : Prop := fnExactCountTurnedRow.holds Try.pinned (OpenSpec.ofChange fnExactCountTurnedWrong)

/-- 'laws.FnExactCountClasses': WHATEVER THE INPUT: true; the input reads as it did. -/
def fnExactCountClassesSpec : ChangeSpec := { name := "fnExactCountClasses", fn := fun _ => fun
  | [d] => { results := [.lit (.bool true)], args := [d] }
  | _ => none }
def fnExactCountClassesRow : OpenClaim := { program := "ytbpaaoeefcebeab", sum := "77a175a9842d5cf1c0964a5bb1dacaffefc75579d04ca32507619cff5ab1601a", func := "loop.example/g01236/laws.FnExactCountClasses", spec := "fnExactCountClasses", unfollowed := true, recurses := true, apart := false }
def FnExactCountClassesSaid : Prop := fnExactCountClassesRow.holds Try.pinned (OpenSpec.ofChange fnExactCountClassesSpec)

/-- ITS FALSE NEIGHBOUR: 'it returns false'. Refute it at one input. -/
def fnExactCountClassesWrong : ChangeSpec := { name := "fnExactCountClasses", fn := fun _ => fun
  | [d] => { results := [.lit (.bool false)], args := [d] }
  | _ => none }
def FnExactCountClassesWrongFalsely : Prop := fnExactCountClassesRow.holds Try.pinned (OpenSpec.ofChange fnExactCountClassesWrong)

/-- 'laws.FnExactAllClasses': WHATEVER THE INPUT: true; the input reads as it did. -/
def fnExactAllClassesSpec : ChangeSpec := { name := "fnExactAllClasses", fn := fun _ => fun
  | [d] => { results := [.lit (.bool true)], args := [d] }
  | _ => none }
def fnExactAllClassesRow : OpenClaim := { program := "ytbpaaoeefcebeab", sum := "77a175a9842d5cf1c0964a5bb1dacaffefc75579d04ca32507619cff5ab1601a", func := "loop.example/g01236/laws.FnExactAllClasses", spec := "fnExactAllClasses", unfollowed := true, recurses := true, apart := false }
def FnExactAllClassesSaid : Prop := fnExactAllClassesRow.holds Try.pinned (OpenSpec.ofChange fnExactAllClassesSpec)

/-- ITS FALSE NEIGHBOUR: 'it returns false'. Refute it at one input. -/
def fnExactAllClassesWrong : ChangeSpec := { name := "fnExactAllClasses", fn := fun _ => fun
  | [d] => { results := [.lit (.bool false)], args := [d] }
  | _ => none }
def FnExactAllClassesWrongFalsely : Prop := fnExactAllClassesRow.holds Try.pinned (OpenSpec.ofChange fnExactAllClassesWrong)

/-- 'laws.FnExactCountSymmetric': WHATEVER THE INPUT: true; the input reads as it did. -/
def fnExactCountSymmetricSpec : ChangeSpec := { name := "fnExactCountSymmetric", fn := fun _ => fun
  | [d1, d2] => { results := [.lit (.bool true)], args := [d1, d2] }
  | _ => none }
def fnExactCountSymmetricRow : OpenClaim := { program := "ytbpaaoeefcebeab", sum := "77a175a9842d5cf1c0964a5bb1dacaffefc75579d04ca32507619cff5ab1601a", func := "loop.example/g01236/laws.FnExactCountSymmetric", spec := "fnExactCountSymmetric", unfollowed := true, recurses := true, apart := false }
def FnExactCountSymmetricSaid : Prop := fnExactCountSymmetricRow.holds Try.pinned (OpenSpec.ofChange fnExactCountSymmetricSpec)

/-- ITS FALSE NEIGHBOUR: 'it returns false'. Refute it at one input. -/
def fnExactCountSymmetricWrong : ChangeSpec := { name := "fnExactCountSymmetric", fn := fun _ => fun
  | [d1, d2] => { results := [.lit (.bool false)], args := [d1, d2] }
  | _ => none }
def FnExactCountSymmetricWrongFalsely : Prop := fnExactCountSymmetricRow.holds Try.pinned (OpenSpec.ofChange fnExactCountSymmetricWrong)

/-- 'laws.FnExactIsOwnMirror': WHATEVER THE INPUT: true; the input reads as it did. -/
def fnExactIsOwnMirrorSpec : ChangeSpec := { name := "fnExactIsOwnMirror", fn := fun _ => fun
  | [d1, d2] => { results := [.lit (.bool true)], args := [d1, d2] }
  | _ => none }
def fnExactIsOwnMirrorRow : OpenClaim := { program := "ytbpaaoeefcebeab", sum := "77a175a9842d5cf1c0964a5bb1dacaffefc75579d04ca32507619cff5ab1601a", func := "loop.example/g01236/laws.FnExactIsOwnMirror", spec := "fnExactIsOwnMirror", unfollowed := true, recurses := true, apart := false }
def FnExactIsOwnMirrorSaid : Prop := fnExactIsOwnMirrorRow.holds Try.pinned (OpenSpec.ofChange fnExactIsOwnMirrorSpec)

/-- ITS FALSE NEIGHBOUR: 'it returns false'. Refute it at one input. -/
def fnExactIsOwnMirrorWrong : ChangeSpec := { name := "fnExactIsOwnMirror", fn := fun _ => fun
  | [d1, d2] => { results := [.lit (.bool false)], args := [d1, d2] }
  | _ => none }
def FnExactIsOwnMirrorWrongFalsely : Prop := fnExactIsOwnMirrorRow.holds Try.pinned (OpenSpec.ofChange fnExactIsOwnMirrorWrong)

/-- 'laws.FnExactAllQuiddities': WHATEVER THE INPUT: true; the input reads as it did. -/
def fnExactAllQuidditiesSpec : ChangeSpec := { name := "fnExactAllQuiddities", fn := fun _ => fun
  | [d] => { results := [.lit (.bool true)], args := [d] }
  | _ => none }
def fnExactAllQuidditiesRow : OpenClaim := { program := "ytbpaaoeefcebeab", sum := "77a175a9842d5cf1c0964a5bb1dacaffefc75579d04ca32507619cff5ab1601a", func := "loop.example/g01236/laws.FnExactAllQuiddities", spec := "fnExactAllQuiddities", unfollowed := true, recurses := true, apart := false }
def FnExactAllQuidditiesSaid : Prop := fnExactAllQuidditiesRow.holds Try.pinned (OpenSpec.ofChange fnExactAllQuidditiesSpec)

/-- ITS FALSE NEIGHBOUR: 'it returns false'. Refute it at one input. -/
def fnExactAllQuidditiesWrong : ChangeSpec := { name := "fnExactAllQuiddities", fn := fun _ => fun
  | [d] => { results := [.lit (.bool false)], args := [d] }
  | _ => none }
def FnExactAllQuidditiesWrongFalsely : Prop := fnExactAllQuidditiesRow.holds Try.pinned (OpenSpec.ofChange fnExactAllQuidditiesWrong)

/-- 'laws.FnExactFirstDesk': WHATEVER THE INPUT: true; the input reads as it did. -/
def fnExactFirstDeskSpec : ChangeSpec := { name := "fnExactFirstDesk", fn := fun _ => fun
  | [] => { results := [.lit (.bool true)], args := [] }
  | _ => none }
def fnExactFirstDeskRow : OpenClaim := { program := "ytbpaaoeefcebeab", sum := "77a175a9842d5cf1c0964a5bb1dacaffefc75579d04ca32507619cff5ab1601a", func := "loop.example/g01236/laws.FnExactFirstDesk", spec := "fnExactFirstDesk", apart := false }
def FnExactFirstDeskSaid : Prop := fnExactFirstDeskRow.holds Try.pinned (OpenSpec.ofChange fnExactFirstDeskSpec)

/-- ITS FALSE NEIGHBOUR: 'it returns false'. Refute it at one input. -/
def fnExactFirstDeskWrong : ChangeSpec := { name := "fnExactFirstDesk", fn := fun _ => fun
  | [] => { results := [.lit (.bool false)], args := [] }
  | _ => none }
def FnExactFirstDeskWrongFalsely : Prop := fnExactFirstDeskRow.holds Try.pinned (OpenSpec.ofChange fnExactFirstDeskWrong)

/-- 'laws.FnExactIsDesk': WHATEVER THE INPUT: true; the input reads as it did. -/
def fnExactIsDeskSpec : ChangeSpec := { name := "fnExactIsDesk", fn := fun _ => fun
  | [d] => { results := [.lit (.bool true)], args := [d] }
  | _ => none }
def fnExactIsDeskRow : OpenClaim := { program := "ytbpaaoeefcebeab", sum := "77a175a9842d5cf1c0964a5bb1dacaffefc75579d04ca32507619cff5ab1601a", func := "loop.example/g01236/laws.FnExactIsDesk", spec := "fnExactIsDesk", unfollowed := true, recurses := true, apart := false }
def FnExactIsDeskSaid : Prop := fnExactIsDeskRow.holds Try.pinned (OpenSpec.ofChange fnExactIsDeskSpec)

/-- ITS FALSE NEIGHBOUR: 'it returns false'. Refute it at one input. -/
def fnExactIsDeskWrong : ChangeSpec := { name := "fnExactIsDesk", fn := fun _ => fun
  | [d] => { results := [.lit (.bool false)], args := [d] }
  | _ => none }
def FnExactIsDeskWrongFalsely : Prop := fnExactIsDeskRow.holds Try.pinned (OpenSpec.ofChange fnExactIsDeskWrong)

/- THE SECOND FORM. 'bulk': how many values and letters a reading holds, each counted each time it is reached (what is shared counts as often as it is met; a slice's spare places count too). A statement '..UptoSaid' is the law's where the arguments, and the package variables that the reading takes, are together of bulk at most 1048576: NARROWER than '..Said'. Prove '..Said' where nothing that the law and all that it calls make is longer than what came in: it says more and counts as full. Else prove '..UptoSaid'. A law counts once. -/
mutual
def uptoBulk {H : Type} : DataW H → Nat
  | .lit (.string bytes) => bytes.length + 1
  | .lit _ => 1
  | .nil => 1
  | .ptr d => uptoBulk d + 1
  | .slice elems spare => uptoBulkAll elems + uptoBulkAll spare + 1
  | .agg parts => uptoBulkAll parts + 1
  | .iface _ d => uptoBulk d + 1
  | .map entries => uptoBulkEntries entries + 1
  | .held _ => 1
def uptoBulkAll {H : Type} : List (DataW H) → Nat
  | [] => 0
  | d :: r => uptoBulk d + uptoBulkAll r
def uptoBulkEntries {H : Type} : List (Lit × DataW H) → Nat
  | [] => 0
  | x :: r => uptoBulkEntry x + uptoBulkEntries r
def uptoBulkEntry {H : Type} : Lit × DataW H → Nat
  | (.string bytes, d) => bytes.length + uptoBulk d + 1
  | (_, d) => uptoBulk d + 1
 end
def uptoSmall : (H : Type) → List (DataW H) → Bool := fun _ ds => decide (uptoBulkAll ds ≤ 1048576)
def OpenSpec.upto (s : _root_.Go.ChangeSpec) : _root_.Go.OpenSpec := { _root_.Go.OpenSpec.ofChange s with cond := some uptoSmall }

/-- 'laws.FnExactRankOfTriangulation', WHERE WHAT IT READS IS OF BULK AT MOST 1048576: true; the input reads as it did. -/
def fnExactRankOfTriangulationUptoRow : OpenClaim := { program := "ytbpaaoeefcebeab", sum := "77a175a9842d5cf1c0964a5bb1dacaffefc75579d04ca32507619cff5ab1601a", func := "loop.example/g01236/laws.FnExactRankOfTriangulation", spec := "fnExactRankOfTriangulation", unfollowed := true, recurses := true, apart := false, narrowed := true }
def FnExactRankOfTriangulationUptoSaid : Prop := fnExactRankOfTriangulationUptoRow.holds Try.pinned (OpenSpec.upto fnExactRankOfTriangulationSpec)

/-- 'laws.FnExactTriangulationOfRank', WHERE WHAT IT READS IS OF BULK AT MOST 1048576: true; the input reads as it did. -/
def fnExactTriangulationOfRankUptoRow : OpenClaim := { program := "ytbpaaoeefcebeab", sum := "77a175a9842d5cf1c0964a5bb1dacaffefc75579d04ca32507619cff5ab1601a", func := "loop.example/g01236/laws.FnExactTriangulationOfRank", spec := "fnExactTriangulationOfRank", unfollowed := true, recurses := true, apart := false, narrowed := true }
def FnExactTriangulationOfRankUptoSaid : Prop := fnExactTriangulationOfRankUptoRow.holds Try.pinned (OpenSpec.upto fnExactTriangulationOfRankSpec)

/-- 'laws.FnExactLeastTurned', WHERE WHAT IT READS IS OF BULK AT MOST 1048576: true; the input reads as it did. -/
def fnExactLeastTurnedUptoRow : OpenClaim := { program := "ytbpaaoeefcebeab", sum := "77a175a9842d5cf1c0964a5bb1dacaffefc75579d04ca32507619cff5ab1601a", func := "loop.example/g01236/laws.FnExactLeastTurned", spec := "fnExactLeastTurned", unfollowed := true, recurses := true, apart := false, narrowed := true }
def FnExactLeastTurnedUptoSaid : Prop := fnExactLeastTurnedUptoRow.holds Try.pinned (OpenSpec.upto fnExactLeastTurnedSpec)

/-- 'laws.FnExactLeastOfClass', WHERE WHAT IT READS IS OF BULK AT MOST 1048576: true; the input reads as it did. -/
def fnExactLeastOfClassUptoRow : OpenClaim := { program := "ytbpaaoeefcebeab", sum := "77a175a9842d5cf1c0964a5bb1dacaffefc75579d04ca32507619cff5ab1601a", func := "loop.example/g01236/laws.FnExactLeastOfClass", spec := "fnExactLeastOfClass", unfollowed := true, recurses := true, apart := false, narrowed := true }
def FnExactLeastOfClassUptoSaid : Prop := fnExactLeastOfClassUptoRow.holds Try.pinned (OpenSpec.upto fnExactLeastOfClassSpec)

/-- 'laws.FnExactCountTurned', WHERE WHAT IT READS IS OF BULK AT MOST 1048576: true; the input reads as it did. -/
def fnExactCountTurnedUptoRow : OpenClaim := { program := "ytbpaaoeefcebeab", sum := "77a175a9842d5cf1c0964a5bb1dacaffefc75579d04ca32507619cff5ab1601a", func := "loop.example/g01236/laws.FnExactCountTurned", spec := "fnExactCountTurned", unfollowed := true, recurses := true, apart := false, narrowed := true }
def FnExactCountTurnedUptoSaid : Prop := fnExactCountTurnedUptoRow.holds Try.pinned (OpenSpec.upto fnExactCountTurnedSpec)

/-- 'laws.FnExactCountClasses', WHERE WHAT IT READS IS OF BULK AT MOST 1048576: true; the input reads as it did. -/
def fnExactCountClassesUptoRow : OpenClaim := { program := "ytbpaaoeefcebeab", sum := "77a175a9842d5cf1c0964a5bb1dacaffefc75579d04ca32507619cff5ab1601a", func := "loop.example/g01236/laws.FnExactCountClasses", spec := "fnExactCountClasses", unfollowed := true, recurses := true, apart := false, narrowed := true }
def FnExactCountClassesUptoSaid : Prop := fnExactCountClassesUptoRow.holds Try.pinned (OpenSpec.upto fnExactCountClassesSpec)

/-- 'laws.FnExactAllClasses', WHERE WHAT IT READS IS OF BULK AT MOST 1048576: true; the input reads as it did. -/
def fnExactAllClassesUptoRow : OpenClaim := { program := "ytbpaaoeefcebeab", sum := "77a175a9842d5cf1c0964a5bb1dacaffefc75579d04ca32507619cff5ab1601a", func := "loop.example/g01236/laws.FnExactAllClasses", spec := "fnExactAllClasses", unfollowed := true, recurses := true, apart := false, narrowed := true }
def FnExactAllClassesUptoSaid : Prop := fnExactAllClassesUptoRow.holds Try.pinned (OpenSpec.upto fnExactAllClassesSpec)

/-- 'laws.FnExactCountSymmetric', WHERE WHAT IT READS IS OF BULK AT MOST 1048576: true; the input reads as it did. -/
def fnExactCountSymmetricUptoRow : OpenClaim := { program := "ytbpaaoeefcebeab", sum := "77a175a9842d5cf1c0964a5bb1dacaffefc75579d04ca32507619cff5ab1601a", func := "loop.example/g01236/laws.FnExactCountSymmetric", spec := "fnExactCountSymmetric", unfollowed := true, recurses := true, apart := false, narrowed := true }
def FnExactCountSymmetricUptoSaid : Prop := fnExactCountSymmetricUptoRow.holds Try.pinned (OpenSpec.upto fnExactCountSymmetricSpec)

/-- 'laws.FnExactIsOwnMirror', WHERE WHAT IT READS IS OF BULK AT MOST 1048576: true; the input reads as it did. -/
def fnExactIsOwnMirrorUptoRow : OpenClaim := { program := "ytbpaaoeefcebeab", sum := "77a175a9842d5cf1c0964a5bb1dacaffefc75579d04ca32507619cff5ab1601a", func := "loop.example/g01236/laws.FnExactIsOwnMirror", spec := "fnExactIsOwnMirror", unfollowed := true, recurses := true, apart := false, narrowed := true }
def FnExactIsOwnMirrorUptoSaid : Prop := fnExactIsOwnMirrorUptoRow.holds Try.pinned (OpenSpec.upto fnExactIsOwnMirrorSpec)

/-- 'laws.FnExactAllQuiddities', WHERE WHAT IT READS IS OF BULK AT MOST 1048576: true; the input reads as it did. -/
def fnExactAllQuidditiesUptoRow : OpenClaim := { program := "ytbpaaoeefcebeab", sum := "77a175a9842d5cf1c0964a5bb1dacaffefc75579d04ca32507619cff5ab1601a", func := "loop.example/g01236/laws.FnExactAllQuiddities", spec := "fnExactAllQuiddities", unfollowed := true, recurses := true, apart := false, narrowed := true }
def FnExactAllQuidditiesUptoSaid : Prop := fnExactAllQuidditiesUptoRow.holds Try.pinned (OpenSpec.upto fnExactAllQuidditiesSpec)

/-- 'laws.FnExactFirstDesk', WHERE WHAT IT READS IS OF BULK AT MOST 1048576: true; the input reads as it did. -/
def fnExactFirstDeskUptoRow : OpenClaim := { program := "ytbpaaoeefcebeab", sum := "77a175a9842d5cf1c0964a5bb1dacaffefc75579d04ca32507619cff5ab1601a", func := "loop.example/g01236/laws.FnExactFirstDesk", spec := "fnExactFirstDesk", apart := false, narrowed := true }
def FnExactFirstDeskUptoSaid : Prop := fnExactFirstDeskUptoRow.holds Try.pinned (OpenSpec.upto fnExactFirstDeskSpec)

/-- 'laws.FnExactIsDesk', WHERE WHAT IT READS IS OF BULK AT MOST 1048576: true; the input reads as it did. -/
def fnExactIsDeskUptoRow : OpenClaim := { program := "ytbpaaoeefcebeab", sum := "77a175a9842d5cf1c0964a5bb1dacaffefc75579d04ca32507619cff5ab1601a", func := "loop.example/g01236/laws.FnExactIsDesk", spec := "fnExactIsDesk", unfollowed := true, recurses := true, apart := false, narrowed := true }
def FnExactIsDeskUptoSaid : Prop := fnExactIsDeskUptoRow.holds Try.pinned (OpenSpec.upto fnExactIsDeskSpec)

end Rows
end Go.Proofs.Ytbpaaoeefcebeab
