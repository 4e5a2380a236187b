/-
  No cell of these rows narrows 'for every input' (looked for: loops, veiled, ifaces, maps, wideKeys, modest, calm, conditions, laid).
  DERIVED. THE GIVEN ROWS OF THIS SEAT. 12 by the template 'for every input the law returns true; each argument reads behind the call as it read before'; 0 by the template 'total and deterministic' (their statements: YtlnnnjnboknoeabTotals.lean).
  GIVEN WITH THE SEED: the statements are not yours to turn. If you find one false, say at which input.
  Laid BY PROGRAM, IN A SANDBOX (cutbox-rows.mjs): the forced cells as the released guide's own fill.sh prints them over the translation 9462206b0afa067c… (all of the seat's roots in one cut). By AI agents, Wed Nov 11 2026. No macro, syntax, notation, axiom, sorry.
-/
import Derived.Test.YtlnnnjnboknoeabChecked
import GoSem.Claim
import GoSem.ClaimJoined
import GoSem.ClaimMapViews
import Derived.JoinedTies
import Derived.KernelRfl
namespace Go.Proofs.Ytlnnnjnboknoeab
/- THE CELL 'sum', in the pinned program and in every row, IS THE sha256 OF THE DUMP (.gsa) THAT YtlnnnjnboknoeabProg.lean LOADS. Nothing in Lean hashes anything: it is a label: what it is worth is what the hold of that sum in a sandbox is worth. -/
noncomputable def Try.pinned : Pinned := { name := "ytlnnnjnboknoeab", sum := "9462206b0afa067cedb0627ed5ea1378f6105f36ed89e4264d0f99a918e5ab5d", checked := Try.checked }
namespace Rows
def none {H : Type} : Left H := { results := [], args := [] }

/-- 'laws.FnExactCountCuts': WHATEVER THE INPUT: true; the input reads as it did. -/
def fnExactCountCutsSpec : ChangeSpec := { name := "fnExactCountCuts", fn := fun _ => fun
  | [d1, d2] => { results := [.lit (.bool true)], args := [d1, d2] }
  | _ => none }
def fnExactCountCutsRow : OpenClaim := { program := "ytlnnnjnboknoeab", sum := "9462206b0afa067cedb0627ed5ea1378f6105f36ed89e4264d0f99a918e5ab5d", func := "loop.example/g01236/laws.FnExactCountCuts", spec := "fnExactCountCuts", apart := false }
def FnExactCountCutsSaid : Prop := fnExactCountCutsRow.holds Try.pinned (OpenSpec.ofChange fnExactCountCutsSpec)

/-- ITS FALSE NEIGHBOUR: 'it returns false'. Refute it at one input. -/
def fnExactCountCutsWrong : ChangeSpec := { name := "fnExactCountCuts", fn := fun _ => fun
  | [d1, d2] => { results := [.lit (.bool false)], args := [d1, d2] }
  | _ => none }
def FnExactCountCutsWrongFalsely : Prop := fnExactCountCutsRow.holds Try.pinned (OpenSpec.ofChange fnExactCountCutsWrong)

/-- 'laws.FnExactCountAllCuts': WHATEVER THE INPUT: true; the input reads as it did. -/
def fnExactCountAllCutsSpec : ChangeSpec := { name := "fnExactCountAllCuts", fn := fun _ => fun
  | [d] => { results := [.lit (.bool true)], args := [d] }
  | _ => none }
def fnExactCountAllCutsRow : OpenClaim := { program := "ytlnnnjnboknoeab", sum := "9462206b0afa067cedb0627ed5ea1378f6105f36ed89e4264d0f99a918e5ab5d", func := "loop.example/g01236/laws.FnExactCountAllCuts", spec := "fnExactCountAllCuts", apart := false }
def FnExactCountAllCutsSaid : Prop := fnExactCountAllCutsRow.holds Try.pinned (OpenSpec.ofChange fnExactCountAllCutsSpec)

/-- ITS FALSE NEIGHBOUR: 'it returns false'. Refute it at one input. -/
def fnExactCountAllCutsWrong : ChangeSpec := { name := "fnExactCountAllCuts", fn := fun _ => fun
  | [d] => { results := [.lit (.bool false)], args := [d] }
  | _ => none }
def FnExactCountAllCutsWrongFalsely : Prop := fnExactCountAllCutsRow.holds Try.pinned (OpenSpec.ofChange fnExactCountAllCutsWrong)

/-- 'laws.FnExactCountEqualCuts': WHATEVER THE INPUT: true; the input reads as it did. -/
def fnExactCountEqualCutsSpec : ChangeSpec := { name := "fnExactCountEqualCuts", fn := fun _ => fun
  | [d1, d2] => { results := [.lit (.bool true)], args := [d1, d2] }
  | _ => none }
def fnExactCountEqualCutsRow : OpenClaim := { program := "ytlnnnjnboknoeab", sum := "9462206b0afa067cedb0627ed5ea1378f6105f36ed89e4264d0f99a918e5ab5d", func := "loop.example/g01236/laws.FnExactCountEqualCuts", spec := "fnExactCountEqualCuts", apart := false }
def FnExactCountEqualCutsSaid : Prop := fnExactCountEqualCutsRow.holds Try.pinned (OpenSpec.ofChange fnExactCountEqualCutsSpec)

/-- ITS FALSE NEIGHBOUR: 'it returns false'. Refute it at one input. -/
def fnExactCountEqualCutsWrong : ChangeSpec := { name := "fnExactCountEqualCuts", fn := fun _ => fun
  | [d1, d2] => { results := [.lit (.bool false)], args := [d1, d2] }
  | _ => none }
def FnExactCountEqualCutsWrongFalsely : Prop := fnExactCountEqualCutsRow.holds Try.pinned (OpenSpec.ofChange fnExactCountEqualCutsWrong)

/-- 'laws.FnExactCutOfSizes': WHATEVER THE INPUT: true; the input reads as it did. -/
def fnExactCutOfSizesSpec : ChangeSpec := { name := "fnExactCutOfSizes", fn := fun _ => fun
  | [d] => { results := [.lit (.bool true)], args := [d] }
  | _ => none }
def fnExactCutOfSizesRow : OpenClaim := { program := "ytlnnnjnboknoeab", sum := "9462206b0afa067cedb0627ed5ea1378f6105f36ed89e4264d0f99a918e5ab5d", func := "loop.example/g01236/laws.FnExactCutOfSizes", spec := "fnExactCutOfSizes", apart := false }
def FnExactCutOfSizesSaid : Prop := fnExactCutOfSizesRow.holds Try.pinned (OpenSpec.ofChange fnExactCutOfSizesSpec)

/-- ITS FALSE NEIGHBOUR: 'it returns false'. Refute it at one input. -/
def fnExactCutOfSizesWrong : ChangeSpec := { name := "fnExactCutOfSizes", fn := fun _ => fun
  | [d] => { results := [.lit (.bool false)], args := [d] }
  | _ => none }
def FnExactCutOfSizesWrongFalsely : Prop := fnExactCutOfSizesRow.holds Try.pinned (OpenSpec.ofChange fnExactCutOfSizesWrong)

/-- 'laws.FnExactAllCuts': WHATEVER THE INPUT: true; the input reads as it did. -/
def fnExactAllCutsSpec : ChangeSpec := { name := "fnExactAllCuts", fn := fun _ => fun
  | [d1, d2] => { results := [.lit (.bool true)], args := [d1, d2] }
  | _ => none }
def fnExactAllCutsRow : OpenClaim := { program := "ytlnnnjnboknoeab", sum := "9462206b0afa067cedb0627ed5ea1378f6105f36ed89e4264d0f99a918e5ab5d", func := "loop.example/g01236/laws.FnExactAllCuts", spec := "fnExactAllCuts", unfollowed := true, recurses := true, apart := false }
def FnExactAllCutsSaid : Prop := fnExactAllCutsRow.holds Try.pinned (OpenSpec.ofChange fnExactAllCutsSpec)

/-- ITS FALSE NEIGHBOUR: 'it returns false'. Refute it at one input. -/
def fnExactAllCutsWrong : ChangeSpec := { name := "fnExactAllCuts", fn := fun _ => fun
  | [d1, d2] => { results := [.lit (.bool false)], args := [d1, d2] }
  | _ => none }
def FnExactAllCutsWrongFalsely : Prop := fnExactAllCutsRow.holds Try.pinned (OpenSpec.ofChange fnExactAllCutsWrong)

/-- 'laws.FnExactAllTriangulations': WHATEVER THE INPUT: true; the input reads as it did. -/
def fnExactAllTriangulationsSpec : ChangeSpec := { name := "fnExactAllTriangulations", fn := fun _ => fun
  | [d] => { results := [.lit (.bool true)], args := [d] }
  | _ => none }
def fnExactAllTriangulationsRow : OpenClaim := { program := "ytlnnnjnboknoeab", sum := "9462206b0afa067cedb0627ed5ea1378f6105f36ed89e4264d0f99a918e5ab5d", func := "loop.example/g01236/laws.FnExactAllTriangulations", spec := "fnExactAllTriangulations", unfollowed := true, recurses := true, apart := false }
def FnExactAllTriangulationsSaid : Prop := fnExactAllTriangulationsRow.holds Try.pinned (OpenSpec.ofChange fnExactAllTriangulationsSpec)

/-- ITS FALSE NEIGHBOUR: 'it returns false'. Refute it at one input. -/
def fnExactAllTriangulationsWrong : ChangeSpec := { name := "fnExactAllTriangulations", fn := fun _ => fun
  | [d] => { results := [.lit (.bool false)], args := [d] }
  | _ => none }
def FnExactAllTriangulationsWrongFalsely : Prop := fnExactAllTriangulationsRow.holds Try.pinned (OpenSpec.ofChange fnExactAllTriangulationsWrong)

/-- 'laws.FnExactIsTriangulation': WHATEVER THE INPUT: true; the input reads as it did. -/
def fnExactIsTriangulationSpec : ChangeSpec := { name := "fnExactIsTriangulation", fn := fun _ => fun
  | [d1, d2] => { results := [.lit (.bool true)], args := [d1, d2] }
  | _ => none }
def fnExactIsTriangulationRow : OpenClaim := { program := "ytlnnnjnboknoeab", sum := "9462206b0afa067cedb0627ed5ea1378f6105f36ed89e4264d0f99a918e5ab5d", func := "loop.example/g01236/laws.FnExactIsTriangulation", spec := "fnExactIsTriangulation", unfollowed := true, recurses := true, apart := false }
def FnExactIsTriangulationSaid : Prop := fnExactIsTriangulationRow.holds Try.pinned (OpenSpec.ofChange fnExactIsTriangulationSpec)

/-- ITS FALSE NEIGHBOUR: 'it returns false'. Refute it at one input. -/
def fnExactIsTriangulationWrong : ChangeSpec := { name := "fnExactIsTriangulation", fn := fun _ => fun
  | [d1, d2] => { results := [.lit (.bool false)], args := [d1, d2] }
  | _ => none }
def FnExactIsTriangulationWrongFalsely : Prop := fnExactIsTriangulationRow.holds Try.pinned (OpenSpec.ofChange fnExactIsTriangulationWrong)

/-- 'laws.FnExactQuiddityOf': WHATEVER THE INPUT: true; the input reads as it did. -/
def fnExactQuiddityOfSpec : ChangeSpec := { name := "fnExactQuiddityOf", fn := fun _ => fun
  | [d1, d2] => { results := [.lit (.bool true)], args := [d1, d2] }
  | _ => none }
def fnExactQuiddityOfRow : OpenClaim := { program := "ytlnnnjnboknoeab", sum := "9462206b0afa067cedb0627ed5ea1378f6105f36ed89e4264d0f99a918e5ab5d", func := "loop.example/g01236/laws.FnExactQuiddityOf", spec := "fnExactQuiddityOf", unfollowed := true, recurses := true, apart := false }
def FnExactQuiddityOfSaid : Prop := fnExactQuiddityOfRow.holds Try.pinned (OpenSpec.ofChange fnExactQuiddityOfSpec)

/-- ITS FALSE NEIGHBOUR: 'it returns false'. Refute it at one input. -/
def fnExactQuiddityOfWrong : ChangeSpec := { name := "fnExactQuiddityOf", fn := fun _ => fun
  | [d1, d2] => { results := [.lit (.bool false)], args := [d1, d2] }
  | _ => none }
def FnExactQuiddityOfWrongFalsely : Prop := fnExactQuiddityOfRow.holds Try.pinned (OpenSpec.ofChange fnExactQuiddityOfWrong)

/-- 'laws.FnExactEarsOf': WHATEVER THE INPUT: true; the input reads as it did. -/
def fnExactEarsOfSpec : ChangeSpec := { name := "fnExactEarsOf", fn := fun _ => fun
  | [d1, d2] => { results := [.lit (.bool true)], args := [d1, d2] }
  | _ => none }
def fnExactEarsOfRow : OpenClaim := { program := "ytlnnnjnboknoeab", sum := "9462206b0afa067cedb0627ed5ea1378f6105f36ed89e4264d0f99a918e5ab5d", func := "loop.example/g01236/laws.FnExactEarsOf", spec := "fnExactEarsOf", unfollowed := true, recurses := true, apart := false }
def FnExactEarsOfSaid : Prop := fnExactEarsOfRow.holds Try.pinned (OpenSpec.ofChange fnExactEarsOfSpec)

/-- ITS FALSE NEIGHBOUR: 'it returns false'. Refute it at one input. -/
def fnExactEarsOfWrong : ChangeSpec := { name := "fnExactEarsOf", fn := fun _ => fun
  | [d1, d2] => { results := [.lit (.bool false)], args := [d1, d2] }
  | _ => none }
def FnExactEarsOfWrongFalsely : Prop := fnExactEarsOfRow.holds Try.pinned (OpenSpec.ofChange fnExactEarsOfWrong)

/-- 'laws.FnExactRankOfQuiddity': WHATEVER THE INPUT: true; the input reads as it did. -/
def fnExactRankOfQuidditySpec : ChangeSpec := { name := "fnExactRankOfQuiddity", fn := fun _ => fun
  | [d] => { results := [.lit (.bool true)], args := [d] }
  | _ => none }
def fnExactRankOfQuiddityRow : OpenClaim := { program := "ytlnnnjnboknoeab", sum := "9462206b0afa067cedb0627ed5ea1378f6105f36ed89e4264d0f99a918e5ab5d", func := "loop.example/g01236/laws.FnExactRankOfQuiddity", spec := "fnExactRankOfQuiddity", unfollowed := true, recurses := true, apart := false }
def FnExactRankOfQuidditySaid : Prop := fnExactRankOfQuiddityRow.holds Try.pinned (OpenSpec.ofChange fnExactRankOfQuidditySpec)

/-- ITS FALSE NEIGHBOUR: 'it returns false'. Refute it at one input. -/
def fnExactRankOfQuiddityWrong : ChangeSpec := { name := "fnExactRankOfQuiddity", fn := fun _ => fun
  | [d] => { results := [.lit (.bool false)], args := [d] }
  | _ => none }
def FnExactRankOfQuiddityWrongFalsely : Prop := fnExactRankOfQuiddityRow.holds Try.pinned (OpenSpec.ofChange fnExactRankOfQuiddityWrong)

/-- 'laws.FnExactTurnPolygon': WHATEVER THE INPUT: true; the input reads as it did. -/
def fnExactTurnPolygonSpec : ChangeSpec := { name := "fnExactTurnPolygon", fn := fun _ => fun
  | [d1, d2, d3] => { results := [.lit (.bool true)], args := [d1, d2, d3] }
  | _ => none }
def fnExactTurnPolygonRow : OpenClaim := { program := "ytlnnnjnboknoeab", sum := "9462206b0afa067cedb0627ed5ea1378f6105f36ed89e4264d0f99a918e5ab5d", func := "loop.example/g01236/laws.FnExactTurnPolygon", spec := "fnExactTurnPolygon", unfollowed := true, recurses := true, apart := false }
def FnExactTurnPolygonSaid : Prop := fnExactTurnPolygonRow.holds Try.pinned (OpenSpec.ofChange fnExactTurnPolygonSpec)

/-- ITS FALSE NEIGHBOUR: 'it returns false'. Refute it at one input. -/
def fnExactTurnPolygonWrong : ChangeSpec := { name := "fnExactTurnPolygon", fn := fun _ => fun
  | [d1, d2, d3] => { results := [.lit (.bool false)], args := [d1, d2, d3] }
  | _ => none }
def FnExactTurnPolygonWrongFalsely : Prop := fnExactTurnPolygonRow.holds Try.pinned (OpenSpec.ofChange fnExactTurnPolygonWrong)

/-- 'laws.FnExactMirrorPolygon': WHATEVER THE INPUT: true; the input reads as it did. -/
def fnExactMirrorPolygonSpec : ChangeSpec := { name := "fnExactMirrorPolygon", fn := fun _ => fun
  | [d1, d2] => { results := [.lit (.bool true)], args := [d1, d2] }
  | _ => none }
def fnExactMirrorPolygonRow : OpenClaim := { program := "ytlnnnjnboknoeab", sum := "9462206b0afa067cedb0627ed5ea1378f6105f36ed89e4264d0f99a918e5ab5d", func := "loop.example/g01236/laws.FnExactMirrorPolygon", spec := "fnExactMirrorPolygon", unfollowed := true, recurses := true, apart := false }
def FnExactMirrorPolygonSaid : Prop := fnExactMirrorPolygonRow.holds Try.pinned (OpenSpec.ofChange fnExactMirrorPolygonSpec)

/-- ITS FALSE NEIGHBOUR: 'it returns false'. Refute it at one input. -/
def fnExactMirrorPolygonWrong : ChangeSpec := { name := "fnExactMirrorPolygon", fn := fun _ => fun
  | [d1, d2] => { results := [.lit (.bool false)], args := [d1, d2] }
  | _ => none }
def FnExactMirrorPolygonWrongFalsely : Prop := fnExactMirrorPolygonRow.holds Try.pinned (OpenSpec.ofChange fnExactMirrorPolygonWrong)

/- THE SECOND FORM. 'bulk': how many values and letters a reading holds, each counted each time it is reached (what is shared counts as often as it is met; a slice's spare places count too). A statement '..UptoSaid' is the law's where the arguments, and the package variables that the reading takes, are together of bulk at most 1048576: NARROWER than '..Said'. Prove '..Said' where nothing that the law and all that it calls make is longer than what came in: it says more and counts as full. Else prove '..UptoSaid'. A law counts once. -/
mutual
def uptoBulk {H : Type} : DataW H → Nat
  | .lit (.string bytes) => bytes.length + 1
  | .lit _ => 1
  | .nil => 1
  | .ptr d => uptoBulk d + 1
  | .slice elems spare => uptoBulkAll elems + uptoBulkAll spare + 1
  | .agg parts => uptoBulkAll parts + 1
  | .iface _ d => uptoBulk d + 1
  | .map entries => uptoBulkEntries entries + 1
  | .held _ => 1
def uptoBulkAll {H : Type} : List (DataW H) → Nat
  | [] => 0
  | d :: r => uptoBulk d + uptoBulkAll r
def uptoBulkEntries {H : Type} : List (Lit × DataW H) → Nat
  | [] => 0
  | x :: r => uptoBulkEntry x + uptoBulkEntries r
def uptoBulkEntry {H : Type} : Lit × DataW H → Nat
  | (.string bytes, d) => bytes.length + uptoBulk d + 1
  | (_, d) => uptoBulk d + 1
 end
def uptoSmall : (H : Type) → List (DataW H) → Bool := fun _ ds => decide (uptoBulkAll ds ≤ 1048576)
def OpenSpec.upto (s : _root_.Go.ChangeSpec) : _root_.Go.OpenSpec := { _root_.Go.OpenSpec.ofChange s with cond := some uptoSmall }

/-- 'laws.FnExactCountCuts', WHERE WHAT IT READS IS OF BULK AT MOST 1048576: true; the input reads as it did. -/
def fnExactCountCutsUptoRow : OpenClaim := { program := "ytlnnnjnboknoeab", sum := "9462206b0afa067cedb0627ed5ea1378f6105f36ed89e4264d0f99a918e5ab5d", func := "loop.example/g01236/laws.FnExactCountCuts", spec := "fnExactCountCuts", apart := false, narrowed := true }
def FnExactCountCutsUptoSaid : Prop := fnExactCountCutsUptoRow.holds Try.pinned (OpenSpec.upto fnExactCountCutsSpec)

/-- 'laws.FnExactCountAllCuts', WHERE WHAT IT READS IS OF BULK AT MOST 1048576: true; the input reads as it did. -/
def fnExactCountAllCutsUptoRow : OpenClaim := { program := "ytlnnnjnboknoeab", sum := "9462206b0afa067cedb0627ed5ea1378f6105f36ed89e4264d0f99a918e5ab5d", func := "loop.example/g01236/laws.FnExactCountAllCuts", spec := "fnExactCountAllCuts", apart := false, narrowed := true }
def FnExactCountAllCutsUptoSaid : Prop := fnExactCountAllCutsUptoRow.holds Try.pinned (OpenSpec.upto fnExactCountAllCutsSpec)

/-- 'laws.FnExactCountEqualCuts', WHERE WHAT IT READS IS OF BULK AT MOST 1048576: true; the input reads as it did. -/
def fnExactCountEqualCutsUptoRow : OpenClaim := { program := "ytlnnnjnboknoeab", sum := "9462206b0afa067cedb0627ed5ea1378f6105f36ed89e4264d0f99a918e5ab5d", func := "loop.example/g01236/laws.FnExactCountEqualCuts", spec := "fnExactCountEqualCuts", apart := false, narrowed := true }
def FnExactCountEqualCutsUptoSaid : Prop := fnExactCountEqualCutsUptoRow.holds Try.pinned (OpenSpec.upto fnExactCountEqualCutsSpec)

/-- 'laws.FnExactCutOfSizes', WHERE WHAT IT READS IS OF BULK AT MOST 1048576: true; the input reads as it did. -/
def fnExactCutOfSizesUptoRow : OpenClaim := { program := "ytlnnnjnboknoeab", sum := "9462206b0afa067cedb0627ed5ea1378f6105f36ed89e4264d0f99a918e5ab5d", func := "loop.example/g01236/laws.FnExactCutOfSizes", spec := "fnExactCutOfSizes", apart := false, narrowed := true }
def FnExactCutOfSizesUptoSaid : Prop := fnExactCutOfSizesUptoRow.holds Try.pinned (OpenSpec.upto fnExactCutOfSizesSpec)

/-- 'laws.FnExactAllCuts', WHERE WHAT IT READS IS OF BULK AT MOST 1048576: true; the input reads as it did. -/
def fnExactAllCutsUptoRow : OpenClaim := { program := "ytlnnnjnboknoeab", sum := "9462206b0afa067cedb0627ed5ea1378f6105f36ed89e4264d0f99a918e5ab5d", func := "loop.example/g01236/laws.FnExactAllCuts", spec := "fnExactAllCuts", unfollowed := true, recurses := true, apart := false, narrowed := true }
def FnExactAllCutsUptoSaid : Prop := fnExactAllCutsUptoRow.holds Try.pinned (OpenSpec.upto fnExactAllCutsSpec)

/-- 'laws.FnExactAllTriangulations', WHERE WHAT IT READS IS OF BULK AT MOST 1048576: true; the input reads as it did. -/
def fnExactAllTriangulationsUptoRow : OpenClaim := { program := "ytlnnnjnboknoeab", sum := "9462206b0afa067cedb0627ed5ea1378f6105f36ed89e4264d0f99a918e5ab5d", func := "loop.example/g01236/laws.FnExactAllTriangulations", spec := "fnExactAllTriangulations", unfollowed := true, recurses := true, apart := false, narrowed := true }
def FnExactAllTriangulationsUptoSaid : Prop := fnExactAllTriangulationsUptoRow.holds Try.pinned (OpenSpec.upto fnExactAllTriangulationsSpec)

/-- 'laws.FnExactIsTriangulation', WHERE WHAT IT READS IS OF BULK AT MOST 1048576: true; the input reads as it did. -/
def fnExactIsTriangulationUptoRow : OpenClaim := { program := "ytlnnnjnboknoeab", sum := "9462206b0afa067cedb0627ed5ea1378f6105f36ed89e4264d0f99a918e5ab5d", func := "loop.example/g01236/laws.FnExactIsTriangulation", spec := "fnExactIsTriangulation", unfollowed := true, recurses := true, apart := false, narrowed := true }
def FnExactIsTriangulationUptoSaid : Prop := fnExactIsTriangulationUptoRow.holds Try.pinned (OpenSpec.upto fnExactIsTriangulationSpec)

/-- 'laws.FnExactQuiddityOf', WHERE WHAT IT READS IS OF BULK AT MOST 1048576: true; the input reads as it did. -/
def fnExactQuiddityOfUptoRow : OpenClaim := { program := "ytlnnnjnboknoeab", sum := "9462206b0afa067cedb0627ed5ea1378f6105f36ed89e4264d0f99a918e5ab5d", func := "loop.example/g01236/laws.FnExactQuiddityOf", spec := "fnExactQuiddityOf", unfollowed := true, recurses := true, apart := false, narrowed := true }
def FnExactQuiddityOfUptoSaid : Prop := fnExactQuiddityOfUptoRow.holds Try.pinned (OpenSpec.upto fnExactQuiddityOfSpec)

/-- 'laws.FnExactEarsOf', WHERE WHAT IT READS IS OF BULK AT MOST 1048576: true; the input reads as it did. -/
def fnExactEarsOfUptoRow : OpenClaim := { program := "ytlnnnjnboknoeab", sum := "9462206b0afa067cedb0627ed5ea1378f6105f36ed89e4264d0f99a918e5ab5d", func := "loop.example/g01236/laws.FnExactEarsOf", spec := "fnExactEarsOf", unfollowed := true, recurses := true, apart := false, narrowed := true }
def FnExactEarsOfUptoSaid : Prop := fnExactEarsOfUptoRow.holds Try.pinned (OpenSpec.upto fnExactEarsOfSpec)

/-- 'laws.FnExactRankOfQuiddity', WHERE WHAT IT READS IS OF BULK AT MOST 1048576: true; the input reads as it did. -/
def fnExactRankOfQuiddityUptoRow : OpenClaim := { program := "ytlnnnjnboknoeab", sum := "9462206b0afa067cedb0627ed5ea1378f6105f36ed89e4264d0f99a918e5ab5d", func := "loop.example/g01236/laws.FnExactRankOfQuiddity", spec := "fnExactRankOfQuiddity", unfollowed := true, recurses := true, apart := false, narrowed := true }
def FnExactRankOfQuiddityUptoSaid : Prop := fnExactRankOfQuiddityUptoRow.holds Try.pinned (OpenSpec.upto fnExactRankOfQuidditySpec)

/-- 'laws.FnExactTurnPolygon', WHERE WHAT IT READS IS OF BULK AT MOST 1048576: true; the input reads as it did. -/
def fnExactTurnPolygonUptoRow : OpenClaim := { program := "ytlnnnjnboknoeab", sum := "9462206b0afa067cedb0627ed5ea1378f6105f36ed89e4264d0f99a918e5ab5d", func := "loop.example/g01236/laws.FnExactTurnPolygon", spec := "fnExactTurnPolygon", unfollowed := true, recurses := true, apart := false, narrowed := true }
def FnExactTurnPolygonUptoSaid : Prop := fnExactTurnPolygonUptoRow.holds Try.pinned (OpenSpec.upto fnExactTurnPolygonSpec)

/-- 'laws.FnExactMirrorPolygon', WHERE WHAT IT READS IS OF BULK AT MOST 1048576: true; the input reads as it did. -/
def fnExactMirrorPolygonUptoRow : OpenClaim := { program := "ytlnnnjnboknoeab", sum := "9462206b0afa067cedb0627ed5ea1378f6105f36ed89e4264d0f99a918e5ab5d", func := "loop.example/g01236/laws.FnExactMirrorPolygon", spec := "fnExactMirrorPolygon", unfollowed := true, recurses := true, apart := false, narrowed := true }
def FnExactMirrorPolygonUptoSaid : Prop := fnExactMirrorPolygonUptoRow.holds Try.pinned (OpenSpec.upto fnExactMirrorPolygonSpec)

end Rows
end Go.Proofs.Ytlnnnjnboknoeab
