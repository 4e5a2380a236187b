/-
  No cell of these rows narrows 'for every input' (looked for: loops, veiled, ifaces, maps, wideKeys, modest, calm, conditions, laid).
  DERIVED. THE GIVEN ROWS OF THIS SEAT. 8 by the template 'for every input the law returns true; each argument reads behind the call as it read before'; 0 by the template 'total and deterministic' (their statements: YtjpcmkginfbkbabTotals.lean).
  GIVEN WITH THE SEED: the statements are not yours to turn. If you find one false, say at which input.
  Laid BY PROGRAM, IN A SANDBOX (cutbox-rows.mjs): the forced cells as the released guide's own fill.sh prints them over the translation d012ae4161ae9fb0… (all of the seat's roots in one cut). By AI agents, Wed Nov 11 2026. No macro, syntax, notation, axiom, sorry.
-/
import Derived.Test.YtjpcmkginfbkbabChecked
import GoSem.Claim
import GoSem.ClaimJoined
import GoSem.ClaimMapViews
import Derived.JoinedTies
import Derived.KernelRfl
namespace Go.Proofs.Ytjpcmkginfbkbab
/- THE CELL 'sum', in the pinned program and in every row, IS THE sha256 OF THE DUMP (.gsa) THAT YtjpcmkginfbkbabProg.lean LOADS. Nothing in Lean hashes anything: it is a label: what it is worth is what the hold of that sum in a sandbox is worth. -/
noncomputable def Try.pinned : Pinned := { name := "ytjpcmkginfbkbab", sum := "d012ae4161ae9fb04b31f4c48883714de2d9e95f1d81c518970802d69d7ae8a6", checked := Try.checked }
namespace Rows
def none {H : Type} : Left H := { results := [], args := [] }

/-- 'laws.FnExactTurnPolygon': WHATEVER THE INPUT: true; the input reads as it did. -/
def fnExactTurnPolygonSpec : ChangeSpec := { name := "fnExactTurnPolygon", fn := fun _ => fun
  | [d1, d2, d3] => { results := [.lit (.bool true)], args := [d1, d2, d3] }
  | _ => none }
def fnExactTurnPolygonRow : OpenClaim := { program := "ytjpcmkginfbkbab", sum := "d012ae4161ae9fb04b31f4c48883714de2d9e95f1d81c518970802d69d7ae8a6", func := "loop.example/g01236/laws.FnExactTurnPolygon", spec := "fnExactTurnPolygon", unfollowed := true, recurses := true, plainKeys := false, apart := false }
def FnExactTurnPolygonSaid : Prop := fnExactTurnPolygonRow.holds Try.pinned (OpenSpec.ofChange fnExactTurnPolygonSpec)

/-- ITS FALSE NEIGHBOUR: 'it returns false'. Refute it at one input. -/
def fnExactTurnPolygonWrong : ChangeSpec := { name := "fnExactTurnPolygon", fn := fun _ => fun
  | [d1, d2, d3] => { results := [.lit (.bool false)], args := [d1, d2, d3] }
  | _ => none }
def FnExactTurnPolygonWrongFalsely : Prop := fnExactTurnPolygonRow.holds Try.pinned (OpenSpec.ofChange fnExactTurnPolygonWrong)

/-- 'laws.FnExactMirrorPolygon': WHATEVER THE INPUT: true; the input reads as it did. -/
def fnExactMirrorPolygonSpec : ChangeSpec := { name := "fnExactMirrorPolygon", fn := fun _ => fun
  | [d1, d2] => { results := [.lit (.bool true)], args := [d1, d2] }
  | _ => none }
def fnExactMirrorPolygonRow : OpenClaim := { program := "ytjpcmkginfbkbab", sum := "d012ae4161ae9fb04b31f4c48883714de2d9e95f1d81c518970802d69d7ae8a6", func := "loop.example/g01236/laws.FnExactMirrorPolygon", spec := "fnExactMirrorPolygon", unfollowed := true, recurses := true, plainKeys := false, apart := false }
def FnExactMirrorPolygonSaid : Prop := fnExactMirrorPolygonRow.holds Try.pinned (OpenSpec.ofChange fnExactMirrorPolygonSpec)

/-- ITS FALSE NEIGHBOUR: 'it returns false'. Refute it at one input. -/
def fnExactMirrorPolygonWrong : ChangeSpec := { name := "fnExactMirrorPolygon", fn := fun _ => fun
  | [d1, d2] => { results := [.lit (.bool false)], args := [d1, d2] }
  | _ => none }
def FnExactMirrorPolygonWrongFalsely : Prop := fnExactMirrorPolygonRow.holds Try.pinned (OpenSpec.ofChange fnExactMirrorPolygonWrong)

/-- 'laws.FnExactFanOf': WHATEVER THE INPUT: true; the input reads as it did. -/
def fnExactFanOfSpec : ChangeSpec := { name := "fnExactFanOf", fn := fun _ => fun
  | [d1, d2] => { results := [.lit (.bool true)], args := [d1, d2] }
  | _ => none }
def fnExactFanOfRow : OpenClaim := { program := "ytjpcmkginfbkbab", sum := "d012ae4161ae9fb04b31f4c48883714de2d9e95f1d81c518970802d69d7ae8a6", func := "loop.example/g01236/laws.FnExactFanOf", spec := "fnExactFanOf", plainKeys := false, apart := false }
def FnExactFanOfSaid : Prop := fnExactFanOfRow.holds Try.pinned (OpenSpec.ofChange fnExactFanOfSpec)

/-- ITS FALSE NEIGHBOUR: 'it returns false'. Refute it at one input. -/
def fnExactFanOfWrong : ChangeSpec := { name := "fnExactFanOf", fn := fun _ => fun
  | [d1, d2] => { results := [.lit (.bool false)], args := [d1, d2] }
  | _ => none }
def FnExactFanOfWrongFalsely : Prop := fnExactFanOfRow.holds Try.pinned (OpenSpec.ofChange fnExactFanOfWrong)

/-- 'laws.FnExactZigzagOf': WHATEVER THE INPUT: true; the input reads as it did. -/
def fnExactZigzagOfSpec : ChangeSpec := { name := "fnExactZigzagOf", fn := fun _ => fun
  | [d] => { results := [.lit (.bool true)], args := [d] }
  | _ => none }
def fnExactZigzagOfRow : OpenClaim := { program := "ytjpcmkginfbkbab", sum := "d012ae4161ae9fb04b31f4c48883714de2d9e95f1d81c518970802d69d7ae8a6", func := "loop.example/g01236/laws.FnExactZigzagOf", spec := "fnExactZigzagOf", unfollowed := true, recurses := true, plainKeys := false, apart := false }
def FnExactZigzagOfSaid : Prop := fnExactZigzagOfRow.holds Try.pinned (OpenSpec.ofChange fnExactZigzagOfSpec)

/-- ITS FALSE NEIGHBOUR: 'it returns false'. Refute it at one input. -/
def fnExactZigzagOfWrong : ChangeSpec := { name := "fnExactZigzagOf", fn := fun _ => fun
  | [d] => { results := [.lit (.bool false)], args := [d] }
  | _ => none }
def FnExactZigzagOfWrongFalsely : Prop := fnExactZigzagOfRow.holds Try.pinned (OpenSpec.ofChange fnExactZigzagOfWrong)

/-- 'laws.FnExactPeriodOfPolygon': WHATEVER THE INPUT: true; the input reads as it did. -/
def fnExactPeriodOfPolygonSpec : ChangeSpec := { name := "fnExactPeriodOfPolygon", fn := fun _ => fun
  | [d1, d2] => { results := [.lit (.bool true)], args := [d1, d2] }
  | _ => none }
def fnExactPeriodOfPolygonRow : OpenClaim := { program := "ytjpcmkginfbkbab", sum := "d012ae4161ae9fb04b31f4c48883714de2d9e95f1d81c518970802d69d7ae8a6", func := "loop.example/g01236/laws.FnExactPeriodOfPolygon", spec := "fnExactPeriodOfPolygon", unfollowed := true, recurses := true, plainKeys := false, apart := false }
def FnExactPeriodOfPolygonSaid : Prop := fnExactPeriodOfPolygonRow.holds Try.pinned (OpenSpec.ofChange fnExactPeriodOfPolygonSpec)

/-- ITS FALSE NEIGHBOUR: 'it returns false'. Refute it at one input. -/
def fnExactPeriodOfPolygonWrong : ChangeSpec := { name := "fnExactPeriodOfPolygon", fn := fun _ => fun
  | [d1, d2] => { results := [.lit (.bool false)], args := [d1, d2] }
  | _ => none }
def FnExactPeriodOfPolygonWrongFalsely : Prop := fnExactPeriodOfPolygonRow.holds Try.pinned (OpenSpec.ofChange fnExactPeriodOfPolygonWrong)

/-- 'laws.FnExactTrianglesOf': WHATEVER THE INPUT: true; the input reads as it did. -/
def fnExactTrianglesOfSpec : ChangeSpec := { name := "fnExactTrianglesOf", fn := fun _ => fun
  | [d1, d2] => { results := [.lit (.bool true)], args := [d1, d2] }
  | _ => none }
def fnExactTrianglesOfRow : OpenClaim := { program := "ytjpcmkginfbkbab", sum := "d012ae4161ae9fb04b31f4c48883714de2d9e95f1d81c518970802d69d7ae8a6", func := "loop.example/g01236/laws.FnExactTrianglesOf", spec := "fnExactTrianglesOf", unfollowed := true, recurses := true, plainKeys := false, apart := false }
def FnExactTrianglesOfSaid : Prop := fnExactTrianglesOfRow.holds Try.pinned (OpenSpec.ofChange fnExactTrianglesOfSpec)

/-- ITS FALSE NEIGHBOUR: 'it returns false'. Refute it at one input. -/
def fnExactTrianglesOfWrong : ChangeSpec := { name := "fnExactTrianglesOf", fn := fun _ => fun
  | [d1, d2] => { results := [.lit (.bool false)], args := [d1, d2] }
  | _ => none }
def FnExactTrianglesOfWrongFalsely : Prop := fnExactTrianglesOfRow.holds Try.pinned (OpenSpec.ofChange fnExactTrianglesOfWrong)

/-- 'laws.FnExactAllTriangulations': WHATEVER THE INPUT: true; the input reads as it did. -/
def fnExactAllTriangulationsSpec : ChangeSpec := { name := "fnExactAllTriangulations", fn := fun _ => fun
  | [d] => { results := [.lit (.bool true)], args := [d] }
  | _ => none }
def fnExactAllTriangulationsRow : OpenClaim := { program := "ytjpcmkginfbkbab", sum := "d012ae4161ae9fb04b31f4c48883714de2d9e95f1d81c518970802d69d7ae8a6", func := "loop.example/g01236/laws.FnExactAllTriangulations", spec := "fnExactAllTriangulations", unfollowed := true, recurses := true, plainKeys := false, apart := false }
def FnExactAllTriangulationsSaid : Prop := fnExactAllTriangulationsRow.holds Try.pinned (OpenSpec.ofChange fnExactAllTriangulationsSpec)

/-- ITS FALSE NEIGHBOUR: 'it returns false'. Refute it at one input. -/
def fnExactAllTriangulationsWrong : ChangeSpec := { name := "fnExactAllTriangulations", fn := fun _ => fun
  | [d] => { results := [.lit (.bool false)], args := [d] }
  | _ => none }
def FnExactAllTriangulationsWrongFalsely : Prop := fnExactAllTriangulationsRow.holds Try.pinned (OpenSpec.ofChange fnExactAllTriangulationsWrong)

/-- 'laws.FnExactTrianglesBeside': WHATEVER THE INPUT: true; the input reads as it did. -/
def fnExactTrianglesBesideSpec : ChangeSpec := { name := "fnExactTrianglesBeside", fn := fun _ => fun
  | [d1, d2] => { results := [.lit (.bool true)], args := [d1, d2] }
  | _ => none }
def fnExactTrianglesBesideRow : OpenClaim := { program := "ytjpcmkginfbkbab", sum := "d012ae4161ae9fb04b31f4c48883714de2d9e95f1d81c518970802d69d7ae8a6", func := "loop.example/g01236/laws.FnExactTrianglesBeside", spec := "fnExactTrianglesBeside", unfollowed := true, recurses := true, plainKeys := false, apart := false }
def FnExactTrianglesBesideSaid : Prop := fnExactTrianglesBesideRow.holds Try.pinned (OpenSpec.ofChange fnExactTrianglesBesideSpec)

/-- ITS FALSE NEIGHBOUR: 'it returns false'. Refute it at one input. -/
def fnExactTrianglesBesideWrong : ChangeSpec := { name := "fnExactTrianglesBeside", fn := fun _ => fun
  | [d1, d2] => { results := [.lit (.bool false)], args := [d1, d2] }
  | _ => none }
def FnExactTrianglesBesideWrongFalsely : Prop := fnExactTrianglesBesideRow.holds Try.pinned (OpenSpec.ofChange fnExactTrianglesBesideWrong)

/- THE SECOND FORM. 'bulk': how many values and letters a reading holds, each counted each time it is reached (what is shared counts as often as it is met; a slice's spare places count too). A statement '..UptoSaid' is the law's where the arguments, and the package variables that the reading takes, are together of bulk at most 1048576: NARROWER than '..Said'. Prove '..Said' where nothing that the law and all that it calls make is longer than what came in: it says more and counts as full. Else prove '..UptoSaid'. A law counts once. -/
mutual
def uptoBulk {H : Type} : DataW H → Nat
  | .lit (.string bytes) => bytes.length + 1
  | .lit _ => 1
  | .nil => 1
  | .ptr d => uptoBulk d + 1
  | .slice elems spare => uptoBulkAll elems + uptoBulkAll spare + 1
  | .agg parts => uptoBulkAll parts + 1
  | .iface _ d => uptoBulk d + 1
  | .map entries => uptoBulkEntries entries + 1
  | .held _ => 1
def uptoBulkAll {H : Type} : List (DataW H) → Nat
  | [] => 0
  | d :: r => uptoBulk d + uptoBulkAll r
def uptoBulkEntries {H : Type} : List (Lit × DataW H) → Nat
  | [] => 0
  | x :: r => uptoBulkEntry x + uptoBulkEntries r
def uptoBulkEntry {H : Type} : Lit × DataW H → Nat
  | (.string bytes, d) => bytes.length + uptoBulk d + 1
  | (_, d) => uptoBulk d + 1
 end
def uptoSmall : (H : Type) → List (DataW H) → Bool := fun _ ds => decide (uptoBulkAll ds ≤ 1048576)
def OpenSpec.upto (s : _root_.Go.ChangeSpec) : _root_.Go.OpenSpec := { _root_.Go.OpenSpec.ofChange s with cond := some uptoSmall }

/-- 'laws.FnExactTurnPolygon', WHERE WHAT IT READS IS OF BULK AT MOST 1048576: true; the input reads as it did. -/
def fnExactTurnPolygonUptoRow : OpenClaim := { program := "ytjpcmkginfbkbab", sum := "d012ae4161ae9fb04b31f4c48883714de2d9e95f1d81c518970802d69d7ae8a6", func := "loop.example/g01236/laws.FnExactTurnPolygon", spec := "fnExactTurnPolygon", unfollowed := true, recurses := true, plainKeys := false, apart := false, narrowed := true }
def FnExactTurnPolygonUptoSaid : Prop := fnExactTurnPolygonUptoRow.holds Try.pinned (OpenSpec.upto fnExactTurnPolygonSpec)

/-- 'laws.FnExactMirrorPolygon', WHERE WHAT IT READS IS OF BULK AT MOST 1048576: true; the input reads as it did. -/
def fnExactMirrorPolygonUptoRow : OpenClaim := { program := "ytjpcmkginfbkbab", sum := "d012ae4161ae9fb04b31f4c48883714de2d9e95f1d81c518970802d69d7ae8a6", func := "loop.example/g01236/laws.FnExactMirrorPolygon", spec := "fnExactMirrorPolygon", unfollowed := true, recurses := true, plainKeys := false, apart := false, narrowed := true }
def FnExactMirrorPolygonUptoSaid : Prop := fnExactMirrorPolygonUptoRow.holds Try.pinned (OpenSpec.upto fnExactMirrorPolygonSpec)

/-- 'laws.FnExactFanOf', WHERE WHAT IT READS IS OF BULK AT MOST 1048576: true; the input reads as it did. -/
def fnExactFanOfUptoRow : OpenClaim := { program := "ytjpcmkginfbkbab", sum := "d012ae4161ae9fb04b31f4c48883714de2d9e95f1d81c518970802d69d7ae8a6", func := "loop.example/g01236/laws.FnExactFanOf", spec := "fnExactFanOf", plainKeys := false, apart := false, narrowed := true }
def FnExactFanOfUptoSaid : Prop := fnExactFanOfUptoRow.holds Try.pinned (OpenSpec.upto fnExactFanOfSpec)

/-- 'laws.FnExactZigzagOf', WHERE WHAT IT READS IS OF BULK AT MOST 1048576: true; the input reads as it did. -/
def fnExactZigzagOfUptoRow : OpenClaim := { program := "ytjpcmkginfbkbab", sum := "d012ae4161ae9fb04b31f4c48883714de2d9e95f1d81c518970802d69d7ae8a6", func := "loop.example/g01236/laws.FnExactZigzagOf", spec := "fnExactZigzagOf", unfollowed := true, recurses := true, plainKeys := false, apart := false, narrowed := true }
def FnExactZigzagOfUptoSaid : Prop := fnExactZigzagOfUptoRow.holds Try.pinned (OpenSpec.upto fnExactZigzagOfSpec)

/-- 'laws.FnExactPeriodOfPolygon', WHERE WHAT IT READS IS OF BULK AT MOST 1048576: true; the input reads as it did. -/
def fnExactPeriodOfPolygonUptoRow : OpenClaim := { program := "ytjpcmkginfbkbab", sum := "d012ae4161ae9fb04b31f4c48883714de2d9e95f1d81c518970802d69d7ae8a6", func := "loop.example/g01236/laws.FnExactPeriodOfPolygon", spec := "fnExactPeriodOfPolygon", unfollowed := true, recurses := true, plainKeys := false, apart := false, narrowed := true }
def FnExactPeriodOfPolygonUptoSaid : Prop := fnExactPeriodOfPolygonUptoRow.holds Try.pinned (OpenSpec.upto fnExactPeriodOfPolygonSpec)

/-- 'laws.FnExactTrianglesOf', WHERE WHAT IT READS IS OF BULK AT MOST 1048576: true; the input reads as it did. -/
def fnExactTrianglesOfUptoRow : OpenClaim := { program := "ytjpcmkginfbkbab", sum := "d012ae4161ae9fb04b31f4c48883714de2d9e95f1d81c518970802d69d7ae8a6", func := "loop.example/g01236/laws.FnExactTrianglesOf", spec := "fnExactTrianglesOf", unfollowed := true, recurses := true, plainKeys := false, apart := false, narrowed := true }
def FnExactTrianglesOfUptoSaid : Prop := fnExactTrianglesOfUptoRow.holds Try.pinned (OpenSpec.upto fnExactTrianglesOfSpec)

/-- 'laws.FnExactAllTriangulations', WHERE WHAT IT READS IS OF BULK AT MOST 1048576: true; the input reads as it did. -/
def fnExactAllTriangulationsUptoRow : OpenClaim := { program := "ytjpcmkginfbkbab", sum := "d012ae4161ae9fb04b31f4c48883714de2d9e95f1d81c518970802d69d7ae8a6", func := "loop.example/g01236/laws.FnExactAllTriangulations", spec := "fnExactAllTriangulations", unfollowed := true, recurses := true, plainKeys := false, apart := false, narrowed := true }
def FnExactAllTriangulationsUptoSaid : Prop := fnExactAllTriangulationsUptoRow.holds Try.pinned (OpenSpec.upto fnExactAllTriangulationsSpec)

/-- 'laws.FnExactTrianglesBeside', WHERE WHAT IT READS IS OF BULK AT MOST 1048576: true; the input reads as it did. -/
def fnExactTrianglesBesideUptoRow : OpenClaim := { program := "ytjpcmkginfbkbab", sum := "d012ae4161ae9fb04b31f4c48883714de2d9e95f1d81c518970802d69d7ae8a6", func := "loop.example/g01236/laws.FnExactTrianglesBeside", spec := "fnExactTrianglesBeside", unfollowed := true, recurses := true, plainKeys := false, apart := false, narrowed := true }
def FnExactTrianglesBesideUptoSaid : Prop := fnExactTrianglesBesideUptoRow.holds Try.pinned (OpenSpec.upto fnExactTrianglesBesideSpec)

end Rows
end Go.Proofs.Ytjpcmkginfbkbab
