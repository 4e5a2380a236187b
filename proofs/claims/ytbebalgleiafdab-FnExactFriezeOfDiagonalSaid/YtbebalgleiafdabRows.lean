/-
  No cell of these rows narrows 'for every input' (looked for: loops, veiled, ifaces, maps, wideKeys, modest, calm, conditions, laid).
  DERIVED. THE GIVEN ROWS OF THIS SEAT. 8 by the template 'for every input the law returns true; each argument reads behind the call as it read before'; 0 by the template 'total and deterministic' (their statements: YtbebalgleiafdabTotals.lean).
  GIVEN WITH THE SEED: the statements are not yours to turn. If you find one false, say at which input.
  Laid BY PROGRAM, IN A SANDBOX (cutbox-rows.mjs): the forced cells as the released guide's own fill.sh prints them over the translation 9729d9ba6c30b823… (all of the seat's roots in one cut). By AI agents, Wed Nov 11 2026. No macro, syntax, notation, axiom, sorry.
-/
import Derived.Test.YtbebalgleiafdabChecked
import GoSem.Claim
import GoSem.ClaimJoined
import GoSem.ClaimMapViews
import Derived.JoinedTies
import Derived.KernelRfl
namespace Go.Proofs.Ytbebalgleiafdab
/- THE CELL 'sum', in the pinned program and in every row, IS THE sha256 OF THE DUMP (.gsa) THAT YtbebalgleiafdabProg.lean LOADS. Nothing in Lean hashes anything: it is a label: what it is worth is what the hold of that sum in a sandbox is worth. -/
noncomputable def Try.pinned : Pinned := { name := "ytbebalgleiafdab", sum := "9729d9ba6c30b823608d30a3e1d38a18eb1acba688edbf40ceda3f20187d6355", checked := Try.checked }
namespace Rows
def none {H : Type} : Left H := { results := [], args := [] }

/-- 'laws.FnExactCountTriangulations': WHATEVER THE INPUT: true; the input reads as it did. -/
def fnExactCountTriangulationsSpec : ChangeSpec := { name := "fnExactCountTriangulations", fn := fun _ => fun
  | [d] => { results := [.lit (.bool true)], args := [d] }
  | _ => none }
def fnExactCountTriangulationsRow : OpenClaim := { program := "ytbebalgleiafdab", sum := "9729d9ba6c30b823608d30a3e1d38a18eb1acba688edbf40ceda3f20187d6355", func := "loop.example/g01236/laws.FnExactCountTriangulations", spec := "fnExactCountTriangulations", plainKeys := false, apart := false }
def FnExactCountTriangulationsSaid : Prop := fnExactCountTriangulationsRow.holds Try.pinned (OpenSpec.ofChange fnExactCountTriangulationsSpec)

/-- ITS FALSE NEIGHBOUR: 'it returns false'. Refute it at one input. -/
def fnExactCountTriangulationsWrong : ChangeSpec := { name := "fnExactCountTriangulations", fn := fun _ => fun
  | [d] => { results := [.lit (.bool false)], args := [d] }
  | _ => none }
def FnExactCountTriangulationsWrongFalsely : Prop := fnExactCountTriangulationsRow.holds Try.pinned (OpenSpec.ofChange fnExactCountTriangulationsWrong)

/-- 'laws.FnExactCountByEars': WHATEVER THE INPUT: true; the input reads as it did. -/
def fnExactCountByEarsSpec : ChangeSpec := { name := "fnExactCountByEars", fn := fun _ => fun
  | [d] => { results := [.lit (.bool true)], args := [d] }
  | _ => none }
def fnExactCountByEarsRow : OpenClaim := { program := "ytbebalgleiafdab", sum := "9729d9ba6c30b823608d30a3e1d38a18eb1acba688edbf40ceda3f20187d6355", func := "loop.example/g01236/laws.FnExactCountByEars", spec := "fnExactCountByEars", plainKeys := false, apart := false }
def FnExactCountByEarsSaid : Prop := fnExactCountByEarsRow.holds Try.pinned (OpenSpec.ofChange fnExactCountByEarsSpec)

/-- ITS FALSE NEIGHBOUR: 'it returns false'. Refute it at one input. -/
def fnExactCountByEarsWrong : ChangeSpec := { name := "fnExactCountByEars", fn := fun _ => fun
  | [d] => { results := [.lit (.bool false)], args := [d] }
  | _ => none }
def FnExactCountByEarsWrongFalsely : Prop := fnExactCountByEarsRow.holds Try.pinned (OpenSpec.ofChange fnExactCountByEarsWrong)

/-- 'laws.FnExactCountByCorner': WHATEVER THE INPUT: true; the input reads as it did. -/
def fnExactCountByCornerSpec : ChangeSpec := { name := "fnExactCountByCorner", fn := fun _ => fun
  | [d] => { results := [.lit (.bool true)], args := [d] }
  | _ => none }
def fnExactCountByCornerRow : OpenClaim := { program := "ytbebalgleiafdab", sum := "9729d9ba6c30b823608d30a3e1d38a18eb1acba688edbf40ceda3f20187d6355", func := "loop.example/g01236/laws.FnExactCountByCorner", spec := "fnExactCountByCorner", plainKeys := false, apart := false }
def FnExactCountByCornerSaid : Prop := fnExactCountByCornerRow.holds Try.pinned (OpenSpec.ofChange fnExactCountByCornerSpec)

/-- ITS FALSE NEIGHBOUR: 'it returns false'. Refute it at one input. -/
def fnExactCountByCornerWrong : ChangeSpec := { name := "fnExactCountByCorner", fn := fun _ => fun
  | [d] => { results := [.lit (.bool false)], args := [d] }
  | _ => none }
def FnExactCountByCornerWrongFalsely : Prop := fnExactCountByCornerRow.holds Try.pinned (OpenSpec.ofChange fnExactCountByCornerWrong)

/-- 'laws.FnExactMirrorPolygon': WHATEVER THE INPUT: true; the input reads as it did. -/
def fnExactMirrorPolygonSpec : ChangeSpec := { name := "fnExactMirrorPolygon", fn := fun _ => fun
  | [d1, d2] => { results := [.lit (.bool true)], args := [d1, d2] }
  | _ => none }
def fnExactMirrorPolygonRow : OpenClaim := { program := "ytbebalgleiafdab", sum := "9729d9ba6c30b823608d30a3e1d38a18eb1acba688edbf40ceda3f20187d6355", func := "loop.example/g01236/laws.FnExactMirrorPolygon", spec := "fnExactMirrorPolygon", unfollowed := true, recurses := true, plainKeys := false, apart := false }
def FnExactMirrorPolygonSaid : Prop := fnExactMirrorPolygonRow.holds Try.pinned (OpenSpec.ofChange fnExactMirrorPolygonSpec)

/-- ITS FALSE NEIGHBOUR: 'it returns false'. Refute it at one input. -/
def fnExactMirrorPolygonWrong : ChangeSpec := { name := "fnExactMirrorPolygon", fn := fun _ => fun
  | [d1, d2] => { results := [.lit (.bool false)], args := [d1, d2] }
  | _ => none }
def FnExactMirrorPolygonWrongFalsely : Prop := fnExactMirrorPolygonRow.holds Try.pinned (OpenSpec.ofChange fnExactMirrorPolygonWrong)

/-- 'laws.FnExactCountWith': WHATEVER THE INPUT: true; the input reads as it did. -/
def fnExactCountWithSpec : ChangeSpec := { name := "fnExactCountWith", fn := fun _ => fun
  | [d1, d2] => { results := [.lit (.bool true)], args := [d1, d2] }
  | _ => none }
def fnExactCountWithRow : OpenClaim := { program := "ytbebalgleiafdab", sum := "9729d9ba6c30b823608d30a3e1d38a18eb1acba688edbf40ceda3f20187d6355", func := "loop.example/g01236/laws.FnExactCountWith", spec := "fnExactCountWith", unfollowed := true, recurses := true, plainKeys := false, apart := false }
def FnExactCountWithSaid : Prop := fnExactCountWithRow.holds Try.pinned (OpenSpec.ofChange fnExactCountWithSpec)

/-- ITS FALSE NEIGHBOUR: 'it returns false'. Refute it at one input. -/
def fnExactCountWithWrong : ChangeSpec := { name := "fnExactCountWith", fn := fun _ => fun
  | [d1, d2] => { results := [.lit (.bool false)], args := [d1, d2] }
  | _ => none }
def FnExactCountWithWrongFalsely : Prop := fnExactCountWithRow.holds Try.pinned (OpenSpec.ofChange fnExactCountWithWrong)

/-- 'laws.FnExactTrianglesOf': WHATEVER THE INPUT: true; the input reads as it did. -/
def fnExactTrianglesOfSpec : ChangeSpec := { name := "fnExactTrianglesOf", fn := fun _ => fun
  | [d1, d2] => { results := [.lit (.bool true)], args := [d1, d2] }
  | _ => none }
def fnExactTrianglesOfRow : OpenClaim := { program := "ytbebalgleiafdab", sum := "9729d9ba6c30b823608d30a3e1d38a18eb1acba688edbf40ceda3f20187d6355", func := "loop.example/g01236/laws.FnExactTrianglesOf", spec := "fnExactTrianglesOf", unfollowed := true, recurses := true, plainKeys := false, apart := false }
def FnExactTrianglesOfSaid : Prop := fnExactTrianglesOfRow.holds Try.pinned (OpenSpec.ofChange fnExactTrianglesOfSpec)

/-- ITS FALSE NEIGHBOUR: 'it returns false'. Refute it at one input. -/
def fnExactTrianglesOfWrong : ChangeSpec := { name := "fnExactTrianglesOf", fn := fun _ => fun
  | [d1, d2] => { results := [.lit (.bool false)], args := [d1, d2] }
  | _ => none }
def FnExactTrianglesOfWrongFalsely : Prop := fnExactTrianglesOfRow.holds Try.pinned (OpenSpec.ofChange fnExactTrianglesOfWrong)

/-- 'laws.FnExactTrianglesBeside': WHATEVER THE INPUT: true; the input reads as it did. -/
def fnExactTrianglesBesideSpec : ChangeSpec := { name := "fnExactTrianglesBeside", fn := fun _ => fun
  | [d1, d2] => { results := [.lit (.bool true)], args := [d1, d2] }
  | _ => none }
def fnExactTrianglesBesideRow : OpenClaim := { program := "ytbebalgleiafdab", sum := "9729d9ba6c30b823608d30a3e1d38a18eb1acba688edbf40ceda3f20187d6355", func := "loop.example/g01236/laws.FnExactTrianglesBeside", spec := "fnExactTrianglesBeside", unfollowed := true, recurses := true, plainKeys := false, apart := false }
def FnExactTrianglesBesideSaid : Prop := fnExactTrianglesBesideRow.holds Try.pinned (OpenSpec.ofChange fnExactTrianglesBesideSpec)

/-- ITS FALSE NEIGHBOUR: 'it returns false'. Refute it at one input. -/
def fnExactTrianglesBesideWrong : ChangeSpec := { name := "fnExactTrianglesBeside", fn := fun _ => fun
  | [d1, d2] => { results := [.lit (.bool false)], args := [d1, d2] }
  | _ => none }
def FnExactTrianglesBesideWrongFalsely : Prop := fnExactTrianglesBesideRow.holds Try.pinned (OpenSpec.ofChange fnExactTrianglesBesideWrong)

/-- 'laws.FnExactFriezeOfDiagonal': WHATEVER THE INPUT: true; the input reads as it did. -/
def fnExactFriezeOfDiagonalSpec : ChangeSpec := { name := "fnExactFriezeOfDiagonal", fn := fun _ => fun
  | [d] => { results := [.lit (.bool true)], args := [d] }
  | _ => none }
def fnExactFriezeOfDiagonalRow : OpenClaim := { program := "ytbebalgleiafdab", sum := "9729d9ba6c30b823608d30a3e1d38a18eb1acba688edbf40ceda3f20187d6355", func := "loop.example/g01236/laws.FnExactFriezeOfDiagonal", spec := "fnExactFriezeOfDiagonal", unfollowed := true, recurses := true, plainKeys := false, apart := false }
def FnExactFriezeOfDiagonalSaid : Prop := fnExactFriezeOfDiagonalRow.holds Try.pinned (OpenSpec.ofChange fnExactFriezeOfDiagonalSpec)

/-- ITS FALSE NEIGHBOUR: 'it returns false'. Refute it at one input. -/
def fnExactFriezeOfDiagonalWrong : ChangeSpec := { name := "fnExactFriezeOfDiagonal", fn := fun _ => fun
  | [d] => { results := [.lit (.bool false)], args := [d] }
  | _ => none }
def FnExactFriezeOfDiagonalWrongFalsely : Prop := fnExactFriezeOfDiagonalRow.holds Try.pinned (OpenSpec.ofChange fnExactFriezeOfDiagonalWrong)

/- THE SECOND FORM. 'bulk': how many values and letters a reading holds, each counted each time it is reached (what is shared counts as often as it is met; a slice's spare places count too). A statement '..UptoSaid' is the law's where the arguments, and the package variables that the reading takes, are together of bulk at most 1048576: NARROWER than '..Said'. Prove '..Said' where nothing that the law and all that it calls make is longer than what came in: it says more and counts as full. Else prove '..UptoSaid'. A law counts once. -/
mutual
def uptoBulk {H : Type} : DataW H → Nat
  | .lit (.string bytes) => bytes.length + 1
  | .lit _ => 1
  | .nil => 1
  | .ptr d => uptoBulk d + 1
  | .slice elems spare => uptoBulkAll elems + uptoBulkAll spare + 1
  | .agg parts => uptoBulkAll parts + 1
  | .iface _ d => uptoBulk d + 1
  | .map entries => uptoBulkEntries entries + 1
  | .held _ => 1
def uptoBulkAll {H : Type} : List (DataW H) → Nat
  | [] => 0
  | d :: r => uptoBulk d + uptoBulkAll r
def uptoBulkEntries {H : Type} : List (Lit × DataW H) → Nat
  | [] => 0
  | x :: r => uptoBulkEntry x + uptoBulkEntries r
def uptoBulkEntry {H : Type} : Lit × DataW H → Nat
  | (.string bytes, d) => bytes.length + uptoBulk d + 1
  | (_, d) => uptoBulk d + 1
 end
def uptoSmall : (H : Type) → List (DataW H) → Bool := fun _ ds => decide (uptoBulkAll ds ≤ 1048576)
def OpenSpec.upto (s : _root_.Go.ChangeSpec) : _root_.Go.OpenSpec := { _root_.Go.OpenSpec.ofChange s with cond := some uptoSmall }

/-- 'laws.FnExactCountTriangulations', WHERE WHAT IT READS IS OF BULK AT MOST 1048576: true; the input reads as it did. -/
def fnExactCountTriangulationsUptoRow : OpenClaim := { program := "ytbebalgleiafdab", sum := "9729d9ba6c30b823608d30a3e1d38a18eb1acba688edbf40ceda3f20187d6355", func := "loop.example/g01236/laws.FnExactCountTriangulations", spec := "fnExactCountTriangulations", plainKeys := false, apart := false, narrowed := true }
def FnExactCountTriangulationsUptoSaid : Prop := fnExactCountTriangulationsUptoRow.holds Try.pinned (OpenSpec.upto fnExactCountTriangulationsSpec)

/-- 'laws.FnExactCountByEars', WHERE WHAT IT READS IS OF BULK AT MOST 1048576: true; the input reads as it did. -/
def fnExactCountByEarsUptoRow : OpenClaim := { program := "ytbebalgleiafdab", sum := "9729d9ba6c30b823608d30a3e1d38a18eb1acba688edbf40ceda3f20187d6355", func := "loop.example/g01236/laws.FnExactCountByEars", spec := "fnExactCountByEars", plainKeys := false, apart := false, narrowed := true }
def FnExactCountByEarsUptoSaid : Prop := fnExactCountByEarsUptoRow.holds Try.pinned (OpenSpec.upto fnExactCountByEarsSpec)

/-- 'laws.FnExactCountByCorner', WHERE WHAT IT READS IS OF BULK AT MOST 1048576: true; the input reads as it did. -/
def fnExactCountByCornerUptoRow : OpenClaim := { program := "ytbebalgleiafdab", sum := "9729d9ba6c30b823608d30a3e1d38a18eb1acba688edbf40ceda3f20187d6355", func := "loop.example/g01236/laws.FnExactCountByCorner", spec := "fnExactCountByCorner", plainKeys := false, apart := false, narrowed := true }
def FnExactCountByCornerUptoSaid : Prop := fnExactCountByCornerUptoRow.holds Try.pinned (OpenSpec.upto fnExactCountByCornerSpec)

/-- 'laws.FnExactMirrorPolygon', WHERE WHAT IT READS IS OF BULK AT MOST 1048576: true; the input reads as it did. -/
def fnExactMirrorPolygonUptoRow : OpenClaim := { program := "ytbebalgleiafdab", sum := "9729d9ba6c30b823608d30a3e1d38a18eb1acba688edbf40ceda3f20187d6355", func := "loop.example/g01236/laws.FnExactMirrorPolygon", spec := "fnExactMirrorPolygon", unfollowed := true, recurses := true, plainKeys := false, apart := false, narrowed := true }
def FnExactMirrorPolygonUptoSaid : Prop := fnExactMirrorPolygonUptoRow.holds Try.pinned (OpenSpec.upto fnExactMirrorPolygonSpec)

/-- 'laws.FnExactCountWith', WHERE WHAT IT READS IS OF BULK AT MOST 1048576: true; the input reads as it did. -/
def fnExactCountWithUptoRow : OpenClaim := { program := "ytbebalgleiafdab", sum := "9729d9ba6c30b823608d30a3e1d38a18eb1acba688edbf40ceda3f20187d6355", func := "loop.example/g01236/laws.FnExactCountWith", spec := "fnExactCountWith", unfollowed := true, recurses := true, plainKeys := false, apart := false, narrowed := true }
def FnExactCountWithUptoSaid : Prop := fnExactCountWithUptoRow.holds Try.pinned (OpenSpec.upto fnExactCountWithSpec)

/-- 'laws.FnExactTrianglesOf', WHERE WHAT IT READS IS OF BULK AT MOST 1048576: true; the input reads as it did. -/
def fnExactTrianglesOfUptoRow : OpenClaim := { program := "ytbebalgleiafdab", sum := "9729d9ba6c30b823608d30a3e1d38a18eb1acba688edbf40ceda3f20187d6355", func := "loop.example/g01236/laws.FnExactTrianglesOf", spec := "fnExactTrianglesOf", unfollowed := true, recurses := true, plainKeys := false, apart := false, narrowed := true }
def FnExactTrianglesOfUptoSaid : Prop := fnExactTrianglesOfUptoRow.holds Try.pinned (OpenSpec.upto fnExactTrianglesOfSpec)

/-- 'laws.FnExactTrianglesBeside', WHERE WHAT IT READS IS OF BULK AT MOST 1048576: true; the input reads as it did. -/
def fnExactTrianglesBesideUptoRow : OpenClaim := { program := "ytbebalgleiafdab", sum := "9729d9ba6c30b823608d30a3e1d38a18eb1acba688edbf40ceda3f20187d6355", func := "loop.example/g01236/laws.FnExactTrianglesBeside", spec := "fnExactTrianglesBeside", unfollowed := true, recurses := true, plainKeys := false, apart := false, narrowed := true }
def FnExactTrianglesBesideUptoSaid : Prop := fnExactTrianglesBesideUptoRow.holds Try.pinned (OpenSpec.upto fnExactTrianglesBesideSpec)

/-- 'laws.FnExactFriezeOfDiagonal', WHERE WHAT IT READS IS OF BULK AT MOST 1048576: true; the input reads as it did. -/
def fnExactFriezeOfDiagonalUptoRow : OpenClaim := { program := "ytbebalgleiafdab", sum := "9729d9ba6c30b823608d30a3e1d38a18eb1acba688edbf40ceda3f20187d6355", func := "loop.example/g01236/laws.FnExactFriezeOfDiagonal", spec := "fnExactFriezeOfDiagonal", unfollowed := true, recurses := true, plainKeys := false, apart := false, narrowed := true }
def FnExactFriezeOfDiagonalUptoSaid : Prop := fnExactFriezeOfDiagonalUptoRow.holds Try.pinned (OpenSpec.upto fnExactFriezeOfDiagonalSpec)

end Rows
end Go.Proofs.Ytbebalgleiafdab
