/-
  No cell of these rows narrows 'for every input' (looked for: loops, veiled, ifaces, maps, wideKeys, modest, calm, conditions, laid).
  DERIVED. THE GIVEN ROWS OF THIS SEAT. 8 by the template 'for every input the law returns true; each argument reads behind the call as it read before'; 0 by the template 'total and deterministic' (their statements: YtbcdpcnjmchhpabTotals.lean).
  GIVEN WITH THE SEED: the statements are not yours to turn. If you find one false, say at which input.
  Laid BY PROGRAM, IN A SANDBOX (cutbox-rows.mjs): the forced cells as the released guide's own fill.sh prints them over the translation 8ed2029cc981e8c7… (all of the seat's roots in one cut). By AI agents, Wed Nov 11 2026. No macro, syntax, notation, axiom, sorry.
-/
import Derived.Test.YtbcdpcnjmchhpabChecked
import GoSem.Claim
import GoSem.ClaimJoined
import GoSem.ClaimMapViews
import Derived.JoinedTies
import Derived.KernelRfl
namespace Go.Proofs.Ytbcdpcnjmchhpab
/- THE CELL 'sum', in the pinned program and in every row, IS THE sha256 OF THE DUMP (.gsa) THAT YtbcdpcnjmchhpabProg.lean LOADS. Nothing in Lean hashes anything: it is a label: what it is worth is what the hold of that sum in a sandbox is worth. -/
noncomputable def Try.pinned : Pinned := { name := "ytbcdpcnjmchhpab", sum := "8ed2029cc981e8c77f364a97ae51a70f3dc7759cb164db74969af625583f6edf", checked := Try.checked }
namespace Rows
def none {H : Type} : Left H := { results := [], args := [] }

/-- 'laws.FnExactAllTriangulations': WHATEVER THE INPUT: true; the input reads as it did. -/
def fnExactAllTriangulationsSpec : ChangeSpec := { name := "fnExactAllTriangulations", fn := fun _ => fun
  | [d] => { results := [.lit (.bool true)], args := [d] }
  | _ => none }
def fnExactAllTriangulationsRow : OpenClaim := { program := "ytbcdpcnjmchhpab", sum := "8ed2029cc981e8c77f364a97ae51a70f3dc7759cb164db74969af625583f6edf", func := "loop.example/g01236/laws.FnExactAllTriangulations", spec := "fnExactAllTriangulations", unfollowed := true, recurses := true, leaving := true, apart := false }
def FnExactAllTriangulationsSaid : Prop := fnExactAllTriangulationsRow.holds Try.pinned (OpenSpec.ofChange fnExactAllTriangulationsSpec)

/-- ITS FALSE NEIGHBOUR: 'it returns false'. Refute it at one input. -/
def fnExactAllTriangulationsWrong : ChangeSpec := { name := "fnExactAllTriangulations", fn := fun _ => fun
  | [d] => { results := [.lit (.bool false)], args := [d] }
  | _ => none }
def FnExactAllTriangulationsWrongFalsely : Prop := fnExactAllTriangulationsRow.holds Try.pinned (OpenSpec.ofChange fnExactAllTriangulationsWrong)

/-- 'laws.FnExactWidestDistance': WHATEVER THE INPUT: true; the input reads as it did. -/
def fnExactWidestDistanceSpec : ChangeSpec := { name := "fnExactWidestDistance", fn := fun _ => fun
  | [d] => { results := [.lit (.bool true)], args := [d] }
  | _ => none }
def fnExactWidestDistanceRow : OpenClaim := { program := "ytbcdpcnjmchhpab", sum := "8ed2029cc981e8c77f364a97ae51a70f3dc7759cb164db74969af625583f6edf", func := "loop.example/g01236/laws.FnExactWidestDistance", spec := "fnExactWidestDistance", unfollowed := true, recurses := true, leaving := true, apart := false }
def FnExactWidestDistanceSaid : Prop := fnExactWidestDistanceRow.holds Try.pinned (OpenSpec.ofChange fnExactWidestDistanceSpec)

/-- ITS FALSE NEIGHBOUR: 'it returns false'. Refute it at one input. -/
def fnExactWidestDistanceWrong : ChangeSpec := { name := "fnExactWidestDistance", fn := fun _ => fun
  | [d] => { results := [.lit (.bool false)], args := [d] }
  | _ => none }
def FnExactWidestDistanceWrongFalsely : Prop := fnExactWidestDistanceRow.holds Try.pinned (OpenSpec.ofChange fnExactWidestDistanceWrong)

/-- 'laws.FnExactCountByFlips': WHATEVER THE INPUT: true; the input reads as it did. -/
def fnExactCountByFlipsSpec : ChangeSpec := { name := "fnExactCountByFlips", fn := fun _ => fun
  | [d1, d2] => { results := [.lit (.bool true)], args := [d1, d2] }
  | _ => none }
def fnExactCountByFlipsRow : OpenClaim := { program := "ytbcdpcnjmchhpab", sum := "8ed2029cc981e8c77f364a97ae51a70f3dc7759cb164db74969af625583f6edf", func := "loop.example/g01236/laws.FnExactCountByFlips", spec := "fnExactCountByFlips", unfollowed := true, recurses := true, leaving := true, apart := false }
def FnExactCountByFlipsSaid : Prop := fnExactCountByFlipsRow.holds Try.pinned (OpenSpec.ofChange fnExactCountByFlipsSpec)

/-- ITS FALSE NEIGHBOUR: 'it returns false'. Refute it at one input. -/
def fnExactCountByFlipsWrong : ChangeSpec := { name := "fnExactCountByFlips", fn := fun _ => fun
  | [d1, d2] => { results := [.lit (.bool false)], args := [d1, d2] }
  | _ => none }
def FnExactCountByFlipsWrongFalsely : Prop := fnExactCountByFlipsRow.holds Try.pinned (OpenSpec.ofChange fnExactCountByFlipsWrong)

/-- 'laws.FnExactFarthestByFlips': WHATEVER THE INPUT: true; the input reads as it did. -/
def fnExactFarthestByFlipsSpec : ChangeSpec := { name := "fnExactFarthestByFlips", fn := fun _ => fun
  | [d1, d2] => { results := [.lit (.bool true)], args := [d1, d2] }
  | _ => none }
def fnExactFarthestByFlipsRow : OpenClaim := { program := "ytbcdpcnjmchhpab", sum := "8ed2029cc981e8c77f364a97ae51a70f3dc7759cb164db74969af625583f6edf", func := "loop.example/g01236/laws.FnExactFarthestByFlips", spec := "fnExactFarthestByFlips", unfollowed := true, recurses := true, leaving := true, apart := false }
def FnExactFarthestByFlipsSaid : Prop := fnExactFarthestByFlipsRow.holds Try.pinned (OpenSpec.ofChange fnExactFarthestByFlipsSpec)

/-- ITS FALSE NEIGHBOUR: 'it returns false'. Refute it at one input. -/
def fnExactFarthestByFlipsWrong : ChangeSpec := { name := "fnExactFarthestByFlips", fn := fun _ => fun
  | [d1, d2] => { results := [.lit (.bool false)], args := [d1, d2] }
  | _ => none }
def FnExactFarthestByFlipsWrongFalsely : Prop := fnExactFarthestByFlipsRow.holds Try.pinned (OpenSpec.ofChange fnExactFarthestByFlipsWrong)

/-- 'laws.FnExactFirstFlips': WHATEVER THE INPUT: true; the input reads as it did. -/
def fnExactFirstFlipsSpec : ChangeSpec := { name := "fnExactFirstFlips", fn := fun _ => fun
  | [d1, d2, d3] => { results := [.lit (.bool true)], args := [d1, d2, d3] }
  | _ => none }
def fnExactFirstFlipsRow : OpenClaim := { program := "ytbcdpcnjmchhpab", sum := "8ed2029cc981e8c77f364a97ae51a70f3dc7759cb164db74969af625583f6edf", func := "loop.example/g01236/laws.FnExactFirstFlips", spec := "fnExactFirstFlips", unfollowed := true, recurses := true, leaving := true, apart := false }
def FnExactFirstFlipsSaid : Prop := fnExactFirstFlipsRow.holds Try.pinned (OpenSpec.ofChange fnExactFirstFlipsSpec)

/-- ITS FALSE NEIGHBOUR: 'it returns false'. Refute it at one input. -/
def fnExactFirstFlipsWrong : ChangeSpec := { name := "fnExactFirstFlips", fn := fun _ => fun
  | [d1, d2, d3] => { results := [.lit (.bool false)], args := [d1, d2, d3] }
  | _ => none }
def FnExactFirstFlipsWrongFalsely : Prop := fnExactFirstFlipsRow.holds Try.pinned (OpenSpec.ofChange fnExactFirstFlipsWrong)

/-- 'laws.FnExactFlipDistance': WHATEVER THE INPUT: true; the input reads as it did. -/
def fnExactFlipDistanceSpec : ChangeSpec := { name := "fnExactFlipDistance", fn := fun _ => fun
  | [d1, d2, d3] => { results := [.lit (.bool true)], args := [d1, d2, d3] }
  | _ => none }
def fnExactFlipDistanceRow : OpenClaim := { program := "ytbcdpcnjmchhpab", sum := "8ed2029cc981e8c77f364a97ae51a70f3dc7759cb164db74969af625583f6edf", func := "loop.example/g01236/laws.FnExactFlipDistance", spec := "fnExactFlipDistance", unfollowed := true, recurses := true, leaving := true, apart := false }
def FnExactFlipDistanceSaid : Prop := fnExactFlipDistanceRow.holds Try.pinned (OpenSpec.ofChange fnExactFlipDistanceSpec)

/-- ITS FALSE NEIGHBOUR: 'it returns false'. Refute it at one input. -/
def fnExactFlipDistanceWrong : ChangeSpec := { name := "fnExactFlipDistance", fn := fun _ => fun
  | [d1, d2, d3] => { results := [.lit (.bool false)], args := [d1, d2, d3] }
  | _ => none }
def FnExactFlipDistanceWrongFalsely : Prop := fnExactFlipDistanceRow.holds Try.pinned (OpenSpec.ofChange fnExactFlipDistanceWrong)

/-- 'laws.FnExactIsFrieze': WHATEVER THE INPUT: true; the input reads as it did. -/
def fnExactIsFriezeSpec : ChangeSpec := { name := "fnExactIsFrieze", fn := fun _ => fun
  | [d] => { results := [.lit (.bool true)], args := [d] }
  | _ => none }
def fnExactIsFriezeRow : OpenClaim := { program := "ytbcdpcnjmchhpab", sum := "8ed2029cc981e8c77f364a97ae51a70f3dc7759cb164db74969af625583f6edf", func := "loop.example/g01236/laws.FnExactIsFrieze", spec := "fnExactIsFrieze", unfollowed := true, recurses := true, leaving := true, apart := false }
def FnExactIsFriezeSaid : Prop := fnExactIsFriezeRow.holds Try.pinned (OpenSpec.ofChange fnExactIsFriezeSpec)

/-- ITS FALSE NEIGHBOUR: 'it returns false'. Refute it at one input. -/
def fnExactIsFriezeWrong : ChangeSpec := { name := "fnExactIsFrieze", fn := fun _ => fun
  | [d] => { results := [.lit (.bool false)], args := [d] }
  | _ => none }
def FnExactIsFriezeWrongFalsely : Prop := fnExactIsFriezeRow.holds Try.pinned (OpenSpec.ofChange fnExactIsFriezeWrong)

/-- 'laws.FnExactFriezeOfDiagonal': WHATEVER THE INPUT: true; the input reads as it did. -/
def fnExactFriezeOfDiagonalSpec : ChangeSpec := { name := "fnExactFriezeOfDiagonal", fn := fun _ => fun
  | [d] => { results := [.lit (.bool true)], args := [d] }
  | _ => none }
def fnExactFriezeOfDiagonalRow : OpenClaim := { program := "ytbcdpcnjmchhpab", sum := "8ed2029cc981e8c77f364a97ae51a70f3dc7759cb164db74969af625583f6edf", func := "loop.example/g01236/laws.FnExactFriezeOfDiagonal", spec := "fnExactFriezeOfDiagonal", unfollowed := true, recurses := true, leaving := true, apart := false }
def FnExactFriezeOfDiagonalSaid : Prop := fnExactFriezeOfDiagonalRow.holds Try.pinned (OpenSpec.ofChange fnExactFriezeOfDiagonalSpec)

/-- ITS FALSE NEIGHBOUR: 'it returns false'. Refute it at one input. -/
def fnExactFriezeOfDiagonalWrong : ChangeSpec := { name := "fnExactFriezeOfDiagonal", fn := fun _ => fun
  | [d] => { results := [.lit (.bool false)], args := [d] }
  | _ => none }
def FnExactFriezeOfDiagonalWrongFalsely : Prop := fnExactFriezeOfDiagonalRow.holds Try.pinned (OpenSpec.ofChange fnExactFriezeOfDiagonalWrong)

/- THE SECOND FORM. 'bulk': how many values and letters a reading holds, each counted each time it is reached (what is shared counts as often as it is met; a slice's spare places count too). A statement '..UptoSaid' is the law's where the arguments, and the package variables that the reading takes, are together of bulk at most 1048576: NARROWER than '..Said'. Prove '..Said' where nothing that the law and all that it calls make is longer than what came in: it says more and counts as full. Else prove '..UptoSaid'. A law counts once. -/
mutual
def uptoBulk {H : Type} : DataW H → Nat
  | .lit (.string bytes) => bytes.length + 1
  | .lit _ => 1
  | .nil => 1
  | .ptr d => uptoBulk d + 1
  | .slice elems spare => uptoBulkAll elems + uptoBulkAll spare + 1
  | .agg parts => uptoBulkAll parts + 1
  | .iface _ d => uptoBulk d + 1
  | .map entries => uptoBulkEntries entries + 1
  | .held _ => 1
def uptoBulkAll {H : Type} : List (DataW H) → Nat
  | [] => 0
  | d :: r => uptoBulk d + uptoBulkAll r
def uptoBulkEntries {H : Type} : List (Lit × DataW H) → Nat
  | [] => 0
  | x :: r => uptoBulkEntry x + uptoBulkEntries r
def uptoBulkEntry {H : Type} : Lit × DataW H → Nat
  | (.string bytes, d) => bytes.length + uptoBulk d + 1
  | (_, d) => uptoBulk d + 1
 end
def uptoSmall : (H : Type) → List (DataW H) → Bool := fun _ ds => decide (uptoBulkAll ds ≤ 1048576)
def OpenSpec.upto (s : _root_.Go.ChangeSpec) : _root_.Go.OpenSpec := { _root_.Go.OpenSpec.ofChange s with cond := some uptoSmall }

/-- 'laws.FnExactAllTriangulations', WHERE WHAT IT READS IS OF BULK AT MOST 1048576: true; the input reads as it did. -/
def fnExactAllTriangulationsUptoRow : OpenClaim := { program := "ytbcdpcnjmchhpab", sum := "8ed2029cc981e8c77f364a97ae51a70f3dc7759cb164db74969af625583f6edf", func := "loop.example/g01236/laws.FnExactAllTriangulations", spec := "fnExactAllTriangulations", unfollowed := true, recurses := true, leaving := true, apart := false, narrowed := true }
def FnExactAllTriangulationsUptoSaid : Prop := fnExactAllTriangulationsUptoRow.holds Try.pinned (OpenSpec.upto fnExactAllTriangulationsSpec)

/-- 'laws.FnExactWidestDistance', WHERE WHAT IT READS IS OF BULK AT MOST 1048576: true; the input reads as it did. -/
def fnExactWidestDistanceUptoRow : OpenClaim := { program := "ytbcdpcnjmchhpab", sum := "8ed2029cc981e8c77f364a97ae51a70f3dc7759cb164db74969af625583f6edf", func := "loop.example/g01236/laws.FnExactWidestDistance", spec := "fnExactWidestDistance", unfollowed := true, recurses := true, leaving := true, apart := false, narrowed := true }
def FnExactWidestDistanceUptoSaid : Prop := fnExactWidestDistanceUptoRow.holds Try.pinned (OpenSpec.upto fnExactWidestDistanceSpec)

/-- 'laws.FnExactCountByFlips', WHERE WHAT IT READS IS OF BULK AT MOST 1048576: true; the input reads as it did. -/
def fnExactCountByFlipsUptoRow : OpenClaim := { program := "ytbcdpcnjmchhpab", sum := "8ed2029cc981e8c77f364a97ae51a70f3dc7759cb164db74969af625583f6edf", func := "loop.example/g01236/laws.FnExactCountByFlips", spec := "fnExactCountByFlips", unfollowed := true, recurses := true, leaving := true, apart := false, narrowed := true }
def FnExactCountByFlipsUptoSaid : Prop := fnExactCountByFlipsUptoRow.holds Try.pinned (OpenSpec.upto fnExactCountByFlipsSpec)

/-- 'laws.FnExactFarthestByFlips', WHERE WHAT IT READS IS OF BULK AT MOST 1048576: true; the input reads as it did. -/
def fnExactFarthestByFlipsUptoRow : OpenClaim := { program := "ytbcdpcnjmchhpab", sum := "8ed2029cc981e8c77f364a97ae51a70f3dc7759cb164db74969af625583f6edf", func := "loop.example/g01236/laws.FnExactFarthestByFlips", spec := "fnExactFarthestByFlips", unfollowed := true, recurses := true, leaving := true, apart := false, narrowed := true }
def FnExactFarthestByFlipsUptoSaid : Prop := fnExactFarthestByFlipsUptoRow.holds Try.pinned (OpenSpec.upto fnExactFarthestByFlipsSpec)

/-- 'laws.FnExactFirstFlips', WHERE WHAT IT READS IS OF BULK AT MOST 1048576: true; the input reads as it did. -/
def fnExactFirstFlipsUptoRow : OpenClaim := { program := "ytbcdpcnjmchhpab", sum := "8ed2029cc981e8c77f364a97ae51a70f3dc7759cb164db74969af625583f6edf", func := "loop.example/g01236/laws.FnExactFirstFlips", spec := "fnExactFirstFlips", unfollowed := true, recurses := true, leaving := true, apart := false, narrowed := true }
def FnExactFirstFlipsUptoSaid : Prop := fnExactFirstFlipsUptoRow.holds Try.pinned (OpenSpec.upto fnExactFirstFlipsSpec)

/-- 'laws.FnExactFlipDistance', WHERE WHAT IT READS IS OF BULK AT MOST 1048576: true; the input reads as it did. -/
def fnExactFlipDistanceUptoRow : OpenClaim := { program := "ytbcdpcnjmchhpab", sum := "8ed2029cc981e8c77f364a97ae51a70f3dc7759cb164db74969af625583f6edf", func := "loop.example/g01236/laws.FnExactFlipDistance", spec := "fnExactFlipDistance", unfollowed := true, recurses := true, leaving := true, apart := false, narrowed := true }
def FnExactFlipDistanceUptoSaid : Prop := fnExactFlipDistanceUptoRow.holds Try.pinned (OpenSpec.upto fnExactFlipDistanceSpec)

/-- 'laws.FnExactIsFrieze', WHERE WHAT IT READS IS OF BULK AT MOST 1048576: true; the input reads as it did. -/
def fnExactIsFriezeUptoRow : OpenClaim := { program := "ytbcdpcnjmchhpab", sum := "8ed2029cc981e8c77f364a97ae51a70f3dc7759cb164db74969af625583f6edf", func := "loop.example/g01236/laws.FnExactIsFrieze", spec := "fnExactIsFrieze", unfollowed := true, recurses := true, leaving := true, apart := false, narrowed := true }
def FnExactIsFriezeUptoSaid : Prop := fnExactIsFriezeUptoRow.holds Try.pinned (OpenSpec.upto fnExactIsFriezeSpec)

/-- 'laws.FnExactFriezeOfDiagonal', WHERE WHAT IT READS IS OF BULK AT MOST 1048576: true; the input reads as it did. -/
def fnExactFriezeOfDiagonalUptoRow : OpenClaim := { program := "ytbcdpcnjmchhpab", sum := "8ed2029cc981e8c77f364a97ae51a70f3dc7759cb164db74969af625583f6edf", func := "loop.example/g01236/laws.FnExactFriezeOfDiagonal", spec := "fnExactFriezeOfDiagonal", unfollowed := true, recurses := true, leaving := true, apart := false, narrowed := true }
def FnExactFriezeOfDiagonalUptoSaid : Prop := fnExactFriezeOfDiagonalUptoRow.holds Try.pinned (OpenSpec.upto fnExactFriezeOfDiagonalSpec)

end Rows
end Go.Proofs.Ytbcdpcnjmchhpab
