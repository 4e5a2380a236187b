/-
  No cell of these rows narrows 'for every input' (looked for: loops, veiled, ifaces, maps, wideKeys, modest, calm, conditions, laid).
  DERIVED. THE GIVEN ROWS OF THIS SEAT. 9 by the template 'for every input the law returns true; each argument reads behind the call as it read before'; 0 by the template 'total and deterministic' (their statements: YtaifgfmkkgndkabTotals.lean).
  GIVEN WITH THE SEED: the statements are not yours to turn. If you find one false, say at which input.
  Laid BY PROGRAM, IN A SANDBOX (cutbox-rows.mjs): the forced cells as the released guide's own fill.sh prints them over the translation 20d0d60d045f2c7e… (all of the seat's roots in one cut). By AI agents, Wed Nov 11 2026. No macro, syntax, notation, axiom, sorry.
-/
import Derived.Test.YtaifgfmkkgndkabChecked
import GoSem.Claim
import GoSem.ClaimJoined
import GoSem.ClaimMapViews
import Derived.JoinedTies
import Derived.KernelRfl
namespace Go.Proofs.Ytaifgfmkkgndkab
/- THE CELL 'sum', in the pinned program and in every row, IS THE sha256 OF THE DUMP (.gsa) THAT YtaifgfmkkgndkabProg.lean LOADS. Nothing in Lean hashes anything: it is a label: what it is worth is what the hold of that sum in a sandbox is worth. -/
noncomputable def Try.pinned : Pinned := { name := "ytaifgfmkkgndkab", sum := "20d0d60d045f2c7ea7050449be0897008a08b4e5d691f34b209465a52e9aefde", checked := Try.checked }
namespace Rows
def none {H : Type} : Left H := { results := [], args := [] }

/-- 'laws.FnExactFareyList': WHATEVER THE INPUT: true; the input reads as it did. -/
def fnExactFareyListSpec : ChangeSpec := { name := "fnExactFareyList", fn := fun _ => fun
  | [d] => { results := [.lit (.bool true)], args := [d] }
  | _ => none }
def fnExactFareyListRow : OpenClaim := { program := "ytaifgfmkkgndkab", sum := "20d0d60d045f2c7ea7050449be0897008a08b4e5d691f34b209465a52e9aefde", func := "loop.example/g01236/laws.FnExactFareyList", spec := "fnExactFareyList", unfollowed := true, recurses := true, plainKeys := false, apart := false }
def FnExactFareyListSaid : Prop := fnExactFareyListRow.holds Try.pinned (OpenSpec.ofChange fnExactFareyListSpec)

/-- ITS FALSE NEIGHBOUR: 'it returns false'. Refute it at one input. -/
def fnExactFareyListWrong : ChangeSpec := { name := "fnExactFareyList", fn := fun _ => fun
  | [d] => { results := [.lit (.bool false)], args := [d] }
  | _ => none }
def FnExactFareyListWrongFalsely : Prop := fnExactFareyListRow.holds Try.pinned (OpenSpec.ofChange fnExactFareyListWrong)

/-- 'laws.FnExactCountFarey': WHATEVER THE INPUT: true; the input reads as it did. -/
def fnExactCountFareySpec : ChangeSpec := { name := "fnExactCountFarey", fn := fun _ => fun
  | [d] => { results := [.lit (.bool true)], args := [d] }
  | _ => none }
def fnExactCountFareyRow : OpenClaim := { program := "ytaifgfmkkgndkab", sum := "20d0d60d045f2c7ea7050449be0897008a08b4e5d691f34b209465a52e9aefde", func := "loop.example/g01236/laws.FnExactCountFarey", spec := "fnExactCountFarey", unfollowed := true, recurses := true, plainKeys := false, apart := false }
def FnExactCountFareySaid : Prop := fnExactCountFareyRow.holds Try.pinned (OpenSpec.ofChange fnExactCountFareySpec)

/-- ITS FALSE NEIGHBOUR: 'it returns false'. Refute it at one input. -/
def fnExactCountFareyWrong : ChangeSpec := { name := "fnExactCountFarey", fn := fun _ => fun
  | [d] => { results := [.lit (.bool false)], args := [d] }
  | _ => none }
def FnExactCountFareyWrongFalsely : Prop := fnExactCountFareyRow.holds Try.pinned (OpenSpec.ofChange fnExactCountFareyWrong)

/-- 'laws.FnExactNextFarey': WHATEVER THE INPUT: true; the input reads as it did. -/
def fnExactNextFareySpec : ChangeSpec := { name := "fnExactNextFarey", fn := fun _ => fun
  | [d1, d2] => { results := [.lit (.bool true)], args := [d1, d2] }
  | _ => none }
def fnExactNextFareyRow : OpenClaim := { program := "ytaifgfmkkgndkab", sum := "20d0d60d045f2c7ea7050449be0897008a08b4e5d691f34b209465a52e9aefde", func := "loop.example/g01236/laws.FnExactNextFarey", spec := "fnExactNextFarey", unfollowed := true, recurses := true, plainKeys := false, apart := false }
def FnExactNextFareySaid : Prop := fnExactNextFareyRow.holds Try.pinned (OpenSpec.ofChange fnExactNextFareySpec)

/-- ITS FALSE NEIGHBOUR: 'it returns false'. Refute it at one input. -/
def fnExactNextFareyWrong : ChangeSpec := { name := "fnExactNextFarey", fn := fun _ => fun
  | [d1, d2] => { results := [.lit (.bool false)], args := [d1, d2] }
  | _ => none }
def FnExactNextFareyWrongFalsely : Prop := fnExactNextFareyRow.holds Try.pinned (OpenSpec.ofChange fnExactNextFareyWrong)

/-- 'laws.FnExactFractionsOf': WHATEVER THE INPUT: true; the input reads as it did. -/
def fnExactFractionsOfSpec : ChangeSpec := { name := "fnExactFractionsOf", fn := fun _ => fun
  | [d] => { results := [.lit (.bool true)], args := [d] }
  | _ => none }
def fnExactFractionsOfRow : OpenClaim := { program := "ytaifgfmkkgndkab", sum := "20d0d60d045f2c7ea7050449be0897008a08b4e5d691f34b209465a52e9aefde", func := "loop.example/g01236/laws.FnExactFractionsOf", spec := "fnExactFractionsOf", unfollowed := true, recurses := true, plainKeys := false, apart := false }
def FnExactFractionsOfSaid : Prop := fnExactFractionsOfRow.holds Try.pinned (OpenSpec.ofChange fnExactFractionsOfSpec)

/-- ITS FALSE NEIGHBOUR: 'it returns false'. Refute it at one input. -/
def fnExactFractionsOfWrong : ChangeSpec := { name := "fnExactFractionsOf", fn := fun _ => fun
  | [d] => { results := [.lit (.bool false)], args := [d] }
  | _ => none }
def FnExactFractionsOfWrongFalsely : Prop := fnExactFractionsOfRow.holds Try.pinned (OpenSpec.ofChange fnExactFractionsOfWrong)

/-- 'laws.FnExactIsFractionPolygon': WHATEVER THE INPUT: true; the input reads as it did. -/
def fnExactIsFractionPolygonSpec : ChangeSpec := { name := "fnExactIsFractionPolygon", fn := fun _ => fun
  | [d] => { results := [.lit (.bool true)], args := [d] }
  | _ => none }
def fnExactIsFractionPolygonRow : OpenClaim := { program := "ytaifgfmkkgndkab", sum := "20d0d60d045f2c7ea7050449be0897008a08b4e5d691f34b209465a52e9aefde", func := "loop.example/g01236/laws.FnExactIsFractionPolygon", spec := "fnExactIsFractionPolygon", unfollowed := true, recurses := true, plainKeys := false, apart := false }
def FnExactIsFractionPolygonSaid : Prop := fnExactIsFractionPolygonRow.holds Try.pinned (OpenSpec.ofChange fnExactIsFractionPolygonSpec)

/-- ITS FALSE NEIGHBOUR: 'it returns false'. Refute it at one input. -/
def fnExactIsFractionPolygonWrong : ChangeSpec := { name := "fnExactIsFractionPolygon", fn := fun _ => fun
  | [d] => { results := [.lit (.bool false)], args := [d] }
  | _ => none }
def FnExactIsFractionPolygonWrongFalsely : Prop := fnExactIsFractionPolygonRow.holds Try.pinned (OpenSpec.ofChange fnExactIsFractionPolygonWrong)

/-- 'laws.FnExactQuiddityOfFractions': WHATEVER THE INPUT: true; the input reads as it did. -/
def fnExactQuiddityOfFractionsSpec : ChangeSpec := { name := "fnExactQuiddityOfFractions", fn := fun _ => fun
  | [d] => { results := [.lit (.bool true)], args := [d] }
  | _ => none }
def fnExactQuiddityOfFractionsRow : OpenClaim := { program := "ytaifgfmkkgndkab", sum := "20d0d60d045f2c7ea7050449be0897008a08b4e5d691f34b209465a52e9aefde", func := "loop.example/g01236/laws.FnExactQuiddityOfFractions", spec := "fnExactQuiddityOfFractions", unfollowed := true, recurses := true, plainKeys := false, apart := false }
def FnExactQuiddityOfFractionsSaid : Prop := fnExactQuiddityOfFractionsRow.holds Try.pinned (OpenSpec.ofChange fnExactQuiddityOfFractionsSpec)

/-- ITS FALSE NEIGHBOUR: 'it returns false'. Refute it at one input. -/
def fnExactQuiddityOfFractionsWrong : ChangeSpec := { name := "fnExactQuiddityOfFractions", fn := fun _ => fun
  | [d] => { results := [.lit (.bool false)], args := [d] }
  | _ => none }
def FnExactQuiddityOfFractionsWrongFalsely : Prop := fnExactQuiddityOfFractionsRow.holds Try.pinned (OpenSpec.ofChange fnExactQuiddityOfFractionsWrong)

/-- 'laws.FnExactNearPairs': WHATEVER THE INPUT: true; the input reads as it did. -/
def fnExactNearPairsSpec : ChangeSpec := { name := "fnExactNearPairs", fn := fun _ => fun
  | [d] => { results := [.lit (.bool true)], args := [d] }
  | _ => none }
def fnExactNearPairsRow : OpenClaim := { program := "ytaifgfmkkgndkab", sum := "20d0d60d045f2c7ea7050449be0897008a08b4e5d691f34b209465a52e9aefde", func := "loop.example/g01236/laws.FnExactNearPairs", spec := "fnExactNearPairs", unfollowed := true, recurses := true, plainKeys := false, apart := false }
def FnExactNearPairsSaid : Prop := fnExactNearPairsRow.holds Try.pinned (OpenSpec.ofChange fnExactNearPairsSpec)

/-- ITS FALSE NEIGHBOUR: 'it returns false'. Refute it at one input. -/
def fnExactNearPairsWrong : ChangeSpec := { name := "fnExactNearPairs", fn := fun _ => fun
  | [d] => { results := [.lit (.bool false)], args := [d] }
  | _ => none }
def FnExactNearPairsWrongFalsely : Prop := fnExactNearPairsRow.holds Try.pinned (OpenSpec.ofChange fnExactNearPairsWrong)

/-- 'laws.FnExactTrianglesOf': WHATEVER THE INPUT: true; the input reads as it did. -/
def fnExactTrianglesOfSpec : ChangeSpec := { name := "fnExactTrianglesOf", fn := fun _ => fun
  | [d1, d2] => { results := [.lit (.bool true)], args := [d1, d2] }
  | _ => none }
def fnExactTrianglesOfRow : OpenClaim := { program := "ytaifgfmkkgndkab", sum := "20d0d60d045f2c7ea7050449be0897008a08b4e5d691f34b209465a52e9aefde", func := "loop.example/g01236/laws.FnExactTrianglesOf", spec := "fnExactTrianglesOf", unfollowed := true, recurses := true, plainKeys := false, apart := false }
def FnExactTrianglesOfSaid : Prop := fnExactTrianglesOfRow.holds Try.pinned (OpenSpec.ofChange fnExactTrianglesOfSpec)

/-- ITS FALSE NEIGHBOUR: 'it returns false'. Refute it at one input. -/
def fnExactTrianglesOfWrong : ChangeSpec := { name := "fnExactTrianglesOf", fn := fun _ => fun
  | [d1, d2] => { results := [.lit (.bool false)], args := [d1, d2] }
  | _ => none }
def FnExactTrianglesOfWrongFalsely : Prop := fnExactTrianglesOfRow.holds Try.pinned (OpenSpec.ofChange fnExactTrianglesOfWrong)

/-- 'laws.FnExactTrianglesBeside': WHATEVER THE INPUT: true; the input reads as it did. -/
def fnExactTrianglesBesideSpec : ChangeSpec := { name := "fnExactTrianglesBeside", fn := fun _ => fun
  | [d1, d2] => { results := [.lit (.bool true)], args := [d1, d2] }
  | _ => none }
def fnExactTrianglesBesideRow : OpenClaim := { program := "ytaifgfmkkgndkab", sum := "20d0d60d045f2c7ea7050449be0897008a08b4e5d691f34b209465a52e9aefde", func := "loop.example/g01236/laws.FnExactTrianglesBeside", spec := "fnExactTrianglesBeside", unfollowed := true, recurses := true, plainKeys := false, apart := false }
def FnExactTrianglesBesideSaid : Prop := fnExactTrianglesBesideRow.holds Try.pinned (OpenSpec.ofChange fnExactTrianglesBesideSpec)

/-- ITS FALSE NEIGHBOUR: 'it returns false'. Refute it at one input. -/
def fnExactTrianglesBesideWrong : ChangeSpec := { name := "fnExactTrianglesBeside", fn := fun _ => fun
  | [d1, d2] => { results := [.lit (.bool false)], args := [d1, d2] }
  | _ => none }
def FnExactTrianglesBesideWrongFalsely : Prop := fnExactTrianglesBesideRow.holds Try.pinned (OpenSpec.ofChange fnExactTrianglesBesideWrong)

/- THE SECOND FORM. 'bulk': how many values and letters a reading holds, each counted each time it is reached (what is shared counts as often as it is met; a slice's spare places count too). A statement '..UptoSaid' is the law's where the arguments, and the package variables that the reading takes, are together of bulk at most 1048576: NARROWER than '..Said'. Prove '..Said' where nothing that the law and all that it calls make is longer than what came in: it says more and counts as full. Else prove '..UptoSaid'. A law counts once. -/
mutual
def uptoBulk {H : Type} : DataW H → Nat
  | .lit (.string bytes) => bytes.length + 1
  | .lit _ => 1
  | .nil => 1
  | .ptr d => uptoBulk d + 1
  | .slice elems spare => uptoBulkAll elems + uptoBulkAll spare + 1
  | .agg parts => uptoBulkAll parts + 1
  | .iface _ d => uptoBulk d + 1
  | .map entries => uptoBulkEntries entries + 1
  | .held _ => 1
def uptoBulkAll {H : Type} : List (DataW H) → Nat
  | [] => 0
  | d :: r => uptoBulk d + uptoBulkAll r
def uptoBulkEntries {H : Type} : List (Lit × DataW H) → Nat
  | [] => 0
  | x :: r => uptoBulkEntry x + uptoBulkEntries r
def uptoBulkEntry {H : Type} : Lit × DataW H → Nat
  | (.string bytes, d) => bytes.length + uptoBulk d + 1
  | (_, d) => uptoBulk d + 1
 end
def uptoSmall : (H : Type) → List (DataW H) → Bool := fun _ ds => decide (uptoBulkAll ds ≤ 1048576)
def OpenSpec.upto (s : _root_.Go.ChangeSpec) : _root_.Go.OpenSpec := { _root_.Go.OpenSpec.ofChange s with cond := some uptoSmall }

/-- 'laws.FnExactFareyList', WHERE WHAT IT READS IS OF BULK AT MOST 1048576: true; the input reads as it did. -/
def fnExactFareyListUptoRow : OpenClaim := { program := "ytaifgfmkkgndkab", sum := "20d0d60d045f2c7ea7050449be0897008a08b4e5d691f34b209465a52e9aefde", func := "loop.example/g01236/laws.FnExactFareyList", spec := "fnExactFareyList", unfollowed := true, recurses := true, plainKeys := false, apart := false, narrowed := true }
def FnExactFareyListUptoSaid : Prop := fnExactFareyListUptoRow.holds Try.pinned (OpenSpec.upto fnExactFareyListSpec)

/-- 'laws.FnExactCountFarey', WHERE WHAT IT READS IS OF BULK AT MOST 1048576: true; the input reads as it did. -/
def fnExactCountFareyUptoRow : OpenClaim := { program := "ytaifgfmkkgndkab", sum := "20d0d60d045f2c7ea7050449be0897008a08b4e5d691f34b209465a52e9aefde", func := "loop.example/g01236/laws.FnExactCountFarey", spec := "fnExactCountFarey", unfollowed := true, recurses := true, plainKeys := false, apart := false, narrowed := true }
def FnExactCountFareyUptoSaid : Prop := fnExactCountFareyUptoRow.holds Try.pinned (OpenSpec.upto fnExactCountFareySpec)

/-- 'laws.FnExactNextFarey', WHERE WHAT IT READS IS OF BULK AT MOST 1048576: true; the input reads as it did. -/
def fnExactNextFareyUptoRow : OpenClaim := { program := "ytaifgfmkkgndkab", sum := "20d0d60d045f2c7ea7050449be0897008a08b4e5d691f34b209465a52e9aefde", func := "loop.example/g01236/laws.FnExactNextFarey", spec := "fnExactNextFarey", unfollowed := true, recurses := true, plainKeys := false, apart := false, narrowed := true }
def FnExactNextFareyUptoSaid : Prop := fnExactNextFareyUptoRow.holds Try.pinned (OpenSpec.upto fnExactNextFareySpec)

/-- 'laws.FnExactFractionsOf', WHERE WHAT IT READS IS OF BULK AT MOST 1048576: true; the input reads as it did. -/
def fnExactFractionsOfUptoRow : OpenClaim := { program := "ytaifgfmkkgndkab", sum := "20d0d60d045f2c7ea7050449be0897008a08b4e5d691f34b209465a52e9aefde", func := "loop.example/g01236/laws.FnExactFractionsOf", spec := "fnExactFractionsOf", unfollowed := true, recurses := true, plainKeys := false, apart := false, narrowed := true }
def FnExactFractionsOfUptoSaid : Prop := fnExactFractionsOfUptoRow.holds Try.pinned (OpenSpec.upto fnExactFractionsOfSpec)

/-- 'laws.FnExactIsFractionPolygon', WHERE WHAT IT READS IS OF BULK AT MOST 1048576: true; the input reads as it did. -/
def fnExactIsFractionPolygonUptoRow : OpenClaim := { program := "ytaifgfmkkgndkab", sum := "20d0d60d045f2c7ea7050449be0897008a08b4e5d691f34b209465a52e9aefde", func := "loop.example/g01236/laws.FnExactIsFractionPolygon", spec := "fnExactIsFractionPolygon", unfollowed := true, recurses := true, plainKeys := false, apart := false, narrowed := true }
def FnExactIsFractionPolygonUptoSaid : Prop := fnExactIsFractionPolygonUptoRow.holds Try.pinned (OpenSpec.upto fnExactIsFractionPolygonSpec)

/-- 'laws.FnExactQuiddityOfFractions', WHERE WHAT IT READS IS OF BULK AT MOST 1048576: true; the input reads as it did. -/
def fnExactQuiddityOfFractionsUptoRow : OpenClaim := { program := "ytaifgfmkkgndkab", sum := "20d0d60d045f2c7ea7050449be0897008a08b4e5d691f34b209465a52e9aefde", func := "loop.example/g01236/laws.FnExactQuiddityOfFractions", spec := "fnExactQuiddityOfFractions", unfollowed := true, recurses := true, plainKeys := false, apart := false, narrowed := true }
def FnExactQuiddityOfFractionsUptoSaid : Prop := fnExactQuiddityOfFractionsUptoRow.holds Try.pinned (OpenSpec.upto fnExactQuiddityOfFractionsSpec)

/-- 'laws.FnExactNearPairs', WHERE WHAT IT READS IS OF BULK AT MOST 1048576: true; the input reads as it did. -/
def fnExactNearPairsUptoRow : OpenClaim := { program := "ytaifgfmkkgndkab", sum := "20d0d60d045f2c7ea7050449be0897008a08b4e5d691f34b209465a52e9aefde", func := "loop.example/g01236/laws.FnExactNearPairs", spec := "fnExactNearPairs", unfollowed := true, recurses := true, plainKeys := false, apart := false, narrowed := true }
def FnExactNearPairsUptoSaid : Prop := fnExactNearPairsUptoRow.holds Try.pinned (OpenSpec.upto fnExactNearPairsSpec)

/-- 'laws.FnExactTrianglesOf', WHERE WHAT IT READS IS OF BULK AT MOST 1048576: true; the input reads as it did. -/
def fnExactTrianglesOfUptoRow : OpenClaim := { program := "ytaifgfmkkgndkab", sum := "20d0d60d045f2c7ea7050449be0897008a08b4e5d691f34b209465a52e9aefde", func := "loop.example/g01236/laws.FnExactTrianglesOf", spec := "fnExactTrianglesOf", unfollowed := true, recurses := true, plainKeys := false, apart := false, narrowed := true }
def FnExactTrianglesOfUptoSaid : Prop := fnExactTrianglesOfUptoRow.holds Try.pinned (OpenSpec.upto fnExactTrianglesOfSpec)

/-- 'laws.FnExactTrianglesBeside', WHERE WHAT IT READS IS OF BULK AT MOST 1048576: true; the input reads as it did. -/
def fnExactTrianglesBesideUptoRow : OpenClaim := { program := "ytaifgfmkkgndkab", sum := "20d0d60d045f2c7ea7050449be0897008a08b4e5d691f34b209465a52e9aefde", func := "loop.example/g01236/laws.FnExactTrianglesBeside", spec := "fnExactTrianglesBeside", unfollowed := true, recurses := true, plainKeys := false, apart := false, narrowed := true }
def FnExactTrianglesBesideUptoSaid : Prop := fnExactTrianglesBesideUptoRow.holds Try.pinned (OpenSpec.upto fnExactTrianglesBesideSpec)

end Rows
end Go.Proofs.Ytaifgfmkkgndkab
