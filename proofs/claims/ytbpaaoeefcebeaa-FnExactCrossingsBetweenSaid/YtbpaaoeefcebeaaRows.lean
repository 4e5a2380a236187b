/-
  No cell of these rows narrows 'for every input' (looked for: loops, veiled, ifaces, maps, wideKeys, modest, calm, conditions, laid).
  DERIVED. THE GIVEN ROWS OF THIS SEAT. 12 by the template 'for every input the law returns true; each argument reads behind the call as it read before'; 0 by the template 'total and deterministic' (their statements: YtbpaaoeefcebeaaTotals.lean).
  GIVEN WITH THE SEED: the statements are not yours to turn. If you find one false, say at which input.
  Laid BY PROGRAM, IN A SANDBOX (cutbox-rows.mjs): the forced cells as the released guide's own fill.sh prints them over the translation 52743f1cf1ebd2fb… (all of the seat's roots in one cut). By AI agents, Wed Nov 11 2026. No macro, syntax, notation, axiom, sorry.
-/
import Derived.Test.YtbpaaoeefcebeaaChecked
import GoSem.Claim
import GoSem.ClaimJoined
import GoSem.ClaimMapViews
import Derived.JoinedTies
import Derived.KernelRfl
namespace Go.Proofs.Ytbpaaoeefcebeaa
/- THE CELL 'sum', in the pinned program and in every row, IS THE sha256 OF THE DUMP (.gsa) THAT YtbpaaoeefcebeaaProg.lean LOADS. Nothing in Lean hashes anything: it is a label: what it is worth is what the hold of that sum in a sandbox is worth. -/
noncomputable def Try.pinned : Pinned := { name := "ytbpaaoeefcebeaa", sum := "52743f1cf1ebd2fb351dfcaca17adc75d9cdff1e41e1309690feaa3ca77cd7ef", checked := Try.checked }
namespace Rows
def none {H : Type} : Left H := { results := [], args := [] }

/-- 'laws.FnExactTrianglesOf': WHATEVER THE INPUT: true; the input reads as it did. -/
def fnExactTrianglesOfSpec : ChangeSpec := { name := "fnExactTrianglesOf", fn := fun _ => fun
  | [d1, d2] => { results := [.lit (.bool true)], args := [d1, d2] }
  | _ => none }
def fnExactTrianglesOfRow : OpenClaim := { program := "ytbpaaoeefcebeaa", sum := "52743f1cf1ebd2fb351dfcaca17adc75d9cdff1e41e1309690feaa3ca77cd7ef", func := "loop.example/g01236/laws.FnExactTrianglesOf", spec := "fnExactTrianglesOf", unfollowed := true, recurses := true, plainKeys := false, apart := false }
def FnExactTrianglesOfSaid : Prop := fnExactTrianglesOfRow.holds Try.pinned (OpenSpec.ofChange fnExactTrianglesOfSpec)

/-- ITS FALSE NEIGHBOUR: 'it returns false'. Refute it at one input. -/
def fnExactTrianglesOfWrong : ChangeSpec := { name := "fnExactTrianglesOf", fn := fun _ => fun
  | [d1, d2] => { results := [.lit (.bool false)], args := [d1, d2] }
  | _ => none }
def FnExactTrianglesOfWrongFalsely : Prop := fnExactTrianglesOfRow.holds Try.pinned (OpenSpec.ofChange fnExactTrianglesOfWrong)

/-- 'laws.FnExactTrianglesBeside': WHATEVER THE INPUT: true; the input reads as it did. -/
def fnExactTrianglesBesideSpec : ChangeSpec := { name := "fnExactTrianglesBeside", fn := fun _ => fun
  | [d1, d2] => { results := [.lit (.bool true)], args := [d1, d2] }
  | _ => none }
def fnExactTrianglesBesideRow : OpenClaim := { program := "ytbpaaoeefcebeaa", sum := "52743f1cf1ebd2fb351dfcaca17adc75d9cdff1e41e1309690feaa3ca77cd7ef", func := "loop.example/g01236/laws.FnExactTrianglesBeside", spec := "fnExactTrianglesBeside", unfollowed := true, recurses := true, plainKeys := false, apart := false }
def FnExactTrianglesBesideSaid : Prop := fnExactTrianglesBesideRow.holds Try.pinned (OpenSpec.ofChange fnExactTrianglesBesideSpec)

/-- ITS FALSE NEIGHBOUR: 'it returns false'. Refute it at one input. -/
def fnExactTrianglesBesideWrong : ChangeSpec := { name := "fnExactTrianglesBeside", fn := fun _ => fun
  | [d1, d2] => { results := [.lit (.bool false)], args := [d1, d2] }
  | _ => none }
def FnExactTrianglesBesideWrongFalsely : Prop := fnExactTrianglesBesideRow.holds Try.pinned (OpenSpec.ofChange fnExactTrianglesBesideWrong)

/-- 'laws.FnExactPeriodOfPolygon': WHATEVER THE INPUT: true; the input reads as it did. -/
def fnExactPeriodOfPolygonSpec : ChangeSpec := { name := "fnExactPeriodOfPolygon", fn := fun _ => fun
  | [d1, d2] => { results := [.lit (.bool true)], args := [d1, d2] }
  | _ => none }
def fnExactPeriodOfPolygonRow : OpenClaim := { program := "ytbpaaoeefcebeaa", sum := "52743f1cf1ebd2fb351dfcaca17adc75d9cdff1e41e1309690feaa3ca77cd7ef", func := "loop.example/g01236/laws.FnExactPeriodOfPolygon", spec := "fnExactPeriodOfPolygon", unfollowed := true, recurses := true, plainKeys := false, apart := false }
def FnExactPeriodOfPolygonSaid : Prop := fnExactPeriodOfPolygonRow.holds Try.pinned (OpenSpec.ofChange fnExactPeriodOfPolygonSpec)

/-- ITS FALSE NEIGHBOUR: 'it returns false'. Refute it at one input. -/
def fnExactPeriodOfPolygonWrong : ChangeSpec := { name := "fnExactPeriodOfPolygon", fn := fun _ => fun
  | [d1, d2] => { results := [.lit (.bool false)], args := [d1, d2] }
  | _ => none }
def FnExactPeriodOfPolygonWrongFalsely : Prop := fnExactPeriodOfPolygonRow.holds Try.pinned (OpenSpec.ofChange fnExactPeriodOfPolygonWrong)

/-- 'laws.FnExactFlipDiagonal': WHATEVER THE INPUT: true; the input reads as it did. -/
def fnExactFlipDiagonalSpec : ChangeSpec := { name := "fnExactFlipDiagonal", fn := fun _ => fun
  | [d1, d2, d3] => { results := [.lit (.bool true)], args := [d1, d2, d3] }
  | _ => none }
def fnExactFlipDiagonalRow : OpenClaim := { program := "ytbpaaoeefcebeaa", sum := "52743f1cf1ebd2fb351dfcaca17adc75d9cdff1e41e1309690feaa3ca77cd7ef", func := "loop.example/g01236/laws.FnExactFlipDiagonal", spec := "fnExactFlipDiagonal", unfollowed := true, recurses := true, plainKeys := false, apart := false }
def FnExactFlipDiagonalSaid : Prop := fnExactFlipDiagonalRow.holds Try.pinned (OpenSpec.ofChange fnExactFlipDiagonalSpec)

/-- ITS FALSE NEIGHBOUR: 'it returns false'. Refute it at one input. -/
def fnExactFlipDiagonalWrong : ChangeSpec := { name := "fnExactFlipDiagonal", fn := fun _ => fun
  | [d1, d2, d3] => { results := [.lit (.bool false)], args := [d1, d2, d3] }
  | _ => none }
def FnExactFlipDiagonalWrongFalsely : Prop := fnExactFlipDiagonalRow.holds Try.pinned (OpenSpec.ofChange fnExactFlipDiagonalWrong)

/-- 'laws.FnExactOtherDiagonal': WHATEVER THE INPUT: true; the input reads as it did. -/
def fnExactOtherDiagonalSpec : ChangeSpec := { name := "fnExactOtherDiagonal", fn := fun _ => fun
  | [d1, d2, d3] => { results := [.lit (.bool true)], args := [d1, d2, d3] }
  | _ => none }
def fnExactOtherDiagonalRow : OpenClaim := { program := "ytbpaaoeefcebeaa", sum := "52743f1cf1ebd2fb351dfcaca17adc75d9cdff1e41e1309690feaa3ca77cd7ef", func := "loop.example/g01236/laws.FnExactOtherDiagonal", spec := "fnExactOtherDiagonal", unfollowed := true, recurses := true, plainKeys := false, apart := false }
def FnExactOtherDiagonalSaid : Prop := fnExactOtherDiagonalRow.holds Try.pinned (OpenSpec.ofChange fnExactOtherDiagonalSpec)

/-- ITS FALSE NEIGHBOUR: 'it returns false'. Refute it at one input. -/
def fnExactOtherDiagonalWrong : ChangeSpec := { name := "fnExactOtherDiagonal", fn := fun _ => fun
  | [d1, d2, d3] => { results := [.lit (.bool false)], args := [d1, d2, d3] }
  | _ => none }
def FnExactOtherDiagonalWrongFalsely : Prop := fnExactOtherDiagonalRow.holds Try.pinned (OpenSpec.ofChange fnExactOtherDiagonalWrong)

/-- 'laws.FnExactAllFlips': WHATEVER THE INPUT: true; the input reads as it did. -/
def fnExactAllFlipsSpec : ChangeSpec := { name := "fnExactAllFlips", fn := fun _ => fun
  | [d1, d2] => { results := [.lit (.bool true)], args := [d1, d2] }
  | _ => none }
def fnExactAllFlipsRow : OpenClaim := { program := "ytbpaaoeefcebeaa", sum := "52743f1cf1ebd2fb351dfcaca17adc75d9cdff1e41e1309690feaa3ca77cd7ef", func := "loop.example/g01236/laws.FnExactAllFlips", spec := "fnExactAllFlips", unfollowed := true, recurses := true, plainKeys := false, apart := false }
def FnExactAllFlipsSaid : Prop := fnExactAllFlipsRow.holds Try.pinned (OpenSpec.ofChange fnExactAllFlipsSpec)

/-- ITS FALSE NEIGHBOUR: 'it returns false'. Refute it at one input. -/
def fnExactAllFlipsWrong : ChangeSpec := { name := "fnExactAllFlips", fn := fun _ => fun
  | [d1, d2] => { results := [.lit (.bool false)], args := [d1, d2] }
  | _ => none }
def FnExactAllFlipsWrongFalsely : Prop := fnExactAllFlipsRow.holds Try.pinned (OpenSpec.ofChange fnExactAllFlipsWrong)

/-- 'laws.FnExactAreFlipApart': WHATEVER THE INPUT: true; the input reads as it did. -/
def fnExactAreFlipApartSpec : ChangeSpec := { name := "fnExactAreFlipApart", fn := fun _ => fun
  | [d1, d2, d3] => { results := [.lit (.bool true)], args := [d1, d2, d3] }
  | _ => none }
def fnExactAreFlipApartRow : OpenClaim := { program := "ytbpaaoeefcebeaa", sum := "52743f1cf1ebd2fb351dfcaca17adc75d9cdff1e41e1309690feaa3ca77cd7ef", func := "loop.example/g01236/laws.FnExactAreFlipApart", spec := "fnExactAreFlipApart", unfollowed := true, recurses := true, plainKeys := false, apart := false }
def FnExactAreFlipApartSaid : Prop := fnExactAreFlipApartRow.holds Try.pinned (OpenSpec.ofChange fnExactAreFlipApartSpec)

/-- ITS FALSE NEIGHBOUR: 'it returns false'. Refute it at one input. -/
def fnExactAreFlipApartWrong : ChangeSpec := { name := "fnExactAreFlipApart", fn := fun _ => fun
  | [d1, d2, d3] => { results := [.lit (.bool false)], args := [d1, d2, d3] }
  | _ => none }
def FnExactAreFlipApartWrongFalsely : Prop := fnExactAreFlipApartRow.holds Try.pinned (OpenSpec.ofChange fnExactAreFlipApartWrong)

/-- 'laws.FnExactCommonDiagonals': WHATEVER THE INPUT: true; the input reads as it did. -/
def fnExactCommonDiagonalsSpec : ChangeSpec := { name := "fnExactCommonDiagonals", fn := fun _ => fun
  | [d1, d2, d3] => { results := [.lit (.bool true)], args := [d1, d2, d3] }
  | _ => none }
def fnExactCommonDiagonalsRow : OpenClaim := { program := "ytbpaaoeefcebeaa", sum := "52743f1cf1ebd2fb351dfcaca17adc75d9cdff1e41e1309690feaa3ca77cd7ef", func := "loop.example/g01236/laws.FnExactCommonDiagonals", spec := "fnExactCommonDiagonals", unfollowed := true, recurses := true, plainKeys := false, apart := false }
def FnExactCommonDiagonalsSaid : Prop := fnExactCommonDiagonalsRow.holds Try.pinned (OpenSpec.ofChange fnExactCommonDiagonalsSpec)

/-- ITS FALSE NEIGHBOUR: 'it returns false'. Refute it at one input. -/
def fnExactCommonDiagonalsWrong : ChangeSpec := { name := "fnExactCommonDiagonals", fn := fun _ => fun
  | [d1, d2, d3] => { results := [.lit (.bool false)], args := [d1, d2, d3] }
  | _ => none }
def FnExactCommonDiagonalsWrongFalsely : Prop := fnExactCommonDiagonalsRow.holds Try.pinned (OpenSpec.ofChange fnExactCommonDiagonalsWrong)

/-- 'laws.FnExactFlipsToFan': WHATEVER THE INPUT: true; the input reads as it did. -/
def fnExactFlipsToFanSpec : ChangeSpec := { name := "fnExactFlipsToFan", fn := fun _ => fun
  | [d1, d2, d3] => { results := [.lit (.bool true)], args := [d1, d2, d3] }
  | _ => none }
def fnExactFlipsToFanRow : OpenClaim := { program := "ytbpaaoeefcebeaa", sum := "52743f1cf1ebd2fb351dfcaca17adc75d9cdff1e41e1309690feaa3ca77cd7ef", func := "loop.example/g01236/laws.FnExactFlipsToFan", spec := "fnExactFlipsToFan", unfollowed := true, recurses := true, plainKeys := false, apart := false }
def FnExactFlipsToFanSaid : Prop := fnExactFlipsToFanRow.holds Try.pinned (OpenSpec.ofChange fnExactFlipsToFanSpec)

/-- ITS FALSE NEIGHBOUR: 'it returns false'. Refute it at one input. -/
def fnExactFlipsToFanWrong : ChangeSpec := { name := "fnExactFlipsToFan", fn := fun _ => fun
  | [d1, d2, d3] => { results := [.lit (.bool false)], args := [d1, d2, d3] }
  | _ => none }
def FnExactFlipsToFanWrongFalsely : Prop := fnExactFlipsToFanRow.holds Try.pinned (OpenSpec.ofChange fnExactFlipsToFanWrong)

/-- 'laws.FnExactPlayFlips': WHATEVER THE INPUT: true; the input reads as it did. -/
def fnExactPlayFlipsSpec : ChangeSpec := { name := "fnExactPlayFlips", fn := fun _ => fun
  | [d1, d2, d3] => { results := [.lit (.bool true)], args := [d1, d2, d3] }
  | _ => none }
def fnExactPlayFlipsRow : OpenClaim := { program := "ytbpaaoeefcebeaa", sum := "52743f1cf1ebd2fb351dfcaca17adc75d9cdff1e41e1309690feaa3ca77cd7ef", func := "loop.example/g01236/laws.FnExactPlayFlips", spec := "fnExactPlayFlips", unfollowed := true, recurses := true, plainKeys := false, apart := false }
def FnExactPlayFlipsSaid : Prop := fnExactPlayFlipsRow.holds Try.pinned (OpenSpec.ofChange fnExactPlayFlipsSpec)

/-- ITS FALSE NEIGHBOUR: 'it returns false'. Refute it at one input. -/
def fnExactPlayFlipsWrong : ChangeSpec := { name := "fnExactPlayFlips", fn := fun _ => fun
  | [d1, d2, d3] => { results := [.lit (.bool false)], args := [d1, d2, d3] }
  | _ => none }
def FnExactPlayFlipsWrongFalsely : Prop := fnExactPlayFlipsRow.holds Try.pinned (OpenSpec.ofChange fnExactPlayFlipsWrong)

/-- 'laws.FnExactQuiddityChange': WHATEVER THE INPUT: true; the input reads as it did. -/
def fnExactQuiddityChangeSpec : ChangeSpec := { name := "fnExactQuiddityChange", fn := fun _ => fun
  | [d1, d2, d3] => { results := [.lit (.bool true)], args := [d1, d2, d3] }
  | _ => none }
def fnExactQuiddityChangeRow : OpenClaim := { program := "ytbpaaoeefcebeaa", sum := "52743f1cf1ebd2fb351dfcaca17adc75d9cdff1e41e1309690feaa3ca77cd7ef", func := "loop.example/g01236/laws.FnExactQuiddityChange", spec := "fnExactQuiddityChange", unfollowed := true, recurses := true, plainKeys := false, apart := false }
def FnExactQuiddityChangeSaid : Prop := fnExactQuiddityChangeRow.holds Try.pinned (OpenSpec.ofChange fnExactQuiddityChangeSpec)

/-- ITS FALSE NEIGHBOUR: 'it returns false'. Refute it at one input. -/
def fnExactQuiddityChangeWrong : ChangeSpec := { name := "fnExactQuiddityChange", fn := fun _ => fun
  | [d1, d2, d3] => { results := [.lit (.bool false)], args := [d1, d2, d3] }
  | _ => none }
def FnExactQuiddityChangeWrongFalsely : Prop := fnExactQuiddityChangeRow.holds Try.pinned (OpenSpec.ofChange fnExactQuiddityChangeWrong)

/-- 'laws.FnExactCrossingsBetween': WHATEVER THE INPUT: true; the input reads as it did. -/
def fnExactCrossingsBetweenSpec : ChangeSpec := { name := "fnExactCrossingsBetween", fn := fun _ => fun
  | [d1, d2, d3] => { results := [.lit (.bool true)], args := [d1, d2, d3] }
  | _ => none }
def fnExactCrossingsBetweenRow : OpenClaim := { program := "ytbpaaoeefcebeaa", sum := "52743f1cf1ebd2fb351dfcaca17adc75d9cdff1e41e1309690feaa3ca77cd7ef", func := "loop.example/g01236/laws.FnExactCrossingsBetween", spec := "fnExactCrossingsBetween", unfollowed := true, recurses := true, plainKeys := false, apart := false }
def FnExactCrossingsBetweenSaid : Prop := fnExactCrossingsBetweenRow.holds Try.pinned (OpenSpec.ofChange fnExactCrossingsBetweenSpec)

/-- ITS FALSE NEIGHBOUR: 'it returns false'. Refute it at one input. -/
def fnExactCrossingsBetweenWrong : ChangeSpec := { name := "fnExactCrossingsBetween", fn := fun _ => fun
  | [d1, d2, d3] => { results := [.lit (.bool false)], args := [d1, d2, d3] }
  | _ => none }
def FnExactCrossingsBetweenWrongFalsely : Prop := fnExactCrossingsBetweenRow.holds Try.pinned (OpenSpec.ofChange fnExactCrossingsBetweenWrong)

/- THE SECOND FORM. 'bulk': how many values and letters a reading holds, each counted each time it is reached (what is shared counts as often as it is met; a slice's spare places count too). A statement '..UptoSaid' is the law's where the arguments, and the package variables that the reading takes, are together of bulk at most 1048576: NARROWER than '..Said'. Prove '..Said' where nothing that the law and all that it calls make is longer than what came in: it says more and counts as full. Else prove '..UptoSaid'. A law counts once. -/
mutual
def uptoBulk {H : Type} : DataW H → Nat
  | .lit (.string bytes) => bytes.length + 1
  | .lit _ => 1
  | .nil => 1
  | .ptr d => uptoBulk d + 1
  | .slice elems spare => uptoBulkAll elems + uptoBulkAll spare + 1
  | .agg parts => uptoBulkAll parts + 1
  | .iface _ d => uptoBulk d + 1
  | .map entries => uptoBulkEntries entries + 1
  | .held _ => 1
def uptoBulkAll {H : Type} : List (DataW H) → Nat
  | [] => 0
  | d :: r => uptoBulk d + uptoBulkAll r
def uptoBulkEntries {H : Type} : List (Lit × DataW H) → Nat
  | [] => 0
  | x :: r => uptoBulkEntry x + uptoBulkEntries r
def uptoBulkEntry {H : Type} : Lit × DataW H → Nat
  | (.string bytes, d) => bytes.length + uptoBulk d + 1
  | (_, d) => uptoBulk d + 1
 end
def uptoSmall : (H : Type) → List (DataW H) → Bool := fun _ ds => decide (uptoBulkAll ds ≤ 1048576)
def OpenSpec.upto (s : _root_.Go.ChangeSpec) : _root_.Go.OpenSpec := { _root_.Go.OpenSpec.ofChange s with cond := some uptoSmall }

/-- 'laws.FnExactTrianglesOf', WHERE WHAT IT READS IS OF BULK AT MOST 1048576: true; the input reads as it did. -/
def fnExactTrianglesOfUptoRow : OpenClaim := { program := "ytbpaaoeefcebeaa", sum := "52743f1cf1ebd2fb351dfcaca17adc75d9cdff1e41e1309690feaa3ca77cd7ef", func := "loop.example/g01236/laws.FnExactTrianglesOf", spec := "fnExactTrianglesOf", unfollowed := true, recurses := true, plainKeys := false, apart := false, narrowed := true }
def FnExactTrianglesOfUptoSaid : Prop := fnExactTrianglesOfUptoRow.holds Try.pinned (OpenSpec.upto fnExactTrianglesOfSpec)

/-- 'laws.FnExactTrianglesBeside', WHERE WHAT IT READS IS OF BULK AT MOST 1048576: true; the input reads as it did. -/
def fnExactTrianglesBesideUptoRow : OpenClaim := { program := "ytbpaaoeefcebeaa", sum := "52743f1cf1ebd2fb351dfcaca17adc75d9cdff1e41e1309690feaa3ca77cd7ef", func := "loop.example/g01236/laws.FnExactTrianglesBeside", spec := "fnExactTrianglesBeside", unfollowed := true, recurses := true, plainKeys := false, apart := false, narrowed := true }
def FnExactTrianglesBesideUptoSaid : Prop := fnExactTrianglesBesideUptoRow.holds Try.pinned (OpenSpec.upto fnExactTrianglesBesideSpec)

/-- 'laws.FnExactPeriodOfPolygon', WHERE WHAT IT READS IS OF BULK AT MOST 1048576: true; the input reads as it did. -/
def fnExactPeriodOfPolygonUptoRow : OpenClaim := { program := "ytbpaaoeefcebeaa", sum := "52743f1cf1ebd2fb351dfcaca17adc75d9cdff1e41e1309690feaa3ca77cd7ef", func := "loop.example/g01236/laws.FnExactPeriodOfPolygon", spec := "fnExactPeriodOfPolygon", unfollowed := true, recurses := true, plainKeys := false, apart := false, narrowed := true }
def FnExactPeriodOfPolygonUptoSaid : Prop := fnExactPeriodOfPolygonUptoRow.holds Try.pinned (OpenSpec.upto fnExactPeriodOfPolygonSpec)

/-- 'laws.FnExactFlipDiagonal', WHERE WHAT IT READS IS OF BULK AT MOST 1048576: true; the input reads as it did. -/
def fnExactFlipDiagonalUptoRow : OpenClaim := { program := "ytbpaaoeefcebeaa", sum := "52743f1cf1ebd2fb351dfcaca17adc75d9cdff1e41e1309690feaa3ca77cd7ef", func := "loop.example/g01236/laws.FnExactFlipDiagonal", spec := "fnExactFlipDiagonal", unfollowed := true, recurses := true, plainKeys := false, apart := false, narrowed := true }
def FnExactFlipDiagonalUptoSaid : Prop := fnExactFlipDiagonalUptoRow.holds Try.pinned (OpenSpec.upto fnExactFlipDiagonalSpec)

/-- 'laws.FnExactOtherDiagonal', WHERE WHAT IT READS IS OF BULK AT MOST 1048576: true; the input reads as it did. -/
def fnExactOtherDiagonalUptoRow : OpenClaim := { program := "ytbpaaoeefcebeaa", sum := "52743f1cf1ebd2fb351dfcaca17adc75d9cdff1e41e1309690feaa3ca77cd7ef", func := "loop.example/g01236/laws.FnExactOtherDiagonal", spec := "fnExactOtherDiagonal", unfollowed := true, recurses := true, plainKeys := false, apart := false, narrowed := true }
def FnExactOtherDiagonalUptoSaid : Prop := fnExactOtherDiagonalUptoRow.holds Try.pinned (OpenSpec.upto fnExactOtherDiagonalSpec)

/-- 'laws.FnExactAllFlips', WHERE WHAT IT READS IS OF BULK AT MOST 1048576: true; the input reads as it did. -/
def fnExactAllFlipsUptoRow : OpenClaim := { program := "ytbpaaoeefcebeaa", sum := "52743f1cf1ebd2fb351dfcaca17adc75d9cdff1e41e1309690feaa3ca77cd7ef", func := "loop.example/g01236/laws.FnExactAllFlips", spec := "fnExactAllFlips", unfollowed := true, recurses := true, plainKeys := false, apart := false, narrowed := true }
def FnExactAllFlipsUptoSaid : Prop := fnExactAllFlipsUptoRow.holds Try.pinned (OpenSpec.upto fnExactAllFlipsSpec)

/-- 'laws.FnExactAreFlipApart', WHERE WHAT IT READS IS OF BULK AT MOST 1048576: true; the input reads as it did. -/
def fnExactAreFlipApartUptoRow : OpenClaim := { program := "ytbpaaoeefcebeaa", sum := "52743f1cf1ebd2fb351dfcaca17adc75d9cdff1e41e1309690feaa3ca77cd7ef", func := "loop.example/g01236/laws.FnExactAreFlipApart", spec := "fnExactAreFlipApart", unfollowed := true, recurses := true, plainKeys := false, apart := false, narrowed := true }
def FnExactAreFlipApartUptoSaid : Prop := fnExactAreFlipApartUptoRow.holds Try.pinned (OpenSpec.upto fnExactAreFlipApartSpec)

/-- 'laws.FnExactCommonDiagonals', WHERE WHAT IT READS IS OF BULK AT MOST 1048576: true; the input reads as it did. -/
def fnExactCommonDiagonalsUptoRow : OpenClaim := { program := "ytbpaaoeefcebeaa", sum := "52743f1cf1ebd2fb351dfcaca17adc75d9cdff1e41e1309690feaa3ca77cd7ef", func := "loop.example/g01236/laws.FnExactCommonDiagonals", spec := "fnExactCommonDiagonals", unfollowed := true, recurses := true, plainKeys := false, apart := false, narrowed := true }
def FnExactCommonDiagonalsUptoSaid : Prop := fnExactCommonDiagonalsUptoRow.holds Try.pinned (OpenSpec.upto fnExactCommonDiagonalsSpec)

/-- 'laws.FnExactFlipsToFan', WHERE WHAT IT READS IS OF BULK AT MOST 1048576: true; the input reads as it did. -/
def fnExactFlipsToFanUptoRow : OpenClaim := { program := "ytbpaaoeefcebeaa", sum := "52743f1cf1ebd2fb351dfcaca17adc75d9cdff1e41e1309690feaa3ca77cd7ef", func := "loop.example/g01236/laws.FnExactFlipsToFan", spec := "fnExactFlipsToFan", unfollowed := true, recurses := true, plainKeys := false, apart := false, narrowed := true }
def FnExactFlipsToFanUptoSaid : Prop := fnExactFlipsToFanUptoRow.holds Try.pinned (OpenSpec.upto fnExactFlipsToFanSpec)

/-- 'laws.FnExactPlayFlips', WHERE WHAT IT READS IS OF BULK AT MOST 1048576: true; the input reads as it did. -/
def fnExactPlayFlipsUptoRow : OpenClaim := { program := "ytbpaaoeefcebeaa", sum := "52743f1cf1ebd2fb351dfcaca17adc75d9cdff1e41e1309690feaa3ca77cd7ef", func := "loop.example/g01236/laws.FnExactPlayFlips", spec := "fnExactPlayFlips", unfollowed := true, recurses := true, plainKeys := false, apart := false, narrowed := true }
def FnExactPlayFlipsUptoSaid : Prop := fnExactPlayFlipsUptoRow.holds Try.pinned (OpenSpec.upto fnExactPlayFlipsSpec)

/-- 'laws.FnExactQuiddityChange', WHERE WHAT IT READS IS OF BULK AT MOST 1048576: true; the input reads as it did. -/
def fnExactQuiddityChangeUptoRow : OpenClaim := { program := "ytbpaaoeefcebeaa", sum := "52743f1cf1ebd2fb351dfcaca17adc75d9cdff1e41e1309690feaa3ca77cd7ef", func := "loop.example/g01236/laws.FnExactQuiddityChange", spec := "fnExactQuiddityChange", unfollowed := true, recurses := true, plainKeys := false, apart := false, narrowed := true }
def FnExactQuiddityChangeUptoSaid : Prop := fnExactQuiddityChangeUptoRow.holds Try.pinned (OpenSpec.upto fnExactQuiddityChangeSpec)

/-- 'laws.FnExactCrossingsBetween', WHERE WHAT IT READS IS OF BULK AT MOST 1048576: true; the input reads as it did. -/
def fnExactCrossingsBetweenUptoRow : OpenClaim := { program := "ytbpaaoeefcebeaa", sum := "52743f1cf1ebd2fb351dfcaca17adc75d9cdff1e41e1309690feaa3ca77cd7ef", func := "loop.example/g01236/laws.FnExactCrossingsBetween", spec := "fnExactCrossingsBetween", unfollowed := true, recurses := true, plainKeys := false, apart := false, narrowed := true }
def FnExactCrossingsBetweenUptoSaid : Prop := fnExactCrossingsBetweenUptoRow.holds Try.pinned (OpenSpec.upto fnExactCrossingsBetweenSpec)

end Rows
end Go.Proofs.Ytbpaaoeefcebeaa
