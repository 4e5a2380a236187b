/-
  No cell of these rows narrows 'for every input' (looked for: loops, veiled, ifaces, maps, wideKeys, modest, calm, conditions, laid).
  DERIVED. THE GIVEN ROWS OF THIS SEAT. 12 by the template 'for every input the law returns true; each argument reads behind the call as it read before'; 0 by the template 'total and deterministic' (their statements: YtbcdpcnjmchhpaaTotals.lean).
  GIVEN WITH THE SEED: the statements are not yours to turn. If you find one false, say at which input.
  Laid BY PROGRAM, IN A SANDBOX (cutbox-rows.mjs): the forced cells as the released guide's own fill.sh prints them over the translation 8a91204a06e44f54… (all of the seat's roots in one cut). By AI agents, Wed Nov 11 2026. No macro, syntax, notation, axiom, sorry.
-/
import Derived.Test.YtbcdpcnjmchhpaaChecked
import GoSem.Claim
import GoSem.ClaimJoined
import GoSem.ClaimMapViews
import Derived.JoinedTies
import Derived.KernelRfl
namespace Go.Proofs.Ytbcdpcnjmchhpaa
/- THE CELL 'sum', in the pinned program and in every row, IS THE sha256 OF THE DUMP (.gsa) THAT YtbcdpcnjmchhpaaProg.lean LOADS. Nothing in Lean hashes anything: it is a label: what it is worth is what the hold of that sum in a sandbox is worth. -/
noncomputable def Try.pinned : Pinned := { name := "ytbcdpcnjmchhpaa", sum := "8a91204a06e44f5420a12260f902c999debd0bf8d871526078c7d69f335a8c70", checked := Try.checked }
namespace Rows
def none {H : Type} : Left H := { results := [], args := [] }

/-- 'laws.FnExactOtherDiagonal': WHATEVER THE INPUT: true; the input reads as it did. -/
def fnExactOtherDiagonalSpec : ChangeSpec := { name := "fnExactOtherDiagonal", fn := fun _ => fun
  | [d1, d2, d3] => { results := [.lit (.bool true)], args := [d1, d2, d3] }
  | _ => none }
def fnExactOtherDiagonalRow : OpenClaim := { program := "ytbcdpcnjmchhpaa", sum := "8a91204a06e44f5420a12260f902c999debd0bf8d871526078c7d69f335a8c70", func := "loop.example/g01236/laws.FnExactOtherDiagonal", spec := "fnExactOtherDiagonal", unfollowed := true, recurses := true, apart := false }
def FnExactOtherDiagonalSaid : Prop := fnExactOtherDiagonalRow.holds Try.pinned (OpenSpec.ofChange fnExactOtherDiagonalSpec)

/-- ITS FALSE NEIGHBOUR: 'it returns false'. Refute it at one input. -/
def fnExactOtherDiagonalWrong : ChangeSpec := { name := "fnExactOtherDiagonal", fn := fun _ => fun
  | [d1, d2, d3] => { results := [.lit (.bool false)], args := [d1, d2, d3] }
  | _ => none }
def FnExactOtherDiagonalWrongFalsely : Prop := fnExactOtherDiagonalRow.holds Try.pinned (OpenSpec.ofChange fnExactOtherDiagonalWrong)

/-- 'laws.FnExactFlipDiagonal': WHATEVER THE INPUT: true; the input reads as it did. -/
def fnExactFlipDiagonalSpec : ChangeSpec := { name := "fnExactFlipDiagonal", fn := fun _ => fun
  | [d1, d2, d3] => { results := [.lit (.bool true)], args := [d1, d2, d3] }
  | _ => none }
def fnExactFlipDiagonalRow : OpenClaim := { program := "ytbcdpcnjmchhpaa", sum := "8a91204a06e44f5420a12260f902c999debd0bf8d871526078c7d69f335a8c70", func := "loop.example/g01236/laws.FnExactFlipDiagonal", spec := "fnExactFlipDiagonal", unfollowed := true, recurses := true, apart := false }
def FnExactFlipDiagonalSaid : Prop := fnExactFlipDiagonalRow.holds Try.pinned (OpenSpec.ofChange fnExactFlipDiagonalSpec)

/-- ITS FALSE NEIGHBOUR: 'it returns false'. Refute it at one input. -/
def fnExactFlipDiagonalWrong : ChangeSpec := { name := "fnExactFlipDiagonal", fn := fun _ => fun
  | [d1, d2, d3] => { results := [.lit (.bool false)], args := [d1, d2, d3] }
  | _ => none }
def FnExactFlipDiagonalWrongFalsely : Prop := fnExactFlipDiagonalRow.holds Try.pinned (OpenSpec.ofChange fnExactFlipDiagonalWrong)

/-- 'laws.FnExactQuiddityChange': WHATEVER THE INPUT: true; the input reads as it did. -/
def fnExactQuiddityChangeSpec : ChangeSpec := { name := "fnExactQuiddityChange", fn := fun _ => fun
  | [d1, d2, d3] => { results := [.lit (.bool true)], args := [d1, d2, d3] }
  | _ => none }
def fnExactQuiddityChangeRow : OpenClaim := { program := "ytbcdpcnjmchhpaa", sum := "8a91204a06e44f5420a12260f902c999debd0bf8d871526078c7d69f335a8c70", func := "loop.example/g01236/laws.FnExactQuiddityChange", spec := "fnExactQuiddityChange", unfollowed := true, recurses := true, apart := false }
def FnExactQuiddityChangeSaid : Prop := fnExactQuiddityChangeRow.holds Try.pinned (OpenSpec.ofChange fnExactQuiddityChangeSpec)

/-- ITS FALSE NEIGHBOUR: 'it returns false'. Refute it at one input. -/
def fnExactQuiddityChangeWrong : ChangeSpec := { name := "fnExactQuiddityChange", fn := fun _ => fun
  | [d1, d2, d3] => { results := [.lit (.bool false)], args := [d1, d2, d3] }
  | _ => none }
def FnExactQuiddityChangeWrongFalsely : Prop := fnExactQuiddityChangeRow.holds Try.pinned (OpenSpec.ofChange fnExactQuiddityChangeWrong)

/-- 'laws.FnExactCrossingsBetween': WHATEVER THE INPUT: true; the input reads as it did. -/
def fnExactCrossingsBetweenSpec : ChangeSpec := { name := "fnExactCrossingsBetween", fn := fun _ => fun
  | [d1, d2, d3] => { results := [.lit (.bool true)], args := [d1, d2, d3] }
  | _ => none }
def fnExactCrossingsBetweenRow : OpenClaim := { program := "ytbcdpcnjmchhpaa", sum := "8a91204a06e44f5420a12260f902c999debd0bf8d871526078c7d69f335a8c70", func := "loop.example/g01236/laws.FnExactCrossingsBetween", spec := "fnExactCrossingsBetween", unfollowed := true, recurses := true, apart := false }
def FnExactCrossingsBetweenSaid : Prop := fnExactCrossingsBetweenRow.holds Try.pinned (OpenSpec.ofChange fnExactCrossingsBetweenSpec)

/-- ITS FALSE NEIGHBOUR: 'it returns false'. Refute it at one input. -/
def fnExactCrossingsBetweenWrong : ChangeSpec := { name := "fnExactCrossingsBetween", fn := fun _ => fun
  | [d1, d2, d3] => { results := [.lit (.bool false)], args := [d1, d2, d3] }
  | _ => none }
def FnExactCrossingsBetweenWrongFalsely : Prop := fnExactCrossingsBetweenRow.holds Try.pinned (OpenSpec.ofChange fnExactCrossingsBetweenWrong)

/-- 'laws.FnExactCommonDiagonals': WHATEVER THE INPUT: true; the input reads as it did. -/
def fnExactCommonDiagonalsSpec : ChangeSpec := { name := "fnExactCommonDiagonals", fn := fun _ => fun
  | [d1, d2, d3] => { results := [.lit (.bool true)], args := [d1, d2, d3] }
  | _ => none }
def fnExactCommonDiagonalsRow : OpenClaim := { program := "ytbcdpcnjmchhpaa", sum := "8a91204a06e44f5420a12260f902c999debd0bf8d871526078c7d69f335a8c70", func := "loop.example/g01236/laws.FnExactCommonDiagonals", spec := "fnExactCommonDiagonals", unfollowed := true, recurses := true, apart := false }
def FnExactCommonDiagonalsSaid : Prop := fnExactCommonDiagonalsRow.holds Try.pinned (OpenSpec.ofChange fnExactCommonDiagonalsSpec)

/-- ITS FALSE NEIGHBOUR: 'it returns false'. Refute it at one input. -/
def fnExactCommonDiagonalsWrong : ChangeSpec := { name := "fnExactCommonDiagonals", fn := fun _ => fun
  | [d1, d2, d3] => { results := [.lit (.bool false)], args := [d1, d2, d3] }
  | _ => none }
def FnExactCommonDiagonalsWrongFalsely : Prop := fnExactCommonDiagonalsRow.holds Try.pinned (OpenSpec.ofChange fnExactCommonDiagonalsWrong)

/-- 'laws.FnExactAreFlipApart': WHATEVER THE INPUT: true; the input reads as it did. -/
def fnExactAreFlipApartSpec : ChangeSpec := { name := "fnExactAreFlipApart", fn := fun _ => fun
  | [d1, d2, d3] => { results := [.lit (.bool true)], args := [d1, d2, d3] }
  | _ => none }
def fnExactAreFlipApartRow : OpenClaim := { program := "ytbcdpcnjmchhpaa", sum := "8a91204a06e44f5420a12260f902c999debd0bf8d871526078c7d69f335a8c70", func := "loop.example/g01236/laws.FnExactAreFlipApart", spec := "fnExactAreFlipApart", unfollowed := true, recurses := true, apart := false }
def FnExactAreFlipApartSaid : Prop := fnExactAreFlipApartRow.holds Try.pinned (OpenSpec.ofChange fnExactAreFlipApartSpec)

/-- ITS FALSE NEIGHBOUR: 'it returns false'. Refute it at one input. -/
def fnExactAreFlipApartWrong : ChangeSpec := { name := "fnExactAreFlipApart", fn := fun _ => fun
  | [d1, d2, d3] => { results := [.lit (.bool false)], args := [d1, d2, d3] }
  | _ => none }
def FnExactAreFlipApartWrongFalsely : Prop := fnExactAreFlipApartRow.holds Try.pinned (OpenSpec.ofChange fnExactAreFlipApartWrong)

/-- 'laws.FnExactFlipsToFan': WHATEVER THE INPUT: true; the input reads as it did. -/
def fnExactFlipsToFanSpec : ChangeSpec := { name := "fnExactFlipsToFan", fn := fun _ => fun
  | [d1, d2, d3] => { results := [.lit (.bool true)], args := [d1, d2, d3] }
  | _ => none }
def fnExactFlipsToFanRow : OpenClaim := { program := "ytbcdpcnjmchhpaa", sum := "8a91204a06e44f5420a12260f902c999debd0bf8d871526078c7d69f335a8c70", func := "loop.example/g01236/laws.FnExactFlipsToFan", spec := "fnExactFlipsToFan", unfollowed := true, recurses := true, apart := false }
def FnExactFlipsToFanSaid : Prop := fnExactFlipsToFanRow.holds Try.pinned (OpenSpec.ofChange fnExactFlipsToFanSpec)

/-- ITS FALSE NEIGHBOUR: 'it returns false'. Refute it at one input. -/
def fnExactFlipsToFanWrong : ChangeSpec := { name := "fnExactFlipsToFan", fn := fun _ => fun
  | [d1, d2, d3] => { results := [.lit (.bool false)], args := [d1, d2, d3] }
  | _ => none }
def FnExactFlipsToFanWrongFalsely : Prop := fnExactFlipsToFanRow.holds Try.pinned (OpenSpec.ofChange fnExactFlipsToFanWrong)

/-- 'laws.FnExactPlayFlips': WHATEVER THE INPUT: true; the input reads as it did. -/
def fnExactPlayFlipsSpec : ChangeSpec := { name := "fnExactPlayFlips", fn := fun _ => fun
  | [d1, d2, d3] => { results := [.lit (.bool true)], args := [d1, d2, d3] }
  | _ => none }
def fnExactPlayFlipsRow : OpenClaim := { program := "ytbcdpcnjmchhpaa", sum := "8a91204a06e44f5420a12260f902c999debd0bf8d871526078c7d69f335a8c70", func := "loop.example/g01236/laws.FnExactPlayFlips", spec := "fnExactPlayFlips", unfollowed := true, recurses := true, apart := false }
def FnExactPlayFlipsSaid : Prop := fnExactPlayFlipsRow.holds Try.pinned (OpenSpec.ofChange fnExactPlayFlipsSpec)

/-- ITS FALSE NEIGHBOUR: 'it returns false'. Refute it at one input. -/
def fnExactPlayFlipsWrong : ChangeSpec := { name := "fnExactPlayFlips", fn := fun _ => fun
  | [d1, d2, d3] => { results := [.lit (.bool false)], args := [d1, d2, d3] }
  | _ => none }
def FnExactPlayFlipsWrongFalsely : Prop := fnExactPlayFlipsRow.holds Try.pinned (OpenSpec.ofChange fnExactPlayFlipsWrong)

/-- 'laws.FnExactAllFlips': WHATEVER THE INPUT: true; the input reads as it did. -/
def fnExactAllFlipsSpec : ChangeSpec := { name := "fnExactAllFlips", fn := fun _ => fun
  | [d1, d2] => { results := [.lit (.bool true)], args := [d1, d2] }
  | _ => none }
def fnExactAllFlipsRow : OpenClaim := { program := "ytbcdpcnjmchhpaa", sum := "8a91204a06e44f5420a12260f902c999debd0bf8d871526078c7d69f335a8c70", func := "loop.example/g01236/laws.FnExactAllFlips", spec := "fnExactAllFlips", unfollowed := true, recurses := true, apart := false }
def FnExactAllFlipsSaid : Prop := fnExactAllFlipsRow.holds Try.pinned (OpenSpec.ofChange fnExactAllFlipsSpec)

/-- ITS FALSE NEIGHBOUR: 'it returns false'. Refute it at one input. -/
def fnExactAllFlipsWrong : ChangeSpec := { name := "fnExactAllFlips", fn := fun _ => fun
  | [d1, d2] => { results := [.lit (.bool false)], args := [d1, d2] }
  | _ => none }
def FnExactAllFlipsWrongFalsely : Prop := fnExactAllFlipsRow.holds Try.pinned (OpenSpec.ofChange fnExactAllFlipsWrong)

/-- 'laws.FnExactWordOfMatrix': WHATEVER THE INPUT: true; the input reads as it did. -/
def fnExactWordOfMatrixSpec : ChangeSpec := { name := "fnExactWordOfMatrix", fn := fun _ => fun
  | [d] => { results := [.lit (.bool true)], args := [d] }
  | _ => none }
def fnExactWordOfMatrixRow : OpenClaim := { program := "ytbcdpcnjmchhpaa", sum := "8a91204a06e44f5420a12260f902c999debd0bf8d871526078c7d69f335a8c70", func := "loop.example/g01236/laws.FnExactWordOfMatrix", spec := "fnExactWordOfMatrix", apart := false }
def FnExactWordOfMatrixSaid : Prop := fnExactWordOfMatrixRow.holds Try.pinned (OpenSpec.ofChange fnExactWordOfMatrixSpec)

/-- ITS FALSE NEIGHBOUR: 'it returns false'. Refute it at one input. -/
def fnExactWordOfMatrixWrong : ChangeSpec := { name := "fnExactWordOfMatrix", fn := fun _ => fun
  | [d] => { results := [.lit (.bool false)], args := [d] }
  | _ => none }
def FnExactWordOfMatrixWrongFalsely : Prop := fnExactWordOfMatrixRow.holds Try.pinned (OpenSpec.ofChange fnExactWordOfMatrixWrong)

/-- 'laws.FnExactQuiddityOfFrieze': WHATEVER THE INPUT: true; the input reads as it did. -/
def fnExactQuiddityOfFriezeSpec : ChangeSpec := { name := "fnExactQuiddityOfFrieze", fn := fun _ => fun
  | [d] => { results := [.lit (.bool true)], args := [d] }
  | _ => none }
def fnExactQuiddityOfFriezeRow : OpenClaim := { program := "ytbcdpcnjmchhpaa", sum := "8a91204a06e44f5420a12260f902c999debd0bf8d871526078c7d69f335a8c70", func := "loop.example/g01236/laws.FnExactQuiddityOfFrieze", spec := "fnExactQuiddityOfFrieze", unfollowed := true, recurses := true, apart := false }
def FnExactQuiddityOfFriezeSaid : Prop := fnExactQuiddityOfFriezeRow.holds Try.pinned (OpenSpec.ofChange fnExactQuiddityOfFriezeSpec)

/-- ITS FALSE NEIGHBOUR: 'it returns false'. Refute it at one input. -/
def fnExactQuiddityOfFriezeWrong : ChangeSpec := { name := "fnExactQuiddityOfFrieze", fn := fun _ => fun
  | [d] => { results := [.lit (.bool false)], args := [d] }
  | _ => none }
def FnExactQuiddityOfFriezeWrongFalsely : Prop := fnExactQuiddityOfFriezeRow.holds Try.pinned (OpenSpec.ofChange fnExactQuiddityOfFriezeWrong)

/-- 'laws.FnExactMirrorFrieze': WHATEVER THE INPUT: true; the input reads as it did. -/
def fnExactMirrorFriezeSpec : ChangeSpec := { name := "fnExactMirrorFrieze", fn := fun _ => fun
  | [d] => { results := [.lit (.bool true)], args := [d] }
  | _ => none }
def fnExactMirrorFriezeRow : OpenClaim := { program := "ytbcdpcnjmchhpaa", sum := "8a91204a06e44f5420a12260f902c999debd0bf8d871526078c7d69f335a8c70", func := "loop.example/g01236/laws.FnExactMirrorFrieze", spec := "fnExactMirrorFrieze", unfollowed := true, recurses := true, apart := false }
def FnExactMirrorFriezeSaid : Prop := fnExactMirrorFriezeRow.holds Try.pinned (OpenSpec.ofChange fnExactMirrorFriezeSpec)

/-- ITS FALSE NEIGHBOUR: 'it returns false'. Refute it at one input. -/
def fnExactMirrorFriezeWrong : ChangeSpec := { name := "fnExactMirrorFrieze", fn := fun _ => fun
  | [d] => { results := [.lit (.bool false)], args := [d] }
  | _ => none }
def FnExactMirrorFriezeWrongFalsely : Prop := fnExactMirrorFriezeRow.holds Try.pinned (OpenSpec.ofChange fnExactMirrorFriezeWrong)

/- THE SECOND FORM. 'bulk': how many values and letters a reading holds, each counted each time it is reached (what is shared counts as often as it is met; a slice's spare places count too). A statement '..UptoSaid' is the law's where the arguments, and the package variables that the reading takes, are together of bulk at most 1048576: NARROWER than '..Said'. Prove '..Said' where nothing that the law and all that it calls make is longer than what came in: it says more and counts as full. Else prove '..UptoSaid'. A law counts once. -/
mutual
def uptoBulk {H : Type} : DataW H → Nat
  | .lit (.string bytes) => bytes.length + 1
  | .lit _ => 1
  | .nil => 1
  | .ptr d => uptoBulk d + 1
  | .slice elems spare => uptoBulkAll elems + uptoBulkAll spare + 1
  | .agg parts => uptoBulkAll parts + 1
  | .iface _ d => uptoBulk d + 1
  | .map entries => uptoBulkEntries entries + 1
  | .held _ => 1
def uptoBulkAll {H : Type} : List (DataW H) → Nat
  | [] => 0
  | d :: r => uptoBulk d + uptoBulkAll r
def uptoBulkEntries {H : Type} : List (Lit × DataW H) → Nat
  | [] => 0
  | x :: r => uptoBulkEntry x + uptoBulkEntries r
def uptoBulkEntry {H : Type} : Lit × DataW H → Nat
  | (.string bytes, d) => bytes.length + uptoBulk d + 1
  | (_, d) => uptoBulk d + 1
 end
def uptoSmall : (H : Type) → List (DataW H) → Bool := fun _ ds => decide (uptoBulkAll ds ≤ 1048576)
def OpenSpec.upto (s : _root_.Go.ChangeSpec) : _root_.Go.OpenSpec := { _root_.Go.OpenSpec.ofChange s with cond := some uptoSmall }

/-- 'laws.FnExactOtherDiagonal', WHERE WHAT IT READS IS OF BULK AT MOST 1048576: true; the input reads as it did. -/
def fnExactOtherDiagonalUptoRow : OpenClaim := { program := "ytbcdpcnjmchhpaa", sum := "8a91204a06e44f5420a12260f902c999debd0bf8d871526078c7d69f335a8c70", func := "loop.example/g01236/laws.FnExactOtherDiagonal", spec := "fnExactOtherDiagonal", unfollowed := true, recurses := true, apart := false, narrowed := true }
def FnExactOtherDiagonalUptoSaid : Prop := fnExactOtherDiagonalUptoRow.holds Try.pinned (OpenSpec.upto fnExactOtherDiagonalSpec)

/-- 'laws.FnExactFlipDiagonal', WHERE WHAT IT READS IS OF BULK AT MOST 1048576: true; the input reads as it did. -/
def fnExactFlipDiagonalUptoRow : OpenClaim := { program := "ytbcdpcnjmchhpaa", sum := "8a91204a06e44f5420a12260f902c999debd0bf8d871526078c7d69f335a8c70", func := "loop.example/g01236/laws.FnExactFlipDiagonal", spec := "fnExactFlipDiagonal", unfollowed := true, recurses := true, apart := false, narrowed := true }
def FnExactFlipDiagonalUptoSaid : Prop := fnExactFlipDiagonalUptoRow.holds Try.pinned (OpenSpec.upto fnExactFlipDiagonalSpec)

/-- 'laws.FnExactQuiddityChange', WHERE WHAT IT READS IS OF BULK AT MOST 1048576: true; the input reads as it did. -/
def fnExactQuiddityChangeUptoRow : OpenClaim := { program := "ytbcdpcnjmchhpaa", sum := "8a91204a06e44f5420a12260f902c999debd0bf8d871526078c7d69f335a8c70", func := "loop.example/g01236/laws.FnExactQuiddityChange", spec := "fnExactQuiddityChange", unfollowed := true, recurses := true, apart := false, narrowed := true }
def FnExactQuiddityChangeUptoSaid : Prop := fnExactQuiddityChangeUptoRow.holds Try.pinned (OpenSpec.upto fnExactQuiddityChangeSpec)

/-- 'laws.FnExactCrossingsBetween', WHERE WHAT IT READS IS OF BULK AT MOST 1048576: true; the input reads as it did. -/
def fnExactCrossingsBetweenUptoRow : OpenClaim := { program := "ytbcdpcnjmchhpaa", sum := "8a91204a06e44f5420a12260f902c999debd0bf8d871526078c7d69f335a8c70", func := "loop.example/g01236/laws.FnExactCrossingsBetween", spec := "fnExactCrossingsBetween", unfollowed := true, recurses := true, apart := false, narrowed := true }
def FnExactCrossingsBetweenUptoSaid : Prop := fnExactCrossingsBetweenUptoRow.holds Try.pinned (OpenSpec.upto fnExactCrossingsBetweenSpec)

/-- 'laws.FnExactCommonDiagonals', WHERE WHAT IT READS IS OF BULK AT MOST 1048576: true; the input reads as it did. -/
def fnExactCommonDiagonalsUptoRow : OpenClaim := { program := "ytbcdpcnjmchhpaa", sum := "8a91204a06e44f5420a12260f902c999debd0bf8d871526078c7d69f335a8c70", func := "loop.example/g01236/laws.FnExactCommonDiagonals", spec := "fnExactCommonDiagonals", unfollowed := true, recurses := true, apart := false, narrowed := true }
def FnExactCommonDiagonalsUptoSaid : Prop := fnExactCommonDiagonalsUptoRow.holds Try.pinned (OpenSpec.upto fnExactCommonDiagonalsSpec)

/-- 'laws.FnExactAreFlipApart', WHERE WHAT IT READS IS OF BULK AT MOST 1048576: true; the input reads as it did. -/
def fnExactAreFlipApartUptoRow : OpenClaim := { program := "ytbcdpcnjmchhpaa", sum := "8a91204a06e44f5420a12260f902c999debd0bf8d871526078c7d69f335a8c70", func := "loop.example/g01236/laws.FnExactAreFlipApart", spec := "fnExactAreFlipApart", unfollowed := true, recurses := true, apart := false, narrowed := true }
def FnExactAreFlipApartUptoSaid : Prop := fnExactAreFlipApartUptoRow.holds Try.pinned (OpenSpec.upto fnExactAreFlipApartSpec)

/-- 'laws.FnExactFlipsToFan', WHERE WHAT IT READS IS OF BULK AT MOST 1048576: true; the input reads as it did. -/
def fnExactFlipsToFanUptoRow : OpenClaim := { program := "ytbcdpcnjmchhpaa", sum := "8a91204a06e44f5420a12260f902c999debd0bf8d871526078c7d69f335a8c70", func := "loop.example/g01236/laws.FnExactFlipsToFan", spec := "fnExactFlipsToFan", unfollowed := true, recurses := true, apart := false, narrowed := true }
def FnExactFlipsToFanUptoSaid : Prop := fnExactFlipsToFanUptoRow.holds Try.pinned (OpenSpec.upto fnExactFlipsToFanSpec)

/-- 'laws.FnExactPlayFlips', WHERE WHAT IT READS IS OF BULK AT MOST 1048576: true; the input reads as it did. -/
def fnExactPlayFlipsUptoRow : OpenClaim := { program := "ytbcdpcnjmchhpaa", sum := "8a91204a06e44f5420a12260f902c999debd0bf8d871526078c7d69f335a8c70", func := "loop.example/g01236/laws.FnExactPlayFlips", spec := "fnExactPlayFlips", unfollowed := true, recurses := true, apart := false, narrowed := true }
def FnExactPlayFlipsUptoSaid : Prop := fnExactPlayFlipsUptoRow.holds Try.pinned (OpenSpec.upto fnExactPlayFlipsSpec)

/-- 'laws.FnExactAllFlips', WHERE WHAT IT READS IS OF BULK AT MOST 1048576: true; the input reads as it did. -/
def fnExactAllFlipsUptoRow : OpenClaim := { program := "ytbcdpcnjmchhpaa", sum := "8a91204a06e44f5420a12260f902c999debd0bf8d871526078c7d69f335a8c70", func := "loop.example/g01236/laws.FnExactAllFlips", spec := "fnExactAllFlips", unfollowed := true, recurses := true, apart := false, narrowed := true }
def FnExactAllFlipsUptoSaid : Prop := fnExactAllFlipsUptoRow.holds Try.pinned (OpenSpec.upto fnExactAllFlipsSpec)

/-- 'laws.FnExactWordOfMatrix', WHERE WHAT IT READS IS OF BULK AT MOST 1048576: true; the input reads as it did. -/
def fnExactWordOfMatrixUptoRow : OpenClaim := { program := "ytbcdpcnjmchhpaa", sum := "8a91204a06e44f5420a12260f902c999debd0bf8d871526078c7d69f335a8c70", func := "loop.example/g01236/laws.FnExactWordOfMatrix", spec := "fnExactWordOfMatrix", apart := false, narrowed := true }
def FnExactWordOfMatrixUptoSaid : Prop := fnExactWordOfMatrixUptoRow.holds Try.pinned (OpenSpec.upto fnExactWordOfMatrixSpec)

/-- 'laws.FnExactQuiddityOfFrieze', WHERE WHAT IT READS IS OF BULK AT MOST 1048576: true; the input reads as it did. -/
def fnExactQuiddityOfFriezeUptoRow : OpenClaim := { program := "ytbcdpcnjmchhpaa", sum := "8a91204a06e44f5420a12260f902c999debd0bf8d871526078c7d69f335a8c70", func := "loop.example/g01236/laws.FnExactQuiddityOfFrieze", spec := "fnExactQuiddityOfFrieze", unfollowed := true, recurses := true, apart := false, narrowed := true }
def FnExactQuiddityOfFriezeUptoSaid : Prop := fnExactQuiddityOfFriezeUptoRow.holds Try.pinned (OpenSpec.upto fnExactQuiddityOfFriezeSpec)

/-- 'laws.FnExactMirrorFrieze', WHERE WHAT IT READS IS OF BULK AT MOST 1048576: true; the input reads as it did. -/
def fnExactMirrorFriezeUptoRow : OpenClaim := { program := "ytbcdpcnjmchhpaa", sum := "8a91204a06e44f5420a12260f902c999debd0bf8d871526078c7d69f335a8c70", func := "loop.example/g01236/laws.FnExactMirrorFrieze", spec := "fnExactMirrorFrieze", unfollowed := true, recurses := true, apart := false, narrowed := true }
def FnExactMirrorFriezeUptoSaid : Prop := fnExactMirrorFriezeUptoRow.holds Try.pinned (OpenSpec.upto fnExactMirrorFriezeSpec)

end Rows
end Go.Proofs.Ytbcdpcnjmchhpaa
