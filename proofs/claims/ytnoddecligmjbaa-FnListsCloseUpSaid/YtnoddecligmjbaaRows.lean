/-
  No cell of these rows narrows 'for every input' (looked for: loops, veiled, ifaces, maps, wideKeys, modest, calm, conditions, laid).
  DERIVED. THE GIVEN ROWS OF THIS SEAT. 12 by the template 'for every input the law returns true; each argument reads behind the call as it read before'; 0 by the template 'total and deterministic' (their statements: YtnoddecligmjbaaTotals.lean).
  GIVEN WITH THE SEED: the statements are not yours to turn. If you find one false, say at which input.
  Laid BY PROGRAM, IN A SANDBOX (cutbox-rows.mjs): the forced cells as the released guide's own fill.sh prints them over the translation 25170a42a94f5099… (all of the seat's roots in one cut). By AI agents, Wed Nov 11 2026. No macro, syntax, notation, axiom, sorry.
-/
import Derived.Test.YtnoddecligmjbaaChecked
import GoSem.Claim
import GoSem.ClaimJoined
import GoSem.ClaimMapViews
import Derived.JoinedTies
import Derived.KernelRfl
namespace Go.Proofs.Ytnoddecligmjbaa
/- THE CELL 'sum', in the pinned program and in every row, IS THE sha256 OF THE DUMP (.gsa) THAT YtnoddecligmjbaaProg.lean LOADS. Nothing in Lean hashes anything: it is a label: what it is worth is what the hold of that sum in a sandbox is worth. -/
noncomputable def Try.pinned : Pinned := { name := "ytnoddecligmjbaa", sum := "25170a42a94f5099f7ea214dd6ea3c145fa2d05d00959de6a0b96a885713a325", checked := Try.checked }
namespace Rows
def none {H : Type} : Left H := { results := [], args := [] }

/-- 'laws.FnExactIsPuzzle': WHATEVER THE INPUT: true; the input reads as it did. -/
def fnExactIsPuzzleSpec : ChangeSpec := { name := "fnExactIsPuzzle", fn := fun _ => fun
  | [d] => { results := [.lit (.bool true)], args := [d] }
  | _ => none }
def fnExactIsPuzzleRow : OpenClaim := { program := "ytnoddecligmjbaa", sum := "25170a42a94f5099f7ea214dd6ea3c145fa2d05d00959de6a0b96a885713a325", func := "loop.example/g01236/laws.FnExactIsPuzzle", spec := "fnExactIsPuzzle", unfollowed := true, recurses := true, apart := false }
def FnExactIsPuzzleSaid : Prop := fnExactIsPuzzleRow.holds Try.pinned (OpenSpec.ofChange fnExactIsPuzzleSpec)

/-- ITS FALSE NEIGHBOUR: 'it returns false'. Refute it at one input. -/
def fnExactIsPuzzleWrong : ChangeSpec := { name := "fnExactIsPuzzle", fn := fun _ => fun
  | [d] => { results := [.lit (.bool false)], args := [d] }
  | _ => none }
def FnExactIsPuzzleWrongFalsely : Prop := fnExactIsPuzzleRow.holds Try.pinned (OpenSpec.ofChange fnExactIsPuzzleWrong)

/-- 'laws.FnExactCountGaps': WHATEVER THE INPUT: true; the input reads as it did. -/
def fnExactCountGapsSpec : ChangeSpec := { name := "fnExactCountGaps", fn := fun _ => fun
  | [d] => { results := [.lit (.bool true)], args := [d] }
  | _ => none }
def fnExactCountGapsRow : OpenClaim := { program := "ytnoddecligmjbaa", sum := "25170a42a94f5099f7ea214dd6ea3c145fa2d05d00959de6a0b96a885713a325", func := "loop.example/g01236/laws.FnExactCountGaps", spec := "fnExactCountGaps", unfollowed := true, recurses := true, apart := false }
def FnExactCountGapsSaid : Prop := fnExactCountGapsRow.holds Try.pinned (OpenSpec.ofChange fnExactCountGapsSpec)

/-- ITS FALSE NEIGHBOUR: 'it returns false'. Refute it at one input. -/
def fnExactCountGapsWrong : ChangeSpec := { name := "fnExactCountGaps", fn := fun _ => fun
  | [d] => { results := [.lit (.bool false)], args := [d] }
  | _ => none }
def FnExactCountGapsWrongFalsely : Prop := fnExactCountGapsRow.holds Try.pinned (OpenSpec.ofChange fnExactCountGapsWrong)

/-- 'laws.FnExactIsSolution': WHATEVER THE INPUT: true; the input reads as it did. -/
def fnExactIsSolutionSpec : ChangeSpec := { name := "fnExactIsSolution", fn := fun _ => fun
  | [d1, d2] => { results := [.lit (.bool true)], args := [d1, d2] }
  | _ => none }
def fnExactIsSolutionRow : OpenClaim := { program := "ytnoddecligmjbaa", sum := "25170a42a94f5099f7ea214dd6ea3c145fa2d05d00959de6a0b96a885713a325", func := "loop.example/g01236/laws.FnExactIsSolution", spec := "fnExactIsSolution", unfollowed := true, recurses := true, apart := false }
def FnExactIsSolutionSaid : Prop := fnExactIsSolutionRow.holds Try.pinned (OpenSpec.ofChange fnExactIsSolutionSpec)

/-- ITS FALSE NEIGHBOUR: 'it returns false'. Refute it at one input. -/
def fnExactIsSolutionWrong : ChangeSpec := { name := "fnExactIsSolution", fn := fun _ => fun
  | [d1, d2] => { results := [.lit (.bool false)], args := [d1, d2] }
  | _ => none }
def FnExactIsSolutionWrongFalsely : Prop := fnExactIsSolutionRow.holds Try.pinned (OpenSpec.ofChange fnExactIsSolutionWrong)

/-- 'laws.FnExactFillGap': WHATEVER THE INPUT: true; the input reads as it did. -/
def fnExactFillGapSpec : ChangeSpec := { name := "fnExactFillGap", fn := fun _ => fun
  | [d1, d2, d3] => { results := [.lit (.bool true)], args := [d1, d2, d3] }
  | _ => none }
def fnExactFillGapRow : OpenClaim := { program := "ytnoddecligmjbaa", sum := "25170a42a94f5099f7ea214dd6ea3c145fa2d05d00959de6a0b96a885713a325", func := "loop.example/g01236/laws.FnExactFillGap", spec := "fnExactFillGap", unfollowed := true, recurses := true, apart := false }
def FnExactFillGapSaid : Prop := fnExactFillGapRow.holds Try.pinned (OpenSpec.ofChange fnExactFillGapSpec)

/-- ITS FALSE NEIGHBOUR: 'it returns false'. Refute it at one input. -/
def fnExactFillGapWrong : ChangeSpec := { name := "fnExactFillGap", fn := fun _ => fun
  | [d1, d2, d3] => { results := [.lit (.bool false)], args := [d1, d2, d3] }
  | _ => none }
def FnExactFillGapWrongFalsely : Prop := fnExactFillGapRow.holds Try.pinned (OpenSpec.ofChange fnExactFillGapWrong)

/-- 'laws.FnExactOpenGap': WHATEVER THE INPUT: true; the input reads as it did. -/
def fnExactOpenGapSpec : ChangeSpec := { name := "fnExactOpenGap", fn := fun _ => fun
  | [d1, d2] => { results := [.lit (.bool true)], args := [d1, d2] }
  | _ => none }
def fnExactOpenGapRow : OpenClaim := { program := "ytnoddecligmjbaa", sum := "25170a42a94f5099f7ea214dd6ea3c145fa2d05d00959de6a0b96a885713a325", func := "loop.example/g01236/laws.FnExactOpenGap", spec := "fnExactOpenGap", unfollowed := true, recurses := true, apart := false }
def FnExactOpenGapSaid : Prop := fnExactOpenGapRow.holds Try.pinned (OpenSpec.ofChange fnExactOpenGapSpec)

/-- ITS FALSE NEIGHBOUR: 'it returns false'. Refute it at one input. -/
def fnExactOpenGapWrong : ChangeSpec := { name := "fnExactOpenGap", fn := fun _ => fun
  | [d1, d2] => { results := [.lit (.bool false)], args := [d1, d2] }
  | _ => none }
def FnExactOpenGapWrongFalsely : Prop := fnExactOpenGapRow.holds Try.pinned (OpenSpec.ofChange fnExactOpenGapWrong)

/-- 'laws.FnExactMakePuzzle': WHATEVER THE INPUT: true; the input reads as it did. -/
def fnExactMakePuzzleSpec : ChangeSpec := { name := "fnExactMakePuzzle", fn := fun _ => fun
  | [d1, d2, d3] => { results := [.lit (.bool true)], args := [d1, d2, d3] }
  | _ => none }
def fnExactMakePuzzleRow : OpenClaim := { program := "ytnoddecligmjbaa", sum := "25170a42a94f5099f7ea214dd6ea3c145fa2d05d00959de6a0b96a885713a325", func := "loop.example/g01236/laws.FnExactMakePuzzle", spec := "fnExactMakePuzzle", inPlace := ["slices.overlaps[int]"], unfollowed := true, recurses := true, apart := false }
def FnExactMakePuzzleSaid : Prop := fnExactMakePuzzleRow.holds Try.pinned (OpenSpec.ofChange fnExactMakePuzzleSpec)

/-- ITS FALSE NEIGHBOUR: 'it returns false'. Refute it at one input. -/
def fnExactMakePuzzleWrong : ChangeSpec := { name := "fnExactMakePuzzle", fn := fun _ => fun
  | [d1, d2, d3] => { results := [.lit (.bool false)], args := [d1, d2, d3] }
  | _ => none }
def FnExactMakePuzzleWrongFalsely : Prop := fnExactMakePuzzleRow.holds Try.pinned (OpenSpec.ofChange fnExactMakePuzzleWrong)

/-- 'laws.FnExactTurnPuzzle': WHATEVER THE INPUT: true; the input reads as it did. -/
def fnExactTurnPuzzleSpec : ChangeSpec := { name := "fnExactTurnPuzzle", fn := fun _ => fun
  | [d1, d2] => { results := [.lit (.bool true)], args := [d1, d2] }
  | _ => none }
def fnExactTurnPuzzleRow : OpenClaim := { program := "ytnoddecligmjbaa", sum := "25170a42a94f5099f7ea214dd6ea3c145fa2d05d00959de6a0b96a885713a325", func := "loop.example/g01236/laws.FnExactTurnPuzzle", spec := "fnExactTurnPuzzle", unfollowed := true, recurses := true, apart := false }
def FnExactTurnPuzzleSaid : Prop := fnExactTurnPuzzleRow.holds Try.pinned (OpenSpec.ofChange fnExactTurnPuzzleSpec)

/-- ITS FALSE NEIGHBOUR: 'it returns false'. Refute it at one input. -/
def fnExactTurnPuzzleWrong : ChangeSpec := { name := "fnExactTurnPuzzle", fn := fun _ => fun
  | [d1, d2] => { results := [.lit (.bool false)], args := [d1, d2] }
  | _ => none }
def FnExactTurnPuzzleWrongFalsely : Prop := fnExactTurnPuzzleRow.holds Try.pinned (OpenSpec.ofChange fnExactTurnPuzzleWrong)

/-- 'laws.FnExactPuzzleText': WHATEVER THE INPUT: true; the input reads as it did. -/
def fnExactPuzzleTextSpec : ChangeSpec := { name := "fnExactPuzzleText", fn := fun _ => fun
  | [d] => { results := [.lit (.bool true)], args := [d] }
  | _ => none }
def fnExactPuzzleTextRow : OpenClaim := { program := "ytnoddecligmjbaa", sum := "25170a42a94f5099f7ea214dd6ea3c145fa2d05d00959de6a0b96a885713a325", func := "loop.example/g01236/laws.FnExactPuzzleText", spec := "fnExactPuzzleText", unfollowed := true, recurses := true, apart := false }
def FnExactPuzzleTextSaid : Prop := fnExactPuzzleTextRow.holds Try.pinned (OpenSpec.ofChange fnExactPuzzleTextSpec)

/-- ITS FALSE NEIGHBOUR: 'it returns false'. Refute it at one input. -/
def fnExactPuzzleTextWrong : ChangeSpec := { name := "fnExactPuzzleText", fn := fun _ => fun
  | [d] => { results := [.lit (.bool false)], args := [d] }
  | _ => none }
def FnExactPuzzleTextWrongFalsely : Prop := fnExactPuzzleTextRow.holds Try.pinned (OpenSpec.ofChange fnExactPuzzleTextWrong)

/-- 'laws.FnExactParsePuzzle': WHATEVER THE INPUT: true; the input reads as it did. -/
def fnExactParsePuzzleSpec : ChangeSpec := { name := "fnExactParsePuzzle", fn := fun _ => fun
  | [d] => { results := [.lit (.bool true)], args := [d] }
  | _ => none }
def fnExactParsePuzzleRow : OpenClaim := { program := "ytnoddecligmjbaa", sum := "25170a42a94f5099f7ea214dd6ea3c145fa2d05d00959de6a0b96a885713a325", func := "loop.example/g01236/laws.FnExactParsePuzzle", spec := "fnExactParsePuzzle", inPlace := ["internal/bytealg.IndexByteString"], unfollowed := true, recurses := true, apart := false }
def FnExactParsePuzzleSaid : Prop := fnExactParsePuzzleRow.holds Try.pinned (OpenSpec.ofChange fnExactParsePuzzleSpec)

/-- ITS FALSE NEIGHBOUR: 'it returns false'. Refute it at one input. -/
def fnExactParsePuzzleWrong : ChangeSpec := { name := "fnExactParsePuzzle", fn := fun _ => fun
  | [d] => { results := [.lit (.bool false)], args := [d] }
  | _ => none }
def FnExactParsePuzzleWrongFalsely : Prop := fnExactParsePuzzleRow.holds Try.pinned (OpenSpec.ofChange fnExactParsePuzzleWrong)

/-- 'laws.FnContinuantsSplit': WHATEVER THE INPUT: true; the input reads as it did. -/
def fnContinuantsSplitSpec : ChangeSpec := { name := "fnContinuantsSplit", fn := fun _ => fun
  | [d1, d2] => { results := [.lit (.bool true)], args := [d1, d2] }
  | _ => none }
def fnContinuantsSplitRow : OpenClaim := { program := "ytnoddecligmjbaa", sum := "25170a42a94f5099f7ea214dd6ea3c145fa2d05d00959de6a0b96a885713a325", func := "loop.example/g01236/laws.FnContinuantsSplit", spec := "fnContinuantsSplit", unfollowed := true, recurses := true, apart := false }
def FnContinuantsSplitSaid : Prop := fnContinuantsSplitRow.holds Try.pinned (OpenSpec.ofChange fnContinuantsSplitSpec)

/-- ITS FALSE NEIGHBOUR: 'it returns false'. Refute it at one input. -/
def fnContinuantsSplitWrong : ChangeSpec := { name := "fnContinuantsSplit", fn := fun _ => fun
  | [d1, d2] => { results := [.lit (.bool false)], args := [d1, d2] }
  | _ => none }
def FnContinuantsSplitWrongFalsely : Prop := fnContinuantsSplitRow.holds Try.pinned (OpenSpec.ofChange fnContinuantsSplitWrong)

/-- 'laws.FnTermsChanged': WHATEVER THE INPUT: true; the input reads as it did. -/
def fnTermsChangedSpec : ChangeSpec := { name := "fnTermsChanged", fn := fun _ => fun
  | [d1, d2] => { results := [.lit (.bool true)], args := [d1, d2] }
  | _ => none }
def fnTermsChangedRow : OpenClaim := { program := "ytnoddecligmjbaa", sum := "25170a42a94f5099f7ea214dd6ea3c145fa2d05d00959de6a0b96a885713a325", func := "loop.example/g01236/laws.FnTermsChanged", spec := "fnTermsChanged", unfollowed := true, recurses := true, apart := false }
def FnTermsChangedSaid : Prop := fnTermsChangedRow.holds Try.pinned (OpenSpec.ofChange fnTermsChangedSpec)

/-- ITS FALSE NEIGHBOUR: 'it returns false'. Refute it at one input. -/
def fnTermsChangedWrong : ChangeSpec := { name := "fnTermsChanged", fn := fun _ => fun
  | [d1, d2] => { results := [.lit (.bool false)], args := [d1, d2] }
  | _ => none }
def FnTermsChangedWrongFalsely : Prop := fnTermsChangedRow.holds Try.pinned (OpenSpec.ofChange fnTermsChangedWrong)

/-- 'laws.FnListsCloseUp': WHATEVER THE INPUT: true; the input reads as it did. -/
def fnListsCloseUpSpec : ChangeSpec := { name := "fnListsCloseUp", fn := fun _ => fun
  | [d1, d2] => { results := [.lit (.bool true)], args := [d1, d2] }
  | _ => none }
def fnListsCloseUpRow : OpenClaim := { program := "ytnoddecligmjbaa", sum := "25170a42a94f5099f7ea214dd6ea3c145fa2d05d00959de6a0b96a885713a325", func := "loop.example/g01236/laws.FnListsCloseUp", spec := "fnListsCloseUp", unfollowed := true, recurses := true, apart := false }
def FnListsCloseUpSaid : Prop := fnListsCloseUpRow.holds Try.pinned (OpenSpec.ofChange fnListsCloseUpSpec)

/-- ITS FALSE NEIGHBOUR: 'it returns false'. Refute it at one input. -/
def fnListsCloseUpWrong : ChangeSpec := { name := "fnListsCloseUp", fn := fun _ => fun
  | [d1, d2] => { results := [.lit (.bool false)], args := [d1, d2] }
  | _ => none }
def FnListsCloseUpWrongFalsely : Prop := fnListsCloseUpRow.holds Try.pinned (OpenSpec.ofChange fnListsCloseUpWrong)

/- THE SECOND FORM. 'bulk': how many values and letters a reading holds, each counted each time it is reached (what is shared counts as often as it is met; a slice's spare places count too). A statement '..UptoSaid' is the law's where the arguments, and the package variables that the reading takes, are together of bulk at most 1048576: NARROWER than '..Said'. Prove '..Said' where nothing that the law and all that it calls make is longer than what came in: it says more and counts as full. Else prove '..UptoSaid'. A law counts once. -/
mutual
def uptoBulk {H : Type} : DataW H → Nat
  | .lit (.string bytes) => bytes.length + 1
  | .lit _ => 1
  | .nil => 1
  | .ptr d => uptoBulk d + 1
  | .slice elems spare => uptoBulkAll elems + uptoBulkAll spare + 1
  | .agg parts => uptoBulkAll parts + 1
  | .iface _ d => uptoBulk d + 1
  | .map entries => uptoBulkEntries entries + 1
  | .held _ => 1
def uptoBulkAll {H : Type} : List (DataW H) → Nat
  | [] => 0
  | d :: r => uptoBulk d + uptoBulkAll r
def uptoBulkEntries {H : Type} : List (Lit × DataW H) → Nat
  | [] => 0
  | x :: r => uptoBulkEntry x + uptoBulkEntries r
def uptoBulkEntry {H : Type} : Lit × DataW H → Nat
  | (.string bytes, d) => bytes.length + uptoBulk d + 1
  | (_, d) => uptoBulk d + 1
 end
def uptoSmall : (H : Type) → List (DataW H) → Bool := fun _ ds => decide (uptoBulkAll ds ≤ 1048576)
def OpenSpec.upto (s : _root_.Go.ChangeSpec) : _root_.Go.OpenSpec := { _root_.Go.OpenSpec.ofChange s with cond := some uptoSmall }

/-- 'laws.FnExactIsPuzzle', WHERE WHAT IT READS IS OF BULK AT MOST 1048576: true; the input reads as it did. -/
def fnExactIsPuzzleUptoRow : OpenClaim := { program := "ytnoddecligmjbaa", sum := "25170a42a94f5099f7ea214dd6ea3c145fa2d05d00959de6a0b96a885713a325", func := "loop.example/g01236/laws.FnExactIsPuzzle", spec := "fnExactIsPuzzle", unfollowed := true, recurses := true, apart := false, narrowed := true }
def FnExactIsPuzzleUptoSaid : Prop := fnExactIsPuzzleUptoRow.holds Try.pinned (OpenSpec.upto fnExactIsPuzzleSpec)

/-- 'laws.FnExactCountGaps', WHERE WHAT IT READS IS OF BULK AT MOST 1048576: true; the input reads as it did. -/
def fnExactCountGapsUptoRow : OpenClaim := { program := "ytnoddecligmjbaa", sum := "25170a42a94f5099f7ea214dd6ea3c145fa2d05d00959de6a0b96a885713a325", func := "loop.example/g01236/laws.FnExactCountGaps", spec := "fnExactCountGaps", unfollowed := true, recurses := true, apart := false, narrowed := true }
def FnExactCountGapsUptoSaid : Prop := fnExactCountGapsUptoRow.holds Try.pinned (OpenSpec.upto fnExactCountGapsSpec)

/-- 'laws.FnExactIsSolution', WHERE WHAT IT READS IS OF BULK AT MOST 1048576: true; the input reads as it did. -/
def fnExactIsSolutionUptoRow : OpenClaim := { program := "ytnoddecligmjbaa", sum := "25170a42a94f5099f7ea214dd6ea3c145fa2d05d00959de6a0b96a885713a325", func := "loop.example/g01236/laws.FnExactIsSolution", spec := "fnExactIsSolution", unfollowed := true, recurses := true, apart := false, narrowed := true }
def FnExactIsSolutionUptoSaid : Prop := fnExactIsSolutionUptoRow.holds Try.pinned (OpenSpec.upto fnExactIsSolutionSpec)

/-- 'laws.FnExactFillGap', WHERE WHAT IT READS IS OF BULK AT MOST 1048576: true; the input reads as it did. -/
def fnExactFillGapUptoRow : OpenClaim := { program := "ytnoddecligmjbaa", sum := "25170a42a94f5099f7ea214dd6ea3c145fa2d05d00959de6a0b96a885713a325", func := "loop.example/g01236/laws.FnExactFillGap", spec := "fnExactFillGap", unfollowed := true, recurses := true, apart := false, narrowed := true }
def FnExactFillGapUptoSaid : Prop := fnExactFillGapUptoRow.holds Try.pinned (OpenSpec.upto fnExactFillGapSpec)

/-- 'laws.FnExactOpenGap', WHERE WHAT IT READS IS OF BULK AT MOST 1048576: true; the input reads as it did. -/
def fnExactOpenGapUptoRow : OpenClaim := { program := "ytnoddecligmjbaa", sum := "25170a42a94f5099f7ea214dd6ea3c145fa2d05d00959de6a0b96a885713a325", func := "loop.example/g01236/laws.FnExactOpenGap", spec := "fnExactOpenGap", unfollowed := true, recurses := true, apart := false, narrowed := true }
def FnExactOpenGapUptoSaid : Prop := fnExactOpenGapUptoRow.holds Try.pinned (OpenSpec.upto fnExactOpenGapSpec)

/-- 'laws.FnExactMakePuzzle', WHERE WHAT IT READS IS OF BULK AT MOST 1048576: true; the input reads as it did. -/
def fnExactMakePuzzleUptoRow : OpenClaim := { program := "ytnoddecligmjbaa", sum := "25170a42a94f5099f7ea214dd6ea3c145fa2d05d00959de6a0b96a885713a325", func := "loop.example/g01236/laws.FnExactMakePuzzle", spec := "fnExactMakePuzzle", inPlace := ["slices.overlaps[int]"], unfollowed := true, recurses := true, apart := false, narrowed := true }
def FnExactMakePuzzleUptoSaid : Prop := fnExactMakePuzzleUptoRow.holds Try.pinned (OpenSpec.upto fnExactMakePuzzleSpec)

/-- 'laws.FnExactTurnPuzzle', WHERE WHAT IT READS IS OF BULK AT MOST 1048576: true; the input reads as it did. -/
def fnExactTurnPuzzleUptoRow : OpenClaim := { program := "ytnoddecligmjbaa", sum := "25170a42a94f5099f7ea214dd6ea3c145fa2d05d00959de6a0b96a885713a325", func := "loop.example/g01236/laws.FnExactTurnPuzzle", spec := "fnExactTurnPuzzle", unfollowed := true, recurses := true, apart := false, narrowed := true }
def FnExactTurnPuzzleUptoSaid : Prop := fnExactTurnPuzzleUptoRow.holds Try.pinned (OpenSpec.upto fnExactTurnPuzzleSpec)

/-- 'laws.FnExactPuzzleText', WHERE WHAT IT READS IS OF BULK AT MOST 1048576: true; the input reads as it did. -/
def fnExactPuzzleTextUptoRow : OpenClaim := { program := "ytnoddecligmjbaa", sum := "25170a42a94f5099f7ea214dd6ea3c145fa2d05d00959de6a0b96a885713a325", func := "loop.example/g01236/laws.FnExactPuzzleText", spec := "fnExactPuzzleText", unfollowed := true, recurses := true, apart := false, narrowed := true }
def FnExactPuzzleTextUptoSaid : Prop := fnExactPuzzleTextUptoRow.holds Try.pinned (OpenSpec.upto fnExactPuzzleTextSpec)

/-- 'laws.FnExactParsePuzzle', WHERE WHAT IT READS IS OF BULK AT MOST 1048576: true; the input reads as it did. -/
def fnExactParsePuzzleUptoRow : OpenClaim := { program := "ytnoddecligmjbaa", sum := "25170a42a94f5099f7ea214dd6ea3c145fa2d05d00959de6a0b96a885713a325", func := "loop.example/g01236/laws.FnExactParsePuzzle", spec := "fnExactParsePuzzle", inPlace := ["internal/bytealg.IndexByteString"], unfollowed := true, recurses := true, apart := false, narrowed := true }
def FnExactParsePuzzleUptoSaid : Prop := fnExactParsePuzzleUptoRow.holds Try.pinned (OpenSpec.upto fnExactParsePuzzleSpec)

/-- 'laws.FnContinuantsSplit', WHERE WHAT IT READS IS OF BULK AT MOST 1048576: true; the input reads as it did. -/
def fnContinuantsSplitUptoRow : OpenClaim := { program := "ytnoddecligmjbaa", sum := "25170a42a94f5099f7ea214dd6ea3c145fa2d05d00959de6a0b96a885713a325", func := "loop.example/g01236/laws.FnContinuantsSplit", spec := "fnContinuantsSplit", unfollowed := true, recurses := true, apart := false, narrowed := true }
def FnContinuantsSplitUptoSaid : Prop := fnContinuantsSplitUptoRow.holds Try.pinned (OpenSpec.upto fnContinuantsSplitSpec)

/-- 'laws.FnTermsChanged', WHERE WHAT IT READS IS OF BULK AT MOST 1048576: true; the input reads as it did. -/
def fnTermsChangedUptoRow : OpenClaim := { program := "ytnoddecligmjbaa", sum := "25170a42a94f5099f7ea214dd6ea3c145fa2d05d00959de6a0b96a885713a325", func := "loop.example/g01236/laws.FnTermsChanged", spec := "fnTermsChanged", unfollowed := true, recurses := true, apart := false, narrowed := true }
def FnTermsChangedUptoSaid : Prop := fnTermsChangedUptoRow.holds Try.pinned (OpenSpec.upto fnTermsChangedSpec)

/-- 'laws.FnListsCloseUp', WHERE WHAT IT READS IS OF BULK AT MOST 1048576: true; the input reads as it did. -/
def fnListsCloseUpUptoRow : OpenClaim := { program := "ytnoddecligmjbaa", sum := "25170a42a94f5099f7ea214dd6ea3c145fa2d05d00959de6a0b96a885713a325", func := "loop.example/g01236/laws.FnListsCloseUp", spec := "fnListsCloseUp", unfollowed := true, recurses := true, apart := false, narrowed := true }
def FnListsCloseUpUptoSaid : Prop := fnListsCloseUpUptoRow.holds Try.pinned (OpenSpec.upto fnListsCloseUpSpec)

end Rows
end Go.Proofs.Ytnoddecligmjbaa
