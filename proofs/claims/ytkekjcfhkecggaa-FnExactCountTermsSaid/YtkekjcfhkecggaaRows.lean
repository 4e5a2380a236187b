/-
  No cell of these rows narrows 'for every input' (looked for: loops, veiled, ifaces, maps, wideKeys, modest, calm, conditions, laid).
  DERIVED. THE GIVEN ROWS OF THIS SEAT. 12 by the template 'for every input the law returns true; each argument reads behind the call as it read before'; 0 by the template 'total and deterministic' (their statements: YtkekjcfhkecggaaTotals.lean).
  GIVEN WITH THE SEED: the statements are not yours to turn. If you find one false, say at which input.
  Laid BY PROGRAM, IN A SANDBOX (cutbox-rows.mjs): the forced cells as the released guide's own fill.sh prints them over the translation e6f0da37ee8eac63… (all of the seat's roots in one cut). By AI agents, Wed Nov 11 2026. No macro, syntax, notation, axiom, sorry.
-/
import Derived.Test.YtkekjcfhkecggaaChecked
import GoSem.Claim
import GoSem.ClaimJoined
import GoSem.ClaimMapViews
import Derived.JoinedTies
import Derived.KernelRfl
namespace Go.Proofs.Ytkekjcfhkecggaa
/- THE CELL 'sum', in the pinned program and in every row, IS THE sha256 OF THE DUMP (.gsa) THAT YtkekjcfhkecggaaProg.lean LOADS. Nothing in Lean hashes anything: it is a label: what it is worth is what the hold of that sum in a sandbox is worth. -/
noncomputable def Try.pinned : Pinned := { name := "ytkekjcfhkecggaa", sum := "e6f0da37ee8eac63611606eb84caffdb4c6e42766a232eea1b53be9bca6d4ba1", checked := Try.checked }
namespace Rows
def none {H : Type} : Left H := { results := [], args := [] }

/-- 'laws.FnExactIsTermList': WHATEVER THE INPUT: true; the input reads as it did. -/
def fnExactIsTermListSpec : ChangeSpec := { name := "fnExactIsTermList", fn := fun _ => fun
  | [d] => { results := [.lit (.bool true)], args := [d] }
  | _ => none }
def fnExactIsTermListRow : OpenClaim := { program := "ytkekjcfhkecggaa", sum := "e6f0da37ee8eac63611606eb84caffdb4c6e42766a232eea1b53be9bca6d4ba1", func := "loop.example/g01236/laws.FnExactIsTermList", spec := "fnExactIsTermList", unfollowed := true, recurses := true, apart := false }
def FnExactIsTermListSaid : Prop := fnExactIsTermListRow.holds Try.pinned (OpenSpec.ofChange fnExactIsTermListSpec)

/-- ITS FALSE NEIGHBOUR: 'it returns false'. Refute it at one input. -/
def fnExactIsTermListWrong : ChangeSpec := { name := "fnExactIsTermList", fn := fun _ => fun
  | [d] => { results := [.lit (.bool false)], args := [d] }
  | _ => none }
def FnExactIsTermListWrongFalsely : Prop := fnExactIsTermListRow.holds Try.pinned (OpenSpec.ofChange fnExactIsTermListWrong)

/-- 'laws.FnExactContinuantOf': WHATEVER THE INPUT: true; the input reads as it did. -/
def fnExactContinuantOfSpec : ChangeSpec := { name := "fnExactContinuantOf", fn := fun _ => fun
  | [d] => { results := [.lit (.bool true)], args := [d] }
  | _ => none }
def fnExactContinuantOfRow : OpenClaim := { program := "ytkekjcfhkecggaa", sum := "e6f0da37ee8eac63611606eb84caffdb4c6e42766a232eea1b53be9bca6d4ba1", func := "loop.example/g01236/laws.FnExactContinuantOf", spec := "fnExactContinuantOf", unfollowed := true, recurses := true, apart := false }
def FnExactContinuantOfSaid : Prop := fnExactContinuantOfRow.holds Try.pinned (OpenSpec.ofChange fnExactContinuantOfSpec)

/-- ITS FALSE NEIGHBOUR: 'it returns false'. Refute it at one input. -/
def fnExactContinuantOfWrong : ChangeSpec := { name := "fnExactContinuantOf", fn := fun _ => fun
  | [d] => { results := [.lit (.bool false)], args := [d] }
  | _ => none }
def FnExactContinuantOfWrongFalsely : Prop := fnExactContinuantOfRow.holds Try.pinned (OpenSpec.ofChange fnExactContinuantOfWrong)

/-- 'laws.FnExactPlusContinuantOf': WHATEVER THE INPUT: true; the input reads as it did. -/
def fnExactPlusContinuantOfSpec : ChangeSpec := { name := "fnExactPlusContinuantOf", fn := fun _ => fun
  | [d] => { results := [.lit (.bool true)], args := [d] }
  | _ => none }
def fnExactPlusContinuantOfRow : OpenClaim := { program := "ytkekjcfhkecggaa", sum := "e6f0da37ee8eac63611606eb84caffdb4c6e42766a232eea1b53be9bca6d4ba1", func := "loop.example/g01236/laws.FnExactPlusContinuantOf", spec := "fnExactPlusContinuantOf", unfollowed := true, recurses := true, apart := false }
def FnExactPlusContinuantOfSaid : Prop := fnExactPlusContinuantOfRow.holds Try.pinned (OpenSpec.ofChange fnExactPlusContinuantOfSpec)

/-- ITS FALSE NEIGHBOUR: 'it returns false'. Refute it at one input. -/
def fnExactPlusContinuantOfWrong : ChangeSpec := { name := "fnExactPlusContinuantOf", fn := fun _ => fun
  | [d] => { results := [.lit (.bool false)], args := [d] }
  | _ => none }
def FnExactPlusContinuantOfWrongFalsely : Prop := fnExactPlusContinuantOfRow.holds Try.pinned (OpenSpec.ofChange fnExactPlusContinuantOfWrong)

/-- 'laws.FnExactCountTerms': WHATEVER THE INPUT: true; the input reads as it did. -/
def fnExactCountTermsSpec : ChangeSpec := { name := "fnExactCountTerms", fn := fun _ => fun
  | [d] => { results := [.lit (.bool true)], args := [d] }
  | _ => none }
def fnExactCountTermsRow : OpenClaim := { program := "ytkekjcfhkecggaa", sum := "e6f0da37ee8eac63611606eb84caffdb4c6e42766a232eea1b53be9bca6d4ba1", func := "loop.example/g01236/laws.FnExactCountTerms", spec := "fnExactCountTerms", recurses := true, apart := false }
def FnExactCountTermsSaid : Prop := fnExactCountTermsRow.holds Try.pinned (OpenSpec.ofChange fnExactCountTermsSpec)

/-- ITS FALSE NEIGHBOUR: 'it returns false'. Refute it at one input. -/
def fnExactCountTermsWrong : ChangeSpec := { name := "fnExactCountTerms", fn := fun _ => fun
  | [d] => { results := [.lit (.bool false)], args := [d] }
  | _ => none }
def FnExactCountTermsWrongFalsely : Prop := fnExactCountTermsRow.holds Try.pinned (OpenSpec.ofChange fnExactCountTermsWrong)

/-- 'laws.FnExactFractionOfMinus': WHATEVER THE INPUT: true; the input reads as it did. -/
def fnExactFractionOfMinusSpec : ChangeSpec := { name := "fnExactFractionOfMinus", fn := fun _ => fun
  | [d] => { results := [.lit (.bool true)], args := [d] }
  | _ => none }
def fnExactFractionOfMinusRow : OpenClaim := { program := "ytkekjcfhkecggaa", sum := "e6f0da37ee8eac63611606eb84caffdb4c6e42766a232eea1b53be9bca6d4ba1", func := "loop.example/g01236/laws.FnExactFractionOfMinus", spec := "fnExactFractionOfMinus", unfollowed := true, recurses := true, apart := false }
def FnExactFractionOfMinusSaid : Prop := fnExactFractionOfMinusRow.holds Try.pinned (OpenSpec.ofChange fnExactFractionOfMinusSpec)

/-- ITS FALSE NEIGHBOUR: 'it returns false'. Refute it at one input. -/
def fnExactFractionOfMinusWrong : ChangeSpec := { name := "fnExactFractionOfMinus", fn := fun _ => fun
  | [d] => { results := [.lit (.bool false)], args := [d] }
  | _ => none }
def FnExactFractionOfMinusWrongFalsely : Prop := fnExactFractionOfMinusRow.holds Try.pinned (OpenSpec.ofChange fnExactFractionOfMinusWrong)

/-- 'laws.FnExactMinusTerms': WHATEVER THE INPUT: true; the input reads as it did. -/
def fnExactMinusTermsSpec : ChangeSpec := { name := "fnExactMinusTerms", fn := fun _ => fun
  | [d1, d2] => { results := [.lit (.bool true)], args := [d1, d2] }
  | _ => none }
def fnExactMinusTermsRow : OpenClaim := { program := "ytkekjcfhkecggaa", sum := "e6f0da37ee8eac63611606eb84caffdb4c6e42766a232eea1b53be9bca6d4ba1", func := "loop.example/g01236/laws.FnExactMinusTerms", spec := "fnExactMinusTerms", unfollowed := true, recurses := true, apart := false }
def FnExactMinusTermsSaid : Prop := fnExactMinusTermsRow.holds Try.pinned (OpenSpec.ofChange fnExactMinusTermsSpec)

/-- ITS FALSE NEIGHBOUR: 'it returns false'. Refute it at one input. -/
def fnExactMinusTermsWrong : ChangeSpec := { name := "fnExactMinusTerms", fn := fun _ => fun
  | [d1, d2] => { results := [.lit (.bool false)], args := [d1, d2] }
  | _ => none }
def FnExactMinusTermsWrongFalsely : Prop := fnExactMinusTermsRow.holds Try.pinned (OpenSpec.ofChange fnExactMinusTermsWrong)

/-- 'laws.FnExactFractionOfPlus': WHATEVER THE INPUT: true; the input reads as it did. -/
def fnExactFractionOfPlusSpec : ChangeSpec := { name := "fnExactFractionOfPlus", fn := fun _ => fun
  | [d] => { results := [.lit (.bool true)], args := [d] }
  | _ => none }
def fnExactFractionOfPlusRow : OpenClaim := { program := "ytkekjcfhkecggaa", sum := "e6f0da37ee8eac63611606eb84caffdb4c6e42766a232eea1b53be9bca6d4ba1", func := "loop.example/g01236/laws.FnExactFractionOfPlus", spec := "fnExactFractionOfPlus", unfollowed := true, recurses := true, apart := false }
def FnExactFractionOfPlusSaid : Prop := fnExactFractionOfPlusRow.holds Try.pinned (OpenSpec.ofChange fnExactFractionOfPlusSpec)

/-- ITS FALSE NEIGHBOUR: 'it returns false'. Refute it at one input. -/
def fnExactFractionOfPlusWrong : ChangeSpec := { name := "fnExactFractionOfPlus", fn := fun _ => fun
  | [d] => { results := [.lit (.bool false)], args := [d] }
  | _ => none }
def FnExactFractionOfPlusWrongFalsely : Prop := fnExactFractionOfPlusRow.holds Try.pinned (OpenSpec.ofChange fnExactFractionOfPlusWrong)

/-- 'laws.FnExactPlusTerms': WHATEVER THE INPUT: true; the input reads as it did. -/
def fnExactPlusTermsSpec : ChangeSpec := { name := "fnExactPlusTerms", fn := fun _ => fun
  | [d1, d2] => { results := [.lit (.bool true)], args := [d1, d2] }
  | _ => none }
def fnExactPlusTermsRow : OpenClaim := { program := "ytkekjcfhkecggaa", sum := "e6f0da37ee8eac63611606eb84caffdb4c6e42766a232eea1b53be9bca6d4ba1", func := "loop.example/g01236/laws.FnExactPlusTerms", spec := "fnExactPlusTerms", unfollowed := true, recurses := true, apart := false }
def FnExactPlusTermsSaid : Prop := fnExactPlusTermsRow.holds Try.pinned (OpenSpec.ofChange fnExactPlusTermsSpec)

/-- ITS FALSE NEIGHBOUR: 'it returns false'. Refute it at one input. -/
def fnExactPlusTermsWrong : ChangeSpec := { name := "fnExactPlusTerms", fn := fun _ => fun
  | [d1, d2] => { results := [.lit (.bool false)], args := [d1, d2] }
  | _ => none }
def FnExactPlusTermsWrongFalsely : Prop := fnExactPlusTermsRow.holds Try.pinned (OpenSpec.ofChange fnExactPlusTermsWrong)

/-- 'laws.FnExactMinusOfPlus': WHATEVER THE INPUT: true; the input reads as it did. -/
def fnExactMinusOfPlusSpec : ChangeSpec := { name := "fnExactMinusOfPlus", fn := fun _ => fun
  | [d] => { results := [.lit (.bool true)], args := [d] }
  | _ => none }
def fnExactMinusOfPlusRow : OpenClaim := { program := "ytkekjcfhkecggaa", sum := "e6f0da37ee8eac63611606eb84caffdb4c6e42766a232eea1b53be9bca6d4ba1", func := "loop.example/g01236/laws.FnExactMinusOfPlus", spec := "fnExactMinusOfPlus", unfollowed := true, recurses := true, apart := false }
def FnExactMinusOfPlusSaid : Prop := fnExactMinusOfPlusRow.holds Try.pinned (OpenSpec.ofChange fnExactMinusOfPlusSpec)

/-- ITS FALSE NEIGHBOUR: 'it returns false'. Refute it at one input. -/
def fnExactMinusOfPlusWrong : ChangeSpec := { name := "fnExactMinusOfPlus", fn := fun _ => fun
  | [d] => { results := [.lit (.bool false)], args := [d] }
  | _ => none }
def FnExactMinusOfPlusWrongFalsely : Prop := fnExactMinusOfPlusRow.holds Try.pinned (OpenSpec.ofChange fnExactMinusOfPlusWrong)

/-- 'laws.FnExactPutOne': WHATEVER THE INPUT: true; the input reads as it did. -/
def fnExactPutOneSpec : ChangeSpec := { name := "fnExactPutOne", fn := fun _ => fun
  | [d1, d2] => { results := [.lit (.bool true)], args := [d1, d2] }
  | _ => none }
def fnExactPutOneRow : OpenClaim := { program := "ytkekjcfhkecggaa", sum := "e6f0da37ee8eac63611606eb84caffdb4c6e42766a232eea1b53be9bca6d4ba1", func := "loop.example/g01236/laws.FnExactPutOne", spec := "fnExactPutOne", unfollowed := true, recurses := true, apart := false }
def FnExactPutOneSaid : Prop := fnExactPutOneRow.holds Try.pinned (OpenSpec.ofChange fnExactPutOneSpec)

/-- ITS FALSE NEIGHBOUR: 'it returns false'. Refute it at one input. -/
def fnExactPutOneWrong : ChangeSpec := { name := "fnExactPutOne", fn := fun _ => fun
  | [d1, d2] => { results := [.lit (.bool false)], args := [d1, d2] }
  | _ => none }
def FnExactPutOneWrongFalsely : Prop := fnExactPutOneRow.holds Try.pinned (OpenSpec.ofChange fnExactPutOneWrong)

/-- 'laws.FnExactTakeOne': WHATEVER THE INPUT: true; the input reads as it did. -/
def fnExactTakeOneSpec : ChangeSpec := { name := "fnExactTakeOne", fn := fun _ => fun
  | [d1, d2] => { results := [.lit (.bool true)], args := [d1, d2] }
  | _ => none }
def fnExactTakeOneRow : OpenClaim := { program := "ytkekjcfhkecggaa", sum := "e6f0da37ee8eac63611606eb84caffdb4c6e42766a232eea1b53be9bca6d4ba1", func := "loop.example/g01236/laws.FnExactTakeOne", spec := "fnExactTakeOne", unfollowed := true, recurses := true, apart := false }
def FnExactTakeOneSaid : Prop := fnExactTakeOneRow.holds Try.pinned (OpenSpec.ofChange fnExactTakeOneSpec)

/-- ITS FALSE NEIGHBOUR: 'it returns false'. Refute it at one input. -/
def fnExactTakeOneWrong : ChangeSpec := { name := "fnExactTakeOne", fn := fun _ => fun
  | [d1, d2] => { results := [.lit (.bool false)], args := [d1, d2] }
  | _ => none }
def FnExactTakeOneWrongFalsely : Prop := fnExactTakeOneRow.holds Try.pinned (OpenSpec.ofChange fnExactTakeOneWrong)

/-- 'laws.FnExactSplitContinuant': WHATEVER THE INPUT: true; the input reads as it did. -/
def fnExactSplitContinuantSpec : ChangeSpec := { name := "fnExactSplitContinuant", fn := fun _ => fun
  | [d1, d2] => { results := [.lit (.bool true)], args := [d1, d2] }
  | _ => none }
def fnExactSplitContinuantRow : OpenClaim := { program := "ytkekjcfhkecggaa", sum := "e6f0da37ee8eac63611606eb84caffdb4c6e42766a232eea1b53be9bca6d4ba1", func := "loop.example/g01236/laws.FnExactSplitContinuant", spec := "fnExactSplitContinuant", unfollowed := true, recurses := true, apart := false }
def FnExactSplitContinuantSaid : Prop := fnExactSplitContinuantRow.holds Try.pinned (OpenSpec.ofChange fnExactSplitContinuantSpec)

/-- ITS FALSE NEIGHBOUR: 'it returns false'. Refute it at one input. -/
def fnExactSplitContinuantWrong : ChangeSpec := { name := "fnExactSplitContinuant", fn := fun _ => fun
  | [d1, d2] => { results := [.lit (.bool false)], args := [d1, d2] }
  | _ => none }
def FnExactSplitContinuantWrongFalsely : Prop := fnExactSplitContinuantRow.holds Try.pinned (OpenSpec.ofChange fnExactSplitContinuantWrong)

/- THE SECOND FORM. 'bulk': how many values and letters a reading holds, each counted each time it is reached (what is shared counts as often as it is met; a slice's spare places count too). A statement '..UptoSaid' is the law's where the arguments, and the package variables that the reading takes, are together of bulk at most 1048576: NARROWER than '..Said'. Prove '..Said' where nothing that the law and all that it calls make is longer than what came in: it says more and counts as full. Else prove '..UptoSaid'. A law counts once. -/
mutual
def uptoBulk {H : Type} : DataW H → Nat
  | .lit (.string bytes) => bytes.length + 1
  | .lit _ => 1
  | .nil => 1
  | .ptr d => uptoBulk d + 1
  | .slice elems spare => uptoBulkAll elems + uptoBulkAll spare + 1
  | .agg parts => uptoBulkAll parts + 1
  | .iface _ d => uptoBulk d + 1
  | .map entries => uptoBulkEntries entries + 1
  | .held _ => 1
def uptoBulkAll {H : Type} : List (DataW H) → Nat
  | [] => 0
  | d :: r => uptoBulk d + uptoBulkAll r
def uptoBulkEntries {H : Type} : List (Lit × DataW H) → Nat
  | [] => 0
  | x :: r => uptoBulkEntry x + uptoBulkEntries r
def uptoBulkEntry {H : Type} : Lit × DataW H → Nat
  | (.string bytes, d) => bytes.length + uptoBulk d + 1
  | (_, d) => uptoBulk d + 1
 end
def uptoSmall : (H : Type) → List (DataW H) → Bool := fun _ ds => decide (uptoBulkAll ds ≤ 1048576)
def OpenSpec.upto (s : _root_.Go.ChangeSpec) : _root_.Go.OpenSpec := { _root_.Go.OpenSpec.ofChange s with cond := some uptoSmall }

/-- 'laws.FnExactIsTermList', WHERE WHAT IT READS IS OF BULK AT MOST 1048576: true; the input reads as it did. -/
def fnExactIsTermListUptoRow : OpenClaim := { program := "ytkekjcfhkecggaa", sum := "e6f0da37ee8eac63611606eb84caffdb4c6e42766a232eea1b53be9bca6d4ba1", func := "loop.example/g01236/laws.FnExactIsTermList", spec := "fnExactIsTermList", unfollowed := true, recurses := true, apart := false, narrowed := true }
def FnExactIsTermListUptoSaid : Prop := fnExactIsTermListUptoRow.holds Try.pinned (OpenSpec.upto fnExactIsTermListSpec)

/-- 'laws.FnExactContinuantOf', WHERE WHAT IT READS IS OF BULK AT MOST 1048576: true; the input reads as it did. -/
def fnExactContinuantOfUptoRow : OpenClaim := { program := "ytkekjcfhkecggaa", sum := "e6f0da37ee8eac63611606eb84caffdb4c6e42766a232eea1b53be9bca6d4ba1", func := "loop.example/g01236/laws.FnExactContinuantOf", spec := "fnExactContinuantOf", unfollowed := true, recurses := true, apart := false, narrowed := true }
def FnExactContinuantOfUptoSaid : Prop := fnExactContinuantOfUptoRow.holds Try.pinned (OpenSpec.upto fnExactContinuantOfSpec)

/-- 'laws.FnExactPlusContinuantOf', WHERE WHAT IT READS IS OF BULK AT MOST 1048576: true; the input reads as it did. -/
def fnExactPlusContinuantOfUptoRow : OpenClaim := { program := "ytkekjcfhkecggaa", sum := "e6f0da37ee8eac63611606eb84caffdb4c6e42766a232eea1b53be9bca6d4ba1", func := "loop.example/g01236/laws.FnExactPlusContinuantOf", spec := "fnExactPlusContinuantOf", unfollowed := true, recurses := true, apart := false, narrowed := true }
def FnExactPlusContinuantOfUptoSaid : Prop := fnExactPlusContinuantOfUptoRow.holds Try.pinned (OpenSpec.upto fnExactPlusContinuantOfSpec)

/-- 'laws.FnExactCountTerms', WHERE WHAT IT READS IS OF BULK AT MOST 1048576: true; the input reads as it did. -/
def fnExactCountTermsUptoRow : OpenClaim := { program := "ytkekjcfhkecggaa", sum := "e6f0da37ee8eac63611606eb84caffdb4c6e42766a232eea1b53be9bca6d4ba1", func := "loop.example/g01236/laws.FnExactCountTerms", spec := "fnExactCountTerms", recurses := true, apart := false, narrowed := true }
def FnExactCountTermsUptoSaid : Prop := fnExactCountTermsUptoRow.holds Try.pinned (OpenSpec.upto fnExactCountTermsSpec)

/-- 'laws.FnExactFractionOfMinus', WHERE WHAT IT READS IS OF BULK AT MOST 1048576: true; the input reads as it did. -/
def fnExactFractionOfMinusUptoRow : OpenClaim := { program := "ytkekjcfhkecggaa", sum := "e6f0da37ee8eac63611606eb84caffdb4c6e42766a232eea1b53be9bca6d4ba1", func := "loop.example/g01236/laws.FnExactFractionOfMinus", spec := "fnExactFractionOfMinus", unfollowed := true, recurses := true, apart := false, narrowed := true }
def FnExactFractionOfMinusUptoSaid : Prop := fnExactFractionOfMinusUptoRow.holds Try.pinned (OpenSpec.upto fnExactFractionOfMinusSpec)

/-- 'laws.FnExactMinusTerms', WHERE WHAT IT READS IS OF BULK AT MOST 1048576: true; the input reads as it did. -/
def fnExactMinusTermsUptoRow : OpenClaim := { program := "ytkekjcfhkecggaa", sum := "e6f0da37ee8eac63611606eb84caffdb4c6e42766a232eea1b53be9bca6d4ba1", func := "loop.example/g01236/laws.FnExactMinusTerms", spec := "fnExactMinusTerms", unfollowed := true, recurses := true, apart := false, narrowed := true }
def FnExactMinusTermsUptoSaid : Prop := fnExactMinusTermsUptoRow.holds Try.pinned (OpenSpec.upto fnExactMinusTermsSpec)

/-- 'laws.FnExactFractionOfPlus', WHERE WHAT IT READS IS OF BULK AT MOST 1048576: true; the input reads as it did. -/
def fnExactFractionOfPlusUptoRow : OpenClaim := { program := "ytkekjcfhkecggaa", sum := "e6f0da37ee8eac63611606eb84caffdb4c6e42766a232eea1b53be9bca6d4ba1", func := "loop.example/g01236/laws.FnExactFractionOfPlus", spec := "fnExactFractionOfPlus", unfollowed := true, recurses := true, apart := false, narrowed := true }
def FnExactFractionOfPlusUptoSaid : Prop := fnExactFractionOfPlusUptoRow.holds Try.pinned (OpenSpec.upto fnExactFractionOfPlusSpec)

/-- 'laws.FnExactPlusTerms', WHERE WHAT IT READS IS OF BULK AT MOST 1048576: true; the input reads as it did. -/
def fnExactPlusTermsUptoRow : OpenClaim := { program := "ytkekjcfhkecggaa", sum := "e6f0da37ee8eac63611606eb84caffdb4c6e42766a232eea1b53be9bca6d4ba1", func := "loop.example/g01236/laws.FnExactPlusTerms", spec := "fnExactPlusTerms", unfollowed := true, recurses := true, apart := false, narrowed := true }
def FnExactPlusTermsUptoSaid : Prop := fnExactPlusTermsUptoRow.holds Try.pinned (OpenSpec.upto fnExactPlusTermsSpec)

/-- 'laws.FnExactMinusOfPlus', WHERE WHAT IT READS IS OF BULK AT MOST 1048576: true; the input reads as it did. -/
def fnExactMinusOfPlusUptoRow : OpenClaim := { program := "ytkekjcfhkecggaa", sum := "e6f0da37ee8eac63611606eb84caffdb4c6e42766a232eea1b53be9bca6d4ba1", func := "loop.example/g01236/laws.FnExactMinusOfPlus", spec := "fnExactMinusOfPlus", unfollowed := true, recurses := true, apart := false, narrowed := true }
def FnExactMinusOfPlusUptoSaid : Prop := fnExactMinusOfPlusUptoRow.holds Try.pinned (OpenSpec.upto fnExactMinusOfPlusSpec)

/-- 'laws.FnExactPutOne', WHERE WHAT IT READS IS OF BULK AT MOST 1048576: true; the input reads as it did. -/
def fnExactPutOneUptoRow : OpenClaim := { program := "ytkekjcfhkecggaa", sum := "e6f0da37ee8eac63611606eb84caffdb4c6e42766a232eea1b53be9bca6d4ba1", func := "loop.example/g01236/laws.FnExactPutOne", spec := "fnExactPutOne", unfollowed := true, recurses := true, apart := false, narrowed := true }
def FnExactPutOneUptoSaid : Prop := fnExactPutOneUptoRow.holds Try.pinned (OpenSpec.upto fnExactPutOneSpec)

/-- 'laws.FnExactTakeOne', WHERE WHAT IT READS IS OF BULK AT MOST 1048576: true; the input reads as it did. -/
def fnExactTakeOneUptoRow : OpenClaim := { program := "ytkekjcfhkecggaa", sum := "e6f0da37ee8eac63611606eb84caffdb4c6e42766a232eea1b53be9bca6d4ba1", func := "loop.example/g01236/laws.FnExactTakeOne", spec := "fnExactTakeOne", unfollowed := true, recurses := true, apart := false, narrowed := true }
def FnExactTakeOneUptoSaid : Prop := fnExactTakeOneUptoRow.holds Try.pinned (OpenSpec.upto fnExactTakeOneSpec)

/-- 'laws.FnExactSplitContinuant', WHERE WHAT IT READS IS OF BULK AT MOST 1048576: true; the input reads as it did. -/
def fnExactSplitContinuantUptoRow : OpenClaim := { program := "ytkekjcfhkecggaa", sum := "e6f0da37ee8eac63611606eb84caffdb4c6e42766a232eea1b53be9bca6d4ba1", func := "loop.example/g01236/laws.FnExactSplitContinuant", spec := "fnExactSplitContinuant", unfollowed := true, recurses := true, apart := false, narrowed := true }
def FnExactSplitContinuantUptoSaid : Prop := fnExactSplitContinuantUptoRow.holds Try.pinned (OpenSpec.upto fnExactSplitContinuantSpec)

end Rows
end Go.Proofs.Ytkekjcfhkecggaa
