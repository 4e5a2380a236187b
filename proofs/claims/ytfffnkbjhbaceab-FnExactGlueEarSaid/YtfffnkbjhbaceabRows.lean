/-
  No cell of these rows narrows 'for every input' (looked for: loops, veiled, ifaces, maps, wideKeys, modest, calm, conditions, laid).
  DERIVED. THE GIVEN ROWS OF THIS SEAT. 7 by the template 'for every input the law returns true; each argument reads behind the call as it read before'; 0 by the template 'total and deterministic' (their statements: YtfffnkbjhbaceabTotals.lean).
  GIVEN WITH THE SEED: the statements are not yours to turn. If you find one false, say at which input.
  Laid BY PROGRAM, IN A SANDBOX (cutbox-rows.mjs): the forced cells as the released guide's own fill.sh prints them over the translation 5adc036fa1518087… (all of the seat's roots in one cut). By AI agents, Wed Nov 11 2026. No macro, syntax, notation, axiom, sorry.
-/
import Derived.Test.YtfffnkbjhbaceabChecked
import GoSem.Claim
import GoSem.ClaimJoined
import GoSem.ClaimMapViews
import Derived.JoinedTies
import Derived.KernelRfl
namespace Go.Proofs.Ytfffnkbjhbaceab
/- THE CELL 'sum', in the pinned program and in every row, IS THE sha256 OF THE DUMP (.gsa) THAT YtfffnkbjhbaceabProg.lean LOADS. Nothing in Lean hashes anything: it is a label: what it is worth is what the hold of that sum in a sandbox is worth. -/
noncomputable def Try.pinned : Pinned := { name := "ytfffnkbjhbaceab", sum := "5adc036fa1518087bc7a4c6f4010d6de4600f09e2694415b0cdfae674dfb103d", checked := Try.checked }
namespace Rows
def none {H : Type} : Left H := { results := [], args := [] }

/-- 'laws.FnExactMatrixOfWord': WHATEVER THE INPUT: true; the input reads as it did. -/
def fnExactMatrixOfWordSpec : ChangeSpec := { name := "fnExactMatrixOfWord", fn := fun _ => fun
  | [d] => { results := [.lit (.bool true)], args := [d] }
  | _ => none }
def fnExactMatrixOfWordRow : OpenClaim := { program := "ytfffnkbjhbaceab", sum := "5adc036fa1518087bc7a4c6f4010d6de4600f09e2694415b0cdfae674dfb103d", func := "loop.example/g01236/laws.FnExactMatrixOfWord", spec := "fnExactMatrixOfWord", unfollowed := true, recurses := true, apart := false }
def FnExactMatrixOfWordSaid : Prop := fnExactMatrixOfWordRow.holds Try.pinned (OpenSpec.ofChange fnExactMatrixOfWordSpec)

/-- ITS FALSE NEIGHBOUR: 'it returns false'. Refute it at one input. -/
def fnExactMatrixOfWordWrong : ChangeSpec := { name := "fnExactMatrixOfWord", fn := fun _ => fun
  | [d] => { results := [.lit (.bool false)], args := [d] }
  | _ => none }
def FnExactMatrixOfWordWrongFalsely : Prop := fnExactMatrixOfWordRow.holds Try.pinned (OpenSpec.ofChange fnExactMatrixOfWordWrong)

/-- 'laws.FnExactWordOfMatrix': WHATEVER THE INPUT: true; the input reads as it did. -/
def fnExactWordOfMatrixSpec : ChangeSpec := { name := "fnExactWordOfMatrix", fn := fun _ => fun
  | [d] => { results := [.lit (.bool true)], args := [d] }
  | _ => none }
def fnExactWordOfMatrixRow : OpenClaim := { program := "ytfffnkbjhbaceab", sum := "5adc036fa1518087bc7a4c6f4010d6de4600f09e2694415b0cdfae674dfb103d", func := "loop.example/g01236/laws.FnExactWordOfMatrix", spec := "fnExactWordOfMatrix", apart := false }
def FnExactWordOfMatrixSaid : Prop := fnExactWordOfMatrixRow.holds Try.pinned (OpenSpec.ofChange fnExactWordOfMatrixSpec)

/-- ITS FALSE NEIGHBOUR: 'it returns false'. Refute it at one input. -/
def fnExactWordOfMatrixWrong : ChangeSpec := { name := "fnExactWordOfMatrix", fn := fun _ => fun
  | [d] => { results := [.lit (.bool false)], args := [d] }
  | _ => none }
def FnExactWordOfMatrixWrongFalsely : Prop := fnExactWordOfMatrixRow.holds Try.pinned (OpenSpec.ofChange fnExactWordOfMatrixWrong)

/-- 'laws.FnExactGlueEar': WHATEVER THE INPUT: true; the input reads as it did. -/
def fnExactGlueEarSpec : ChangeSpec := { name := "fnExactGlueEar", fn := fun _ => fun
  | [d1, d2] => { results := [.lit (.bool true)], args := [d1, d2] }
  | _ => none }
def fnExactGlueEarRow : OpenClaim := { program := "ytfffnkbjhbaceab", sum := "5adc036fa1518087bc7a4c6f4010d6de4600f09e2694415b0cdfae674dfb103d", func := "loop.example/g01236/laws.FnExactGlueEar", spec := "fnExactGlueEar", inPlace := ["slices.overlaps[int]"], unfollowed := true, recurses := true, apart := false }
def FnExactGlueEarSaid : Prop := fnExactGlueEarRow.holds Try.pinned (OpenSpec.ofChange fnExactGlueEarSpec)

/-- ITS FALSE NEIGHBOUR: 'it returns false'. Refute it at one input. -/
def fnExactGlueEarWrong : ChangeSpec := { name := "fnExactGlueEar", fn := fun _ => fun
  | [d1, d2] => { results := [.lit (.bool false)], args := [d1, d2] }
  | _ => none }
def FnExactGlueEarWrongFalsely : Prop := fnExactGlueEarRow.holds Try.pinned (OpenSpec.ofChange fnExactGlueEarWrong)

/-- 'laws.FnExactCountEntries': WHATEVER THE INPUT: true; the input reads as it did. -/
def fnExactCountEntriesSpec : ChangeSpec := { name := "fnExactCountEntries", fn := fun _ => fun
  | [d1, d2] => { results := [.lit (.bool true)], args := [d1, d2] }
  | _ => none }
def fnExactCountEntriesRow : OpenClaim := { program := "ytfffnkbjhbaceab", sum := "5adc036fa1518087bc7a4c6f4010d6de4600f09e2694415b0cdfae674dfb103d", func := "loop.example/g01236/laws.FnExactCountEntries", spec := "fnExactCountEntries", unfollowed := true, recurses := true, apart := false }
def FnExactCountEntriesSaid : Prop := fnExactCountEntriesRow.holds Try.pinned (OpenSpec.ofChange fnExactCountEntriesSpec)

/-- ITS FALSE NEIGHBOUR: 'it returns false'. Refute it at one input. -/
def fnExactCountEntriesWrong : ChangeSpec := { name := "fnExactCountEntries", fn := fun _ => fun
  | [d1, d2] => { results := [.lit (.bool false)], args := [d1, d2] }
  | _ => none }
def FnExactCountEntriesWrongFalsely : Prop := fnExactCountEntriesRow.holds Try.pinned (OpenSpec.ofChange fnExactCountEntriesWrong)

/-- 'laws.FnExactGreatestEntry': WHATEVER THE INPUT: true; the input reads as it did. -/
def fnExactGreatestEntrySpec : ChangeSpec := { name := "fnExactGreatestEntry", fn := fun _ => fun
  | [d] => { results := [.lit (.bool true)], args := [d] }
  | _ => none }
def fnExactGreatestEntryRow : OpenClaim := { program := "ytfffnkbjhbaceab", sum := "5adc036fa1518087bc7a4c6f4010d6de4600f09e2694415b0cdfae674dfb103d", func := "loop.example/g01236/laws.FnExactGreatestEntry", spec := "fnExactGreatestEntry", unfollowed := true, recurses := true, apart := false }
def FnExactGreatestEntrySaid : Prop := fnExactGreatestEntryRow.holds Try.pinned (OpenSpec.ofChange fnExactGreatestEntrySpec)

/-- ITS FALSE NEIGHBOUR: 'it returns false'. Refute it at one input. -/
def fnExactGreatestEntryWrong : ChangeSpec := { name := "fnExactGreatestEntry", fn := fun _ => fun
  | [d] => { results := [.lit (.bool false)], args := [d] }
  | _ => none }
def FnExactGreatestEntryWrongFalsely : Prop := fnExactGreatestEntryRow.holds Try.pinned (OpenSpec.ofChange fnExactGreatestEntryWrong)

/-- 'laws.FnExactOnesOf': WHATEVER THE INPUT: true; the input reads as it did. -/
def fnExactOnesOfSpec : ChangeSpec := { name := "fnExactOnesOf", fn := fun _ => fun
  | [d] => { results := [.lit (.bool true)], args := [d] }
  | _ => none }
def fnExactOnesOfRow : OpenClaim := { program := "ytfffnkbjhbaceab", sum := "5adc036fa1518087bc7a4c6f4010d6de4600f09e2694415b0cdfae674dfb103d", func := "loop.example/g01236/laws.FnExactOnesOf", spec := "fnExactOnesOf", unfollowed := true, recurses := true, apart := false }
def FnExactOnesOfSaid : Prop := fnExactOnesOfRow.holds Try.pinned (OpenSpec.ofChange fnExactOnesOfSpec)

/-- ITS FALSE NEIGHBOUR: 'it returns false'. Refute it at one input. -/
def fnExactOnesOfWrong : ChangeSpec := { name := "fnExactOnesOf", fn := fun _ => fun
  | [d] => { results := [.lit (.bool false)], args := [d] }
  | _ => none }
def FnExactOnesOfWrongFalsely : Prop := fnExactOnesOfRow.holds Try.pinned (OpenSpec.ofChange fnExactOnesOfWrong)

/-- 'laws.FnExactQuiddityOfFrieze': WHATEVER THE INPUT: true; the input reads as it did. -/
def fnExactQuiddityOfFriezeSpec : ChangeSpec := { name := "fnExactQuiddityOfFrieze", fn := fun _ => fun
  | [d] => { results := [.lit (.bool true)], args := [d] }
  | _ => none }
def fnExactQuiddityOfFriezeRow : OpenClaim := { program := "ytfffnkbjhbaceab", sum := "5adc036fa1518087bc7a4c6f4010d6de4600f09e2694415b0cdfae674dfb103d", func := "loop.example/g01236/laws.FnExactQuiddityOfFrieze", spec := "fnExactQuiddityOfFrieze", unfollowed := true, recurses := true, apart := false }
def FnExactQuiddityOfFriezeSaid : Prop := fnExactQuiddityOfFriezeRow.holds Try.pinned (OpenSpec.ofChange fnExactQuiddityOfFriezeSpec)

/-- ITS FALSE NEIGHBOUR: 'it returns false'. Refute it at one input. -/
def fnExactQuiddityOfFriezeWrong : ChangeSpec := { name := "fnExactQuiddityOfFrieze", fn := fun _ => fun
  | [d] => { results := [.lit (.bool false)], args := [d] }
  | _ => none }
def FnExactQuiddityOfFriezeWrongFalsely : Prop := fnExactQuiddityOfFriezeRow.holds Try.pinned (OpenSpec.ofChange fnExactQuiddityOfFriezeWrong)

/- THE SECOND FORM. 'bulk': how many values and letters a reading holds, each counted each time it is reached (what is shared counts as often as it is met; a slice's spare places count too). A statement '..UptoSaid' is the law's where the arguments, and the package variables that the reading takes, are together of bulk at most 1048576: NARROWER than '..Said'. Prove '..Said' where nothing that the law and all that it calls make is longer than what came in: it says more and counts as full. Else prove '..UptoSaid'. A law counts once. -/
mutual
def uptoBulk {H : Type} : DataW H → Nat
  | .lit (.string bytes) => bytes.length + 1
  | .lit _ => 1
  | .nil => 1
  | .ptr d => uptoBulk d + 1
  | .slice elems spare => uptoBulkAll elems + uptoBulkAll spare + 1
  | .agg parts => uptoBulkAll parts + 1
  | .iface _ d => uptoBulk d + 1
  | .map entries => uptoBulkEntries entries + 1
  | .held _ => 1
def uptoBulkAll {H : Type} : List (DataW H) → Nat
  | [] => 0
  | d :: r => uptoBulk d + uptoBulkAll r
def uptoBulkEntries {H : Type} : List (Lit × DataW H) → Nat
  | [] => 0
  | x :: r => uptoBulkEntry x + uptoBulkEntries r
def uptoBulkEntry {H : Type} : Lit × DataW H → Nat
  | (.string bytes, d) => bytes.length + uptoBulk d + 1
  | (_, d) => uptoBulk d + 1
 end
def uptoSmall : (H : Type) → List (DataW H) → Bool := fun _ ds => decide (uptoBulkAll ds ≤ 1048576)
def OpenSpec.upto (s : _root_.Go.ChangeSpec) : _root_.Go.OpenSpec := { _root_.Go.OpenSpec.ofChange s with cond := some uptoSmall }

/-- 'laws.FnExactMatrixOfWord', WHERE WHAT IT READS IS OF BULK AT MOST 1048576: true; the input reads as it did. -/
def fnExactMatrixOfWordUptoRow : OpenClaim := { program := "ytfffnkbjhbaceab", sum := "5adc036fa1518087bc7a4c6f4010d6de4600f09e2694415b0cdfae674dfb103d", func := "loop.example/g01236/laws.FnExactMatrixOfWord", spec := "fnExactMatrixOfWord", unfollowed := true, recurses := true, apart := false, narrowed := true }
def FnExactMatrixOfWordUptoSaid : Prop := fnExactMatrixOfWordUptoRow.holds Try.pinned (OpenSpec.upto fnExactMatrixOfWordSpec)

/-- 'laws.FnExactWordOfMatrix', WHERE WHAT IT READS IS OF BULK AT MOST 1048576: true; the input reads as it did. -/
def fnExactWordOfMatrixUptoRow : OpenClaim := { program := "ytfffnkbjhbaceab", sum := "5adc036fa1518087bc7a4c6f4010d6de4600f09e2694415b0cdfae674dfb103d", func := "loop.example/g01236/laws.FnExactWordOfMatrix", spec := "fnExactWordOfMatrix", apart := false, narrowed := true }
def FnExactWordOfMatrixUptoSaid : Prop := fnExactWordOfMatrixUptoRow.holds Try.pinned (OpenSpec.upto fnExactWordOfMatrixSpec)

/-- 'laws.FnExactGlueEar', WHERE WHAT IT READS IS OF BULK AT MOST 1048576: true; the input reads as it did. -/
def fnExactGlueEarUptoRow : OpenClaim := { program := "ytfffnkbjhbaceab", sum := "5adc036fa1518087bc7a4c6f4010d6de4600f09e2694415b0cdfae674dfb103d", func := "loop.example/g01236/laws.FnExactGlueEar", spec := "fnExactGlueEar", inPlace := ["slices.overlaps[int]"], unfollowed := true, recurses := true, apart := false, narrowed := true }
def FnExactGlueEarUptoSaid : Prop := fnExactGlueEarUptoRow.holds Try.pinned (OpenSpec.upto fnExactGlueEarSpec)

/-- 'laws.FnExactCountEntries', WHERE WHAT IT READS IS OF BULK AT MOST 1048576: true; the input reads as it did. -/
def fnExactCountEntriesUptoRow : OpenClaim := { program := "ytfffnkbjhbaceab", sum := "5adc036fa1518087bc7a4c6f4010d6de4600f09e2694415b0cdfae674dfb103d", func := "loop.example/g01236/laws.FnExactCountEntries", spec := "fnExactCountEntries", unfollowed := true, recurses := true, apart := false, narrowed := true }
def FnExactCountEntriesUptoSaid : Prop := fnExactCountEntriesUptoRow.holds Try.pinned (OpenSpec.upto fnExactCountEntriesSpec)

/-- 'laws.FnExactGreatestEntry', WHERE WHAT IT READS IS OF BULK AT MOST 1048576: true; the input reads as it did. -/
def fnExactGreatestEntryUptoRow : OpenClaim := { program := "ytfffnkbjhbaceab", sum := "5adc036fa1518087bc7a4c6f4010d6de4600f09e2694415b0cdfae674dfb103d", func := "loop.example/g01236/laws.FnExactGreatestEntry", spec := "fnExactGreatestEntry", unfollowed := true, recurses := true, apart := false, narrowed := true }
def FnExactGreatestEntryUptoSaid : Prop := fnExactGreatestEntryUptoRow.holds Try.pinned (OpenSpec.upto fnExactGreatestEntrySpec)

/-- 'laws.FnExactOnesOf', WHERE WHAT IT READS IS OF BULK AT MOST 1048576: true; the input reads as it did. -/
def fnExactOnesOfUptoRow : OpenClaim := { program := "ytfffnkbjhbaceab", sum := "5adc036fa1518087bc7a4c6f4010d6de4600f09e2694415b0cdfae674dfb103d", func := "loop.example/g01236/laws.FnExactOnesOf", spec := "fnExactOnesOf", unfollowed := true, recurses := true, apart := false, narrowed := true }
def FnExactOnesOfUptoSaid : Prop := fnExactOnesOfUptoRow.holds Try.pinned (OpenSpec.upto fnExactOnesOfSpec)

/-- 'laws.FnExactQuiddityOfFrieze', WHERE WHAT IT READS IS OF BULK AT MOST 1048576: true; the input reads as it did. -/
def fnExactQuiddityOfFriezeUptoRow : OpenClaim := { program := "ytfffnkbjhbaceab", sum := "5adc036fa1518087bc7a4c6f4010d6de4600f09e2694415b0cdfae674dfb103d", func := "loop.example/g01236/laws.FnExactQuiddityOfFrieze", spec := "fnExactQuiddityOfFrieze", unfollowed := true, recurses := true, apart := false, narrowed := true }
def FnExactQuiddityOfFriezeUptoSaid : Prop := fnExactQuiddityOfFriezeUptoRow.holds Try.pinned (OpenSpec.upto fnExactQuiddityOfFriezeSpec)

end Rows
end Go.Proofs.Ytfffnkbjhbaceab
