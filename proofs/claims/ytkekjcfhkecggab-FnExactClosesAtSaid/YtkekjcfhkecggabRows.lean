/-
  No cell of these rows narrows 'for every input' (looked for: loops, veiled, ifaces, maps, wideKeys, modest, calm, conditions, laid).
  DERIVED. THE GIVEN ROWS OF THIS SEAT. 8 by the template 'for every input the law returns true; each argument reads behind the call as it read before'; 0 by the template 'total and deterministic' (their statements: YtkekjcfhkecggabTotals.lean).
  GIVEN WITH THE SEED: the statements are not yours to turn. If you find one false, say at which input.
  Laid BY PROGRAM, IN A SANDBOX (cutbox-rows.mjs): the forced cells as the released guide's own fill.sh prints them over the translation 20ec6fc115e3735a… (all of the seat's roots in one cut). By AI agents, Wed Nov 11 2026. No macro, syntax, notation, axiom, sorry.
-/
import Derived.Test.YtkekjcfhkecggabChecked
import GoSem.Claim
import GoSem.ClaimJoined
import GoSem.ClaimMapViews
import Derived.JoinedTies
import Derived.KernelRfl
namespace Go.Proofs.Ytkekjcfhkecggab
/- THE CELL 'sum', in the pinned program and in every row, IS THE sha256 OF THE DUMP (.gsa) THAT YtkekjcfhkecggabProg.lean LOADS. Nothing in Lean hashes anything: it is a label: what it is worth is what the hold of that sum in a sandbox is worth. -/
noncomputable def Try.pinned : Pinned := { name := "ytkekjcfhkecggab", sum := "20ec6fc115e3735af59c150fa14bbf60677668d7ce8eba44ae743c100e15bcfb", checked := Try.checked }
namespace Rows
def none {H : Type} : Left H := { results := [], args := [] }

/-- 'laws.FnExactReduceOnes': WHATEVER THE INPUT: true; the input reads as it did. -/
def fnExactReduceOnesSpec : ChangeSpec := { name := "fnExactReduceOnes", fn := fun _ => fun
  | [d] => { results := [.lit (.bool true)], args := [d] }
  | _ => none }
def fnExactReduceOnesRow : OpenClaim := { program := "ytkekjcfhkecggab", sum := "20ec6fc115e3735af59c150fa14bbf60677668d7ce8eba44ae743c100e15bcfb", func := "loop.example/g01236/laws.FnExactReduceOnes", spec := "fnExactReduceOnes", unfollowed := true, recurses := true, apart := false }
def FnExactReduceOnesSaid : Prop := fnExactReduceOnesRow.holds Try.pinned (OpenSpec.ofChange fnExactReduceOnesSpec)

/-- ITS FALSE NEIGHBOUR: 'it returns false'. Refute it at one input. -/
def fnExactReduceOnesWrong : ChangeSpec := { name := "fnExactReduceOnes", fn := fun _ => fun
  | [d] => { results := [.lit (.bool false)], args := [d] }
  | _ => none }
def FnExactReduceOnesWrongFalsely : Prop := fnExactReduceOnesRow.holds Try.pinned (OpenSpec.ofChange fnExactReduceOnesWrong)

/-- 'laws.FnExactEntryByContinuant': WHATEVER THE INPUT: true; the input reads as it did. -/
def fnExactEntryByContinuantSpec : ChangeSpec := { name := "fnExactEntryByContinuant", fn := fun _ => fun
  | [d1, d2, d3] => { results := [.lit (.bool true)], args := [d1, d2, d3] }
  | _ => none }
def fnExactEntryByContinuantRow : OpenClaim := { program := "ytkekjcfhkecggab", sum := "20ec6fc115e3735af59c150fa14bbf60677668d7ce8eba44ae743c100e15bcfb", func := "loop.example/g01236/laws.FnExactEntryByContinuant", spec := "fnExactEntryByContinuant", unfollowed := true, recurses := true, apart := false }
def FnExactEntryByContinuantSaid : Prop := fnExactEntryByContinuantRow.holds Try.pinned (OpenSpec.ofChange fnExactEntryByContinuantSpec)

/-- ITS FALSE NEIGHBOUR: 'it returns false'. Refute it at one input. -/
def fnExactEntryByContinuantWrong : ChangeSpec := { name := "fnExactEntryByContinuant", fn := fun _ => fun
  | [d1, d2, d3] => { results := [.lit (.bool false)], args := [d1, d2, d3] }
  | _ => none }
def FnExactEntryByContinuantWrongFalsely : Prop := fnExactEntryByContinuantRow.holds Try.pinned (OpenSpec.ofChange fnExactEntryByContinuantWrong)

/-- 'laws.FnExactTermsOf': WHATEVER THE INPUT: true; the input reads as it did. -/
def fnExactTermsOfSpec : ChangeSpec := { name := "fnExactTermsOf", fn := fun _ => fun
  | [d] => { results := [.lit (.bool true)], args := [d] }
  | _ => none }
def fnExactTermsOfRow : OpenClaim := { program := "ytkekjcfhkecggab", sum := "20ec6fc115e3735af59c150fa14bbf60677668d7ce8eba44ae743c100e15bcfb", func := "loop.example/g01236/laws.FnExactTermsOf", spec := "fnExactTermsOf", unfollowed := true, recurses := true, apart := false }
def FnExactTermsOfSaid : Prop := fnExactTermsOfRow.holds Try.pinned (OpenSpec.ofChange fnExactTermsOfSpec)

/-- ITS FALSE NEIGHBOUR: 'it returns false'. Refute it at one input. -/
def fnExactTermsOfWrong : ChangeSpec := { name := "fnExactTermsOf", fn := fun _ => fun
  | [d] => { results := [.lit (.bool false)], args := [d] }
  | _ => none }
def FnExactTermsOfWrongFalsely : Prop := fnExactTermsOfRow.holds Try.pinned (OpenSpec.ofChange fnExactTermsOfWrong)

/-- 'laws.FnExactContinuantTable': WHATEVER THE INPUT: true; the input reads as it did. -/
def fnExactContinuantTableSpec : ChangeSpec := { name := "fnExactContinuantTable", fn := fun _ => fun
  | [d] => { results := [.lit (.bool true)], args := [d] }
  | _ => none }
def fnExactContinuantTableRow : OpenClaim := { program := "ytkekjcfhkecggab", sum := "20ec6fc115e3735af59c150fa14bbf60677668d7ce8eba44ae743c100e15bcfb", func := "loop.example/g01236/laws.FnExactContinuantTable", spec := "fnExactContinuantTable", unfollowed := true, recurses := true, apart := false }
def FnExactContinuantTableSaid : Prop := fnExactContinuantTableRow.holds Try.pinned (OpenSpec.ofChange fnExactContinuantTableSpec)

/-- ITS FALSE NEIGHBOUR: 'it returns false'. Refute it at one input. -/
def fnExactContinuantTableWrong : ChangeSpec := { name := "fnExactContinuantTable", fn := fun _ => fun
  | [d] => { results := [.lit (.bool false)], args := [d] }
  | _ => none }
def FnExactContinuantTableWrongFalsely : Prop := fnExactContinuantTableRow.holds Try.pinned (OpenSpec.ofChange fnExactContinuantTableWrong)

/-- 'laws.FnExactExtendFrieze': WHATEVER THE INPUT: true; the input reads as it did. -/
def fnExactExtendFriezeSpec : ChangeSpec := { name := "fnExactExtendFrieze", fn := fun _ => fun
  | [d1, d2] => { results := [.lit (.bool true)], args := [d1, d2] }
  | _ => none }
def fnExactExtendFriezeRow : OpenClaim := { program := "ytkekjcfhkecggab", sum := "20ec6fc115e3735af59c150fa14bbf60677668d7ce8eba44ae743c100e15bcfb", func := "loop.example/g01236/laws.FnExactExtendFrieze", spec := "fnExactExtendFrieze", unfollowed := true, recurses := true, apart := false }
def FnExactExtendFriezeSaid : Prop := fnExactExtendFriezeRow.holds Try.pinned (OpenSpec.ofChange fnExactExtendFriezeSpec)

/-- ITS FALSE NEIGHBOUR: 'it returns false'. Refute it at one input. -/
def fnExactExtendFriezeWrong : ChangeSpec := { name := "fnExactExtendFrieze", fn := fun _ => fun
  | [d1, d2] => { results := [.lit (.bool false)], args := [d1, d2] }
  | _ => none }
def FnExactExtendFriezeWrongFalsely : Prop := fnExactExtendFriezeRow.holds Try.pinned (OpenSpec.ofChange fnExactExtendFriezeWrong)

/-- 'laws.FnExactClosesAt': WHATEVER THE INPUT: true; the input reads as it did. -/
def fnExactClosesAtSpec : ChangeSpec := { name := "fnExactClosesAt", fn := fun _ => fun
  | [d] => { results := [.lit (.bool true)], args := [d] }
  | _ => none }
def fnExactClosesAtRow : OpenClaim := { program := "ytkekjcfhkecggab", sum := "20ec6fc115e3735af59c150fa14bbf60677668d7ce8eba44ae743c100e15bcfb", func := "loop.example/g01236/laws.FnExactClosesAt", spec := "fnExactClosesAt", unfollowed := true, recurses := true, apart := false }
def FnExactClosesAtSaid : Prop := fnExactClosesAtRow.holds Try.pinned (OpenSpec.ofChange fnExactClosesAtSpec)

/-- ITS FALSE NEIGHBOUR: 'it returns false'. Refute it at one input. -/
def fnExactClosesAtWrong : ChangeSpec := { name := "fnExactClosesAt", fn := fun _ => fun
  | [d] => { results := [.lit (.bool false)], args := [d] }
  | _ => none }
def FnExactClosesAtWrongFalsely : Prop := fnExactClosesAtRow.holds Try.pinned (OpenSpec.ofChange fnExactClosesAtWrong)

/-- 'laws.FnExactGlueEar': WHATEVER THE INPUT: true; the input reads as it did. -/
def fnExactGlueEarSpec : ChangeSpec := { name := "fnExactGlueEar", fn := fun _ => fun
  | [d1, d2] => { results := [.lit (.bool true)], args := [d1, d2] }
  | _ => none }
def fnExactGlueEarRow : OpenClaim := { program := "ytkekjcfhkecggab", sum := "20ec6fc115e3735af59c150fa14bbf60677668d7ce8eba44ae743c100e15bcfb", func := "loop.example/g01236/laws.FnExactGlueEar", spec := "fnExactGlueEar", inPlace := ["slices.overlaps[int]"], unfollowed := true, recurses := true, apart := false }
def FnExactGlueEarSaid : Prop := fnExactGlueEarRow.holds Try.pinned (OpenSpec.ofChange fnExactGlueEarSpec)

/-- ITS FALSE NEIGHBOUR: 'it returns false'. Refute it at one input. -/
def fnExactGlueEarWrong : ChangeSpec := { name := "fnExactGlueEar", fn := fun _ => fun
  | [d1, d2] => { results := [.lit (.bool false)], args := [d1, d2] }
  | _ => none }
def FnExactGlueEarWrongFalsely : Prop := fnExactGlueEarRow.holds Try.pinned (OpenSpec.ofChange fnExactGlueEarWrong)

/-- 'laws.FnExactFriezeOf': WHATEVER THE INPUT: true; the input reads as it did. -/
def fnExactFriezeOfSpec : ChangeSpec := { name := "fnExactFriezeOf", fn := fun _ => fun
  | [d] => { results := [.lit (.bool true)], args := [d] }
  | _ => none }
def fnExactFriezeOfRow : OpenClaim := { program := "ytkekjcfhkecggab", sum := "20ec6fc115e3735af59c150fa14bbf60677668d7ce8eba44ae743c100e15bcfb", func := "loop.example/g01236/laws.FnExactFriezeOf", spec := "fnExactFriezeOf", unfollowed := true, recurses := true, apart := false }
def FnExactFriezeOfSaid : Prop := fnExactFriezeOfRow.holds Try.pinned (OpenSpec.ofChange fnExactFriezeOfSpec)

/-- ITS FALSE NEIGHBOUR: 'it returns false'. Refute it at one input. -/
def fnExactFriezeOfWrong : ChangeSpec := { name := "fnExactFriezeOf", fn := fun _ => fun
  | [d] => { results := [.lit (.bool false)], args := [d] }
  | _ => none }
def FnExactFriezeOfWrongFalsely : Prop := fnExactFriezeOfRow.holds Try.pinned (OpenSpec.ofChange fnExactFriezeOfWrong)

/- THE SECOND FORM. 'bulk': how many values and letters a reading holds, each counted each time it is reached (what is shared counts as often as it is met; a slice's spare places count too). A statement '..UptoSaid' is the law's where the arguments, and the package variables that the reading takes, are together of bulk at most 1048576: NARROWER than '..Said'. Prove '..Said' where nothing that the law and all that it calls make is longer than what came in: it says more and counts as full. Else prove '..UptoSaid'. A law counts once. -/
mutual
def uptoBulk {H : Type} : DataW H → Nat
  | .lit (.string bytes) => bytes.length + 1
  | .lit _ => 1
  | .nil => 1
  | .ptr d => uptoBulk d + 1
  | .slice elems spare => uptoBulkAll elems + uptoBulkAll spare + 1
  | .agg parts => uptoBulkAll parts + 1
  | .iface _ d => uptoBulk d + 1
  | .map entries => uptoBulkEntries entries + 1
  | .held _ => 1
def uptoBulkAll {H : Type} : List (DataW H) → Nat
  | [] => 0
  | d :: r => uptoBulk d + uptoBulkAll r
def uptoBulkEntries {H : Type} : List (Lit × DataW H) → Nat
  | [] => 0
  | x :: r => uptoBulkEntry x + uptoBulkEntries r
def uptoBulkEntry {H : Type} : Lit × DataW H → Nat
  | (.string bytes, d) => bytes.length + uptoBulk d + 1
  | (_, d) => uptoBulk d + 1
 end
def uptoSmall : (H : Type) → List (DataW H) → Bool := fun _ ds => decide (uptoBulkAll ds ≤ 1048576)
def OpenSpec.upto (s : _root_.Go.ChangeSpec) : _root_.Go.OpenSpec := { _root_.Go.OpenSpec.ofChange s with cond := some uptoSmall }

/-- 'laws.FnExactReduceOnes', WHERE WHAT IT READS IS OF BULK AT MOST 1048576: true; the input reads as it did. -/
def fnExactReduceOnesUptoRow : OpenClaim := { program := "ytkekjcfhkecggab", sum := "20ec6fc115e3735af59c150fa14bbf60677668d7ce8eba44ae743c100e15bcfb", func := "loop.example/g01236/laws.FnExactReduceOnes", spec := "fnExactReduceOnes", unfollowed := true, recurses := true, apart := false, narrowed := true }
def FnExactReduceOnesUptoSaid : Prop := fnExactReduceOnesUptoRow.holds Try.pinned (OpenSpec.upto fnExactReduceOnesSpec)

/-- 'laws.FnExactEntryByContinuant', WHERE WHAT IT READS IS OF BULK AT MOST 1048576: true; the input reads as it did. -/
def fnExactEntryByContinuantUptoRow : OpenClaim := { program := "ytkekjcfhkecggab", sum := "20ec6fc115e3735af59c150fa14bbf60677668d7ce8eba44ae743c100e15bcfb", func := "loop.example/g01236/laws.FnExactEntryByContinuant", spec := "fnExactEntryByContinuant", unfollowed := true, recurses := true, apart := false, narrowed := true }
def FnExactEntryByContinuantUptoSaid : Prop := fnExactEntryByContinuantUptoRow.holds Try.pinned (OpenSpec.upto fnExactEntryByContinuantSpec)

/-- 'laws.FnExactTermsOf', WHERE WHAT IT READS IS OF BULK AT MOST 1048576: true; the input reads as it did. -/
def fnExactTermsOfUptoRow : OpenClaim := { program := "ytkekjcfhkecggab", sum := "20ec6fc115e3735af59c150fa14bbf60677668d7ce8eba44ae743c100e15bcfb", func := "loop.example/g01236/laws.FnExactTermsOf", spec := "fnExactTermsOf", unfollowed := true, recurses := true, apart := false, narrowed := true }
def FnExactTermsOfUptoSaid : Prop := fnExactTermsOfUptoRow.holds Try.pinned (OpenSpec.upto fnExactTermsOfSpec)

/-- 'laws.FnExactContinuantTable', WHERE WHAT IT READS IS OF BULK AT MOST 1048576: true; the input reads as it did. -/
def fnExactContinuantTableUptoRow : OpenClaim := { program := "ytkekjcfhkecggab", sum := "20ec6fc115e3735af59c150fa14bbf60677668d7ce8eba44ae743c100e15bcfb", func := "loop.example/g01236/laws.FnExactContinuantTable", spec := "fnExactContinuantTable", unfollowed := true, recurses := true, apart := false, narrowed := true }
def FnExactContinuantTableUptoSaid : Prop := fnExactContinuantTableUptoRow.holds Try.pinned (OpenSpec.upto fnExactContinuantTableSpec)

/-- 'laws.FnExactExtendFrieze', WHERE WHAT IT READS IS OF BULK AT MOST 1048576: true; the input reads as it did. -/
def fnExactExtendFriezeUptoRow : OpenClaim := { program := "ytkekjcfhkecggab", sum := "20ec6fc115e3735af59c150fa14bbf60677668d7ce8eba44ae743c100e15bcfb", func := "loop.example/g01236/laws.FnExactExtendFrieze", spec := "fnExactExtendFrieze", unfollowed := true, recurses := true, apart := false, narrowed := true }
def FnExactExtendFriezeUptoSaid : Prop := fnExactExtendFriezeUptoRow.holds Try.pinned (OpenSpec.upto fnExactExtendFriezeSpec)

/-- 'laws.FnExactClosesAt', WHERE WHAT IT READS IS OF BULK AT MOST 1048576: true; the input reads as it did. -/
def fnExactClosesAtUptoRow : OpenClaim := { program := "ytkekjcfhkecggab", sum := "20ec6fc115e3735af59c150fa14bbf60677668d7ce8eba44ae743c100e15bcfb", func := "loop.example/g01236/laws.FnExactClosesAt", spec := "fnExactClosesAt", unfollowed := true, recurses := true, apart := false, narrowed := true }
def FnExactClosesAtUptoSaid : Prop := fnExactClosesAtUptoRow.holds Try.pinned (OpenSpec.upto fnExactClosesAtSpec)

/-- 'laws.FnExactGlueEar', WHERE WHAT IT READS IS OF BULK AT MOST 1048576: true; the input reads as it did. -/
def fnExactGlueEarUptoRow : OpenClaim := { program := "ytkekjcfhkecggab", sum := "20ec6fc115e3735af59c150fa14bbf60677668d7ce8eba44ae743c100e15bcfb", func := "loop.example/g01236/laws.FnExactGlueEar", spec := "fnExactGlueEar", inPlace := ["slices.overlaps[int]"], unfollowed := true, recurses := true, apart := false, narrowed := true }
def FnExactGlueEarUptoSaid : Prop := fnExactGlueEarUptoRow.holds Try.pinned (OpenSpec.upto fnExactGlueEarSpec)

/-- 'laws.FnExactFriezeOf', WHERE WHAT IT READS IS OF BULK AT MOST 1048576: true; the input reads as it did. -/
def fnExactFriezeOfUptoRow : OpenClaim := { program := "ytkekjcfhkecggab", sum := "20ec6fc115e3735af59c150fa14bbf60677668d7ce8eba44ae743c100e15bcfb", func := "loop.example/g01236/laws.FnExactFriezeOf", spec := "fnExactFriezeOf", unfollowed := true, recurses := true, apart := false, narrowed := true }
def FnExactFriezeOfUptoSaid : Prop := fnExactFriezeOfUptoRow.holds Try.pinned (OpenSpec.upto fnExactFriezeOfSpec)

end Rows
end Go.Proofs.Ytkekjcfhkecggab
