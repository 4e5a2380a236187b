/-
  No cell of these rows narrows 'for every input' (looked for: loops, veiled, ifaces, maps, wideKeys, modest, calm, conditions, laid).
  DERIVED. THE GIVEN ROWS OF THIS SEAT. 12 by the template 'for every input the law returns true; each argument reads behind the call as it read before'; 0 by the template 'total and deterministic' (their statements: YtfffnkbjhbaceaaTotals.lean).
  GIVEN WITH THE SEED: the statements are not yours to turn. If you find one false, say at which input.
  Laid BY PROGRAM, IN A SANDBOX (cutbox-rows.mjs): the forced cells as the released guide's own fill.sh prints them over the translation 40cec600c9a2bba6… (all of the seat's roots in one cut). By AI agents, Wed Nov 11 2026. No macro, syntax, notation, axiom, sorry.
-/
import Derived.Test.YtfffnkbjhbaceaaChecked
import GoSem.Claim
import GoSem.ClaimJoined
import GoSem.ClaimMapViews
import Derived.JoinedTies
import Derived.KernelRfl
namespace Go.Proofs.Ytfffnkbjhbaceaa
/- THE CELL 'sum', in the pinned program and in every row, IS THE sha256 OF THE DUMP (.gsa) THAT YtfffnkbjhbaceaaProg.lean LOADS. Nothing in Lean hashes anything: it is a label: what it is worth is what the hold of that sum in a sandbox is worth. -/
noncomputable def Try.pinned : Pinned := { name := "ytfffnkbjhbaceaa", sum := "40cec600c9a2bba6d3770c3a4cf2ffe7519ed1cb92622df5271a7a6bf82e5434", checked := Try.checked }
namespace Rows
def none {H : Type} : Left H := { results := [], args := [] }

/-- 'laws.FnExactIsMatrix': WHATEVER THE INPUT: true; the input reads as it did. -/
def fnExactIsMatrixSpec : ChangeSpec := { name := "fnExactIsMatrix", fn := fun _ => fun
  | [d] => { results := [.lit (.bool true)], args := [d] }
  | _ => none }
def fnExactIsMatrixRow : OpenClaim := { program := "ytfffnkbjhbaceaa", sum := "40cec600c9a2bba6d3770c3a4cf2ffe7519ed1cb92622df5271a7a6bf82e5434", func := "loop.example/g01236/laws.FnExactIsMatrix", spec := "fnExactIsMatrix", apart := false }
def FnExactIsMatrixSaid : Prop := fnExactIsMatrixRow.holds Try.pinned (OpenSpec.ofChange fnExactIsMatrixSpec)

/-- ITS FALSE NEIGHBOUR: 'it returns false'. Refute it at one input. -/
def fnExactIsMatrixWrong : ChangeSpec := { name := "fnExactIsMatrix", fn := fun _ => fun
  | [d] => { results := [.lit (.bool false)], args := [d] }
  | _ => none }
def FnExactIsMatrixWrongFalsely : Prop := fnExactIsMatrixRow.holds Try.pinned (OpenSpec.ofChange fnExactIsMatrixWrong)

/-- 'laws.FnExactTimesMatrix': WHATEVER THE INPUT: true; the input reads as it did. -/
def fnExactTimesMatrixSpec : ChangeSpec := { name := "fnExactTimesMatrix", fn := fun _ => fun
  | [d1, d2] => { results := [.lit (.bool true)], args := [d1, d2] }
  | _ => none }
def fnExactTimesMatrixRow : OpenClaim := { program := "ytfffnkbjhbaceaa", sum := "40cec600c9a2bba6d3770c3a4cf2ffe7519ed1cb92622df5271a7a6bf82e5434", func := "loop.example/g01236/laws.FnExactTimesMatrix", spec := "fnExactTimesMatrix", unfollowed := true, recurses := true, apart := false }
def FnExactTimesMatrixSaid : Prop := fnExactTimesMatrixRow.holds Try.pinned (OpenSpec.ofChange fnExactTimesMatrixSpec)

/-- ITS FALSE NEIGHBOUR: 'it returns false'. Refute it at one input. -/
def fnExactTimesMatrixWrong : ChangeSpec := { name := "fnExactTimesMatrix", fn := fun _ => fun
  | [d1, d2] => { results := [.lit (.bool false)], args := [d1, d2] }
  | _ => none }
def FnExactTimesMatrixWrongFalsely : Prop := fnExactTimesMatrixRow.holds Try.pinned (OpenSpec.ofChange fnExactTimesMatrixWrong)

/-- 'laws.FnExactInverseMatrix': WHATEVER THE INPUT: true; the input reads as it did. -/
def fnExactInverseMatrixSpec : ChangeSpec := { name := "fnExactInverseMatrix", fn := fun _ => fun
  | [d] => { results := [.lit (.bool true)], args := [d] }
  | _ => none }
def fnExactInverseMatrixRow : OpenClaim := { program := "ytfffnkbjhbaceaa", sum := "40cec600c9a2bba6d3770c3a4cf2ffe7519ed1cb92622df5271a7a6bf82e5434", func := "loop.example/g01236/laws.FnExactInverseMatrix", spec := "fnExactInverseMatrix", apart := false }
def FnExactInverseMatrixSaid : Prop := fnExactInverseMatrixRow.holds Try.pinned (OpenSpec.ofChange fnExactInverseMatrixSpec)

/-- ITS FALSE NEIGHBOUR: 'it returns false'. Refute it at one input. -/
def fnExactInverseMatrixWrong : ChangeSpec := { name := "fnExactInverseMatrix", fn := fun _ => fun
  | [d] => { results := [.lit (.bool false)], args := [d] }
  | _ => none }
def FnExactInverseMatrixWrongFalsely : Prop := fnExactInverseMatrixRow.holds Try.pinned (OpenSpec.ofChange fnExactInverseMatrixWrong)

/-- 'laws.FnExactNegateMatrix': WHATEVER THE INPUT: true; the input reads as it did. -/
def fnExactNegateMatrixSpec : ChangeSpec := { name := "fnExactNegateMatrix", fn := fun _ => fun
  | [d] => { results := [.lit (.bool true)], args := [d] }
  | _ => none }
def fnExactNegateMatrixRow : OpenClaim := { program := "ytfffnkbjhbaceaa", sum := "40cec600c9a2bba6d3770c3a4cf2ffe7519ed1cb92622df5271a7a6bf82e5434", func := "loop.example/g01236/laws.FnExactNegateMatrix", spec := "fnExactNegateMatrix", apart := false }
def FnExactNegateMatrixSaid : Prop := fnExactNegateMatrixRow.holds Try.pinned (OpenSpec.ofChange fnExactNegateMatrixSpec)

/-- ITS FALSE NEIGHBOUR: 'it returns false'. Refute it at one input. -/
def fnExactNegateMatrixWrong : ChangeSpec := { name := "fnExactNegateMatrix", fn := fun _ => fun
  | [d] => { results := [.lit (.bool false)], args := [d] }
  | _ => none }
def FnExactNegateMatrixWrongFalsely : Prop := fnExactNegateMatrixRow.holds Try.pinned (OpenSpec.ofChange fnExactNegateMatrixWrong)

/-- 'laws.FnExactTraceOf': WHATEVER THE INPUT: true; the input reads as it did. -/
def fnExactTraceOfSpec : ChangeSpec := { name := "fnExactTraceOf", fn := fun _ => fun
  | [d] => { results := [.lit (.bool true)], args := [d] }
  | _ => none }
def fnExactTraceOfRow : OpenClaim := { program := "ytfffnkbjhbaceaa", sum := "40cec600c9a2bba6d3770c3a4cf2ffe7519ed1cb92622df5271a7a6bf82e5434", func := "loop.example/g01236/laws.FnExactTraceOf", spec := "fnExactTraceOf", apart := false }
def FnExactTraceOfSaid : Prop := fnExactTraceOfRow.holds Try.pinned (OpenSpec.ofChange fnExactTraceOfSpec)

/-- ITS FALSE NEIGHBOUR: 'it returns false'. Refute it at one input. -/
def fnExactTraceOfWrong : ChangeSpec := { name := "fnExactTraceOf", fn := fun _ => fun
  | [d] => { results := [.lit (.bool false)], args := [d] }
  | _ => none }
def FnExactTraceOfWrongFalsely : Prop := fnExactTraceOfRow.holds Try.pinned (OpenSpec.ofChange fnExactTraceOfWrong)

/-- 'laws.FnExactFixedSign': WHATEVER THE INPUT: true; the input reads as it did. -/
def fnExactFixedSignSpec : ChangeSpec := { name := "fnExactFixedSign", fn := fun _ => fun
  | [d] => { results := [.lit (.bool true)], args := [d] }
  | _ => none }
def fnExactFixedSignRow : OpenClaim := { program := "ytfffnkbjhbaceaa", sum := "40cec600c9a2bba6d3770c3a4cf2ffe7519ed1cb92622df5271a7a6bf82e5434", func := "loop.example/g01236/laws.FnExactFixedSign", spec := "fnExactFixedSign", apart := false }
def FnExactFixedSignSaid : Prop := fnExactFixedSignRow.holds Try.pinned (OpenSpec.ofChange fnExactFixedSignSpec)

/-- ITS FALSE NEIGHBOUR: 'it returns false'. Refute it at one input. -/
def fnExactFixedSignWrong : ChangeSpec := { name := "fnExactFixedSign", fn := fun _ => fun
  | [d] => { results := [.lit (.bool false)], args := [d] }
  | _ => none }
def FnExactFixedSignWrongFalsely : Prop := fnExactFixedSignRow.holds Try.pinned (OpenSpec.ofChange fnExactFixedSignWrong)

/-- 'laws.FnExactMoveFraction': WHATEVER THE INPUT: true; the input reads as it did. -/
def fnExactMoveFractionSpec : ChangeSpec := { name := "fnExactMoveFraction", fn := fun _ => fun
  | [d1, d2] => { results := [.lit (.bool true)], args := [d1, d2] }
  | _ => none }
def fnExactMoveFractionRow : OpenClaim := { program := "ytfffnkbjhbaceaa", sum := "40cec600c9a2bba6d3770c3a4cf2ffe7519ed1cb92622df5271a7a6bf82e5434", func := "loop.example/g01236/laws.FnExactMoveFraction", spec := "fnExactMoveFraction", apart := false }
def FnExactMoveFractionSaid : Prop := fnExactMoveFractionRow.holds Try.pinned (OpenSpec.ofChange fnExactMoveFractionSpec)

/-- ITS FALSE NEIGHBOUR: 'it returns false'. Refute it at one input. -/
def fnExactMoveFractionWrong : ChangeSpec := { name := "fnExactMoveFraction", fn := fun _ => fun
  | [d1, d2] => { results := [.lit (.bool false)], args := [d1, d2] }
  | _ => none }
def FnExactMoveFractionWrongFalsely : Prop := fnExactMoveFractionRow.holds Try.pinned (OpenSpec.ofChange fnExactMoveFractionWrong)

/-- 'laws.FnExactPowerMatrix': WHATEVER THE INPUT: true; the input reads as it did. -/
def fnExactPowerMatrixSpec : ChangeSpec := { name := "fnExactPowerMatrix", fn := fun _ => fun
  | [d1, d2] => { results := [.lit (.bool true)], args := [d1, d2] }
  | _ => none }
def fnExactPowerMatrixRow : OpenClaim := { program := "ytfffnkbjhbaceaa", sum := "40cec600c9a2bba6d3770c3a4cf2ffe7519ed1cb92622df5271a7a6bf82e5434", func := "loop.example/g01236/laws.FnExactPowerMatrix", spec := "fnExactPowerMatrix", unfollowed := true, recurses := true, apart := false }
def FnExactPowerMatrixSaid : Prop := fnExactPowerMatrixRow.holds Try.pinned (OpenSpec.ofChange fnExactPowerMatrixSpec)

/-- ITS FALSE NEIGHBOUR: 'it returns false'. Refute it at one input. -/
def fnExactPowerMatrixWrong : ChangeSpec := { name := "fnExactPowerMatrix", fn := fun _ => fun
  | [d1, d2] => { results := [.lit (.bool false)], args := [d1, d2] }
  | _ => none }
def FnExactPowerMatrixWrongFalsely : Prop := fnExactPowerMatrixRow.holds Try.pinned (OpenSpec.ofChange fnExactPowerMatrixWrong)

/-- 'laws.FnExactOrderOf': WHATEVER THE INPUT: true; the input reads as it did. -/
def fnExactOrderOfSpec : ChangeSpec := { name := "fnExactOrderOf", fn := fun _ => fun
  | [d] => { results := [.lit (.bool true)], args := [d] }
  | _ => none }
def fnExactOrderOfRow : OpenClaim := { program := "ytfffnkbjhbaceaa", sum := "40cec600c9a2bba6d3770c3a4cf2ffe7519ed1cb92622df5271a7a6bf82e5434", func := "loop.example/g01236/laws.FnExactOrderOf", spec := "fnExactOrderOf", apart := false }
def FnExactOrderOfSaid : Prop := fnExactOrderOfRow.holds Try.pinned (OpenSpec.ofChange fnExactOrderOfSpec)

/-- ITS FALSE NEIGHBOUR: 'it returns false'. Refute it at one input. -/
def fnExactOrderOfWrong : ChangeSpec := { name := "fnExactOrderOf", fn := fun _ => fun
  | [d] => { results := [.lit (.bool false)], args := [d] }
  | _ => none }
def FnExactOrderOfWrongFalsely : Prop := fnExactOrderOfRow.holds Try.pinned (OpenSpec.ofChange fnExactOrderOfWrong)

/-- 'laws.FnExactIsConjugateBy': WHATEVER THE INPUT: true; the input reads as it did. -/
def fnExactIsConjugateBySpec : ChangeSpec := { name := "fnExactIsConjugateBy", fn := fun _ => fun
  | [d1, d2, d3] => { results := [.lit (.bool true)], args := [d1, d2, d3] }
  | _ => none }
def fnExactIsConjugateByRow : OpenClaim := { program := "ytfffnkbjhbaceaa", sum := "40cec600c9a2bba6d3770c3a4cf2ffe7519ed1cb92622df5271a7a6bf82e5434", func := "loop.example/g01236/laws.FnExactIsConjugateBy", spec := "fnExactIsConjugateBy", unfollowed := true, recurses := true, apart := false }
def FnExactIsConjugateBySaid : Prop := fnExactIsConjugateByRow.holds Try.pinned (OpenSpec.ofChange fnExactIsConjugateBySpec)

/-- ITS FALSE NEIGHBOUR: 'it returns false'. Refute it at one input. -/
def fnExactIsConjugateByWrong : ChangeSpec := { name := "fnExactIsConjugateBy", fn := fun _ => fun
  | [d1, d2, d3] => { results := [.lit (.bool false)], args := [d1, d2, d3] }
  | _ => none }
def FnExactIsConjugateByWrongFalsely : Prop := fnExactIsConjugateByRow.holds Try.pinned (OpenSpec.ofChange fnExactIsConjugateByWrong)

/-- 'laws.FnExactMatrixOfList': WHATEVER THE INPUT: true; the input reads as it did. -/
def fnExactMatrixOfListSpec : ChangeSpec := { name := "fnExactMatrixOfList", fn := fun _ => fun
  | [d] => { results := [.lit (.bool true)], args := [d] }
  | _ => none }
def fnExactMatrixOfListRow : OpenClaim := { program := "ytfffnkbjhbaceaa", sum := "40cec600c9a2bba6d3770c3a4cf2ffe7519ed1cb92622df5271a7a6bf82e5434", func := "loop.example/g01236/laws.FnExactMatrixOfList", spec := "fnExactMatrixOfList", unfollowed := true, recurses := true, apart := false }
def FnExactMatrixOfListSaid : Prop := fnExactMatrixOfListRow.holds Try.pinned (OpenSpec.ofChange fnExactMatrixOfListSpec)

/-- ITS FALSE NEIGHBOUR: 'it returns false'. Refute it at one input. -/
def fnExactMatrixOfListWrong : ChangeSpec := { name := "fnExactMatrixOfList", fn := fun _ => fun
  | [d] => { results := [.lit (.bool false)], args := [d] }
  | _ => none }
def FnExactMatrixOfListWrongFalsely : Prop := fnExactMatrixOfListRow.holds Try.pinned (OpenSpec.ofChange fnExactMatrixOfListWrong)

/-- 'laws.FnExactClosesUp': WHATEVER THE INPUT: true; the input reads as it did. -/
def fnExactClosesUpSpec : ChangeSpec := { name := "fnExactClosesUp", fn := fun _ => fun
  | [d] => { results := [.lit (.bool true)], args := [d] }
  | _ => none }
def fnExactClosesUpRow : OpenClaim := { program := "ytfffnkbjhbaceaa", sum := "40cec600c9a2bba6d3770c3a4cf2ffe7519ed1cb92622df5271a7a6bf82e5434", func := "loop.example/g01236/laws.FnExactClosesUp", spec := "fnExactClosesUp", unfollowed := true, recurses := true, apart := false }
def FnExactClosesUpSaid : Prop := fnExactClosesUpRow.holds Try.pinned (OpenSpec.ofChange fnExactClosesUpSpec)

/-- ITS FALSE NEIGHBOUR: 'it returns false'. Refute it at one input. -/
def fnExactClosesUpWrong : ChangeSpec := { name := "fnExactClosesUp", fn := fun _ => fun
  | [d] => { results := [.lit (.bool false)], args := [d] }
  | _ => none }
def FnExactClosesUpWrongFalsely : Prop := fnExactClosesUpRow.holds Try.pinned (OpenSpec.ofChange fnExactClosesUpWrong)

/- THE SECOND FORM. 'bulk': how many values and letters a reading holds, each counted each time it is reached (what is shared counts as often as it is met; a slice's spare places count too). A statement '..UptoSaid' is the law's where the arguments, and the package variables that the reading takes, are together of bulk at most 1048576: NARROWER than '..Said'. Prove '..Said' where nothing that the law and all that it calls make is longer than what came in: it says more and counts as full. Else prove '..UptoSaid'. A law counts once. -/
mutual
def uptoBulk {H : Type} : DataW H → Nat
  | .lit (.string bytes) => bytes.length + 1
  | .lit _ => 1
  | .nil => 1
  | .ptr d => uptoBulk d + 1
  | .slice elems spare => uptoBulkAll elems + uptoBulkAll spare + 1
  | .agg parts => uptoBulkAll parts + 1
  | .iface _ d => uptoBulk d + 1
  | .map entries => uptoBulkEntries entries + 1
  | .held _ => 1
def uptoBulkAll {H : Type} : List (DataW H) → Nat
  | [] => 0
  | d :: r => uptoBulk d + uptoBulkAll r
def uptoBulkEntries {H : Type} : List (Lit × DataW H) → Nat
  | [] => 0
  | x :: r => uptoBulkEntry x + uptoBulkEntries r
def uptoBulkEntry {H : Type} : Lit × DataW H → Nat
  | (.string bytes, d) => bytes.length + uptoBulk d + 1
  | (_, d) => uptoBulk d + 1
 end
def uptoSmall : (H : Type) → List (DataW H) → Bool := fun _ ds => decide (uptoBulkAll ds ≤ 1048576)
def OpenSpec.upto (s : _root_.Go.ChangeSpec) : _root_.Go.OpenSpec := { _root_.Go.OpenSpec.ofChange s with cond := some uptoSmall }

/-- 'laws.FnExactIsMatrix', WHERE WHAT IT READS IS OF BULK AT MOST 1048576: true; the input reads as it did. -/
def fnExactIsMatrixUptoRow : OpenClaim := { program := "ytfffnkbjhbaceaa", sum := "40cec600c9a2bba6d3770c3a4cf2ffe7519ed1cb92622df5271a7a6bf82e5434", func := "loop.example/g01236/laws.FnExactIsMatrix", spec := "fnExactIsMatrix", apart := false, narrowed := true }
def FnExactIsMatrixUptoSaid : Prop := fnExactIsMatrixUptoRow.holds Try.pinned (OpenSpec.upto fnExactIsMatrixSpec)

/-- 'laws.FnExactTimesMatrix', WHERE WHAT IT READS IS OF BULK AT MOST 1048576: true; the input reads as it did. -/
def fnExactTimesMatrixUptoRow : OpenClaim := { program := "ytfffnkbjhbaceaa", sum := "40cec600c9a2bba6d3770c3a4cf2ffe7519ed1cb92622df5271a7a6bf82e5434", func := "loop.example/g01236/laws.FnExactTimesMatrix", spec := "fnExactTimesMatrix", unfollowed := true, recurses := true, apart := false, narrowed := true }
def FnExactTimesMatrixUptoSaid : Prop := fnExactTimesMatrixUptoRow.holds Try.pinned (OpenSpec.upto fnExactTimesMatrixSpec)

/-- 'laws.FnExactInverseMatrix', WHERE WHAT IT READS IS OF BULK AT MOST 1048576: true; the input reads as it did. -/
def fnExactInverseMatrixUptoRow : OpenClaim := { program := "ytfffnkbjhbaceaa", sum := "40cec600c9a2bba6d3770c3a4cf2ffe7519ed1cb92622df5271a7a6bf82e5434", func := "loop.example/g01236/laws.FnExactInverseMatrix", spec := "fnExactInverseMatrix", apart := false, narrowed := true }
def FnExactInverseMatrixUptoSaid : Prop := fnExactInverseMatrixUptoRow.holds Try.pinned (OpenSpec.upto fnExactInverseMatrixSpec)

/-- 'laws.FnExactNegateMatrix', WHERE WHAT IT READS IS OF BULK AT MOST 1048576: true; the input reads as it did. -/
def fnExactNegateMatrixUptoRow : OpenClaim := { program := "ytfffnkbjhbaceaa", sum := "40cec600c9a2bba6d3770c3a4cf2ffe7519ed1cb92622df5271a7a6bf82e5434", func := "loop.example/g01236/laws.FnExactNegateMatrix", spec := "fnExactNegateMatrix", apart := false, narrowed := true }
def FnExactNegateMatrixUptoSaid : Prop := fnExactNegateMatrixUptoRow.holds Try.pinned (OpenSpec.upto fnExactNegateMatrixSpec)

/-- 'laws.FnExactTraceOf', WHERE WHAT IT READS IS OF BULK AT MOST 1048576: true; the input reads as it did. -/
def fnExactTraceOfUptoRow : OpenClaim := { program := "ytfffnkbjhbaceaa", sum := "40cec600c9a2bba6d3770c3a4cf2ffe7519ed1cb92622df5271a7a6bf82e5434", func := "loop.example/g01236/laws.FnExactTraceOf", spec := "fnExactTraceOf", apart := false, narrowed := true }
def FnExactTraceOfUptoSaid : Prop := fnExactTraceOfUptoRow.holds Try.pinned (OpenSpec.upto fnExactTraceOfSpec)

/-- 'laws.FnExactFixedSign', WHERE WHAT IT READS IS OF BULK AT MOST 1048576: true; the input reads as it did. -/
def fnExactFixedSignUptoRow : OpenClaim := { program := "ytfffnkbjhbaceaa", sum := "40cec600c9a2bba6d3770c3a4cf2ffe7519ed1cb92622df5271a7a6bf82e5434", func := "loop.example/g01236/laws.FnExactFixedSign", spec := "fnExactFixedSign", apart := false, narrowed := true }
def FnExactFixedSignUptoSaid : Prop := fnExactFixedSignUptoRow.holds Try.pinned (OpenSpec.upto fnExactFixedSignSpec)

/-- 'laws.FnExactMoveFraction', WHERE WHAT IT READS IS OF BULK AT MOST 1048576: true; the input reads as it did. -/
def fnExactMoveFractionUptoRow : OpenClaim := { program := "ytfffnkbjhbaceaa", sum := "40cec600c9a2bba6d3770c3a4cf2ffe7519ed1cb92622df5271a7a6bf82e5434", func := "loop.example/g01236/laws.FnExactMoveFraction", spec := "fnExactMoveFraction", apart := false, narrowed := true }
def FnExactMoveFractionUptoSaid : Prop := fnExactMoveFractionUptoRow.holds Try.pinned (OpenSpec.upto fnExactMoveFractionSpec)

/-- 'laws.FnExactPowerMatrix', WHERE WHAT IT READS IS OF BULK AT MOST 1048576: true; the input reads as it did. -/
def fnExactPowerMatrixUptoRow : OpenClaim := { program := "ytfffnkbjhbaceaa", sum := "40cec600c9a2bba6d3770c3a4cf2ffe7519ed1cb92622df5271a7a6bf82e5434", func := "loop.example/g01236/laws.FnExactPowerMatrix", spec := "fnExactPowerMatrix", unfollowed := true, recurses := true, apart := false, narrowed := true }
def FnExactPowerMatrixUptoSaid : Prop := fnExactPowerMatrixUptoRow.holds Try.pinned (OpenSpec.upto fnExactPowerMatrixSpec)

/-- 'laws.FnExactOrderOf', WHERE WHAT IT READS IS OF BULK AT MOST 1048576: true; the input reads as it did. -/
def fnExactOrderOfUptoRow : OpenClaim := { program := "ytfffnkbjhbaceaa", sum := "40cec600c9a2bba6d3770c3a4cf2ffe7519ed1cb92622df5271a7a6bf82e5434", func := "loop.example/g01236/laws.FnExactOrderOf", spec := "fnExactOrderOf", apart := false, narrowed := true }
def FnExactOrderOfUptoSaid : Prop := fnExactOrderOfUptoRow.holds Try.pinned (OpenSpec.upto fnExactOrderOfSpec)

/-- 'laws.FnExactIsConjugateBy', WHERE WHAT IT READS IS OF BULK AT MOST 1048576: true; the input reads as it did. -/
def fnExactIsConjugateByUptoRow : OpenClaim := { program := "ytfffnkbjhbaceaa", sum := "40cec600c9a2bba6d3770c3a4cf2ffe7519ed1cb92622df5271a7a6bf82e5434", func := "loop.example/g01236/laws.FnExactIsConjugateBy", spec := "fnExactIsConjugateBy", unfollowed := true, recurses := true, apart := false, narrowed := true }
def FnExactIsConjugateByUptoSaid : Prop := fnExactIsConjugateByUptoRow.holds Try.pinned (OpenSpec.upto fnExactIsConjugateBySpec)

/-- 'laws.FnExactMatrixOfList', WHERE WHAT IT READS IS OF BULK AT MOST 1048576: true; the input reads as it did. -/
def fnExactMatrixOfListUptoRow : OpenClaim := { program := "ytfffnkbjhbaceaa", sum := "40cec600c9a2bba6d3770c3a4cf2ffe7519ed1cb92622df5271a7a6bf82e5434", func := "loop.example/g01236/laws.FnExactMatrixOfList", spec := "fnExactMatrixOfList", unfollowed := true, recurses := true, apart := false, narrowed := true }
def FnExactMatrixOfListUptoSaid : Prop := fnExactMatrixOfListUptoRow.holds Try.pinned (OpenSpec.upto fnExactMatrixOfListSpec)

/-- 'laws.FnExactClosesUp', WHERE WHAT IT READS IS OF BULK AT MOST 1048576: true; the input reads as it did. -/
def fnExactClosesUpUptoRow : OpenClaim := { program := "ytfffnkbjhbaceaa", sum := "40cec600c9a2bba6d3770c3a4cf2ffe7519ed1cb92622df5271a7a6bf82e5434", func := "loop.example/g01236/laws.FnExactClosesUp", spec := "fnExactClosesUp", unfollowed := true, recurses := true, apart := false, narrowed := true }
def FnExactClosesUpUptoSaid : Prop := fnExactClosesUpUptoRow.holds Try.pinned (OpenSpec.upto fnExactClosesUpSpec)

end Rows
end Go.Proofs.Ytfffnkbjhbaceaa
