/-
  No cell of these rows narrows 'for every input' (looked for: loops, veiled, ifaces, maps, wideKeys, modest, calm, conditions, laid).
  DERIVED. THE GIVEN ROWS OF THIS SEAT. 4 by the template 'for every input the law returns true; each argument reads behind the call as it read before'; 0 by the template 'total and deterministic' (their statements: YtfkkbjbgjmaciaaTotals.lean).
  GIVEN WITH THE SEED: the statements are not yours to turn. If you find one false, say at which input.
  Laid BY PROGRAM, IN A SANDBOX (cutbox-rows.mjs): the forced cells as the released guide's own fill.sh prints them over the translation 0b6547beb311686e… (all of the seat's roots in one cut). By AI agents, Wed Nov 11 2026. No macro, syntax, notation, axiom, sorry.
-/
import Derived.Test.YtfkkbjbgjmaciaaChecked
import GoSem.Claim
import GoSem.ClaimJoined
import GoSem.ClaimMapViews
import Derived.JoinedTies
import Derived.KernelRfl
namespace Go.Proofs.Ytfkkbjbgjmaciaa
/- THE CELL 'sum', in the pinned program and in every row, IS THE sha256 OF THE DUMP (.gsa) THAT YtfkkbjbgjmaciaaProg.lean LOADS. Nothing in Lean hashes anything: it is a label: what it is worth is what the hold of that sum in a sandbox is worth. -/
noncomputable def Try.pinned : Pinned := { name := "ytfkkbjbgjmaciaa", sum := "0b6547beb311686eca67375e76549a56bce70c2b764332942cdcf92093c54ba9", checked := Try.checked }
namespace Rows
def none {H : Type} : Left H := { results := [], args := [] }

/-- 'laws.FnContinuantsSplit': WHATEVER THE INPUT: true; the input reads as it did. -/
def fnContinuantsSplitSpec : ChangeSpec := { name := "fnContinuantsSplit", fn := fun _ => fun
  | [d1, d2] => { results := [.lit (.bool true)], args := [d1, d2] }
  | _ => none }
def fnContinuantsSplitRow : OpenClaim := { program := "ytfkkbjbgjmaciaa", sum := "0b6547beb311686eca67375e76549a56bce70c2b764332942cdcf92093c54ba9", func := "loop.example/g01236/laws.FnContinuantsSplit", spec := "fnContinuantsSplit", unfollowed := true, recurses := true, apart := false }
def FnContinuantsSplitSaid : Prop := fnContinuantsSplitRow.holds Try.pinned (OpenSpec.ofChange fnContinuantsSplitSpec)

/-- ITS FALSE NEIGHBOUR: 'it returns false'. Refute it at one input. -/
def fnContinuantsSplitWrong : ChangeSpec := { name := "fnContinuantsSplit", fn := fun _ => fun
  | [d1, d2] => { results := [.lit (.bool false)], args := [d1, d2] }
  | _ => none }
def FnContinuantsSplitWrongFalsely : Prop := fnContinuantsSplitRow.holds Try.pinned (OpenSpec.ofChange fnContinuantsSplitWrong)

/-- 'laws.FnTermsChanged': WHATEVER THE INPUT: true; the input reads as it did. -/
def fnTermsChangedSpec : ChangeSpec := { name := "fnTermsChanged", fn := fun _ => fun
  | [d1, d2] => { results := [.lit (.bool true)], args := [d1, d2] }
  | _ => none }
def fnTermsChangedRow : OpenClaim := { program := "ytfkkbjbgjmaciaa", sum := "0b6547beb311686eca67375e76549a56bce70c2b764332942cdcf92093c54ba9", func := "loop.example/g01236/laws.FnTermsChanged", spec := "fnTermsChanged", unfollowed := true, recurses := true, apart := false }
def FnTermsChangedSaid : Prop := fnTermsChangedRow.holds Try.pinned (OpenSpec.ofChange fnTermsChangedSpec)

/-- ITS FALSE NEIGHBOUR: 'it returns false'. Refute it at one input. -/
def fnTermsChangedWrong : ChangeSpec := { name := "fnTermsChanged", fn := fun _ => fun
  | [d1, d2] => { results := [.lit (.bool false)], args := [d1, d2] }
  | _ => none }
def FnTermsChangedWrongFalsely : Prop := fnTermsChangedRow.holds Try.pinned (OpenSpec.ofChange fnTermsChangedWrong)

/-- 'laws.FnWordsTold': WHATEVER THE INPUT: true; the input reads as it did. -/
def fnWordsToldSpec : ChangeSpec := { name := "fnWordsTold", fn := fun _ => fun
  | [d1, d2] => { results := [.lit (.bool true)], args := [d1, d2] }
  | _ => none }
def fnWordsToldRow : OpenClaim := { program := "ytfkkbjbgjmaciaa", sum := "0b6547beb311686eca67375e76549a56bce70c2b764332942cdcf92093c54ba9", func := "loop.example/g01236/laws.FnWordsTold", spec := "fnWordsTold", unfollowed := true, recurses := true, apart := false }
def FnWordsToldSaid : Prop := fnWordsToldRow.holds Try.pinned (OpenSpec.ofChange fnWordsToldSpec)

/-- ITS FALSE NEIGHBOUR: 'it returns false'. Refute it at one input. -/
def fnWordsToldWrong : ChangeSpec := { name := "fnWordsTold", fn := fun _ => fun
  | [d1, d2] => { results := [.lit (.bool false)], args := [d1, d2] }
  | _ => none }
def FnWordsToldWrongFalsely : Prop := fnWordsToldRow.holds Try.pinned (OpenSpec.ofChange fnWordsToldWrong)

/-- 'laws.FnFractionsNear': WHATEVER THE INPUT: true; the input reads as it did. -/
def fnFractionsNearSpec : ChangeSpec := { name := "fnFractionsNear", fn := fun _ => fun
  | [d1, d2] => { results := [.lit (.bool true)], args := [d1, d2] }
  | _ => none }
def fnFractionsNearRow : OpenClaim := { program := "ytfkkbjbgjmaciaa", sum := "0b6547beb311686eca67375e76549a56bce70c2b764332942cdcf92093c54ba9", func := "loop.example/g01236/laws.FnFractionsNear", spec := "fnFractionsNear", unfollowed := true, recurses := true, apart := false }
def FnFractionsNearSaid : Prop := fnFractionsNearRow.holds Try.pinned (OpenSpec.ofChange fnFractionsNearSpec)

/-- ITS FALSE NEIGHBOUR: 'it returns false'. Refute it at one input. -/
def fnFractionsNearWrong : ChangeSpec := { name := "fnFractionsNear", fn := fun _ => fun
  | [d1, d2] => { results := [.lit (.bool false)], args := [d1, d2] }
  | _ => none }
def FnFractionsNearWrongFalsely : Prop := fnFractionsNearRow.holds Try.pinned (OpenSpec.ofChange fnFractionsNearWrong)

/- THE SECOND FORM. 'bulk': how many values and letters a reading holds, each counted each time it is reached (what is shared counts as often as it is met; a slice's spare places count too). A statement '..UptoSaid' is the law's where the arguments, and the package variables that the reading takes, are together of bulk at most 1048576: NARROWER than '..Said'. Prove '..Said' where nothing that the law and all that it calls make is longer than what came in: it says more and counts as full. Else prove '..UptoSaid'. A law counts once. -/
mutual
def uptoBulk {H : Type} : DataW H → Nat
  | .lit (.string bytes) => bytes.length + 1
  | .lit _ => 1
  | .nil => 1
  | .ptr d => uptoBulk d + 1
  | .slice elems spare => uptoBulkAll elems + uptoBulkAll spare + 1
  | .agg parts => uptoBulkAll parts + 1
  | .iface _ d => uptoBulk d + 1
  | .map entries => uptoBulkEntries entries + 1
  | .held _ => 1
def uptoBulkAll {H : Type} : List (DataW H) → Nat
  | [] => 0
  | d :: r => uptoBulk d + uptoBulkAll r
def uptoBulkEntries {H : Type} : List (Lit × DataW H) → Nat
  | [] => 0
  | x :: r => uptoBulkEntry x + uptoBulkEntries r
def uptoBulkEntry {H : Type} : Lit × DataW H → Nat
  | (.string bytes, d) => bytes.length + uptoBulk d + 1
  | (_, d) => uptoBulk d + 1
 end
def uptoSmall : (H : Type) → List (DataW H) → Bool := fun _ ds => decide (uptoBulkAll ds ≤ 1048576)
def OpenSpec.upto (s : _root_.Go.ChangeSpec) : _root_.Go.OpenSpec := { _root_.Go.OpenSpec.ofChange s with cond := some uptoSmall }

/-- 'laws.FnContinuantsSplit', WHERE WHAT IT READS IS OF BULK AT MOST 1048576: true; the input reads as it did. -/
def fnContinuantsSplitUptoRow : OpenClaim := { program := "ytfkkbjbgjmaciaa", sum := "0b6547beb311686eca67375e76549a56bce70c2b764332942cdcf92093c54ba9", func := "loop.example/g01236/laws.FnContinuantsSplit", spec := "fnContinuantsSplit", unfollowed := true, recurses := true, apart := false, narrowed := true }
def FnContinuantsSplitUptoSaid : Prop := fnContinuantsSplitUptoRow.holds Try.pinned (OpenSpec.upto fnContinuantsSplitSpec)

/-- 'laws.FnTermsChanged', WHERE WHAT IT READS IS OF BULK AT MOST 1048576: true; the input reads as it did. -/
def fnTermsChangedUptoRow : OpenClaim := { program := "ytfkkbjbgjmaciaa", sum := "0b6547beb311686eca67375e76549a56bce70c2b764332942cdcf92093c54ba9", func := "loop.example/g01236/laws.FnTermsChanged", spec := "fnTermsChanged", unfollowed := true, recurses := true, apart := false, narrowed := true }
def FnTermsChangedUptoSaid : Prop := fnTermsChangedUptoRow.holds Try.pinned (OpenSpec.upto fnTermsChangedSpec)

/-- 'laws.FnWordsTold', WHERE WHAT IT READS IS OF BULK AT MOST 1048576: true; the input reads as it did. -/
def fnWordsToldUptoRow : OpenClaim := { program := "ytfkkbjbgjmaciaa", sum := "0b6547beb311686eca67375e76549a56bce70c2b764332942cdcf92093c54ba9", func := "loop.example/g01236/laws.FnWordsTold", spec := "fnWordsTold", unfollowed := true, recurses := true, apart := false, narrowed := true }
def FnWordsToldUptoSaid : Prop := fnWordsToldUptoRow.holds Try.pinned (OpenSpec.upto fnWordsToldSpec)

/-- 'laws.FnFractionsNear', WHERE WHAT IT READS IS OF BULK AT MOST 1048576: true; the input reads as it did. -/
def fnFractionsNearUptoRow : OpenClaim := { program := "ytfkkbjbgjmaciaa", sum := "0b6547beb311686eca67375e76549a56bce70c2b764332942cdcf92093c54ba9", func := "loop.example/g01236/laws.FnFractionsNear", spec := "fnFractionsNear", unfollowed := true, recurses := true, apart := false, narrowed := true }
def FnFractionsNearUptoSaid : Prop := fnFractionsNearUptoRow.holds Try.pinned (OpenSpec.upto fnFractionsNearSpec)

end Rows
end Go.Proofs.Ytfkkbjbgjmaciaa
