/-
  No cell of these rows narrows 'for every input' (looked for: loops, veiled, ifaces, maps, wideKeys, modest, calm, conditions, laid).
  DERIVED. THE GIVEN ROWS OF THIS SEAT. 12 by the template 'for every input the law returns true; each argument reads behind the call as it read before'; 0 by the template 'total and deterministic' (their statements: YtaifgfmkkgndkaaTotals.lean).
  GIVEN WITH THE SEED: the statements are not yours to turn. If you find one false, say at which input.
  Laid BY PROGRAM, IN A SANDBOX (cutbox-rows.mjs): the forced cells as the released guide's own fill.sh prints them over the translation 159f37ad0700700e… (all of the seat's roots in one cut). By AI agents, Wed Nov 11 2026. No macro, syntax, notation, axiom, sorry.
-/
import Derived.Test.YtaifgfmkkgndkaaChecked
import GoSem.Claim
import GoSem.ClaimJoined
import GoSem.ClaimMapViews
import Derived.JoinedTies
import Derived.KernelRfl
namespace Go.Proofs.Ytaifgfmkkgndkaa
/- THE CELL 'sum', in the pinned program and in every row, IS THE sha256 OF THE DUMP (.gsa) THAT YtaifgfmkkgndkaaProg.lean LOADS. Nothing in Lean hashes anything: it is a label: what it is worth is what the hold of that sum in a sandbox is worth. -/
noncomputable def Try.pinned : Pinned := { name := "ytaifgfmkkgndkaa", sum := "159f37ad0700700ea49432ce6709ae710b9667b1de232e1d200f343d69458455", checked := Try.checked }
namespace Rows
def none {H : Type} : Left H := { results := [], args := [] }

/-- 'laws.FnExactIsFraction': WHATEVER THE INPUT: true; the input reads as it did. -/
def fnExactIsFractionSpec : ChangeSpec := { name := "fnExactIsFraction", fn := fun _ => fun
  | [d] => { results := [.lit (.bool true)], args := [d] }
  | _ => none }
def fnExactIsFractionRow : OpenClaim := { program := "ytaifgfmkkgndkaa", sum := "159f37ad0700700ea49432ce6709ae710b9667b1de232e1d200f343d69458455", func := "loop.example/g01236/laws.FnExactIsFraction", spec := "fnExactIsFraction", apart := false }
def FnExactIsFractionSaid : Prop := fnExactIsFractionRow.holds Try.pinned (OpenSpec.ofChange fnExactIsFractionSpec)

/-- ITS FALSE NEIGHBOUR: 'it returns false'. Refute it at one input. -/
def fnExactIsFractionWrong : ChangeSpec := { name := "fnExactIsFraction", fn := fun _ => fun
  | [d] => { results := [.lit (.bool false)], args := [d] }
  | _ => none }
def FnExactIsFractionWrongFalsely : Prop := fnExactIsFractionRow.holds Try.pinned (OpenSpec.ofChange fnExactIsFractionWrong)

/-- 'laws.FnExactCrossOf': WHATEVER THE INPUT: true; the input reads as it did. -/
def fnExactCrossOfSpec : ChangeSpec := { name := "fnExactCrossOf", fn := fun _ => fun
  | [d1, d2] => { results := [.lit (.bool true)], args := [d1, d2] }
  | _ => none }
def fnExactCrossOfRow : OpenClaim := { program := "ytaifgfmkkgndkaa", sum := "159f37ad0700700ea49432ce6709ae710b9667b1de232e1d200f343d69458455", func := "loop.example/g01236/laws.FnExactCrossOf", spec := "fnExactCrossOf", apart := false }
def FnExactCrossOfSaid : Prop := fnExactCrossOfRow.holds Try.pinned (OpenSpec.ofChange fnExactCrossOfSpec)

/-- ITS FALSE NEIGHBOUR: 'it returns false'. Refute it at one input. -/
def fnExactCrossOfWrong : ChangeSpec := { name := "fnExactCrossOf", fn := fun _ => fun
  | [d1, d2] => { results := [.lit (.bool false)], args := [d1, d2] }
  | _ => none }
def FnExactCrossOfWrongFalsely : Prop := fnExactCrossOfRow.holds Try.pinned (OpenSpec.ofChange fnExactCrossOfWrong)

/-- 'laws.FnExactAreNear': WHATEVER THE INPUT: true; the input reads as it did. -/
def fnExactAreNearSpec : ChangeSpec := { name := "fnExactAreNear", fn := fun _ => fun
  | [d1, d2] => { results := [.lit (.bool true)], args := [d1, d2] }
  | _ => none }
def fnExactAreNearRow : OpenClaim := { program := "ytaifgfmkkgndkaa", sum := "159f37ad0700700ea49432ce6709ae710b9667b1de232e1d200f343d69458455", func := "loop.example/g01236/laws.FnExactAreNear", spec := "fnExactAreNear", apart := false }
def FnExactAreNearSaid : Prop := fnExactAreNearRow.holds Try.pinned (OpenSpec.ofChange fnExactAreNearSpec)

/-- ITS FALSE NEIGHBOUR: 'it returns false'. Refute it at one input. -/
def fnExactAreNearWrong : ChangeSpec := { name := "fnExactAreNear", fn := fun _ => fun
  | [d1, d2] => { results := [.lit (.bool false)], args := [d1, d2] }
  | _ => none }
def FnExactAreNearWrongFalsely : Prop := fnExactAreNearRow.holds Try.pinned (OpenSpec.ofChange fnExactAreNearWrong)

/-- 'laws.FnExactMediantOf': WHATEVER THE INPUT: true; the input reads as it did. -/
def fnExactMediantOfSpec : ChangeSpec := { name := "fnExactMediantOf", fn := fun _ => fun
  | [d1, d2] => { results := [.lit (.bool true)], args := [d1, d2] }
  | _ => none }
def fnExactMediantOfRow : OpenClaim := { program := "ytaifgfmkkgndkaa", sum := "159f37ad0700700ea49432ce6709ae710b9667b1de232e1d200f343d69458455", func := "loop.example/g01236/laws.FnExactMediantOf", spec := "fnExactMediantOf", apart := false }
def FnExactMediantOfSaid : Prop := fnExactMediantOfRow.holds Try.pinned (OpenSpec.ofChange fnExactMediantOfSpec)

/-- ITS FALSE NEIGHBOUR: 'it returns false'. Refute it at one input. -/
def fnExactMediantOfWrong : ChangeSpec := { name := "fnExactMediantOf", fn := fun _ => fun
  | [d1, d2] => { results := [.lit (.bool false)], args := [d1, d2] }
  | _ => none }
def FnExactMediantOfWrongFalsely : Prop := fnExactMediantOfRow.holds Try.pinned (OpenSpec.ofChange fnExactMediantOfWrong)

/-- 'laws.FnExactParentsOf': WHATEVER THE INPUT: true; the input reads as it did. -/
def fnExactParentsOfSpec : ChangeSpec := { name := "fnExactParentsOf", fn := fun _ => fun
  | [d] => { results := [.lit (.bool true)], args := [d] }
  | _ => none }
def fnExactParentsOfRow : OpenClaim := { program := "ytaifgfmkkgndkaa", sum := "159f37ad0700700ea49432ce6709ae710b9667b1de232e1d200f343d69458455", func := "loop.example/g01236/laws.FnExactParentsOf", spec := "fnExactParentsOf", apart := false }
def FnExactParentsOfSaid : Prop := fnExactParentsOfRow.holds Try.pinned (OpenSpec.ofChange fnExactParentsOfSpec)

/-- ITS FALSE NEIGHBOUR: 'it returns false'. Refute it at one input. -/
def fnExactParentsOfWrong : ChangeSpec := { name := "fnExactParentsOf", fn := fun _ => fun
  | [d] => { results := [.lit (.bool false)], args := [d] }
  | _ => none }
def FnExactParentsOfWrongFalsely : Prop := fnExactParentsOfRow.holds Try.pinned (OpenSpec.ofChange fnExactParentsOfWrong)

/-- 'laws.FnExactMoveFraction': WHATEVER THE INPUT: true; the input reads as it did. -/
def fnExactMoveFractionSpec : ChangeSpec := { name := "fnExactMoveFraction", fn := fun _ => fun
  | [d1, d2] => { results := [.lit (.bool true)], args := [d1, d2] }
  | _ => none }
def fnExactMoveFractionRow : OpenClaim := { program := "ytaifgfmkkgndkaa", sum := "159f37ad0700700ea49432ce6709ae710b9667b1de232e1d200f343d69458455", func := "loop.example/g01236/laws.FnExactMoveFraction", spec := "fnExactMoveFraction", apart := false }
def FnExactMoveFractionSaid : Prop := fnExactMoveFractionRow.holds Try.pinned (OpenSpec.ofChange fnExactMoveFractionSpec)

/-- ITS FALSE NEIGHBOUR: 'it returns false'. Refute it at one input. -/
def fnExactMoveFractionWrong : ChangeSpec := { name := "fnExactMoveFraction", fn := fun _ => fun
  | [d1, d2] => { results := [.lit (.bool false)], args := [d1, d2] }
  | _ => none }
def FnExactMoveFractionWrongFalsely : Prop := fnExactMoveFractionRow.holds Try.pinned (OpenSpec.ofChange fnExactMoveFractionWrong)

/-- 'laws.FnExactMinusTerms': WHATEVER THE INPUT: true; the input reads as it did. -/
def fnExactMinusTermsSpec : ChangeSpec := { name := "fnExactMinusTerms", fn := fun _ => fun
  | [d1, d2] => { results := [.lit (.bool true)], args := [d1, d2] }
  | _ => none }
def fnExactMinusTermsRow : OpenClaim := { program := "ytaifgfmkkgndkaa", sum := "159f37ad0700700ea49432ce6709ae710b9667b1de232e1d200f343d69458455", func := "loop.example/g01236/laws.FnExactMinusTerms", spec := "fnExactMinusTerms", unfollowed := true, recurses := true, apart := false }
def FnExactMinusTermsSaid : Prop := fnExactMinusTermsRow.holds Try.pinned (OpenSpec.ofChange fnExactMinusTermsSpec)

/-- ITS FALSE NEIGHBOUR: 'it returns false'. Refute it at one input. -/
def fnExactMinusTermsWrong : ChangeSpec := { name := "fnExactMinusTerms", fn := fun _ => fun
  | [d1, d2] => { results := [.lit (.bool false)], args := [d1, d2] }
  | _ => none }
def FnExactMinusTermsWrongFalsely : Prop := fnExactMinusTermsRow.holds Try.pinned (OpenSpec.ofChange fnExactMinusTermsWrong)

/-- 'laws.FnExactPlusTerms': WHATEVER THE INPUT: true; the input reads as it did. -/
def fnExactPlusTermsSpec : ChangeSpec := { name := "fnExactPlusTerms", fn := fun _ => fun
  | [d1, d2] => { results := [.lit (.bool true)], args := [d1, d2] }
  | _ => none }
def fnExactPlusTermsRow : OpenClaim := { program := "ytaifgfmkkgndkaa", sum := "159f37ad0700700ea49432ce6709ae710b9667b1de232e1d200f343d69458455", func := "loop.example/g01236/laws.FnExactPlusTerms", spec := "fnExactPlusTerms", unfollowed := true, recurses := true, apart := false }
def FnExactPlusTermsSaid : Prop := fnExactPlusTermsRow.holds Try.pinned (OpenSpec.ofChange fnExactPlusTermsSpec)

/-- ITS FALSE NEIGHBOUR: 'it returns false'. Refute it at one input. -/
def fnExactPlusTermsWrong : ChangeSpec := { name := "fnExactPlusTerms", fn := fun _ => fun
  | [d1, d2] => { results := [.lit (.bool false)], args := [d1, d2] }
  | _ => none }
def FnExactPlusTermsWrongFalsely : Prop := fnExactPlusTermsRow.holds Try.pinned (OpenSpec.ofChange fnExactPlusTermsWrong)

/-- 'laws.FnExactPathOfFraction': WHATEVER THE INPUT: true; the input reads as it did. -/
def fnExactPathOfFractionSpec : ChangeSpec := { name := "fnExactPathOfFraction", fn := fun _ => fun
  | [d] => { results := [.lit (.bool true)], args := [d] }
  | _ => none }
def fnExactPathOfFractionRow : OpenClaim := { program := "ytaifgfmkkgndkaa", sum := "159f37ad0700700ea49432ce6709ae710b9667b1de232e1d200f343d69458455", func := "loop.example/g01236/laws.FnExactPathOfFraction", spec := "fnExactPathOfFraction", apart := false }
def FnExactPathOfFractionSaid : Prop := fnExactPathOfFractionRow.holds Try.pinned (OpenSpec.ofChange fnExactPathOfFractionSpec)

/-- ITS FALSE NEIGHBOUR: 'it returns false'. Refute it at one input. -/
def fnExactPathOfFractionWrong : ChangeSpec := { name := "fnExactPathOfFraction", fn := fun _ => fun
  | [d] => { results := [.lit (.bool false)], args := [d] }
  | _ => none }
def FnExactPathOfFractionWrongFalsely : Prop := fnExactPathOfFractionRow.holds Try.pinned (OpenSpec.ofChange fnExactPathOfFractionWrong)

/-- 'laws.FnExactFractionOfPath': WHATEVER THE INPUT: true; the input reads as it did. -/
def fnExactFractionOfPathSpec : ChangeSpec := { name := "fnExactFractionOfPath", fn := fun _ => fun
  | [d] => { results := [.lit (.bool true)], args := [d] }
  | _ => none }
def fnExactFractionOfPathRow : OpenClaim := { program := "ytaifgfmkkgndkaa", sum := "159f37ad0700700ea49432ce6709ae710b9667b1de232e1d200f343d69458455", func := "loop.example/g01236/laws.FnExactFractionOfPath", spec := "fnExactFractionOfPath", apart := false }
def FnExactFractionOfPathSaid : Prop := fnExactFractionOfPathRow.holds Try.pinned (OpenSpec.ofChange fnExactFractionOfPathSpec)

/-- ITS FALSE NEIGHBOUR: 'it returns false'. Refute it at one input. -/
def fnExactFractionOfPathWrong : ChangeSpec := { name := "fnExactFractionOfPath", fn := fun _ => fun
  | [d] => { results := [.lit (.bool false)], args := [d] }
  | _ => none }
def FnExactFractionOfPathWrongFalsely : Prop := fnExactFractionOfPathRow.holds Try.pinned (OpenSpec.ofChange fnExactFractionOfPathWrong)

/-- 'laws.FnExactFriezeOfDiagonal': WHATEVER THE INPUT: true; the input reads as it did. -/
def fnExactFriezeOfDiagonalSpec : ChangeSpec := { name := "fnExactFriezeOfDiagonal", fn := fun _ => fun
  | [d] => { results := [.lit (.bool true)], args := [d] }
  | _ => none }
def fnExactFriezeOfDiagonalRow : OpenClaim := { program := "ytaifgfmkkgndkaa", sum := "159f37ad0700700ea49432ce6709ae710b9667b1de232e1d200f343d69458455", func := "loop.example/g01236/laws.FnExactFriezeOfDiagonal", spec := "fnExactFriezeOfDiagonal", unfollowed := true, recurses := true, apart := false }
def FnExactFriezeOfDiagonalSaid : Prop := fnExactFriezeOfDiagonalRow.holds Try.pinned (OpenSpec.ofChange fnExactFriezeOfDiagonalSpec)

/-- ITS FALSE NEIGHBOUR: 'it returns false'. Refute it at one input. -/
def fnExactFriezeOfDiagonalWrong : ChangeSpec := { name := "fnExactFriezeOfDiagonal", fn := fun _ => fun
  | [d] => { results := [.lit (.bool false)], args := [d] }
  | _ => none }
def FnExactFriezeOfDiagonalWrongFalsely : Prop := fnExactFriezeOfDiagonalRow.holds Try.pinned (OpenSpec.ofChange fnExactFriezeOfDiagonalWrong)

/-- 'laws.FnExactAllTriangulations': WHATEVER THE INPUT: true; the input reads as it did. -/
def fnExactAllTriangulationsSpec : ChangeSpec := { name := "fnExactAllTriangulations", fn := fun _ => fun
  | [d] => { results := [.lit (.bool true)], args := [d] }
  | _ => none }
def fnExactAllTriangulationsRow : OpenClaim := { program := "ytaifgfmkkgndkaa", sum := "159f37ad0700700ea49432ce6709ae710b9667b1de232e1d200f343d69458455", func := "loop.example/g01236/laws.FnExactAllTriangulations", spec := "fnExactAllTriangulations", unfollowed := true, recurses := true, apart := false }
def FnExactAllTriangulationsSaid : Prop := fnExactAllTriangulationsRow.holds Try.pinned (OpenSpec.ofChange fnExactAllTriangulationsSpec)

/-- ITS FALSE NEIGHBOUR: 'it returns false'. Refute it at one input. -/
def fnExactAllTriangulationsWrong : ChangeSpec := { name := "fnExactAllTriangulations", fn := fun _ => fun
  | [d] => { results := [.lit (.bool false)], args := [d] }
  | _ => none }
def FnExactAllTriangulationsWrongFalsely : Prop := fnExactAllTriangulationsRow.holds Try.pinned (OpenSpec.ofChange fnExactAllTriangulationsWrong)

/- THE SECOND FORM. 'bulk': how many values and letters a reading holds, each counted each time it is reached (what is shared counts as often as it is met; a slice's spare places count too). A statement '..UptoSaid' is the law's where the arguments, and the package variables that the reading takes, are together of bulk at most 1048576: NARROWER than '..Said'. Prove '..Said' where nothing that the law and all that it calls make is longer than what came in: it says more and counts as full. Else prove '..UptoSaid'. A law counts once. -/
mutual
def uptoBulk {H : Type} : DataW H → Nat
  | .lit (.string bytes) => bytes.length + 1
  | .lit _ => 1
  | .nil => 1
  | .ptr d => uptoBulk d + 1
  | .slice elems spare => uptoBulkAll elems + uptoBulkAll spare + 1
  | .agg parts => uptoBulkAll parts + 1
  | .iface _ d => uptoBulk d + 1
  | .map entries => uptoBulkEntries entries + 1
  | .held _ => 1
def uptoBulkAll {H : Type} : List (DataW H) → Nat
  | [] => 0
  | d :: r => uptoBulk d + uptoBulkAll r
def uptoBulkEntries {H : Type} : List (Lit × DataW H) → Nat
  | [] => 0
  | x :: r => uptoBulkEntry x + uptoBulkEntries r
def uptoBulkEntry {H : Type} : Lit × DataW H → Nat
  | (.string bytes, d) => bytes.length + uptoBulk d + 1
  | (_, d) => uptoBulk d + 1
 end
def uptoSmall : (H : Type) → List (DataW H) → Bool := fun _ ds => decide (uptoBulkAll ds ≤ 1048576)
def OpenSpec.upto (s : _root_.Go.ChangeSpec) : _root_.Go.OpenSpec := { _root_.Go.OpenSpec.ofChange s with cond := some uptoSmall }

/-- 'laws.FnExactIsFraction', WHERE WHAT IT READS IS OF BULK AT MOST 1048576: true; the input reads as it did. -/
def fnExactIsFractionUptoRow : OpenClaim := { program := "ytaifgfmkkgndkaa", sum := "159f37ad0700700ea49432ce6709ae710b9667b1de232e1d200f343d69458455", func := "loop.example/g01236/laws.FnExactIsFraction", spec := "fnExactIsFraction", apart := false, narrowed := true }
def FnExactIsFractionUptoSaid : Prop := fnExactIsFractionUptoRow.holds Try.pinned (OpenSpec.upto fnExactIsFractionSpec)

/-- 'laws.FnExactCrossOf', WHERE WHAT IT READS IS OF BULK AT MOST 1048576: true; the input reads as it did. -/
def fnExactCrossOfUptoRow : OpenClaim := { program := "ytaifgfmkkgndkaa", sum := "159f37ad0700700ea49432ce6709ae710b9667b1de232e1d200f343d69458455", func := "loop.example/g01236/laws.FnExactCrossOf", spec := "fnExactCrossOf", apart := false, narrowed := true }
def FnExactCrossOfUptoSaid : Prop := fnExactCrossOfUptoRow.holds Try.pinned (OpenSpec.upto fnExactCrossOfSpec)

/-- 'laws.FnExactAreNear', WHERE WHAT IT READS IS OF BULK AT MOST 1048576: true; the input reads as it did. -/
def fnExactAreNearUptoRow : OpenClaim := { program := "ytaifgfmkkgndkaa", sum := "159f37ad0700700ea49432ce6709ae710b9667b1de232e1d200f343d69458455", func := "loop.example/g01236/laws.FnExactAreNear", spec := "fnExactAreNear", apart := false, narrowed := true }
def FnExactAreNearUptoSaid : Prop := fnExactAreNearUptoRow.holds Try.pinned (OpenSpec.upto fnExactAreNearSpec)

/-- 'laws.FnExactMediantOf', WHERE WHAT IT READS IS OF BULK AT MOST 1048576: true; the input reads as it did. -/
def fnExactMediantOfUptoRow : OpenClaim := { program := "ytaifgfmkkgndkaa", sum := "159f37ad0700700ea49432ce6709ae710b9667b1de232e1d200f343d69458455", func := "loop.example/g01236/laws.FnExactMediantOf", spec := "fnExactMediantOf", apart := false, narrowed := true }
def FnExactMediantOfUptoSaid : Prop := fnExactMediantOfUptoRow.holds Try.pinned (OpenSpec.upto fnExactMediantOfSpec)

/-- 'laws.FnExactParentsOf', WHERE WHAT IT READS IS OF BULK AT MOST 1048576: true; the input reads as it did. -/
def fnExactParentsOfUptoRow : OpenClaim := { program := "ytaifgfmkkgndkaa", sum := "159f37ad0700700ea49432ce6709ae710b9667b1de232e1d200f343d69458455", func := "loop.example/g01236/laws.FnExactParentsOf", spec := "fnExactParentsOf", apart := false, narrowed := true }
def FnExactParentsOfUptoSaid : Prop := fnExactParentsOfUptoRow.holds Try.pinned (OpenSpec.upto fnExactParentsOfSpec)

/-- 'laws.FnExactMoveFraction', WHERE WHAT IT READS IS OF BULK AT MOST 1048576: true; the input reads as it did. -/
def fnExactMoveFractionUptoRow : OpenClaim := { program := "ytaifgfmkkgndkaa", sum := "159f37ad0700700ea49432ce6709ae710b9667b1de232e1d200f343d69458455", func := "loop.example/g01236/laws.FnExactMoveFraction", spec := "fnExactMoveFraction", apart := false, narrowed := true }
def FnExactMoveFractionUptoSaid : Prop := fnExactMoveFractionUptoRow.holds Try.pinned (OpenSpec.upto fnExactMoveFractionSpec)

/-- 'laws.FnExactMinusTerms', WHERE WHAT IT READS IS OF BULK AT MOST 1048576: true; the input reads as it did. -/
def fnExactMinusTermsUptoRow : OpenClaim := { program := "ytaifgfmkkgndkaa", sum := "159f37ad0700700ea49432ce6709ae710b9667b1de232e1d200f343d69458455", func := "loop.example/g01236/laws.FnExactMinusTerms", spec := "fnExactMinusTerms", unfollowed := true, recurses := true, apart := false, narrowed := true }
def FnExactMinusTermsUptoSaid : Prop := fnExactMinusTermsUptoRow.holds Try.pinned (OpenSpec.upto fnExactMinusTermsSpec)

/-- 'laws.FnExactPlusTerms', WHERE WHAT IT READS IS OF BULK AT MOST 1048576: true; the input reads as it did. -/
def fnExactPlusTermsUptoRow : OpenClaim := { program := "ytaifgfmkkgndkaa", sum := "159f37ad0700700ea49432ce6709ae710b9667b1de232e1d200f343d69458455", func := "loop.example/g01236/laws.FnExactPlusTerms", spec := "fnExactPlusTerms", unfollowed := true, recurses := true, apart := false, narrowed := true }
def FnExactPlusTermsUptoSaid : Prop := fnExactPlusTermsUptoRow.holds Try.pinned (OpenSpec.upto fnExactPlusTermsSpec)

/-- 'laws.FnExactPathOfFraction', WHERE WHAT IT READS IS OF BULK AT MOST 1048576: true; the input reads as it did. -/
def fnExactPathOfFractionUptoRow : OpenClaim := { program := "ytaifgfmkkgndkaa", sum := "159f37ad0700700ea49432ce6709ae710b9667b1de232e1d200f343d69458455", func := "loop.example/g01236/laws.FnExactPathOfFraction", spec := "fnExactPathOfFraction", apart := false, narrowed := true }
def FnExactPathOfFractionUptoSaid : Prop := fnExactPathOfFractionUptoRow.holds Try.pinned (OpenSpec.upto fnExactPathOfFractionSpec)

/-- 'laws.FnExactFractionOfPath', WHERE WHAT IT READS IS OF BULK AT MOST 1048576: true; the input reads as it did. -/
def fnExactFractionOfPathUptoRow : OpenClaim := { program := "ytaifgfmkkgndkaa", sum := "159f37ad0700700ea49432ce6709ae710b9667b1de232e1d200f343d69458455", func := "loop.example/g01236/laws.FnExactFractionOfPath", spec := "fnExactFractionOfPath", apart := false, narrowed := true }
def FnExactFractionOfPathUptoSaid : Prop := fnExactFractionOfPathUptoRow.holds Try.pinned (OpenSpec.upto fnExactFractionOfPathSpec)

/-- 'laws.FnExactFriezeOfDiagonal', WHERE WHAT IT READS IS OF BULK AT MOST 1048576: true; the input reads as it did. -/
def fnExactFriezeOfDiagonalUptoRow : OpenClaim := { program := "ytaifgfmkkgndkaa", sum := "159f37ad0700700ea49432ce6709ae710b9667b1de232e1d200f343d69458455", func := "loop.example/g01236/laws.FnExactFriezeOfDiagonal", spec := "fnExactFriezeOfDiagonal", unfollowed := true, recurses := true, apart := false, narrowed := true }
def FnExactFriezeOfDiagonalUptoSaid : Prop := fnExactFriezeOfDiagonalUptoRow.holds Try.pinned (OpenSpec.upto fnExactFriezeOfDiagonalSpec)

/-- 'laws.FnExactAllTriangulations', WHERE WHAT IT READS IS OF BULK AT MOST 1048576: true; the input reads as it did. -/
def fnExactAllTriangulationsUptoRow : OpenClaim := { program := "ytaifgfmkkgndkaa", sum := "159f37ad0700700ea49432ce6709ae710b9667b1de232e1d200f343d69458455", func := "loop.example/g01236/laws.FnExactAllTriangulations", spec := "fnExactAllTriangulations", unfollowed := true, recurses := true, apart := false, narrowed := true }
def FnExactAllTriangulationsUptoSaid : Prop := fnExactAllTriangulationsUptoRow.holds Try.pinned (OpenSpec.upto fnExactAllTriangulationsSpec)

end Rows
end Go.Proofs.Ytaifgfmkkgndkaa
