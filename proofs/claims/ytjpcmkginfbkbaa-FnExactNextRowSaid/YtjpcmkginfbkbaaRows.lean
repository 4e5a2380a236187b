/-
  No cell of these rows narrows 'for every input' (looked for: loops, veiled, ifaces, maps, wideKeys, modest, calm, conditions, laid).
  DERIVED. THE GIVEN ROWS OF THIS SEAT. 12 by the template 'for every input the law returns true; each argument reads behind the call as it read before'; 0 by the template 'total and deterministic' (their statements: YtjpcmkginfbkbaaTotals.lean).
  GIVEN WITH THE SEED: the statements are not yours to turn. If you find one false, say at which input.
  Laid BY PROGRAM, IN A SANDBOX (cutbox-rows.mjs): the forced cells as the released guide's own fill.sh prints them over the translation 058d12a05aafe0e9… (all of the seat's roots in one cut). By AI agents, Wed Nov 11 2026. No macro, syntax, notation, axiom, sorry.
-/
import Derived.Test.YtjpcmkginfbkbaaChecked
import GoSem.Claim
import GoSem.ClaimJoined
import GoSem.ClaimMapViews
import Derived.JoinedTies
import Derived.KernelRfl
namespace Go.Proofs.Ytjpcmkginfbkbaa
/- THE CELL 'sum', in the pinned program and in every row, IS THE sha256 OF THE DUMP (.gsa) THAT YtjpcmkginfbkbaaProg.lean LOADS. Nothing in Lean hashes anything: it is a label: what it is worth is what the hold of that sum in a sandbox is worth. -/
noncomputable def Try.pinned : Pinned := { name := "ytjpcmkginfbkbaa", sum := "058d12a05aafe0e916f17f1ebc33a8b60203ed98bf88dac67c3f46527df144f9", checked := Try.checked }
namespace Rows
def none {H : Type} : Left H := { results := [], args := [] }

/-- 'laws.FnExactTriangulationOf': WHATEVER THE INPUT: true; the input reads as it did. -/
def fnExactTriangulationOfSpec : ChangeSpec := { name := "fnExactTriangulationOf", fn := fun _ => fun
  | [d] => { results := [.lit (.bool true)], args := [d] }
  | _ => none }
def fnExactTriangulationOfRow : OpenClaim := { program := "ytjpcmkginfbkbaa", sum := "058d12a05aafe0e916f17f1ebc33a8b60203ed98bf88dac67c3f46527df144f9", func := "loop.example/g01236/laws.FnExactTriangulationOf", spec := "fnExactTriangulationOf", unfollowed := true, recurses := true, apart := false }
def FnExactTriangulationOfSaid : Prop := fnExactTriangulationOfRow.holds Try.pinned (OpenSpec.ofChange fnExactTriangulationOfSpec)

/-- ITS FALSE NEIGHBOUR: 'it returns false'. Refute it at one input. -/
def fnExactTriangulationOfWrong : ChangeSpec := { name := "fnExactTriangulationOf", fn := fun _ => fun
  | [d] => { results := [.lit (.bool false)], args := [d] }
  | _ => none }
def FnExactTriangulationOfWrongFalsely : Prop := fnExactTriangulationOfRow.holds Try.pinned (OpenSpec.ofChange fnExactTriangulationOfWrong)

/-- 'laws.FnExactIsQuiddity': WHATEVER THE INPUT: true; the input reads as it did. -/
def fnExactIsQuidditySpec : ChangeSpec := { name := "fnExactIsQuiddity", fn := fun _ => fun
  | [d] => { results := [.lit (.bool true)], args := [d] }
  | _ => none }
def fnExactIsQuiddityRow : OpenClaim := { program := "ytjpcmkginfbkbaa", sum := "058d12a05aafe0e916f17f1ebc33a8b60203ed98bf88dac67c3f46527df144f9", func := "loop.example/g01236/laws.FnExactIsQuiddity", spec := "fnExactIsQuiddity", unfollowed := true, recurses := true, apart := false }
def FnExactIsQuidditySaid : Prop := fnExactIsQuiddityRow.holds Try.pinned (OpenSpec.ofChange fnExactIsQuidditySpec)

/-- ITS FALSE NEIGHBOUR: 'it returns false'. Refute it at one input. -/
def fnExactIsQuiddityWrong : ChangeSpec := { name := "fnExactIsQuiddity", fn := fun _ => fun
  | [d] => { results := [.lit (.bool false)], args := [d] }
  | _ => none }
def FnExactIsQuiddityWrongFalsely : Prop := fnExactIsQuiddityRow.holds Try.pinned (OpenSpec.ofChange fnExactIsQuiddityWrong)

/-- 'laws.FnExactCutEar': WHATEVER THE INPUT: true; the input reads as it did. -/
def fnExactCutEarSpec : ChangeSpec := { name := "fnExactCutEar", fn := fun _ => fun
  | [d1, d2] => { results := [.lit (.bool true)], args := [d1, d2] }
  | _ => none }
def fnExactCutEarRow : OpenClaim := { program := "ytjpcmkginfbkbaa", sum := "058d12a05aafe0e916f17f1ebc33a8b60203ed98bf88dac67c3f46527df144f9", func := "loop.example/g01236/laws.FnExactCutEar", spec := "fnExactCutEar", unfollowed := true, recurses := true, apart := false }
def FnExactCutEarSaid : Prop := fnExactCutEarRow.holds Try.pinned (OpenSpec.ofChange fnExactCutEarSpec)

/-- ITS FALSE NEIGHBOUR: 'it returns false'. Refute it at one input. -/
def fnExactCutEarWrong : ChangeSpec := { name := "fnExactCutEar", fn := fun _ => fun
  | [d1, d2] => { results := [.lit (.bool false)], args := [d1, d2] }
  | _ => none }
def FnExactCutEarWrongFalsely : Prop := fnExactCutEarRow.holds Try.pinned (OpenSpec.ofChange fnExactCutEarWrong)

/-- 'laws.FnExactGlueEar': WHATEVER THE INPUT: true; the input reads as it did. -/
def fnExactGlueEarSpec : ChangeSpec := { name := "fnExactGlueEar", fn := fun _ => fun
  | [d1, d2] => { results := [.lit (.bool true)], args := [d1, d2] }
  | _ => none }
def fnExactGlueEarRow : OpenClaim := { program := "ytjpcmkginfbkbaa", sum := "058d12a05aafe0e916f17f1ebc33a8b60203ed98bf88dac67c3f46527df144f9", func := "loop.example/g01236/laws.FnExactGlueEar", spec := "fnExactGlueEar", inPlace := ["slices.overlaps[int]"], unfollowed := true, recurses := true, apart := false }
def FnExactGlueEarSaid : Prop := fnExactGlueEarRow.holds Try.pinned (OpenSpec.ofChange fnExactGlueEarSpec)

/-- ITS FALSE NEIGHBOUR: 'it returns false'. Refute it at one input. -/
def fnExactGlueEarWrong : ChangeSpec := { name := "fnExactGlueEar", fn := fun _ => fun
  | [d1, d2] => { results := [.lit (.bool false)], args := [d1, d2] }
  | _ => none }
def FnExactGlueEarWrongFalsely : Prop := fnExactGlueEarRow.holds Try.pinned (OpenSpec.ofChange fnExactGlueEarWrong)

/-- 'laws.FnExactFriezeOf': WHATEVER THE INPUT: true; the input reads as it did. -/
def fnExactFriezeOfSpec : ChangeSpec := { name := "fnExactFriezeOf", fn := fun _ => fun
  | [d] => { results := [.lit (.bool true)], args := [d] }
  | _ => none }
def fnExactFriezeOfRow : OpenClaim := { program := "ytjpcmkginfbkbaa", sum := "058d12a05aafe0e916f17f1ebc33a8b60203ed98bf88dac67c3f46527df144f9", func := "loop.example/g01236/laws.FnExactFriezeOf", spec := "fnExactFriezeOf", unfollowed := true, recurses := true, apart := false }
def FnExactFriezeOfSaid : Prop := fnExactFriezeOfRow.holds Try.pinned (OpenSpec.ofChange fnExactFriezeOfSpec)

/-- ITS FALSE NEIGHBOUR: 'it returns false'. Refute it at one input. -/
def fnExactFriezeOfWrong : ChangeSpec := { name := "fnExactFriezeOf", fn := fun _ => fun
  | [d] => { results := [.lit (.bool false)], args := [d] }
  | _ => none }
def FnExactFriezeOfWrongFalsely : Prop := fnExactFriezeOfRow.holds Try.pinned (OpenSpec.ofChange fnExactFriezeOfWrong)

/-- 'laws.FnExactEntryOf': WHATEVER THE INPUT: true; the input reads as it did. -/
def fnExactEntryOfSpec : ChangeSpec := { name := "fnExactEntryOf", fn := fun _ => fun
  | [d1, d2, d3] => { results := [.lit (.bool true)], args := [d1, d2, d3] }
  | _ => none }
def fnExactEntryOfRow : OpenClaim := { program := "ytjpcmkginfbkbaa", sum := "058d12a05aafe0e916f17f1ebc33a8b60203ed98bf88dac67c3f46527df144f9", func := "loop.example/g01236/laws.FnExactEntryOf", spec := "fnExactEntryOf", unfollowed := true, recurses := true, apart := false }
def FnExactEntryOfSaid : Prop := fnExactEntryOfRow.holds Try.pinned (OpenSpec.ofChange fnExactEntryOfSpec)

/-- ITS FALSE NEIGHBOUR: 'it returns false'. Refute it at one input. -/
def fnExactEntryOfWrong : ChangeSpec := { name := "fnExactEntryOf", fn := fun _ => fun
  | [d1, d2, d3] => { results := [.lit (.bool false)], args := [d1, d2, d3] }
  | _ => none }
def FnExactEntryOfWrongFalsely : Prop := fnExactEntryOfRow.holds Try.pinned (OpenSpec.ofChange fnExactEntryOfWrong)

/-- 'laws.FnExactRowOfFrieze': WHATEVER THE INPUT: true; the input reads as it did. -/
def fnExactRowOfFriezeSpec : ChangeSpec := { name := "fnExactRowOfFrieze", fn := fun _ => fun
  | [d1, d2] => { results := [.lit (.bool true)], args := [d1, d2] }
  | _ => none }
def fnExactRowOfFriezeRow : OpenClaim := { program := "ytjpcmkginfbkbaa", sum := "058d12a05aafe0e916f17f1ebc33a8b60203ed98bf88dac67c3f46527df144f9", func := "loop.example/g01236/laws.FnExactRowOfFrieze", spec := "fnExactRowOfFrieze", unfollowed := true, recurses := true, apart := false }
def FnExactRowOfFriezeSaid : Prop := fnExactRowOfFriezeRow.holds Try.pinned (OpenSpec.ofChange fnExactRowOfFriezeSpec)

/-- ITS FALSE NEIGHBOUR: 'it returns false'. Refute it at one input. -/
def fnExactRowOfFriezeWrong : ChangeSpec := { name := "fnExactRowOfFrieze", fn := fun _ => fun
  | [d1, d2] => { results := [.lit (.bool false)], args := [d1, d2] }
  | _ => none }
def FnExactRowOfFriezeWrongFalsely : Prop := fnExactRowOfFriezeRow.holds Try.pinned (OpenSpec.ofChange fnExactRowOfFriezeWrong)

/-- 'laws.FnExactDiagonalOfFrieze': WHATEVER THE INPUT: true; the input reads as it did. -/
def fnExactDiagonalOfFriezeSpec : ChangeSpec := { name := "fnExactDiagonalOfFrieze", fn := fun _ => fun
  | [d1, d2] => { results := [.lit (.bool true)], args := [d1, d2] }
  | _ => none }
def fnExactDiagonalOfFriezeRow : OpenClaim := { program := "ytjpcmkginfbkbaa", sum := "058d12a05aafe0e916f17f1ebc33a8b60203ed98bf88dac67c3f46527df144f9", func := "loop.example/g01236/laws.FnExactDiagonalOfFrieze", spec := "fnExactDiagonalOfFrieze", unfollowed := true, recurses := true, apart := false }
def FnExactDiagonalOfFriezeSaid : Prop := fnExactDiagonalOfFriezeRow.holds Try.pinned (OpenSpec.ofChange fnExactDiagonalOfFriezeSpec)

/-- ITS FALSE NEIGHBOUR: 'it returns false'. Refute it at one input. -/
def fnExactDiagonalOfFriezeWrong : ChangeSpec := { name := "fnExactDiagonalOfFrieze", fn := fun _ => fun
  | [d1, d2] => { results := [.lit (.bool false)], args := [d1, d2] }
  | _ => none }
def FnExactDiagonalOfFriezeWrongFalsely : Prop := fnExactDiagonalOfFriezeRow.holds Try.pinned (OpenSpec.ofChange fnExactDiagonalOfFriezeWrong)

/-- 'laws.FnExactGlideOf': WHATEVER THE INPUT: true; the input reads as it did. -/
def fnExactGlideOfSpec : ChangeSpec := { name := "fnExactGlideOf", fn := fun _ => fun
  | [d1, d2, d3] => { results := [.lit (.bool true)], args := [d1, d2, d3] }
  | _ => none }
def fnExactGlideOfRow : OpenClaim := { program := "ytjpcmkginfbkbaa", sum := "058d12a05aafe0e916f17f1ebc33a8b60203ed98bf88dac67c3f46527df144f9", func := "loop.example/g01236/laws.FnExactGlideOf", spec := "fnExactGlideOf", unfollowed := true, recurses := true, apart := false }
def FnExactGlideOfSaid : Prop := fnExactGlideOfRow.holds Try.pinned (OpenSpec.ofChange fnExactGlideOfSpec)

/-- ITS FALSE NEIGHBOUR: 'it returns false'. Refute it at one input. -/
def fnExactGlideOfWrong : ChangeSpec := { name := "fnExactGlideOf", fn := fun _ => fun
  | [d1, d2, d3] => { results := [.lit (.bool false)], args := [d1, d2, d3] }
  | _ => none }
def FnExactGlideOfWrongFalsely : Prop := fnExactGlideOfRow.holds Try.pinned (OpenSpec.ofChange fnExactGlideOfWrong)

/-- 'laws.FnExactNextRow': WHATEVER THE INPUT: true; the input reads as it did. -/
def fnExactNextRowSpec : ChangeSpec := { name := "fnExactNextRow", fn := fun _ => fun
  | [d1, d2] => { results := [.lit (.bool true)], args := [d1, d2] }
  | _ => none }
def fnExactNextRowRow : OpenClaim := { program := "ytjpcmkginfbkbaa", sum := "058d12a05aafe0e916f17f1ebc33a8b60203ed98bf88dac67c3f46527df144f9", func := "loop.example/g01236/laws.FnExactNextRow", spec := "fnExactNextRow", unfollowed := true, recurses := true, apart := false }
def FnExactNextRowSaid : Prop := fnExactNextRowRow.holds Try.pinned (OpenSpec.ofChange fnExactNextRowSpec)

/-- ITS FALSE NEIGHBOUR: 'it returns false'. Refute it at one input. -/
def fnExactNextRowWrong : ChangeSpec := { name := "fnExactNextRow", fn := fun _ => fun
  | [d1, d2] => { results := [.lit (.bool false)], args := [d1, d2] }
  | _ => none }
def FnExactNextRowWrongFalsely : Prop := fnExactNextRowRow.holds Try.pinned (OpenSpec.ofChange fnExactNextRowWrong)

/-- 'laws.FnExactExtendFrieze': WHATEVER THE INPUT: true; the input reads as it did. -/
def fnExactExtendFriezeSpec : ChangeSpec := { name := "fnExactExtendFrieze", fn := fun _ => fun
  | [d1, d2] => { results := [.lit (.bool true)], args := [d1, d2] }
  | _ => none }
def fnExactExtendFriezeRow : OpenClaim := { program := "ytjpcmkginfbkbaa", sum := "058d12a05aafe0e916f17f1ebc33a8b60203ed98bf88dac67c3f46527df144f9", func := "loop.example/g01236/laws.FnExactExtendFrieze", spec := "fnExactExtendFrieze", unfollowed := true, recurses := true, apart := false }
def FnExactExtendFriezeSaid : Prop := fnExactExtendFriezeRow.holds Try.pinned (OpenSpec.ofChange fnExactExtendFriezeSpec)

/-- ITS FALSE NEIGHBOUR: 'it returns false'. Refute it at one input. -/
def fnExactExtendFriezeWrong : ChangeSpec := { name := "fnExactExtendFrieze", fn := fun _ => fun
  | [d1, d2] => { results := [.lit (.bool false)], args := [d1, d2] }
  | _ => none }
def FnExactExtendFriezeWrongFalsely : Prop := fnExactExtendFriezeRow.holds Try.pinned (OpenSpec.ofChange fnExactExtendFriezeWrong)

/-- 'laws.FnExactClosesAt': WHATEVER THE INPUT: true; the input reads as it did. -/
def fnExactClosesAtSpec : ChangeSpec := { name := "fnExactClosesAt", fn := fun _ => fun
  | [d] => { results := [.lit (.bool true)], args := [d] }
  | _ => none }
def fnExactClosesAtRow : OpenClaim := { program := "ytjpcmkginfbkbaa", sum := "058d12a05aafe0e916f17f1ebc33a8b60203ed98bf88dac67c3f46527df144f9", func := "loop.example/g01236/laws.FnExactClosesAt", spec := "fnExactClosesAt", unfollowed := true, recurses := true, apart := false }
def FnExactClosesAtSaid : Prop := fnExactClosesAtRow.holds Try.pinned (OpenSpec.ofChange fnExactClosesAtSpec)

/-- ITS FALSE NEIGHBOUR: 'it returns false'. Refute it at one input. -/
def fnExactClosesAtWrong : ChangeSpec := { name := "fnExactClosesAt", fn := fun _ => fun
  | [d] => { results := [.lit (.bool false)], args := [d] }
  | _ => none }
def FnExactClosesAtWrongFalsely : Prop := fnExactClosesAtRow.holds Try.pinned (OpenSpec.ofChange fnExactClosesAtWrong)

/- THE SECOND FORM. 'bulk': how many values and letters a reading holds, each counted each time it is reached (what is shared counts as often as it is met; a slice's spare places count too). A statement '..UptoSaid' is the law's where the arguments, and the package variables that the reading takes, are together of bulk at most 1048576: NARROWER than '..Said'. Prove '..Said' where nothing that the law and all that it calls make is longer than what came in: it says more and counts as full. Else prove '..UptoSaid'. A law counts once. -/
mutual
def uptoBulk {H : Type} : DataW H → Nat
  | .lit (.string bytes) => bytes.length + 1
  | .lit _ => 1
  | .nil => 1
  | .ptr d => uptoBulk d + 1
  | .slice elems spare => uptoBulkAll elems + uptoBulkAll spare + 1
  | .agg parts => uptoBulkAll parts + 1
  | .iface _ d => uptoBulk d + 1
  | .map entries => uptoBulkEntries entries + 1
  | .held _ => 1
def uptoBulkAll {H : Type} : List (DataW H) → Nat
  | [] => 0
  | d :: r => uptoBulk d + uptoBulkAll r
def uptoBulkEntries {H : Type} : List (Lit × DataW H) → Nat
  | [] => 0
  | x :: r => uptoBulkEntry x + uptoBulkEntries r
def uptoBulkEntry {H : Type} : Lit × DataW H → Nat
  | (.string bytes, d) => bytes.length + uptoBulk d + 1
  | (_, d) => uptoBulk d + 1
 end
def uptoSmall : (H : Type) → List (DataW H) → Bool := fun _ ds => decide (uptoBulkAll ds ≤ 1048576)
def OpenSpec.upto (s : _root_.Go.ChangeSpec) : _root_.Go.OpenSpec := { _root_.Go.OpenSpec.ofChange s with cond := some uptoSmall }

/-- 'laws.FnExactTriangulationOf', WHERE WHAT IT READS IS OF BULK AT MOST 1048576: true; the input reads as it did. -/
def fnExactTriangulationOfUptoRow : OpenClaim := { program := "ytjpcmkginfbkbaa", sum := "058d12a05aafe0e916f17f1ebc33a8b60203ed98bf88dac67c3f46527df144f9", func := "loop.example/g01236/laws.FnExactTriangulationOf", spec := "fnExactTriangulationOf", unfollowed := true, recurses := true, apart := false, narrowed := true }
def FnExactTriangulationOfUptoSaid : Prop := fnExactTriangulationOfUptoRow.holds Try.pinned (OpenSpec.upto fnExactTriangulationOfSpec)

/-- 'laws.FnExactIsQuiddity', WHERE WHAT IT READS IS OF BULK AT MOST 1048576: true; the input reads as it did. -/
def fnExactIsQuiddityUptoRow : OpenClaim := { program := "ytjpcmkginfbkbaa", sum := "058d12a05aafe0e916f17f1ebc33a8b60203ed98bf88dac67c3f46527df144f9", func := "loop.example/g01236/laws.FnExactIsQuiddity", spec := "fnExactIsQuiddity", unfollowed := true, recurses := true, apart := false, narrowed := true }
def FnExactIsQuiddityUptoSaid : Prop := fnExactIsQuiddityUptoRow.holds Try.pinned (OpenSpec.upto fnExactIsQuidditySpec)

/-- 'laws.FnExactCutEar', WHERE WHAT IT READS IS OF BULK AT MOST 1048576: true; the input reads as it did. -/
def fnExactCutEarUptoRow : OpenClaim := { program := "ytjpcmkginfbkbaa", sum := "058d12a05aafe0e916f17f1ebc33a8b60203ed98bf88dac67c3f46527df144f9", func := "loop.example/g01236/laws.FnExactCutEar", spec := "fnExactCutEar", unfollowed := true, recurses := true, apart := false, narrowed := true }
def FnExactCutEarUptoSaid : Prop := fnExactCutEarUptoRow.holds Try.pinned (OpenSpec.upto fnExactCutEarSpec)

/-- 'laws.FnExactGlueEar', WHERE WHAT IT READS IS OF BULK AT MOST 1048576: true; the input reads as it did. -/
def fnExactGlueEarUptoRow : OpenClaim := { program := "ytjpcmkginfbkbaa", sum := "058d12a05aafe0e916f17f1ebc33a8b60203ed98bf88dac67c3f46527df144f9", func := "loop.example/g01236/laws.FnExactGlueEar", spec := "fnExactGlueEar", inPlace := ["slices.overlaps[int]"], unfollowed := true, recurses := true, apart := false, narrowed := true }
def FnExactGlueEarUptoSaid : Prop := fnExactGlueEarUptoRow.holds Try.pinned (OpenSpec.upto fnExactGlueEarSpec)

/-- 'laws.FnExactFriezeOf', WHERE WHAT IT READS IS OF BULK AT MOST 1048576: true; the input reads as it did. -/
def fnExactFriezeOfUptoRow : OpenClaim := { program := "ytjpcmkginfbkbaa", sum := "058d12a05aafe0e916f17f1ebc33a8b60203ed98bf88dac67c3f46527df144f9", func := "loop.example/g01236/laws.FnExactFriezeOf", spec := "fnExactFriezeOf", unfollowed := true, recurses := true, apart := false, narrowed := true }
def FnExactFriezeOfUptoSaid : Prop := fnExactFriezeOfUptoRow.holds Try.pinned (OpenSpec.upto fnExactFriezeOfSpec)

/-- 'laws.FnExactEntryOf', WHERE WHAT IT READS IS OF BULK AT MOST 1048576: true; the input reads as it did. -/
def fnExactEntryOfUptoRow : OpenClaim := { program := "ytjpcmkginfbkbaa", sum := "058d12a05aafe0e916f17f1ebc33a8b60203ed98bf88dac67c3f46527df144f9", func := "loop.example/g01236/laws.FnExactEntryOf", spec := "fnExactEntryOf", unfollowed := true, recurses := true, apart := false, narrowed := true }
def FnExactEntryOfUptoSaid : Prop := fnExactEntryOfUptoRow.holds Try.pinned (OpenSpec.upto fnExactEntryOfSpec)

/-- 'laws.FnExactRowOfFrieze', WHERE WHAT IT READS IS OF BULK AT MOST 1048576: true; the input reads as it did. -/
def fnExactRowOfFriezeUptoRow : OpenClaim := { program := "ytjpcmkginfbkbaa", sum := "058d12a05aafe0e916f17f1ebc33a8b60203ed98bf88dac67c3f46527df144f9", func := "loop.example/g01236/laws.FnExactRowOfFrieze", spec := "fnExactRowOfFrieze", unfollowed := true, recurses := true, apart := false, narrowed := true }
def FnExactRowOfFriezeUptoSaid : Prop := fnExactRowOfFriezeUptoRow.holds Try.pinned (OpenSpec.upto fnExactRowOfFriezeSpec)

/-- 'laws.FnExactDiagonalOfFrieze', WHERE WHAT IT READS IS OF BULK AT MOST 1048576: true; the input reads as it did. -/
def fnExactDiagonalOfFriezeUptoRow : OpenClaim := { program := "ytjpcmkginfbkbaa", sum := "058d12a05aafe0e916f17f1ebc33a8b60203ed98bf88dac67c3f46527df144f9", func := "loop.example/g01236/laws.FnExactDiagonalOfFrieze", spec := "fnExactDiagonalOfFrieze", unfollowed := true, recurses := true, apart := false, narrowed := true }
def FnExactDiagonalOfFriezeUptoSaid : Prop := fnExactDiagonalOfFriezeUptoRow.holds Try.pinned (OpenSpec.upto fnExactDiagonalOfFriezeSpec)

/-- 'laws.FnExactGlideOf', WHERE WHAT IT READS IS OF BULK AT MOST 1048576: true; the input reads as it did. -/
def fnExactGlideOfUptoRow : OpenClaim := { program := "ytjpcmkginfbkbaa", sum := "058d12a05aafe0e916f17f1ebc33a8b60203ed98bf88dac67c3f46527df144f9", func := "loop.example/g01236/laws.FnExactGlideOf", spec := "fnExactGlideOf", unfollowed := true, recurses := true, apart := false, narrowed := true }
def FnExactGlideOfUptoSaid : Prop := fnExactGlideOfUptoRow.holds Try.pinned (OpenSpec.upto fnExactGlideOfSpec)

/-- 'laws.FnExactNextRow', WHERE WHAT IT READS IS OF BULK AT MOST 1048576: true; the input reads as it did. -/
def fnExactNextRowUptoRow : OpenClaim := { program := "ytjpcmkginfbkbaa", sum := "058d12a05aafe0e916f17f1ebc33a8b60203ed98bf88dac67c3f46527df144f9", func := "loop.example/g01236/laws.FnExactNextRow", spec := "fnExactNextRow", unfollowed := true, recurses := true, apart := false, narrowed := true }
def FnExactNextRowUptoSaid : Prop := fnExactNextRowUptoRow.holds Try.pinned (OpenSpec.upto fnExactNextRowSpec)

/-- 'laws.FnExactExtendFrieze', WHERE WHAT IT READS IS OF BULK AT MOST 1048576: true; the input reads as it did. -/
def fnExactExtendFriezeUptoRow : OpenClaim := { program := "ytjpcmkginfbkbaa", sum := "058d12a05aafe0e916f17f1ebc33a8b60203ed98bf88dac67c3f46527df144f9", func := "loop.example/g01236/laws.FnExactExtendFrieze", spec := "fnExactExtendFrieze", unfollowed := true, recurses := true, apart := false, narrowed := true }
def FnExactExtendFriezeUptoSaid : Prop := fnExactExtendFriezeUptoRow.holds Try.pinned (OpenSpec.upto fnExactExtendFriezeSpec)

/-- 'laws.FnExactClosesAt', WHERE WHAT IT READS IS OF BULK AT MOST 1048576: true; the input reads as it did. -/
def fnExactClosesAtUptoRow : OpenClaim := { program := "ytjpcmkginfbkbaa", sum := "058d12a05aafe0e916f17f1ebc33a8b60203ed98bf88dac67c3f46527df144f9", func := "loop.example/g01236/laws.FnExactClosesAt", spec := "fnExactClosesAt", unfollowed := true, recurses := true, apart := false, narrowed := true }
def FnExactClosesAtUptoSaid : Prop := fnExactClosesAtUptoRow.holds Try.pinned (OpenSpec.upto fnExactClosesAtSpec)

end Rows
end Go.Proofs.Ytjpcmkginfbkbaa
