/-
  DERIVED. GIVEN WITH THE SEED: THE CARDS: each row of YtbebalgleiafdabDoorRows.lean that lists a variable, with what it lists TIED to the program's text (the seventh form; the later family's looks); each row that meets fmt, with fmt's text TOLD by the authors' own Lean function (tested against real Go, not proved from fmt's source: count such statements apart). THE CARD IS WHAT COUNTS. Prove the row's statement (the work); the ties are given (YtbebalgleiafdabDoorTie.lean); close each card by the builder's one call (the guide's Derived/Test/ToyasCard.lean, 'card_holds'). Laid BY PROGRAM, IN A SANDBOX (cutbox-door.mjs). By AI agents, Wed Nov 11 2026. No macro, syntax, notation, axiom, sorry.
-/
import Derived.Test.YtbebalgleiafdabDoorRows
import GoSem.ClaimSeven
namespace Go.Proofs.YtbebalgleiafdabDoor
namespace Rows

/-- THE TIED CARD OF 'laws.FnExactMatrixText'. -/
def fnExactMatrixTextCard : Claim7 := { stood := { row := fnExactMatrixTextRow, standIns := [], harness := (true, "ae0f03bdf16bd5f2509565eb016ef5256b67afb9667b3bf48382c997a5ef0fa0"), looks := true }, kinds := [], alts := [], laidByText := true, laidKinds := [.data, .data, .data], laidTests := true, laidLooks := .later }
def FnExactMatrixTextCardSaid : Prop := Claim7.holds Tryd.pinned (.plain (OpenSpec.ofChange fnExactMatrixTextSpec)) fnExactMatrixTextCard

/-- THE TIED CARD OF 'laws.FnExactFriezeText'. -/
def fnExactFriezeTextCard : Claim7 := { stood := { row := fnExactFriezeTextRow, standIns := [], harness := (true, "ae0f03bdf16bd5f2509565eb016ef5256b67afb9667b3bf48382c997a5ef0fa0"), looks := true }, kinds := [], alts := [], laidByText := true, laidKinds := [.data, .data, .data], laidTests := true, laidLooks := .later }
def FnExactFriezeTextCardSaid : Prop := Claim7.holds Tryd.pinned (.plain (OpenSpec.ofChange fnExactFriezeTextSpec)) fnExactFriezeTextCard

/-- THE TIED CARD OF 'laws.FnExactDiagonalsText'. -/
def fnExactDiagonalsTextCard : Claim7 := { stood := { row := fnExactDiagonalsTextRow, standIns := [], harness := (true, "ae0f03bdf16bd5f2509565eb016ef5256b67afb9667b3bf48382c997a5ef0fa0"), looks := true }, kinds := [], alts := [], laidByText := true, laidKinds := [.data, .data, .data], laidTests := true, laidLooks := .later }
def FnExactDiagonalsTextCardSaid : Prop := Claim7.holds Tryd.pinned (.plain (OpenSpec.ofChange fnExactDiagonalsTextSpec)) fnExactDiagonalsTextCard

/-- THE TIED CARD OF 'laws.FnExactParseDiagonals'. -/
def fnExactParseDiagonalsCard : Claim7 := { stood := { row := fnExactParseDiagonalsRow, standIns := [], harness := (true, "ae0f03bdf16bd5f2509565eb016ef5256b67afb9667b3bf48382c997a5ef0fa0"), looks := true }, kinds := [], alts := [], laidByText := true, laidKinds := [.data, .data, .data, .data, .sentinel, .sentinel, .pinned], laidTests := true, laidLooks := .later }
def FnExactParseDiagonalsCardSaid : Prop := Claim7.holds Tryd.pinned (.plain (OpenSpec.ofChange fnExactParseDiagonalsSpec)) fnExactParseDiagonalsCard

/-- THE SECOND FORM's CARD OF 'laws.FnExactMatrixText'. -/
def fnExactMatrixTextUptoCard : Claim7 := { stood := { row := fnExactMatrixTextUptoRow, standIns := [], harness := (true, "ae0f03bdf16bd5f2509565eb016ef5256b67afb9667b3bf48382c997a5ef0fa0"), looks := true }, kinds := [], alts := [], laidByText := true, laidKinds := [.data, .data, .data], laidTests := true, laidLooks := .later }
def FnExactMatrixTextUptoCardSaid : Prop := Claim7.holds Tryd.pinned (.plain (OpenSpec.upto fnExactMatrixTextSpec)) fnExactMatrixTextUptoCard

/-- THE SECOND FORM's CARD OF 'laws.FnExactFriezeText'. -/
def fnExactFriezeTextUptoCard : Claim7 := { stood := { row := fnExactFriezeTextUptoRow, standIns := [], harness := (true, "ae0f03bdf16bd5f2509565eb016ef5256b67afb9667b3bf48382c997a5ef0fa0"), looks := true }, kinds := [], alts := [], laidByText := true, laidKinds := [.data, .data, .data], laidTests := true, laidLooks := .later }
def FnExactFriezeTextUptoCardSaid : Prop := Claim7.holds Tryd.pinned (.plain (OpenSpec.upto fnExactFriezeTextSpec)) fnExactFriezeTextUptoCard

/-- THE SECOND FORM's CARD OF 'laws.FnExactDiagonalsText'. -/
def fnExactDiagonalsTextUptoCard : Claim7 := { stood := { row := fnExactDiagonalsTextUptoRow, standIns := [], harness := (true, "ae0f03bdf16bd5f2509565eb016ef5256b67afb9667b3bf48382c997a5ef0fa0"), looks := true }, kinds := [], alts := [], laidByText := true, laidKinds := [.data, .data, .data], laidTests := true, laidLooks := .later }
def FnExactDiagonalsTextUptoCardSaid : Prop := Claim7.holds Tryd.pinned (.plain (OpenSpec.upto fnExactDiagonalsTextSpec)) fnExactDiagonalsTextUptoCard

/-- THE SECOND FORM's CARD OF 'laws.FnExactParseDiagonals'. -/
def fnExactParseDiagonalsUptoCard : Claim7 := { stood := { row := fnExactParseDiagonalsUptoRow, standIns := [], harness := (true, "ae0f03bdf16bd5f2509565eb016ef5256b67afb9667b3bf48382c997a5ef0fa0"), looks := true }, kinds := [], alts := [], laidByText := true, laidKinds := [.data, .data, .data, .data, .sentinel, .sentinel, .pinned], laidTests := true, laidLooks := .later }
def FnExactParseDiagonalsUptoCardSaid : Prop := Claim7.holds Tryd.pinned (.plain (OpenSpec.upto fnExactParseDiagonalsSpec)) fnExactParseDiagonalsUptoCard
end Rows
end Go.Proofs.YtbebalgleiafdabDoor
