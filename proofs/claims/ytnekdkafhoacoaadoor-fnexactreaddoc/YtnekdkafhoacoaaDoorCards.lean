/-
  DERIVED. GIVEN WITH THE SEED: THE CARDS: each row of YtnekdkafhoacoaaDoorRows.lean that lists a variable, with what it lists TIED to the program's text (the seventh form; the later family's looks); each row that meets fmt, with fmt's text TOLD by the authors' own Lean function (tested against real Go, not proved from fmt's source: count such statements apart). THE CARD IS WHAT COUNTS. Prove the row's statement (the work); the ties are given (YtnekdkafhoacoaaDoorTie.lean); close each card by the builder's one call (the guide's Derived/Test/ToyasCard.lean, 'card_holds'). Laid BY PROGRAM, IN A SANDBOX (cutbox-door.mjs). By AI agents, Wed Nov 11 2026. No macro, syntax, notation, axiom, sorry.
-/
import Derived.Test.YtnekdkafhoacoaaDoorRows
import GoSem.ClaimSeven
namespace Go.Proofs.YtnekdkafhoacoaaDoor
namespace Rows

/-- THE TIED CARD OF 'laws.FnExactSchemaOK'. -/
def fnExactSchemaOKCard : Claim7 := { stood := { row := fnExactSchemaOKRow, standIns := [], harness := (true, "00f54ef64b496c7427ff92e82e833a4a98fbd15f878069451f81f643b3ab1300"), looks := false }, kinds := [], alts := [], laidByText := true, laidKinds := [.data, .pinned], laidTests := true, laidLooks := .later }
def FnExactSchemaOKCardSaid : Prop := Claim7.holds Tryd.pinned (.plain (OpenSpec.ofChange fnExactSchemaOKSpec)) fnExactSchemaOKCard

/-- THE TIED CARD OF 'laws.FnExactReadDoc'. -/
def fnExactReadDocCard : Claim7 := { stood := { row := fnExactReadDocRow, standIns := [], harness := (true, "00f54ef64b496c7427ff92e82e833a4a98fbd15f878069451f81f643b3ab1300"), looks := false }, kinds := [], alts := [], laidByText := true, laidKinds := [.sentinel], laidTests := true, laidLooks := .later }
def FnExactReadDocCardSaid : Prop := Claim7.holds Tryd.pinned (.plain (OpenSpec.ofChange fnExactReadDocSpec)) fnExactReadDocCard

/-- THE SECOND FORM's CARD OF 'laws.FnExactSchemaOK'. -/
def fnExactSchemaOKUptoCard : Claim7 := { stood := { row := fnExactSchemaOKUptoRow, standIns := [], harness := (true, "00f54ef64b496c7427ff92e82e833a4a98fbd15f878069451f81f643b3ab1300"), looks := false }, kinds := [], alts := [], laidByText := true, laidKinds := [.data, .pinned], laidTests := true, laidLooks := .later }
def FnExactSchemaOKUptoCardSaid : Prop := Claim7.holds Tryd.pinned (.plain (OpenSpec.upto fnExactSchemaOKSpec)) fnExactSchemaOKUptoCard

/-- THE SECOND FORM's CARD OF 'laws.FnExactReadDoc'. -/
def fnExactReadDocUptoCard : Claim7 := { stood := { row := fnExactReadDocUptoRow, standIns := [], harness := (true, "00f54ef64b496c7427ff92e82e833a4a98fbd15f878069451f81f643b3ab1300"), looks := false }, kinds := [], alts := [], laidByText := true, laidKinds := [.sentinel], laidTests := true, laidLooks := .later }
def FnExactReadDocUptoCardSaid : Prop := Claim7.holds Tryd.pinned (.plain (OpenSpec.upto fnExactReadDocSpec)) fnExactReadDocUptoCard
end Rows
end Go.Proofs.YtnekdkafhoacoaaDoor
