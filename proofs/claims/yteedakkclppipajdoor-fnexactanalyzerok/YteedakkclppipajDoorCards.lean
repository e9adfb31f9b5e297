/-
  DERIVED. GIVEN WITH THE SEED: THE CARDS: each row of YteedakkclppipajDoorRows.lean that lists a variable, with what it lists TIED to the program's text (the seventh form; the later family's looks); each row that meets fmt, with fmt's text TOLD by the authors' own Lean function (tested against real Go, not proved from fmt's source: count such statements apart). THE CARD IS WHAT COUNTS. Prove the row's statement (the work); the ties are given (YteedakkclppipajDoorTie.lean); close each card by the builder's one call (the guide's Derived/Test/ToyasCard.lean, 'card_holds'). Laid BY PROGRAM, IN A SANDBOX (cutbox-door.mjs). By AI agents, Wed Nov 11 2026. No macro, syntax, notation, axiom, sorry.
-/
import Derived.Test.YteedakkclppipajDoorRows
import GoSem.ClaimSeven
namespace Go.Proofs.YteedakkclppipajDoor
namespace Rows

/-- THE TIED CARD OF 'laws.FnExactPhone'. -/
def fnExactPhoneCard : Claim7 := { stood := { row := fnExactPhoneRow, standIns := [], harness := (true, "472c187fdb5eab27885b0c892fd6e42652235e97f38ac2aa59b5b8a540a92002"), looks := false }, kinds := [], alts := [], laidByText := true, laidKinds := [.data, .pinned], laidTests := true, laidLooks := .later }
def FnExactPhoneCardSaid : Prop := Claim7.holds Tryd.pinned (.plain (OpenSpec.ofChange fnExactPhoneSpec)) fnExactPhoneCard

/-- THE TIED CARD OF 'laws.FnExactGrams'. -/
def fnExactGramsCard : Claim7 := { stood := { row := fnExactGramsRow, standIns := [], harness := (true, "472c187fdb5eab27885b0c892fd6e42652235e97f38ac2aa59b5b8a540a92002"), looks := false }, kinds := [], alts := [], laidByText := true, laidKinds := [.data, .pinned], laidTests := true, laidLooks := .later }
def FnExactGramsCardSaid : Prop := Claim7.holds Tryd.pinned (.plain (OpenSpec.ofChange fnExactGramsSpec)) fnExactGramsCard

/-- THE TIED CARD OF 'laws.FnExactAnalyzerOK'. -/
def fnExactAnalyzerOKCard : Claim7 := { stood := { row := fnExactAnalyzerOKRow, standIns := [], harness := (true, "472c187fdb5eab27885b0c892fd6e42652235e97f38ac2aa59b5b8a540a92002"), looks := false }, kinds := [], alts := [], laidByText := true, laidKinds := [.data, .pinned], laidTests := true, laidLooks := .later }
def FnExactAnalyzerOKCardSaid : Prop := Claim7.holds Tryd.pinned (.plain (OpenSpec.ofChange fnExactAnalyzerOKSpec)) fnExactAnalyzerOKCard

/-- THE SECOND FORM's CARD OF 'laws.FnExactPhone'. -/
def fnExactPhoneUptoCard : Claim7 := { stood := { row := fnExactPhoneUptoRow, standIns := [], harness := (true, "472c187fdb5eab27885b0c892fd6e42652235e97f38ac2aa59b5b8a540a92002"), looks := false }, kinds := [], alts := [], laidByText := true, laidKinds := [.data, .pinned], laidTests := true, laidLooks := .later }
def FnExactPhoneUptoCardSaid : Prop := Claim7.holds Tryd.pinned (.plain (OpenSpec.upto fnExactPhoneSpec)) fnExactPhoneUptoCard

/-- THE SECOND FORM's CARD OF 'laws.FnExactGrams'. -/
def fnExactGramsUptoCard : Claim7 := { stood := { row := fnExactGramsUptoRow, standIns := [], harness := (true, "472c187fdb5eab27885b0c892fd6e42652235e97f38ac2aa59b5b8a540a92002"), looks := false }, kinds := [], alts := [], laidByText := true, laidKinds := [.data, .pinned], laidTests := true, laidLooks := .later }
def FnExactGramsUptoCardSaid : Prop := Claim7.holds Tryd.pinned (.plain (OpenSpec.upto fnExactGramsSpec)) fnExactGramsUptoCard

/-- THE SECOND FORM's CARD OF 'laws.FnExactAnalyzerOK'. -/
def fnExactAnalyzerOKUptoCard : Claim7 := { stood := { row := fnExactAnalyzerOKUptoRow, standIns := [], harness := (true, "472c187fdb5eab27885b0c892fd6e42652235e97f38ac2aa59b5b8a540a92002"), looks := false }, kinds := [], alts := [], laidByText := true, laidKinds := [.data, .pinned], laidTests := true, laidLooks := .later }
def FnExactAnalyzerOKUptoCardSaid : Prop := Claim7.holds Tryd.pinned (.plain (OpenSpec.upto fnExactAnalyzerOKSpec)) fnExactAnalyzerOKUptoCard
end Rows
end Go.Proofs.YteedakkclppipajDoor
