/-
  DERIVED. GIVEN WITH THE SEED: THE CARDS: each row of YtgoklapafidpkaaGreatDoorRows.lean that lists a variable, with what it lists TIED to the program's text (the seventh form; the later family's looks); each row that meets fmt, with fmt's text TOLD by the authors' own Lean function (tested against real Go, not proved from fmt's source: count such statements apart). THE CARD IS WHAT COUNTS. Prove the row's statement (the work); the ties are given (YtgoklapafidpkaaGreatDoorTie.lean); close each card by the builder's one call (the guide's Derived/Test/ToyasCard.lean, 'card_holds'). Laid BY PROGRAM, IN A SANDBOX (cutbox-door.mjs). By AI agents, Wed Nov 11 2026. No macro, syntax, notation, axiom, sorry.
-/
import Derived.Test.YtgoklapafidpkaaGreatDoorRows
import GoSem.ClaimSeven
namespace Go.Proofs.YtgoklapafidpkaaGreatDoor
namespace Rows

/-- THE TIED CARD OF 'laws.FnExactDocOK'. -/
def fnExactDocOKCard : Claim7 := { stood := { row := fnExactDocOKRow, standIns := [], harness := (true, "552ea0fd5f1d2ac9e12e40c3874beecf45e4bd7654ab829becd66e259297e6a7"), looks := true }, kinds := [], alts := [], laidByText := true, laidKinds := [.data, .pinned], laidTests := true, laidLooks := .later }
def FnExactDocOKCardSaid : Prop := Claim7.holds Tryz.pinned (.plain (OpenSpec.ofChange fnExactDocOKSpec)) fnExactDocOKCard

/-- THE TIED CARD OF 'laws.FnExactTerms'. -/
def fnExactTermsCard : Claim7 := { stood := { row := fnExactTermsRow, standIns := [], harness := (true, "552ea0fd5f1d2ac9e12e40c3874beecf45e4bd7654ab829becd66e259297e6a7"), looks := true }, kinds := [], alts := [], laidByText := true, laidKinds := [.data, .pinned], laidTests := true, laidLooks := .later }
def FnExactTermsCardSaid : Prop := Claim7.holds Tryz.pinned (.plain (OpenSpec.ofChange fnExactTermsSpec)) fnExactTermsCard

/-- THE TIED CARD OF 'laws.FnDocs'. -/
def fnDocsCard : Claim7 := { stood := { row := fnDocsRow, standIns := [], harness := (true, "552ea0fd5f1d2ac9e12e40c3874beecf45e4bd7654ab829becd66e259297e6a7"), looks := true }, kinds := [], alts := [], laidByText := true, laidKinds := [.data, .sentinel, .pinned], laidTests := true, laidLooks := .later }
def FnDocsCardSaid : Prop := Claim7.holds Tryz.pinned (.plain (OpenSpec.ofChange fnDocsSpec)) fnDocsCard

/-- THE SECOND FORM's CARD OF 'laws.FnExactDocOK'. -/
def fnExactDocOKUptoCard : Claim7 := { stood := { row := fnExactDocOKUptoRow, standIns := [], harness := (true, "552ea0fd5f1d2ac9e12e40c3874beecf45e4bd7654ab829becd66e259297e6a7"), looks := true }, kinds := [], alts := [], laidByText := true, laidKinds := [.data, .pinned], laidTests := true, laidLooks := .later }
def FnExactDocOKUptoCardSaid : Prop := Claim7.holds Tryz.pinned (.plain (OpenSpec.upto fnExactDocOKSpec)) fnExactDocOKUptoCard

/-- THE SECOND FORM's CARD OF 'laws.FnExactTerms'. -/
def fnExactTermsUptoCard : Claim7 := { stood := { row := fnExactTermsUptoRow, standIns := [], harness := (true, "552ea0fd5f1d2ac9e12e40c3874beecf45e4bd7654ab829becd66e259297e6a7"), looks := true }, kinds := [], alts := [], laidByText := true, laidKinds := [.data, .pinned], laidTests := true, laidLooks := .later }
def FnExactTermsUptoCardSaid : Prop := Claim7.holds Tryz.pinned (.plain (OpenSpec.upto fnExactTermsSpec)) fnExactTermsUptoCard

/-- THE SECOND FORM's CARD OF 'laws.FnDocs'. -/
def fnDocsUptoCard : Claim7 := { stood := { row := fnDocsUptoRow, standIns := [], harness := (true, "552ea0fd5f1d2ac9e12e40c3874beecf45e4bd7654ab829becd66e259297e6a7"), looks := true }, kinds := [], alts := [], laidByText := true, laidKinds := [.data, .sentinel, .pinned], laidTests := true, laidLooks := .later }
def FnDocsUptoCardSaid : Prop := Claim7.holds Tryz.pinned (.plain (OpenSpec.upto fnDocsSpec)) fnDocsUptoCard
end Rows
end Go.Proofs.YtgoklapafidpkaaGreatDoor
