/-
  DERIVED. GIVEN WITH THE SEED: THE CARDS: each row of YtionicjnoogpjaaGreatDoorRows.lean that lists a variable, with what it lists TIED to the program's text (the seventh form; the later family's looks); each row that meets fmt, with fmt's text TOLD by the authors' own Lean function (tested against real Go, not proved from fmt's source: count such statements apart). THE CARD IS WHAT COUNTS. Prove the row's statement (the work); the ties are given (YtionicjnoogpjaaGreatDoorTie.lean); close each card by the builder's one call (the guide's Derived/Test/ToyasCard.lean, 'card_holds'). Laid BY PROGRAM, IN A SANDBOX (cutbox-door.mjs). By AI agents, Wed Nov 11 2026. No macro, syntax, notation, axiom, sorry.
-/
import Derived.Test.YtionicjnoogpjaaGreatDoorRows
import GoSem.ClaimSeven
namespace Go.Proofs.YtionicjnoogpjaaGreatDoor
namespace Rows

/-- THE TIED CARD OF 'laws.FnAnalyze'. -/
def fnAnalyzeCard : Claim7 := { stood := { row := fnAnalyzeRow, standIns := [], harness := (true, "cde9a3281c68b6e8cca315c6fc6fd0bb042fd57e976aa2a265d43f7b2d78462a"), looks := true }, kinds := [], alts := [], laidByText := true, laidKinds := [.data, .pinned], laidTests := true, laidLooks := .later }
def FnAnalyzeCardSaid : Prop := Claim7.holds Tryz.pinned (.plain (OpenSpec.ofChange fnAnalyzeSpec)) fnAnalyzeCard

/-- THE TIED CARD OF 'laws.FnDocs'. -/
def fnDocsCard : Claim7 := { stood := { row := fnDocsRow, standIns := [], harness := (true, "cde9a3281c68b6e8cca315c6fc6fd0bb042fd57e976aa2a265d43f7b2d78462a"), looks := true }, kinds := [], alts := [], laidByText := true, laidKinds := [.data, .sentinel, .pinned], laidTests := true, laidLooks := .later }
def FnDocsCardSaid : Prop := Claim7.holds Tryz.pinned (.plain (OpenSpec.ofChange fnDocsSpec)) fnDocsCard

/-- THE SECOND FORM's CARD OF 'laws.FnAnalyze'. -/
def fnAnalyzeUptoCard : Claim7 := { stood := { row := fnAnalyzeUptoRow, standIns := [], harness := (true, "cde9a3281c68b6e8cca315c6fc6fd0bb042fd57e976aa2a265d43f7b2d78462a"), looks := true }, kinds := [], alts := [], laidByText := true, laidKinds := [.data, .pinned], laidTests := true, laidLooks := .later }
def FnAnalyzeUptoCardSaid : Prop := Claim7.holds Tryz.pinned (.plain (OpenSpec.upto fnAnalyzeSpec)) fnAnalyzeUptoCard

/-- THE SECOND FORM's CARD OF 'laws.FnDocs'. -/
def fnDocsUptoCard : Claim7 := { stood := { row := fnDocsUptoRow, standIns := [], harness := (true, "cde9a3281c68b6e8cca315c6fc6fd0bb042fd57e976aa2a265d43f7b2d78462a"), looks := true }, kinds := [], alts := [], laidByText := true, laidKinds := [.data, .sentinel, .pinned], laidTests := true, laidLooks := .later }
def FnDocsUptoCardSaid : Prop := Claim7.holds Tryz.pinned (.plain (OpenSpec.upto fnDocsSpec)) fnDocsUptoCard
end Rows
end Go.Proofs.YtionicjnoogpjaaGreatDoor
