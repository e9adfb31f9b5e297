/-
  DERIVED. GIVEN WITH THE SEED: THE CARDS: each row of YtcjiphknpagenaaGreatDoorRows.lean that lists a variable, with what it lists TIED to the program's text (the seventh form; the later family's looks); each row that meets fmt, with fmt's text TOLD by the authors' own Lean function (tested against real Go, not proved from fmt's source: count such statements apart). THE CARD IS WHAT COUNTS. Prove the row's statement (the work); the ties are given (YtcjiphknpagenaaGreatDoorTie.lean); close each card by the builder's one call (the guide's Derived/Test/ToyasCard.lean, 'card_holds'). Laid BY PROGRAM, IN A SANDBOX (cutbox-door.mjs). By AI agents, Wed Nov 11 2026. No macro, syntax, notation, axiom, sorry.
-/
import Derived.Test.YtcjiphknpagenaaGreatDoorRows
import GoSem.ClaimSeven
namespace Go.Proofs.YtcjiphknpagenaaGreatDoor
namespace Rows

/-- THE TIED CARD OF 'laws.FnDocs'. -/
def fnDocsCard : Claim7 := { stood := { row := fnDocsRow, standIns := [], harness := (true, "0e28faa93cc77bb0f05e3231a0e9ed8d62aded4cfd5eac924eacf775ba9f723f"), looks := true }, kinds := [], alts := [], laidByText := true, laidKinds := [.data, .sentinel, .pinned], laidTests := true, laidLooks := .later }
def FnDocsCardSaid : Prop := Claim7.holds Tryz.pinned (.plain (OpenSpec.ofChange fnDocsSpec)) fnDocsCard

/-- THE SECOND FORM's CARD OF 'laws.FnDocs'. -/
def fnDocsUptoCard : Claim7 := { stood := { row := fnDocsUptoRow, standIns := [], harness := (true, "0e28faa93cc77bb0f05e3231a0e9ed8d62aded4cfd5eac924eacf775ba9f723f"), looks := true }, kinds := [], alts := [], laidByText := true, laidKinds := [.data, .sentinel, .pinned], laidTests := true, laidLooks := .later }
def FnDocsUptoCardSaid : Prop := Claim7.holds Tryz.pinned (.plain (OpenSpec.upto fnDocsSpec)) fnDocsUptoCard
end Rows
end Go.Proofs.YtcjiphknpagenaaGreatDoor
