/-
  DERIVED. GIVEN WITH THE SEED: THE CARDS: each row of YtnhffhopdgnddaaGreatDoorRows.lean that lists a variable, with what it lists TIED to the program's text (the seventh form; the later family's looks); each row that meets fmt, with fmt's text TOLD by the authors' own Lean function (tested against real Go, not proved from fmt's source: count such statements apart). THE CARD IS WHAT COUNTS. Prove the row's statement (the work); the ties are given (YtnhffhopdgnddaaGreatDoorTie.lean); close each card by the builder's one call (the guide's Derived/Test/ToyasCard.lean, 'card_holds'). Laid BY PROGRAM, IN A SANDBOX (cutbox-door.mjs). By AI agents, Wed Nov 11 2026. No macro, syntax, notation, axiom, sorry.
-/
import Derived.Test.YtnhffhopdgnddaaGreatDoorRows
import GoSem.ClaimSeven
namespace Go.Proofs.YtnhffhopdgnddaaGreatDoor
namespace Rows

/-- THE TIED CARD OF 'laws.FnAnalyze'. -/
def fnAnalyzeCard : Claim7 := { stood := { row := fnAnalyzeRow, standIns := [], harness := (true, "8dbafc6606c5eff2c2b4a0a0ba91a3f81b088a9751ca3087da7b6cb89bb9f664"), looks := false }, kinds := [], alts := [], laidByText := true, laidKinds := [.data, .pinned], laidTests := true, laidLooks := .later }
def FnAnalyzeCardSaid : Prop := Claim7.holds Tryz.pinned (.plain (OpenSpec.ofChange fnAnalyzeSpec)) fnAnalyzeCard

/-- THE TIED CARD OF 'laws.FnExactAnalyze'. -/
def fnExactAnalyzeCard : Claim7 := { stood := { row := fnExactAnalyzeRow, standIns := [], harness := (true, "8dbafc6606c5eff2c2b4a0a0ba91a3f81b088a9751ca3087da7b6cb89bb9f664"), looks := false }, kinds := [], alts := [], laidByText := true, laidKinds := [.data, .pinned], laidTests := true, laidLooks := .later }
def FnExactAnalyzeCardSaid : Prop := Claim7.holds Tryz.pinned (.plain (OpenSpec.ofChange fnExactAnalyzeSpec)) fnExactAnalyzeCard

/-- THE SECOND FORM's CARD OF 'laws.FnAnalyze'. -/
def fnAnalyzeUptoCard : Claim7 := { stood := { row := fnAnalyzeUptoRow, standIns := [], harness := (true, "8dbafc6606c5eff2c2b4a0a0ba91a3f81b088a9751ca3087da7b6cb89bb9f664"), looks := false }, kinds := [], alts := [], laidByText := true, laidKinds := [.data, .pinned], laidTests := true, laidLooks := .later }
def FnAnalyzeUptoCardSaid : Prop := Claim7.holds Tryz.pinned (.plain (OpenSpec.upto fnAnalyzeSpec)) fnAnalyzeUptoCard

/-- THE SECOND FORM's CARD OF 'laws.FnExactAnalyze'. -/
def fnExactAnalyzeUptoCard : Claim7 := { stood := { row := fnExactAnalyzeUptoRow, standIns := [], harness := (true, "8dbafc6606c5eff2c2b4a0a0ba91a3f81b088a9751ca3087da7b6cb89bb9f664"), looks := false }, kinds := [], alts := [], laidByText := true, laidKinds := [.data, .pinned], laidTests := true, laidLooks := .later }
def FnExactAnalyzeUptoCardSaid : Prop := Claim7.holds Tryz.pinned (.plain (OpenSpec.upto fnExactAnalyzeSpec)) fnExactAnalyzeUptoCard
end Rows
end Go.Proofs.YtnhffhopdgnddaaGreatDoor
