/-
  DERIVED. GIVEN WITH THE SEED: THE CARDS: each row of YtfdmahbjofolhamDoorRows.lean that lists a variable, with what it lists TIED to the program's text (the seventh form; the later family's looks); each row that meets fmt, with fmt's text TOLD by the authors' own Lean function (tested against real Go, not proved from fmt's source: count such statements apart). THE CARD IS WHAT COUNTS. Prove the row's statement (the work); the ties are given (YtfdmahbjofolhamDoorTie.lean); close each card by the builder's one call (the guide's Derived/Test/ToyasCard.lean, 'card_holds'). Laid BY PROGRAM, IN A SANDBOX (cutbox-door.mjs). By AI agents, Wed Nov 11 2026. No macro, syntax, notation, axiom, sorry.
-/
import Derived.Test.YtfdmahbjofolhamDoorRows
import GoSem.ClaimSeven
namespace Go.Proofs.YtfdmahbjofolhamDoor
namespace Rows

/-- THE TIED CARD OF 'laws.FnExactAccepts'. -/
def fnExactAcceptsCard : Claim7 := { stood := { row := fnExactAcceptsRow, standIns := [], harness := (true, "819fa0151abc9a9f3511ebfa8abed4d81d77df81cb711b7ee96bb428cfd36c5d"), looks := false }, kinds := [], alts := [], laidByText := true, laidKinds := [.data, .pinned], laidTests := true, laidLooks := .later }
def FnExactAcceptsCardSaid : Prop := Claim7.holds Tryd.pinned (.plain (OpenSpec.ofChange fnExactAcceptsSpec)) fnExactAcceptsCard

/-- THE TIED CARD OF 'laws.FnExactWildcard'. -/
def fnExactWildcardCard : Claim7 := { stood := { row := fnExactWildcardRow, standIns := [], harness := (true, "819fa0151abc9a9f3511ebfa8abed4d81d77df81cb711b7ee96bb428cfd36c5d"), looks := false }, kinds := [], alts := [], laidByText := true, laidKinds := [.data, .data, .pinned], laidTests := true, laidLooks := .later }
def FnExactWildcardCardSaid : Prop := Claim7.holds Tryd.pinned (.plain (OpenSpec.ofChange fnExactWildcardSpec)) fnExactWildcardCard

/-- THE TIED CARD OF 'laws.FnExactLikeText'. -/
def fnExactLikeTextCard : Claim7 := { stood := { row := fnExactLikeTextRow, standIns := [], harness := (true, "819fa0151abc9a9f3511ebfa8abed4d81d77df81cb711b7ee96bb428cfd36c5d"), looks := false }, kinds := [], alts := [], laidByText := true, laidKinds := [.data, .pinned], laidTests := true, laidLooks := .later }
def FnExactLikeTextCardSaid : Prop := Claim7.holds Tryd.pinned (.plain (OpenSpec.ofChange fnExactLikeTextSpec)) fnExactLikeTextCard

/-- THE TIED CARD OF 'laws.FnExactEdits'. -/
def fnExactEditsCard : Claim7 := { stood := { row := fnExactEditsRow, standIns := [], harness := (true, "819fa0151abc9a9f3511ebfa8abed4d81d77df81cb711b7ee96bb428cfd36c5d"), looks := false }, kinds := [], alts := [], laidByText := true, laidKinds := [.data, .pinned], laidTests := true, laidLooks := .later }
def FnExactEditsCardSaid : Prop := Claim7.holds Tryd.pinned (.plain (OpenSpec.ofChange fnExactEditsSpec)) fnExactEditsCard

/-- THE TIED CARD OF 'laws.FnExactFuzzy'. -/
def fnExactFuzzyCard : Claim7 := { stood := { row := fnExactFuzzyRow, standIns := [], harness := (true, "819fa0151abc9a9f3511ebfa8abed4d81d77df81cb711b7ee96bb428cfd36c5d"), looks := false }, kinds := [], alts := [], laidByText := true, laidKinds := [.data, .pinned], laidTests := true, laidLooks := .later }
def FnExactFuzzyCardSaid : Prop := Claim7.holds Tryd.pinned (.plain (OpenSpec.ofChange fnExactFuzzySpec)) fnExactFuzzyCard

/-- THE SECOND FORM's CARD OF 'laws.FnExactAccepts'. -/
def fnExactAcceptsUptoCard : Claim7 := { stood := { row := fnExactAcceptsUptoRow, standIns := [], harness := (true, "819fa0151abc9a9f3511ebfa8abed4d81d77df81cb711b7ee96bb428cfd36c5d"), looks := false }, kinds := [], alts := [], laidByText := true, laidKinds := [.data, .pinned], laidTests := true, laidLooks := .later }
def FnExactAcceptsUptoCardSaid : Prop := Claim7.holds Tryd.pinned (.plain (OpenSpec.upto fnExactAcceptsSpec)) fnExactAcceptsUptoCard

/-- THE SECOND FORM's CARD OF 'laws.FnExactWildcard'. -/
def fnExactWildcardUptoCard : Claim7 := { stood := { row := fnExactWildcardUptoRow, standIns := [], harness := (true, "819fa0151abc9a9f3511ebfa8abed4d81d77df81cb711b7ee96bb428cfd36c5d"), looks := false }, kinds := [], alts := [], laidByText := true, laidKinds := [.data, .data, .pinned], laidTests := true, laidLooks := .later }
def FnExactWildcardUptoCardSaid : Prop := Claim7.holds Tryd.pinned (.plain (OpenSpec.upto fnExactWildcardSpec)) fnExactWildcardUptoCard

/-- THE SECOND FORM's CARD OF 'laws.FnExactLikeText'. -/
def fnExactLikeTextUptoCard : Claim7 := { stood := { row := fnExactLikeTextUptoRow, standIns := [], harness := (true, "819fa0151abc9a9f3511ebfa8abed4d81d77df81cb711b7ee96bb428cfd36c5d"), looks := false }, kinds := [], alts := [], laidByText := true, laidKinds := [.data, .pinned], laidTests := true, laidLooks := .later }
def FnExactLikeTextUptoCardSaid : Prop := Claim7.holds Tryd.pinned (.plain (OpenSpec.upto fnExactLikeTextSpec)) fnExactLikeTextUptoCard

/-- THE SECOND FORM's CARD OF 'laws.FnExactEdits'. -/
def fnExactEditsUptoCard : Claim7 := { stood := { row := fnExactEditsUptoRow, standIns := [], harness := (true, "819fa0151abc9a9f3511ebfa8abed4d81d77df81cb711b7ee96bb428cfd36c5d"), looks := false }, kinds := [], alts := [], laidByText := true, laidKinds := [.data, .pinned], laidTests := true, laidLooks := .later }
def FnExactEditsUptoCardSaid : Prop := Claim7.holds Tryd.pinned (.plain (OpenSpec.upto fnExactEditsSpec)) fnExactEditsUptoCard

/-- THE SECOND FORM's CARD OF 'laws.FnExactFuzzy'. -/
def fnExactFuzzyUptoCard : Claim7 := { stood := { row := fnExactFuzzyUptoRow, standIns := [], harness := (true, "819fa0151abc9a9f3511ebfa8abed4d81d77df81cb711b7ee96bb428cfd36c5d"), looks := false }, kinds := [], alts := [], laidByText := true, laidKinds := [.data, .pinned], laidTests := true, laidLooks := .later }
def FnExactFuzzyUptoCardSaid : Prop := Claim7.holds Tryd.pinned (.plain (OpenSpec.upto fnExactFuzzySpec)) fnExactFuzzyUptoCard
end Rows
end Go.Proofs.YtfdmahbjofolhamDoor
