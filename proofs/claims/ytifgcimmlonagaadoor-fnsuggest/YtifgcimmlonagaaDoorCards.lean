/-
  DERIVED. GIVEN WITH THE SEED: THE CARDS: each row of YtifgcimmlonagaaDoorRows.lean that lists a variable, with what it lists TIED to the program's text (the seventh form; the later family's looks); each row that meets fmt, with fmt's text TOLD by the authors' own Lean function (tested against real Go, not proved from fmt's source: count such statements apart). THE CARD IS WHAT COUNTS. Prove the row's statement (the work); the ties are given (YtifgcimmlonagaaDoorTie.lean); close each card by the builder's one call (the guide's Derived/Test/ToyasCard.lean, 'card_holds'). Laid BY PROGRAM, IN A SANDBOX (cutbox-door.mjs). By AI agents, Wed Nov 11 2026. No macro, syntax, notation, axiom, sorry.
-/
import Derived.Test.YtifgcimmlonagaaDoorRows
import GoSem.ClaimSeven
namespace Go.Proofs.YtifgcimmlonagaaDoor
namespace Rows

/-- THE TIED CARD OF 'laws.FnSuggest'. -/
def fnSuggestCard : Claim7 := { stood := { row := fnSuggestRow, standIns := [], harness := (true, "23aaed26af689e05abcd1154d051d2806b0d368c5d746983d8e0e32ba2960c31"), looks := true }, kinds := [], alts := [], laidByText := true, laidKinds := [.data, .pinned], laidTests := true, laidLooks := .later }
def FnSuggestCardSaid : Prop := Claim7.holds Tryd.pinned (.plain (OpenSpec.ofChange fnSuggestSpec)) fnSuggestCard

/-- THE TIED CARD OF 'laws.FnExactSuggest'. -/
def fnExactSuggestCard : Claim7 := { stood := { row := fnExactSuggestRow, standIns := [], harness := (true, "23aaed26af689e05abcd1154d051d2806b0d368c5d746983d8e0e32ba2960c31"), looks := true }, kinds := [], alts := [], laidByText := true, laidKinds := [.data, .pinned], laidTests := true, laidLooks := .later }
def FnExactSuggestCardSaid : Prop := Claim7.holds Tryd.pinned (.plain (OpenSpec.ofChange fnExactSuggestSpec)) fnExactSuggestCard

/-- THE SECOND FORM's CARD OF 'laws.FnSuggest'. -/
def fnSuggestUptoCard : Claim7 := { stood := { row := fnSuggestUptoRow, standIns := [], harness := (true, "23aaed26af689e05abcd1154d051d2806b0d368c5d746983d8e0e32ba2960c31"), looks := true }, kinds := [], alts := [], laidByText := true, laidKinds := [.data, .pinned], laidTests := true, laidLooks := .later }
def FnSuggestUptoCardSaid : Prop := Claim7.holds Tryd.pinned (.plain (OpenSpec.upto fnSuggestSpec)) fnSuggestUptoCard

/-- THE SECOND FORM's CARD OF 'laws.FnExactSuggest'. -/
def fnExactSuggestUptoCard : Claim7 := { stood := { row := fnExactSuggestUptoRow, standIns := [], harness := (true, "23aaed26af689e05abcd1154d051d2806b0d368c5d746983d8e0e32ba2960c31"), looks := true }, kinds := [], alts := [], laidByText := true, laidKinds := [.data, .pinned], laidTests := true, laidLooks := .later }
def FnExactSuggestUptoCardSaid : Prop := Claim7.holds Tryd.pinned (.plain (OpenSpec.upto fnExactSuggestSpec)) fnExactSuggestUptoCard
end Rows
end Go.Proofs.YtifgcimmlonagaaDoor
