/-
  DERIVED. GIVEN WITH THE SEED: THE CARDS: each row of YtmnfioghhdgciaaDoorRows.lean that lists a variable, with what it lists TIED to the program's text (the seventh form; the later family's looks); each row that meets fmt, with fmt's text TOLD by the authors' own Lean function (tested against real Go, not proved from fmt's source: count such statements apart). THE CARD IS WHAT COUNTS. Prove the row's statement (the work); the ties are given (YtmnfioghhdgciaaDoorTie.lean); close each card by the builder's one call (the guide's Derived/Test/ToyasCard.lean, 'card_holds'). Laid BY PROGRAM, IN A SANDBOX (cutbox-door.mjs). By AI agents, Wed Nov 11 2026. No macro, syntax, notation, axiom, sorry.
-/
import Derived.Test.YtmnfioghhdgciaaDoorRows
import GoSem.ClaimSeven
namespace Go.Proofs.YtmnfioghhdgciaaDoor
namespace Rows

/-- THE TIED CARD OF 'laws.FnExactWildcard'. -/
def fnExactWildcardCard : Claim7 := { stood := { row := fnExactWildcardRow, standIns := [], harness := (true, "b78f7f0adac6b73fe88594d531a3873572c660a1705c3e3e6741c0f3d761a01b"), looks := false }, kinds := [], alts := [], laidByText := true, laidKinds := [.data, .data, .pinned], laidTests := true, laidLooks := .later }
def FnExactWildcardCardSaid : Prop := Claim7.holds Tryd.pinned (.plain (OpenSpec.ofChange fnExactWildcardSpec)) fnExactWildcardCard

/-- THE SECOND FORM's CARD OF 'laws.FnExactWildcard'. -/
def fnExactWildcardUptoCard : Claim7 := { stood := { row := fnExactWildcardUptoRow, standIns := [], harness := (true, "b78f7f0adac6b73fe88594d531a3873572c660a1705c3e3e6741c0f3d761a01b"), looks := false }, kinds := [], alts := [], laidByText := true, laidKinds := [.data, .data, .pinned], laidTests := true, laidLooks := .later }
def FnExactWildcardUptoCardSaid : Prop := Claim7.holds Tryd.pinned (.plain (OpenSpec.upto fnExactWildcardSpec)) fnExactWildcardUptoCard
end Rows
end Go.Proofs.YtmnfioghhdgciaaDoor
