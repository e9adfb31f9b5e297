/-
  DERIVED. GIVEN WITH THE SEED: THE CARDS: each row of YtebffdfalbjmhaaDoorRows.lean that lists a variable, with what it lists TIED to the program's text (the seventh form; the later family's looks); each row that meets fmt, with fmt's text TOLD by the authors' own Lean function (tested against real Go, not proved from fmt's source: count such statements apart). THE CARD IS WHAT COUNTS. Prove the row's statement (the work); the ties are given (YtebffdfalbjmhaaDoorTie.lean); close each card by the builder's one call (the guide's Derived/Test/ToyasCard.lean, 'card_holds'). Laid BY PROGRAM, IN A SANDBOX (cutbox-door.mjs). By AI agents, Wed Nov 11 2026. No macro, syntax, notation, axiom, sorry.
-/
import Derived.Test.YtebffdfalbjmhaaDoorRows
import GoSem.ClaimSeven
namespace Go.Proofs.YtebffdfalbjmhaaDoor
namespace Rows

/-- THE TIED CARD OF 'laws.FnExactFragments'. -/
def fnExactFragmentsCard : Claim7 := { stood := { row := fnExactFragmentsRow, standIns := [], harness := (true, "56f999f7500e4e375b7ddfdfb2fa354ae270965d3cd5c5f1a7bf83bdd47e0b72"), looks := false }, kinds := [], alts := [], laidByText := true, laidKinds := [.data, .pinned], laidTests := true, laidLooks := .later }
def FnExactFragmentsCardSaid : Prop := Claim7.holds Tryd.pinned (.plain (OpenSpec.ofChange fnExactFragmentsSpec)) fnExactFragmentsCard

/-- THE SECOND FORM's CARD OF 'laws.FnExactFragments'. -/
def fnExactFragmentsUptoCard : Claim7 := { stood := { row := fnExactFragmentsUptoRow, standIns := [], harness := (true, "56f999f7500e4e375b7ddfdfb2fa354ae270965d3cd5c5f1a7bf83bdd47e0b72"), looks := false }, kinds := [], alts := [], laidByText := true, laidKinds := [.data, .pinned], laidTests := true, laidLooks := .later }
def FnExactFragmentsUptoCardSaid : Prop := Claim7.holds Tryd.pinned (.plain (OpenSpec.upto fnExactFragmentsSpec)) fnExactFragmentsUptoCard
end Rows
end Go.Proofs.YtebffdfalbjmhaaDoor
