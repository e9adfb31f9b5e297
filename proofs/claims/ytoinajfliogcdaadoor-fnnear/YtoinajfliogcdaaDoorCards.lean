/-
  DERIVED. GIVEN WITH THE SEED: THE CARDS: each row of YtoinajfliogcdaaDoorRows.lean that lists a variable, with what it lists TIED to the program's text (the seventh form; the later family's looks); each row that meets fmt, with fmt's text TOLD by the authors' own Lean function (tested against real Go, not proved from fmt's source: count such statements apart). THE CARD IS WHAT COUNTS. Prove the row's statement (the work); the ties are given (YtoinajfliogcdaaDoorTie.lean); close each card by the builder's one call (the guide's Derived/Test/ToyasCard.lean, 'card_holds'). Laid BY PROGRAM, IN A SANDBOX (cutbox-door.mjs). By AI agents, Wed Nov 11 2026. No macro, syntax, notation, axiom, sorry.
-/
import Derived.Test.YtoinajfliogcdaaDoorRows
import GoSem.ClaimSeven
namespace Go.Proofs.YtoinajfliogcdaaDoor
namespace Rows

/-- THE TIED CARD OF 'laws.FnNear'. -/
def fnNearCard : Claim7 := { stood := { row := fnNearRow, standIns := [], harness := (true, "c6e94ba0ae03d3ab4c8f94ff17d58d6a8fc583b7d7ed104e9e7343e713525d77"), looks := false }, kinds := [], alts := [], laidByText := true, laidKinds := [.data, .pinned], laidTests := true, laidLooks := .later }
def FnNearCardSaid : Prop := Claim7.holds Tryd.pinned (.plain (OpenSpec.ofChange fnNearSpec)) fnNearCard

/-- THE TIED CARD OF 'laws.FnSets'. -/
def fnSetsCard : Claim7 := { stood := { row := fnSetsRow, standIns := [], harness := (true, "c6e94ba0ae03d3ab4c8f94ff17d58d6a8fc583b7d7ed104e9e7343e713525d77"), looks := false }, kinds := [], alts := [], laidByText := true, laidKinds := [.data, .data, .pinned], laidTests := true, laidLooks := .later }
def FnSetsCardSaid : Prop := Claim7.holds Tryd.pinned (.plain (OpenSpec.ofChange fnSetsSpec)) fnSetsCard

/-- THE TIED CARD OF 'laws.FnExactWildcard'. -/
def fnExactWildcardCard : Claim7 := { stood := { row := fnExactWildcardRow, standIns := [], harness := (true, "c6e94ba0ae03d3ab4c8f94ff17d58d6a8fc583b7d7ed104e9e7343e713525d77"), looks := false }, kinds := [], alts := [], laidByText := true, laidKinds := [.data, .data, .pinned], laidTests := true, laidLooks := .later }
def FnExactWildcardCardSaid : Prop := Claim7.holds Tryd.pinned (.plain (OpenSpec.ofChange fnExactWildcardSpec)) fnExactWildcardCard

/-- THE TIED CARD OF 'laws.FnExactFuzzy'. -/
def fnExactFuzzyCard : Claim7 := { stood := { row := fnExactFuzzyRow, standIns := [], harness := (true, "c6e94ba0ae03d3ab4c8f94ff17d58d6a8fc583b7d7ed104e9e7343e713525d77"), looks := false }, kinds := [], alts := [], laidByText := true, laidKinds := [.data, .pinned], laidTests := true, laidLooks := .later }
def FnExactFuzzyCardSaid : Prop := Claim7.holds Tryd.pinned (.plain (OpenSpec.ofChange fnExactFuzzySpec)) fnExactFuzzyCard

/-- THE SECOND FORM's CARD OF 'laws.FnNear'. -/
def fnNearUptoCard : Claim7 := { stood := { row := fnNearUptoRow, standIns := [], harness := (true, "c6e94ba0ae03d3ab4c8f94ff17d58d6a8fc583b7d7ed104e9e7343e713525d77"), looks := false }, kinds := [], alts := [], laidByText := true, laidKinds := [.data, .pinned], laidTests := true, laidLooks := .later }
def FnNearUptoCardSaid : Prop := Claim7.holds Tryd.pinned (.plain (OpenSpec.upto fnNearSpec)) fnNearUptoCard

/-- THE SECOND FORM's CARD OF 'laws.FnSets'. -/
def fnSetsUptoCard : Claim7 := { stood := { row := fnSetsUptoRow, standIns := [], harness := (true, "c6e94ba0ae03d3ab4c8f94ff17d58d6a8fc583b7d7ed104e9e7343e713525d77"), looks := false }, kinds := [], alts := [], laidByText := true, laidKinds := [.data, .data, .pinned], laidTests := true, laidLooks := .later }
def FnSetsUptoCardSaid : Prop := Claim7.holds Tryd.pinned (.plain (OpenSpec.upto fnSetsSpec)) fnSetsUptoCard

/-- THE SECOND FORM's CARD OF 'laws.FnExactWildcard'. -/
def fnExactWildcardUptoCard : Claim7 := { stood := { row := fnExactWildcardUptoRow, standIns := [], harness := (true, "c6e94ba0ae03d3ab4c8f94ff17d58d6a8fc583b7d7ed104e9e7343e713525d77"), looks := false }, kinds := [], alts := [], laidByText := true, laidKinds := [.data, .data, .pinned], laidTests := true, laidLooks := .later }
def FnExactWildcardUptoCardSaid : Prop := Claim7.holds Tryd.pinned (.plain (OpenSpec.upto fnExactWildcardSpec)) fnExactWildcardUptoCard

/-- THE SECOND FORM's CARD OF 'laws.FnExactFuzzy'. -/
def fnExactFuzzyUptoCard : Claim7 := { stood := { row := fnExactFuzzyUptoRow, standIns := [], harness := (true, "c6e94ba0ae03d3ab4c8f94ff17d58d6a8fc583b7d7ed104e9e7343e713525d77"), looks := false }, kinds := [], alts := [], laidByText := true, laidKinds := [.data, .pinned], laidTests := true, laidLooks := .later }
def FnExactFuzzyUptoCardSaid : Prop := Claim7.holds Tryd.pinned (.plain (OpenSpec.upto fnExactFuzzySpec)) fnExactFuzzyUptoCard
end Rows
end Go.Proofs.YtoinajfliogcdaaDoor
