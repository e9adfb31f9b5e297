/-
  DERIVED. GIVEN WITH THE SEED: THE CARDS: each row of YtecbjhakkebdmaiDoorRows.lean that lists a variable, with what it lists TIED to the program's text (the seventh form; the later family's looks); each row that meets fmt, with fmt's text TOLD by the authors' own Lean function (tested against real Go, not proved from fmt's source: count such statements apart). THE CARD IS WHAT COUNTS. Prove the row's statement (the work); the ties are given (YtecbjhakkebdmaiDoorTie.lean); close each card by the builder's one call (the guide's Derived/Test/ToyasCard.lean, 'card_holds'). Laid BY PROGRAM, IN A SANDBOX (cutbox-door.mjs). By AI agents, Wed Nov 11 2026. No macro, syntax, notation, axiom, sorry.
-/
import Derived.Test.YtecbjhakkebdmaiDoorRows
import GoSem.ClaimSeven
namespace Go.Proofs.YtecbjhakkebdmaiDoor
namespace Rows

/-- THE TIED CARD OF 'laws.FnExactFoldText'. -/
def fnExactFoldTextCard : Claim7 := { stood := { row := fnExactFoldTextRow, standIns := [], harness := (true, "1496070a033f380c6dd46734318163a8f6ff3a48a243bd48b465f2ec68b9c44a"), looks := false }, kinds := [], alts := [], laidByText := true, laidKinds := [.data, .pinned], laidTests := true, laidLooks := .later }
def FnExactFoldTextCardSaid : Prop := Claim7.holds Tryd.pinned (.plain (OpenSpec.ofChange fnExactFoldTextSpec)) fnExactFoldTextCard

/-- THE TIED CARD OF 'laws.FnExactBreak'. -/
def fnExactBreakCard : Claim7 := { stood := { row := fnExactBreakRow, standIns := [], harness := (true, "1496070a033f380c6dd46734318163a8f6ff3a48a243bd48b465f2ec68b9c44a"), looks := false }, kinds := [], alts := [], laidByText := true, laidKinds := [.data, .pinned], laidTests := true, laidLooks := .later }
def FnExactBreakCardSaid : Prop := Claim7.holds Tryd.pinned (.plain (OpenSpec.ofChange fnExactBreakSpec)) fnExactBreakCard

/-- THE SECOND FORM's CARD OF 'laws.FnExactFoldText'. -/
def fnExactFoldTextUptoCard : Claim7 := { stood := { row := fnExactFoldTextUptoRow, standIns := [], harness := (true, "1496070a033f380c6dd46734318163a8f6ff3a48a243bd48b465f2ec68b9c44a"), looks := false }, kinds := [], alts := [], laidByText := true, laidKinds := [.data, .pinned], laidTests := true, laidLooks := .later }
def FnExactFoldTextUptoCardSaid : Prop := Claim7.holds Tryd.pinned (.plain (OpenSpec.upto fnExactFoldTextSpec)) fnExactFoldTextUptoCard

/-- THE SECOND FORM's CARD OF 'laws.FnExactBreak'. -/
def fnExactBreakUptoCard : Claim7 := { stood := { row := fnExactBreakUptoRow, standIns := [], harness := (true, "1496070a033f380c6dd46734318163a8f6ff3a48a243bd48b465f2ec68b9c44a"), looks := false }, kinds := [], alts := [], laidByText := true, laidKinds := [.data, .pinned], laidTests := true, laidLooks := .later }
def FnExactBreakUptoCardSaid : Prop := Claim7.holds Tryd.pinned (.plain (OpenSpec.upto fnExactBreakSpec)) fnExactBreakUptoCard
end Rows
end Go.Proofs.YtecbjhakkebdmaiDoor
