import Derived.Test.YtpdiaddgialanaaGreatDoorProg
import Derived.Test.YtpdiaddgialanaaGreatDoorOwn
import Derived.WalkLawsBesides
import Derived.WalkSpells
import Derived.BigQuiet
import Derived.Deep.QuietTactic
import Derived.BigRegion
import Derived.Below
namespace Go.Proofs.YtpdiaddgialanaaGreatDoor
open Go Go.RowKit
set_option linter.unusedVariables false

/-! The bytes of code, without the source of draws. -/
theorem grown_drewN (w : World) (n : Nat) (row : Option Nat) : w.grownBy (w.drewN n) row := ⟨rfl, rfl, rfl, Nat.le_refl _, fun _ _ _ => rfl⟩
def CodeIn (w : World) (ao : Option Addr) (n : Nat) : Prop := ∀ j, j < n → ∃ blk off z, ao = some ⟨blk, off, none⟩ ∧ blk < w.heap.size ∧ 0 ≤ z ∧ z ≤ 255 ∧ w.cell? ⟨blk, off + j, none⟩ = some (.int .u8 z)
theorem CodeIn.below {w w' : World} {ao : Option Addr} {n : Nat} (h : CodeIn w ao n) (hb : Below w.heap.size w w') : CodeIn w' ao n := fun j hj => by
  obtain ⟨blk, off, z, h1, h2, h3, h4, h5⟩ := h j hj
  exact ⟨blk, off, z, h1, Nat.lt_of_lt_of_le h2 hb.size, h3, h4, by rw [hb.cell (p := ⟨blk, off + j, none⟩) h2]; exact h5⟩
end Go.Proofs.YtpdiaddgialanaaGreatDoor
