import Derived.Test.YtebffdfalbjmhaaDoorProg
import Derived.Test.YtebffdfalbjmhaaDoorStemP
import Derived.Test.YtebffdfalbjmhaaDoorOwn
namespace Go.Proofs.YtebffdfalbjmhaaDoor
open Go Go.RowKit
set_option linter.unusedVariables false

/-- A row of texts, as cells. -/
def sCells (l : List (List UInt8)) : List Value := l.map fun t => Value.string (bs t)
theorem sCells_len (l : List (List UInt8)) : (sCells l).length = l.length := by simp [sCells]
theorem sCells_snoc (l : List (List UInt8)) (t : List UInt8) : sCells (l ++ [t]) = sCells l ++ [.string (bs t)] := by simp [sCells]
theorem sCells_at (l : List (List UInt8)) (k : Nat) (h : k < l.length) : (sCells l)[k]? = some (.string (bs (l.getD k []))) := by
  simp [sCells, h]
theorem ownS_cells {w : World} {base e g cap : Nat} {l : List (List UInt8)} (h : w.ownsRow base e 1 (.slice (some ⟨g, 0, none⟩) l.length cap) l.length (sCells l)) :
    ∀ t, t < l.length → w.cell? ⟨g, t, none⟩ = some (.string (bs (l.getD t []))) := by
  intro t ht
  rw [h.cellAt t (by omega), sCells_at l t ht]

end Go.Proofs.YtebffdfalbjmhaaDoor
