import Derived.Test.YtnekdkafhoacoaaDoorAzP
import Derived.Test.YtnekdkafhoacoaaDoorWithin
import Derived.Test.YtnekdkafhoacoaaDoorOwn
namespace Go.Proofs.YtnekdkafhoacoaaDoor
open Go Go.RowKit
set_option linter.unusedVariables false

/-- A slice that holds these texts, wherever it lies. -/
def HoldS (w : World) (a : Option Addr) (l : List (List UInt8)) : Prop :=
  l = [] ∨ ∃ b off, a = some ⟨b, off, none⟩ ∧ b < w.heap.size ∧ ∀ t, t < l.length → w.cell? ⟨b, off + t, none⟩ = some (.string (bs (l.getD t [])))
theorem HoldS.below {w w' : World} {a : Option Addr} {l : List (List UInt8)} (h : HoldS w a l) (hb : Below w.heap.size w w') : HoldS w' a l := by
  rcases h with h | ⟨b, off, h1, h2, h3⟩
  · exact Or.inl h
  · exact Or.inr ⟨b, off, h1, Nat.lt_of_lt_of_le h2 hb.size, fun t ht => (hb.cell (p := ⟨b, off + t, none⟩) h2).trans (h3 t ht)⟩
/-- A slice of pairs of texts. -/
def HoldY (w : World) (a : Option Addr) (l : List (List UInt8 × List UInt8)) : Prop :=
  l = [] ∨ ∃ b off, a = some ⟨b, off, none⟩ ∧ b < w.heap.size ∧ ∀ t, t < l.length → w.cell? ⟨b, off + t * 2, none⟩ = some (.string (bs (l.getD t ([], [])).1)) ∧ w.cell? ⟨b, off + t * 2 + 1, none⟩ = some (.string (bs (l.getD t ([], [])).2))
theorem HoldY.below {w w' : World} {a : Option Addr} {l : List (List UInt8 × List UInt8)} (h : HoldY w a l) (hb : Below w.heap.size w w') : HoldY w' a l := by
  rcases h with h | ⟨b, off, h1, h2, h3⟩
  · exact Or.inl h
  · exact Or.inr ⟨b, off, h1, Nat.lt_of_lt_of_le h2 hb.size, fun t ht => ⟨(hb.cell (p := ⟨b, off + t * 2, none⟩) h2).trans (h3 t ht).1, (hb.cell (p := ⟨b, off + t * 2 + 1, none⟩) h2).trans (h3 t ht).2⟩⟩
def szS (l : List (List UInt8)) : Prop := ∀ t, t < l.length → (bs (l.getD t [])).size ≤ 1048576
def szY (l : List (List UInt8 × List UInt8)) : Prop := ∀ t, t < l.length → (bs (l.getD t ([], [])).1).size ≤ 1048576 ∧ (bs (l.getD t ([], [])).2).size ≤ 1048576
end Go.Proofs.YtnekdkafhoacoaaDoor
