import Derived.Test.YtibomnmgiimejadPkU
import Derived.Test.YtibomnmgiimejadPkS
import Derived.Test.YtibomnmgiimejadPkA
import Derived.Test.YtibomnmgiimejadPkN
namespace Go.Proofs.Ytibomnmgiimejad
open Go Go.RowKit
set_option linter.unusedVariables false

theorem padL_take_set (vs : List Nat) (k : Nat) (h : k < vs.length) (hl : vs.length ≤ 128) : (padL (vs.take k)).set k (vs.getD k 0) = padL (vs.take (k + 1)) := by
  have ht : vs.take (k + 1) = vs.take k ++ [vs.getD k 0] := by rw [List.take_succ_eq_append_getElem h]; simp [h]
  have hk : (vs.take k).length = k := by rw [List.length_take]; omega
  have := padL_set (vs.take k) (vs.getD k 0) (by omega)
  rw [hk] at this
  rw [this, ht]
theorem take_bytes (S N i : Nat) (h : i < S) : (bytesL S N).take (i + 1) = (bytesL S N).take i ++ [UInt8.ofNat (N / 2 ^ (8 * i))] := by
  rw [List.take_succ_eq_append_getElem (by rw [bytesL_length]; exact h)]
  simp [bytesL]


/-- What lay there but for v's own row lies as it lay. -/
def KeptB (w w' : World) (v : Value) : Prop := w.heap.size ≤ w'.heap.size ∧ ∀ i, i < w.heap.size → some i ≠ v.ownBlock → w'.heap[i]? = w.heap[i]?
theorem KeptB.refl (w : World) (v : Value) : KeptB w w v := ⟨Nat.le_refl _, fun _ _ _ => rfl⟩
theorem KeptB.alloc {w b : World} {v : Value} (h : KeptB w b v) (o : Obj) : KeptB w (b.alloc o) v :=
  ⟨by have := h.1; simp; omega, fun i hi hne => by rw [Below.heap_alloc _ _ _ (Nat.lt_of_lt_of_le hi h.1)]; exact h.2 i hi hne⟩
theorem KeptB.below {w b c : World} {v : Value} (h : KeptB w b v) (k : Below b.heap.size b c) : KeptB w c v :=
  ⟨Nat.le_trans h.1 k.size, fun i hi hne => (k.block i (Nat.lt_of_lt_of_le hi h.1)).trans (h.2 i hi hne)⟩
theorem KeptB.grown {w b c : World} {v : Value} {row : Option Nat} (h : KeptB w b v) (k : b.grownBy c row) (hr : row = v.ownBlock ∨ ∃ g, row = some g ∧ w.heap.size ≤ g) : KeptB w c v :=
  ⟨Nat.le_trans h.1 k.size, fun i hi hne => (k.block i (Nat.lt_of_lt_of_le hi h.1) (by
    rcases hr with e | ⟨g, e, hg⟩
    · rw [e]; exact hne
    · rw [e]; intro e2; cases e2; omega)).trans (h.2 i hi hne)⟩
def OwnB (w : World) (v u : Value) : Prop := u.ownBlock = v.ownBlock ∨ ∃ g, u.ownBlock = some g ∧ w.heap.size ≤ g
end Go.Proofs.Ytibomnmgiimejad
