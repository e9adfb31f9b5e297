import Derived.Test.YtboocdiilbcdcaaDoorProg
import Derived.Test.YtboocdiilbcdcaaDoorOwn
import Derived.Maps.AppendAt
import Derived.Lib.BufferWrite
import Derived.WalkLawsBesides
import Derived.Laws.BitsAllLaws
import Derived.BigQuiet
import Derived.Deep.QuietTactic
namespace Go.Proofs.YtboocdiilbcdcaaDoor
open Go Go.RowKit
set_option linter.unusedVariables false
theorem Tryd.infoByte : (Tryd.prog.info? 5).map (fun i => (i.zero, i.size, i.bytes)) = some (some (.int .u8 0), 1, 1) := by kernel_rfl

/-- A row of one's own that has grown: what lay elsewhere lies as it lay; the row lies in the old block or in a new one. -/
def Grew (w w' : World) (v v' : Value) : Prop := w.grownBy w' v.ownBlock ∧ (v'.ownBlock = v.ownBlock ∨ ∃ k, v'.ownBlock = some k ∧ w.heap.size ≤ k)
theorem Grew.refl (w : World) (v : Value) : Grew w w v v := ⟨grown_refl _ _, Or.inl rfl⟩
theorem Grew.trans {a b c : World} {u v x : Value} (h : Grew a b u v) (k : Grew b c v x) : Grew a c u x := by
  obtain ⟨h1, h2⟩ := h
  obtain ⟨k1, k2⟩ := k
  refine ⟨⟨k1.os.trans h1.os, k1.tape.trans h1.tape, k1.output.trans h1.output, Nat.le_trans h1.size k1.size, fun i hi hne => ?_⟩, ?_⟩
  · refine (k1.block i (Nat.lt_of_lt_of_le hi h1.size) ?_).trans (h1.block i hi hne)
    rcases h2 with e | ⟨k, e, hk⟩
    · rw [e]; exact hne
    · rw [e]; intro e2; cases e2; omega
  · rcases k2 with e | ⟨k, e, hk⟩
    · rw [e]
      rcases h2 with e2 | ⟨k', e2, hk'⟩
      · exact Or.inl e2
      · exact Or.inr ⟨k', e2, hk'⟩
    · exact Or.inr ⟨k, e, Nat.le_trans h1.size hk⟩
theorem Grew.alloc {a b : World} {u v : Value} (h : Grew a b u v) (o : Obj) : Grew a (b.alloc o) u v :=
  ⟨⟨h.1.os, h.1.tape, h.1.output, by have := h.1.size; simp; omega, fun i hi hne => by rw [Below.heap_alloc _ _ _ (Nat.lt_of_lt_of_le hi h.1.size)]; exact h.1.block i hi hne⟩, h.2⟩
theorem Grew.below {a b : World} {u v : Value} {base e n : Nat} {xs : List Value} (h : Grew a b u v) (hb : base ≤ a.heap.size) (ho : a.ownsRow base e 1 u n xs) : Below base a b :=
  (Below.refl _ _).grown h.1 hb (own_block ho)
theorem Grew.of {w w1 w' : World} {v v' : Value} (h1 : Grew w w1 v v) (hg : w1.grownBy w' v.ownBlock) (ha : v'.ownBlock = v.ownBlock ∨ v'.ownBlock = some w1.heap.size) : Grew w w' v v' := by
  refine h1.trans ⟨hg, ?_⟩
  rcases ha with e | e
  · exact Or.inl e
  · exact Or.inr ⟨_, e, Nat.le_refl _⟩
theorem byte_cell1 (x : Nat) (h : x < 256) : Lib.byteCells [UInt8.ofNat x] = [Value.int .u8 (x : Int)] := by
  simp [Lib.byteCells]; omega
theorem byteCells_at (l : List UInt8) (j : Nat) (h : j < l.length) : (Lib.byteCells l)[j]? = some (.int .u8 ((l.getD j 0).toNat : Int)) := by
  simp [Lib.byteCells, h]

/-- A slice of bytes as it lies in a world. -/
def BytesAt (w : World) (b off : Nat) (bs : List UInt8) : Prop := ∀ t, t < bs.length → w.cell? ⟨b, off + t, none⟩ = some (.int .u8 ((bs.getD t 0).toNat : Int))
theorem BytesAt.below {w w' : World} {b off : Nat} {bs : List UInt8} (h : BytesAt w b off bs) (hb : Below w.heap.size w w') : BytesAt w' b off bs :=
  fun t ht => (hb.cell (p := ⟨b, off + t, none⟩) (cell_lt (h t ht))).trans (h t ht)
theorem own_bytes {w : World} {base e g n cap : Nat} {l : List UInt8} (h : w.ownsRow base e 1 (.slice (some ⟨g, 0, none⟩) n cap) n (Lib.byteCells l)) (hl : l.length = n) : BytesAt w g 0 l := by
  intro t ht
  rw [Nat.zero_add, h.cellAt t (by omega)]
  exact byteCells_at l t ht

end Go.Proofs.YtboocdiilbcdcaaDoor
