import Derived.Test.YtboocdiilbcdcaaBtA
import Derived.Test.YtboocdiilbcdcaaRgA
import Derived.Deep.AppendLies
import Derived.Deep.RegionLaw
import Derived.Deep.CutBlock
import Derived.Deep.DeepCutAuto
namespace Go.Proofs.Ytboocdiilbcdcaa
open Go Go.RowKit
set_option linter.unusedVariables false

/-! Rows of ints, as values and as a walk has them. -/
def zI (l : List Int) : List Value := l.map (Value.int .i64)
theorem zI_snoc (l : List Int) (x : Int) : zI (l ++ [x]) = zI l ++ [.int .i64 x] := by simp [zI]
theorem zI_app (l k : List Int) : zI (l ++ k) = zI l ++ zI k := by simp [zI]
theorem zI_len (l : List Int) : (zI l).length = l.length := by simp [zI]
def nat2 (l : List Nat) : List Int := l.map fun (x : Nat) => (x : Int)
theorem nat2_len (l : List Nat) : (nat2 l).length = l.length := by simp [nat2]
theorem nat2_app (l k : List Nat) : nat2 (l ++ k) = nat2 l ++ nat2 k := by simp [nat2]
theorem nat2_at (l : List Nat) (i : Nat) (h : i < l.length) : (nat2 l).getD i 0 = ((l.getD i 0 : Nat) : Int) := by
  simp [nat2, h]
theorem nat2_inj {l k : List Nat} (h : nat2 l = nat2 k) : l = k := by
  have : (nat2 l).map Int.toNat = (nat2 k).map Int.toNat := by rw [h]
  simpa [nat2, List.map_map, Function.comp_def] using this
def HoldI (w : World) (v : Value) (zs : List Int) : Prop :=
  ∃ ad cap, v = .slice ad zs.length cap ∧ (zs = [] ∨ ∃ g off, ad = some ⟨g, off, none⟩ ∧ g < w.heap.size ∧ ∀ t, t < zs.length → w.cell? ⟨g, off + t, none⟩ = some (.int .i64 (zs.getD t 0)))
theorem HoldI.own {w : World} {base : Nat} {v : Value} {zs : List Int} (h : w.ownsRow base 3 1 v zs.length (zI zs)) : HoldI w v zs := by
  rcases own_cases h with ⟨rfl, h0⟩ | ⟨g, cap, rfl, _, hg⟩
  · exact ⟨none, 0, by rw [h0], Or.inl (List.length_eq_zero_iff.1 h0)⟩
  · exact ⟨_, cap, rfl, Or.inr ⟨g, 0, rfl, hg, own_cells h rfl⟩⟩
theorem HoldI.below {w w' : World} {v : Value} {zs : List Int} (h : HoldI w v zs) (hb : Below w.heap.size w w') : HoldI w' v zs := by
  obtain ⟨ad, cap, rfl, h | ⟨g, off, rfl, hg, hc⟩⟩ := h
  · exact ⟨ad, cap, rfl, Or.inl h⟩
  · exact ⟨_, cap, rfl, Or.inr ⟨g, off, rfl, Nat.lt_of_lt_of_le hg hb.size, fun t ht => (hb.cell (p := ⟨g, off + t, none⟩) hg).trans (hc t ht)⟩⟩
theorem HoldI.cells {w : World} {ad : Option Addr} {n cap : Nat} {zs : List Int} (h : HoldI w (.slice ad n cap) zs) {i : Nat} (hi : i < zs.length) : ∃ g off, ad = some ⟨g, off, none⟩ ∧ g < w.heap.size ∧ w.cell? ⟨g, off + i, none⟩ = some (.int .i64 (zs.getD i 0)) := by
  obtain ⟨ad', cap', e, h'⟩ := h
  simp only [Value.slice.injEq] at e
  obtain ⟨rfl, _, _⟩ := e
  rcases h' with rfl | ⟨g, off, rfl, hg, hc⟩
  · simp at hi
  · exact ⟨g, off, rfl, hg, hc i hi⟩
theorem Try.infoIntL : (Try.prog.info? 3).map (fun i => (i.zero, i.size, i.bytes)) = some (some (.int .i64 0), 1, 8) := by kernel_rfl
end Go.Proofs.Ytboocdiilbcdcaa
