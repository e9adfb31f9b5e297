import Derived.RangeFuncLeaves
import Derived.RangeFuncNested
import Derived.Test.YtebffdfalbjmhaaDoorHpA
namespace Go.Proofs.YtebffdfalbjmhaaDoor
open Go Go.RowKit
set_option linter.unusedVariables false

/-- Marks among the deferred calls of an activation: of each loop over an iterator that was left. -/
def mark (D : Nat) : Deferred := { target := .collected D, args := #[] }
structure Marks (w : World) (B : Nat) (Ds : List Nat) : Prop where
  nodup : Ds.Nodup
  at_ : ∀ D ∈ Ds, B ≤ D ∧ w.heap[D]? = some (.deferred (some []))
/-- Cells that stay, but for those that a call has laid. -/
def KeepD (w w' : World) : Prop := ∀ D : Nat, w.heap[D]? = some (.deferred (some [])) → w'.heap[D]? = some (.deferred (some []))
theorem Marks.keep {w w' : World} {B : Nat} {Ds : List Nat} (h : Marks w B Ds) (hk : KeepD w w') : Marks w' B Ds := ⟨h.nodup, fun D hD => ⟨(h.at_ D hD).1, hk D (h.at_ D hD).2⟩⟩
theorem Marks.push {w : World} {B D : Nat} {Ds : List Nat} (h : Marks w B Ds) (hB : B ≤ D) (hD : w.heap[D]? = some (.deferred (some []))) (hn : D ∉ Ds) : Marks w B (D :: Ds) :=
  ⟨List.nodup_cons.2 ⟨hn, h.nodup⟩, fun x hx => by
    rcases List.mem_cons.1 hx with rfl | hx
    · exact ⟨hB, hD⟩
    · exact h.at_ x hx⟩
theorem Marks.lt {w : World} {B : Nat} {Ds : List Nat} (h : Marks w B Ds) {D : Nat} (hD : D ∈ Ds) : D < w.heap.size := (Array.getElem?_eq_some_iff.1 (h.at_ D hD).2).1
/-- All but marks stays. -/
structure AllBut (w w' : World) : Prop where
  os : w'.os = w.os
  tape : w'.tape = w.tape
  output : w'.output = w.output
  size : w'.heap.size = w.heap.size
  block : ∀ b : Nat, w.heap[b]? ≠ some (.deferred (some [])) → w'.heap[b]? = w.heap[b]?
theorem AllBut.refl (w : World) : AllBut w w := ⟨rfl, rfl, rfl, rfl, fun _ _ => rfl⟩
theorem leaves_marks {F : Fence} {n : Nat} {P : Program} {fn : Func} {tmps : Array Value} {R : Ending → World → Prop} {B : Nat} : ∀ (Ds : List Nat) (w0 w : World), Marks w B Ds → AllBut w0 w → Below B w0 w →
    (∀ w', AllBut w0 w' → Below B w0 w' → LeavesIn F n P fn tmps R [] .returning w') → LeavesInM F n P fn tmps R (Ds.map mark) .returning w
  | [], w0, w, _, ha, hb, h => h w ha hb
  | D :: Ds, w0, w, hm, ha, hb, h => by
    have hD := (hm.at_ D (by simp)).2
    have hB := (hm.at_ D (by simp)).1
    have hnd := List.nodup_cons.1 hm.nodup
    refine ⟨by simp, .inl ⟨D, _, rfl, run_takeDeferred hD, ?_⟩⟩
    refine leaves_marks Ds w0 (w.putObj D (.deferred none)) ⟨hnd.2, fun x hx => ⟨(hm.at_ x (by simp [hx])).1, ?_⟩⟩ ?_ ?_ h
    · rw [World.putObj_heap_other (fun e => by subst e; exact hnd.1 hx)]
      exact (hm.at_ x (by simp [hx])).2
    · refine ⟨ha.os, ha.tape, ha.output, by rw [← ha.size]; simp [World.putObj], fun b hb' => ?_⟩
      have hne : b ≠ D := by
        rintro rfl
        by_cases hq : w0.heap[b]? = some (.deferred (some []))
        · exact hb' hq
        · exact hq ((ha.block b hb').symm.trans hD)
      rw [World.putObj_heap_other hne]
      exact ha.block b hb'
    · refine ⟨hb.os, hb.tape, hb.output, by have := hb.size; simpa [World.putObj] using this, fun b hb' => ?_⟩
      rw [World.putObj_heap_other (by omega)]
      exact hb.block b hb'
end Go.Proofs.YtebffdfalbjmhaaDoor
