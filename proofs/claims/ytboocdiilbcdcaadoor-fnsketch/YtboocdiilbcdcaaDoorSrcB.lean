import Derived.Test.YtboocdiilbcdcaaDoorSrcA
namespace Go.Proofs.YtboocdiilbcdcaaDoor
open Go Go.RowKit
set_option linter.unusedVariables false

def strB (m : Nat) : Value → Bool
  | .string s => decide (s.size ≤ m)
  | _ => false
theorem strB_ok {m : Nat} {v : Value} (h : strB m v = true) : ∃ t, v = .string t ∧ t.size ≤ m := by
  cases v with
  | string s => exact ⟨s, rfl, by simpa [strB] using h⟩
  | _ => cases h
theorem table_str {w w1 : World} {C : Array Value} {t : TypeId} {b : Nat} (hg : (w.alloc (.cells C t)).grownBy w1 (some b)) (hb : b < w.heap.size) (m : Nat) (hC : C.all (strB m) = true) (j : Nat) (hj : j < C.size) :
    ∃ t, w1.cell? ⟨w.heap.size, j, none⟩ = some (.string t) ∧ t.size ≤ m := by
  have h1 : (w.alloc (.cells C t)).cell? ⟨w.heap.size, j, none⟩ = some C[j] := by
    rw [World.cell?_alloc_at (hn := rfl)]
    exact Array.getElem?_eq_getElem hj
  have h2 := hg.cell h1 (by simp; omega)
  rw [Array.all_eq_true] at hC
  obtain ⟨s, hs, hm⟩ := strB_ok (hC j hj)
  rw [hs] at h2
  exact ⟨s, h2, hm⟩

/-- A text of at most m bytes was drawn, by at most k bytes of the source. -/
def DrawnT (w : World) (b : Nat) (cv : Value) (a k : Int) (m : Nat) (e : Ending) (w' : World) : Prop :=
  ∃ (t : ByteArray) (a' sd' : Int), e = .returned (.string t) ∧ t.size ≤ m ∧ a ≤ a' ∧ a' ≤ a + k ∧ 0 ≤ sd' ∧ sd' < 2147483648 ∧ SrcAt w' b cv a' sd' ∧ w.grownBy w' (some b)

theorem SrcAt.alloc {w : World} {b : Nat} {cv : Value} {a sd : Int} (h : SrcAt w b cv a sd) (o : Obj) : SrcAt (w.alloc o) b cv a sd := by
  unfold SrcAt at *
  rw [Below.heap_alloc w o b (Array.getElem?_eq_some_iff.1 h).1]
  exact h
theorem Code.alloc {w : World} {b : Nat} {ao : Option Addr} {n : Nat} (h : Code w b ao n) (o : Obj) : Code (w.alloc o) b ao n := h.kept (World.grownBy_alloc w o (some b))

end Go.Proofs.YtboocdiilbcdcaaDoor
