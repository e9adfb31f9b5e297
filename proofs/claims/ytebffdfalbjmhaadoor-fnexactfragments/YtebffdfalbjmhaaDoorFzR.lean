import Derived.RangeFuncNested
import Derived.RangeFuncBound
import Derived.RangeFuncCalls
import Derived.RangeFuncLeaves
import Derived.RangeFuncFrom
import Derived.Shelf.Abstract
import Derived.Shelf.RegionOpen
import Derived.WalkKit
import Derived.OwnWalkIn
import Derived.TacticsInMore
import Derived.LoopNIn
import Derived.LoopIn
import Derived.Test.YtebffdfalbjmhaaDoorDcMk
namespace Go.Proofs.YtebffdfalbjmhaaDoor
open Go Go.RowKit Go.Shelf
set_option linter.unusedVariables false
set_option maxRecDepth 100000

/-- The two blocks of a range over a function: its record and the place of its deferred calls. -/
structure RecAt (h : Nat) (r : Loop) (W : World) : Prop where
  rc : W.heap[h + 1]? = some (.loop r)
  df : W.heap[h]? = some (.deferred (some []))
/-- A range over a function with a statement of one's own for every state: what the iterator wants of a round. -/
def YieldI {α : Type} (P : Program) (h : Nat) (r : Loop) (I : α → World → Prop) (live : α → Prop) (args : α → Array Value) (next : α → α) : Prop := ∀ (m : Nat) (x : α) (W : World), live x → I x W → RecAt h r W →
  YieldAt Fence.wide m P (h + 1) (args x) W fun e W' => e = .returned (.bool true) ∧ I (next x) W' ∧ RecAt h r W'
theorem range_inv {α : Type} {n : Nat} {P : Program} {g : Operand} {ps : Array Tmp} {assign body : Go.Code} {Q : Exit → Act → World → Prop} {a : Act} {w : World} {gf : Nat} {lb : Array Value}
    (hg : a.eval g = .func (.func gf) #[] lb) (eg : ∀ args w, (callFunc gf args).run P w = .ok (.enter gf args) w)
    (I : α → World → Prop) (live : α → Prop) (args : α → Array Value) (next : α → α) (x0 xN : α) (hps : ∀ x, (args x).size = ps.size)
    (hput : ∀ x W o, I x W → I x (W.putObj (w.heap.size + 1) o))
    (h0 : ∀ W1, Below w.heap.size w W1 → W1.heap.size = w.heap.size + 2 → I x0 W1)
    (hit : ∀ (r : Loop) (W1 : World), Below w.heap.size w W1 → YieldI P w.heap.size r I live args next → I x0 W1 → RecAt w.heap.size r W1 →
      CallsIn Fence.wide (n - 1) P gf (#[.func (.yield (w.heap.size + 1)) #[] #[]] ++ lb) W1 fun e W' => (∃ v, e = .returned v) ∧ I xN W' ∧ RecAt w.heap.size r W')
    (a₁ : α → Act)
    (hassign : ∀ (l m : Nat) (x : α) (W : World) (K : Act → World → Prop), K (a₁ x) W → assign.wpIn (Fence.wide.inRound l) m P (Exit.then K (fun _ _ _ => False)) { tmps := (ps.zip (args x)).foldl (fun t (p, v) => t.setIfInBounds p v) a.tmps, defers := [] } W)
    (hbody : ∀ (m : Nat) (x : α) (W : World), live x → I x W → w.heap.size + 1 < W.heap.size → (∃ r, W.heap[w.heap.size + 1]? = some (.loop r)) → W.heap[w.heap.size]? = some (.deferred (some [])) →
      body.wpIn (Fence.wide.inRound (w.heap.size + 1)) m P (fun e _ W' => e = .normal ∧ I (next x) W' ∧ W'.heap[w.heap.size]? = W.heap[w.heap.size]? ∧ W'.heap[w.heap.size + 1]? = W.heap[w.heap.size + 1]?) (a₁ x) W)
    (hdone : ∀ W' : World, I xN W' → W'.heap[w.heap.size]? = some (.deferred (some [])) → Q .normal { a with defers := { target := .collected w.heap.size, args := #[] } :: a.defers } W') :
    (Code.rangeFunc g ps assign body).wpIn Fence.wide n P Q a w := by
  refine wpIn_rangeFunc fun fn hfn => ?_
  obtain ⟨r0, hr0⟩ : ∃ r0 : Loop, r0 = { state := .ready, pending := none, fn, tmps := a.tmps, params := ps, assign, body, defers := w.heap.size } := ⟨_, rfl⟩
  obtain ⟨W1, hW1⟩ : ∃ W1, (w.alloc (.deferred (some []))).alloc (.loop r0) = W1 := ⟨_, rfl⟩
  have hB1 : Below w.heap.size w W1 := by rw [← hW1]; exact ((Below.refl _ w).alloc (Nat.le_refl _) _).alloc (by simp) _
  have hz1 : W1.heap.size = w.heap.size + 2 := by rw [← hW1]; simp
  have hC1 : RecAt w.heap.size r0 W1 := by
    refine ⟨?_, ?_⟩
    · rw [← hW1]; have := World.alloc_heap_new (w.alloc (.deferred (some []))) (.loop r0); rwa [World.size_alloc] at this
    · rw [← hW1]; exact (Below.heap_alloc _ _ _ (by simp)).trans (World.alloc_heap_new w _)
  refine ⟨w.heap.size + 1, [{ target := .collected w.heap.size, args := #[] }], W1, { target := .fn (.func gf) lb, args := #[.func (.yield (w.heap.size + 1)) #[] #[]] }, W1, gf,
    #[.func (.yield (w.heap.size + 1)) #[] #[]] ++ lb, W1, ?_, ?_, fun _ _ => trivial, ?_, fun h => (by cases h), ?_⟩
  · rw [← hW1, hr0]; exact run_enterLoop_outer _ _ _ _ _
  · simp only [resolve, hg]
    simp [go_sem]
  · simp [invoke, go_sem, eg]
  · refine (hit r0 W1 hB1 ?_ (h0 W1 hB1 hz1) hC1).mono ?_
    · intro m x W hk hI hc
      have hl := hc.rc
      have hlt : w.heap.size + 1 < W.heap.size := (Array.getElem?_eq_some_iff.1 hl).1
      have hy := run_yield (P := P) (args := args x) hl (by rw [hr0]; exact hps x)
      rw [hr0] at hy
      refine ⟨fn, _, assign, body, hy, roundIn_of_wpIn hfn (hassign _ m x W _ ⟨_, run_beginRound hl (by rw [hr0]), ?_⟩)⟩
      obtain ⟨W2, hW2⟩ : ∃ W2, W.putObj (w.heap.size + 1) (.loop { r0 with state := .busy }) = W2 := ⟨_, rfl⟩
      rw [hW2]
      have hI2 : I x W2 := by rw [← hW2]; exact hput x W _ hI
      have hl2 : W2.heap[w.heap.size + 1]? = some (.loop { r0 with state := .busy }) := by rw [← hW2]; exact World.putObj_heap_same hlt
      have hd2 : W2.heap[w.heap.size]? = some (.deferred (some [])) := by rw [← hW2]; exact (World.putObj_heap_other (by omega)).trans hc.df
      have hs2 : w.heap.size + 1 < W2.heap.size := (Array.getElem?_eq_some_iff.1 hl2).1
      refine wpIn_mono (hbody m x W2 hk hI2 hs2 ⟨_, hl2⟩ hd2) ?_
      rintro e a3 W3 ⟨rfl, hI3, hd3, hr3⟩
      have hl3 : W3.heap[w.heap.size + 1]? = some (.loop { r0 with state := .busy }) := hr3.trans hl2
      have hlt3 := (Array.getElem?_eq_some_iff.1 hl3).1
      have hend := run_endRound (P := P) none hl3
      have hrec : ({ { r0 with state := .busy } with state := if (none : Option Go.Code).isNone then .ready else .done, pending := none } : Loop) = r0 := by rw [hr0]; rfl
      rw [hrec] at hend
      refine ⟨_, _, hend, rfl, hput _ _ _ hI3, World.putObj_heap_same hlt3, (World.putObj_heap_other (by omega)).trans (hd3.trans hd2)⟩
    · rintro e W2 ⟨⟨v, rfl⟩, hI2, hc⟩
      have hend := run_endLoop (P := P) hc.rc (by rw [hr0]; simp)
      have hpn : r0.pending = none := by rw [hr0]
      rw [hpn] at hend
      exact ⟨none, _, hend, hdone _ (hput _ _ _ hI2) ((World.putObj_heap_other (by omega)).trans hc.df)⟩
end Go.Proofs.YtebffdfalbjmhaaDoor
