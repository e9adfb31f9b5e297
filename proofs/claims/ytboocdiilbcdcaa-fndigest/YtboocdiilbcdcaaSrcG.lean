import Derived.Test.YtboocdiilbcdcaaSrcE
namespace Go.Proofs.Ytboocdiilbcdcaa
open Go Go.RowKit
set_option linter.unusedVariables false

theorem SrcAt.alloc {w : World} {b : Nat} {cv : Value} {a sd : Int} (h : SrcAt w b cv a sd) (o : Obj) : SrcAt (w.alloc o) b cv a sd := by
  unfold SrcAt at *
  rw [Below.heap_alloc w o b (Array.getElem?_eq_some_iff.1 h).1]
  exact h
theorem Code.alloc {w : World} {b : Nat} {ao : Option Addr} {n : Nat} (h : Code w b ao n) (o : Obj) : Code (w.alloc o) b ao n := h.kept (World.grownBy_alloc w o (some b))
theorem SrcAt.kept {w w' : World} {b : Nat} {cv : Value} {a sd : Int} (h : SrcAt w b cv a sd) {row : Option Nat} (hg : w.grownBy w' row) (hne : row ≠ some b) : SrcAt w' b cv a sd := by
  unfold SrcAt at *
  rw [hg.block b (Array.getElem?_eq_some_iff.1 h).1 (fun e => hne e.symm)]
  exact h

set_option maxHeartbeats 1000000 in
theorem source_any (ao : Option Addr) (n cap : Nat) (w : World) (hn : n ≤ 1048576) :
    Calls Try.prog 26 #[.slice ao n cap] w fun e w' => e = .returned (.pointer (some ⟨w.heap.size, 0, none⟩)) ∧ SrcAt w' w.heap.size (.slice ao n cap) 0 ((n : Int) % 1000) ∧ w.grownBy w' none := by
  go_enter Try.func26, Try.ntmps26
  go_wp2
  go_ret
  exact ⟨rfl, heap_alloc_new w _, World.grownBy_alloc w _ none⟩

def CodeIn (w : World) (ao : Option Addr) (n : Nat) : Prop := ∀ j, j < n → ∃ blk off z, ao = some ⟨blk, off, none⟩ ∧ blk < w.heap.size ∧ 0 ≤ z ∧ z ≤ 255 ∧ w.cell? ⟨blk, off + j, none⟩ = some (.int .u8 z)
theorem CodeIn.code {w w' : World} {ao : Option Addr} {n : Nat} (h : CodeIn w ao n) (hg : w.grownBy w' none) : Code w' w.heap.size ao n := fun j hj => by
  obtain ⟨blk, off, z, h1, h2, h3, h4, h5⟩ := h j hj
  exact ⟨blk, off, z, h1, by omega, h3, h4, hg.cell h5 (by simp)⟩
theorem CodeIn.below {w w' : World} {ao : Option Addr} {n : Nat} (h : CodeIn w ao n) (hb : Below w.heap.size w w') : CodeIn w' ao n := fun j hj => by
  obtain ⟨blk, off, z, h1, h2, h3, h4, h5⟩ := h j hj
  exact ⟨blk, off, z, h1, Nat.lt_of_lt_of_le h2 hb.size, h3, h4, by rw [hb.cell (p := ⟨blk, off + j, none⟩) h2]; exact h5⟩
theorem below_src {w w1 w2 : World} (h : w.grownBy w1 none) (k : w1.grownBy w2 (some w.heap.size)) : Below w.heap.size w w2 :=
  ⟨k.os.trans h.os, k.tape.trans h.tape, k.output.trans h.output, Nat.le_trans h.size k.size, fun i hi => by rw [k.block i (Nat.lt_of_lt_of_le hi h.size) (by simp; omega), h.block i hi (by simp)]⟩
/-- What is written into a newer block is none of the old ones'. -/
theorem grown_new {w w1 w2 : World} {b : Nat} {row : Option Nat} (h : w.grownBy w1 (some b)) (k : w1.grownBy w2 row) (hr : ∀ g, row = some g → w.heap.size ≤ g) : w.grownBy w2 (some b) :=
  ⟨k.os.trans h.os, k.tape.trans h.tape, k.output.trans h.output, Nat.le_trans h.size k.size, fun i hi hb => by
    rw [k.block i (Nat.lt_of_lt_of_le hi h.size) (fun e => by have := hr i e.symm; omega), h.block i hi hb]⟩

def intB : Value → Bool
  | .int .i64 z => true
  | _ => false
theorem intB_ok {v : Value} (h : intB v = true) : ∃ z, v = .int .i64 z := by
  cases v with
  | int k z => cases k <;> first | exact ⟨z, rfl⟩ | cases h
  | _ => cases h
theorem table_int {w w1 : World} {C : Array Value} {t : TypeId} {b : Nat} (hg : (w.alloc (.cells C t)).grownBy w1 (some b)) (hb : b < w.heap.size) (hC : C.all intB = true) (j : Nat) (hj : j < C.size) :
    ∃ z, w1.cell? ⟨w.heap.size, j, none⟩ = some (.int .i64 z) := by
  have h1 : (w.alloc (.cells C t)).cell? ⟨w.heap.size, j, none⟩ = some C[j] := by
    rw [World.cell?_alloc_at (hn := rfl)]
    exact Array.getElem?_eq_getElem hj
  have h2 := hg.cell h1 (by simp; omega)
  rw [Array.all_eq_true] at hC
  obtain ⟨z, hs⟩ := intB_ok (hC j hj)
  rw [hs] at h2
  exact ⟨z, h2⟩
theorem own_not {w : World} {base e n b : Nat} {v : Value} {xs : List Value} (h : w.ownsRow base e 1 v n xs) (hb : b < base) : v.ownBlock ≠ some b := fun e => by have := own_block h b e; omega

set_option maxHeartbeats 1000000 in
theorem size_any (b : Nat) (ao : Option Addr) (n cap : Nat) (a sd m : Int) (w : World) (hn : n ≤ 1048576) (hm : 1 ≤ m) (hm2 : m ≤ 16777216) (hs : SrcAt w b (.slice ao n cap) a sd) :
    Calls Try.prog 51 #[.pointer (some ⟨b, 0, none⟩), .int .i64 m] w fun e w' => ∃ x : Int, e = .returned (.int .i64 x) ∧ 1 ≤ x ∧ x ≤ m ∧ w' = w := by
  obtain ⟨c0, c1, c2⟩ := hs.cell
  clear hs
  go_enter Try.func51, Try.ntmps51
  go_wp2
  all_goals go_ret
  all_goals exact ⟨_, rfl, by omega, by omega, rfl⟩
end Go.Proofs.Ytboocdiilbcdcaa
