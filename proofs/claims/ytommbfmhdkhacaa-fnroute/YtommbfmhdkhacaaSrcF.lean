import Derived.Test.YtommbfmhdkhacaaSrcE
namespace Go.Proofs.Ytommbfmhdkhacaa
open Go Go.RowKit
set_option linter.unusedVariables false

def strB (m : Nat) : Value → Bool
  | .string s => decide (s.size ≤ m)
  | _ => false
theorem strB_ok {m : Nat} {v : Value} (h : strB m v = true) : ∃ t, v = .string t ∧ t.size ≤ m := by
  cases v with
  | string s => exact ⟨s, rfl, by simpa [strB] using h⟩
  | _ => cases h
theorem table_str {w w1 : World} {C : Array Value} {t : TypeId} {b : Nat} (hg : (w.alloc (.cells C t)).grownBy w1 (some b)) (hb : b < w.heap.size) (m : Nat) (hC : C.all (strB m) = true) (j : Nat) (hj : j < C.size) :
    ∃ t, w1.cell? ⟨w.heap.size, j, none⟩ = some (.string t) ∧ t.size ≤ m := by
  have h1 : (w.alloc (.cells C t)).cell? ⟨w.heap.size, j, none⟩ = some C[j] := by
    rw [World.cell?_alloc_at (hn := rfl)]
    exact Array.getElem?_eq_getElem hj
  have h2 := hg.cell h1 (by simp; omega)
  rw [Array.all_eq_true] at hC
  obtain ⟨s, hs, hm⟩ := strB_ok (hC j hj)
  rw [hs] at h2
  exact ⟨s, h2, hm⟩

/-- A text of at most m bytes was drawn, by at most k bytes of the source. -/
def DrawnT (w : World) (b : Nat) (cv : Value) (a k : Int) (m : Nat) (e : Ending) (w' : World) : Prop :=
  ∃ (t : ByteArray) (a' sd' : Int), e = .returned (.string t) ∧ t.size ≤ m ∧ a ≤ a' ∧ a' ≤ a + k ∧ 0 ≤ sd' ∧ sd' < 2147483648 ∧ SrcAt w' b cv a' sd' ∧ w.grownBy w' (some b)

theorem SrcAt.alloc {w : World} {b : Nat} {cv : Value} {a sd : Int} (h : SrcAt w b cv a sd) (o : Obj) : SrcAt (w.alloc o) b cv a sd := by
  unfold SrcAt at *
  rw [Below.heap_alloc w o b (Array.getElem?_eq_some_iff.1 h).1]
  exact h
theorem Code.alloc {w : World} {b : Nat} {ao : Option Addr} {n : Nat} (h : Code w b ao n) (o : Obj) : Code (w.alloc o) b ao n := h.kept (World.grownBy_alloc w o (some b))

set_option maxHeartbeats 1000000 in
set_option maxRecDepth 100000 in
theorem word_any (b : Nat) (ao : Option Addr) (n cap : Nat) (a sd : Int) (w : World) (hn : n ≤ 1048576) (ha0 : 0 ≤ a) (ha2 : a ≤ 549755813888) (hs0 : 0 ≤ sd) (hs1 : sd < 2147483648)
    (hs : SrcAt w b (.slice ao n cap) a sd) (hc : Code w b ao n) :
    Calls Try.prog 10 #[.pointer (some ⟨b, 0, none⟩)] w fun e w' => DrawnT w b (.slice ao n cap) a 3 16 e w' := by
  have HS := hidd hs
  have HC := hidd hc
  have hb := hs.lt
  clear hs hc
  go_enter Try.func10, Try.ntmps10
  go_wp2_with fail
  refine (next_any b ao n cap a sd 25 _ hn (by omega) (by omega) ha0 ha2 hs0 hs1 (by exact HS.out.alloc _) (by exact HC.out.alloc _)).mono ?_
  rintro e w1 ⟨x, a1, sd1, rfl, hx0, hx1, ha3, ha4, hsd0, hsd1, hs1', hg1⟩
  obtain ⟨X, rfl⟩ := Int.eq_ofNat_of_zero_le hx0
  obtain ⟨t, ht, htm⟩ := table_str hg1 hb 16 (by decide +kernel) X (by show X < 25; omega)
  have HR := hidd (And.intro hs1' (grown_trans (World.grownBy_alloc w _ (some b)) hg1))
  clear hs1' hg1
  have hxz : (X : Int) < 25 := by omega
  go_wp2
  go_ret
  unfold DrawnT
  exact ⟨t, a1, sd1, rfl, htm, by omega, by omega, hsd0, hsd1, HR.out.1, HR.out.2⟩
set_option maxHeartbeats 1000000 in
theorem source_any (ao : Option Addr) (n cap : Nat) (w : World) (hn : n ≤ 1048576) :
    Calls Try.prog 9 #[.slice ao n cap] w fun e w' => e = .returned (.pointer (some ⟨w.heap.size, 0, none⟩)) ∧ SrcAt w' w.heap.size (.slice ao n cap) 0 ((n : Int) % 1000) ∧ w.grownBy w' none := by
  go_enter Try.func9, Try.ntmps9
  go_wp2
  go_ret
  exact ⟨rfl, heap_alloc_new w _, World.grownBy_alloc w _ none⟩

def CodeIn (w : World) (ao : Option Addr) (n : Nat) : Prop := ∀ j, j < n → ∃ blk off z, ao = some ⟨blk, off, none⟩ ∧ blk < w.heap.size ∧ 0 ≤ z ∧ z ≤ 255 ∧ w.cell? ⟨blk, off + j, none⟩ = some (.int .u8 z)
theorem CodeIn.code {w w' : World} {ao : Option Addr} {n : Nat} (h : CodeIn w ao n) (hg : w.grownBy w' none) : Code w' w.heap.size ao n := fun j hj => by
  obtain ⟨blk, off, z, h1, h2, h3, h4, h5⟩ := h j hj
  exact ⟨blk, off, z, h1, by omega, h3, h4, hg.cell h5 (by simp)⟩
theorem CodeIn.below {w w' : World} {ao : Option Addr} {n : Nat} (h : CodeIn w ao n) (hb : Below w.heap.size w w') : CodeIn w' ao n := fun j hj => by
  obtain ⟨blk, off, z, h1, h2, h3, h4, h5⟩ := h j hj
  exact ⟨blk, off, z, h1, Nat.lt_of_lt_of_le h2 hb.size, h3, h4, by rw [hb.cell (p := ⟨blk, off + j, none⟩) h2]; exact h5⟩
theorem below_src {w w1 w2 : World} (h : w.grownBy w1 none) (k : w1.grownBy w2 (some w.heap.size)) : Below w.heap.size w w2 :=
  ⟨k.os.trans h.os, k.tape.trans h.tape, k.output.trans h.output, Nat.le_trans h.size k.size, fun i hi => by rw [k.block i (Nat.lt_of_lt_of_le hi h.size) (by simp; omega), h.block i hi (by simp)]⟩




end Go.Proofs.Ytommbfmhdkhacaa
