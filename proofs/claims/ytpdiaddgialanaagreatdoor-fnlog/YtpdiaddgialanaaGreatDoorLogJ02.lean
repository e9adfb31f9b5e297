import Derived.Test.YtpdiaddgialanaaGreatDoorLogJ01
import Derived.Test.YtpdiaddgialanaaGreatDoorProg
import Derived.OrdersHeld
import Derived.WalkKit
import Derived.ProofKit
namespace Go.Proofs.YtpdiaddgialanaaGreatDoor
open Go Go.RowKit
set_option linter.unusedVariables false

/-! All stays but what X names (as AnT has it, without the tokens). -/
structure But (X : Nat → Prop) (w w' : World) : Prop where
  os : w'.os = w.os
  tape : w'.tape = w.tape
  output : w'.output = w.output
  size : w.heap.size ≤ w'.heap.size
  block : ∀ b, b < w.heap.size → ¬ X b → w'.heap[b]? = w.heap[b]?
theorem But.refl (X : Nat → Prop) (w : World) : But X w w := ⟨rfl, rfl, rfl, Nat.le_refl _, fun _ _ _ => rfl⟩
theorem But.trans {X Y Z : Nat → Prop} {a b c : World} (h : But X a b) (k : But Y b c) (hx : ∀ i, i < a.heap.size → X i → Z i) (hy : ∀ i, i < a.heap.size → Y i → Z i) : But Z a c :=
  ⟨k.os.trans h.os, k.tape.trans h.tape, k.output.trans h.output, Nat.le_trans h.size k.size, fun i hi hn =>
    (k.block i (Nat.lt_of_lt_of_le hi h.size) fun e => hn (hy i hi e)).trans (h.block i hi fun e => hn (hx i hi e))⟩
theorem But.mono {X Z : Nat → Prop} {a b : World} (h : But X a b) (hx : ∀ i, i < a.heap.size → X i → Z i) : But Z a b :=
  ⟨h.os, h.tape, h.output, h.size, fun i hi hn => h.block i hi fun e => hn (hx i hi e)⟩
theorem But.of_below {X : Nat → Prop} {a b : World} (h : Below a.heap.size a b) : But X a b := ⟨h.os, h.tape, h.output, h.size, fun i hi _ => h.block i hi⟩
theorem But.below {X : Nat → Prop} {n : Nat} {a b : World} (h : But X a b) (hn : n ≤ a.heap.size) (hx : ∀ i, i < n → ¬ X i) : Below n a b :=
  ⟨h.os, h.tape, h.output, h.size, fun i hi => h.block i (by omega) (hx i hi)⟩
theorem But.set {X : Nat → Prop} {a b : World} (h : But X a b) (g k : Nat) (u : Value) (hg : X g) : But X a (b.setCell ⟨g, k, none⟩ u) :=
  ⟨h.os, h.tape, h.output, by simpa using h.size, fun i hi hn => (heap_set_other b g k u i (fun e => hn (e ▸ hg))).trans (h.block i hi hn)⟩
theorem But.alloc {X : Nat → Prop} {a b : World} (h : But X a b) (o : Obj) : But X a (b.alloc o) :=
  ⟨h.os, h.tape, h.output, by have := h.size; simp; omega, fun i hi hn => (Below.heap_alloc b o i (Nat.lt_of_lt_of_le hi h.size)).trans (h.block i hi hn)⟩
theorem But.drewN {X : Nat → Prop} {a b : World} (h : But X a b) (q : Nat) : But X a (b.drewN q) :=
  ⟨h.os, h.tape, h.output, h.size, fun i hi hn => h.block i hi hn⟩
theorem But.cell {X : Nat → Prop} {a b : World} (h : But X a b) {p : Addr} (hp : p.block < a.heap.size) (hx : ¬ X p.block) : b.cell? p = a.cell? p := by
  simp only [World.cell?]
  rw [h.block p.block hp hx]
end Go.Proofs.YtpdiaddgialanaaGreatDoor

namespace Go.Proofs.YtpdiaddgialanaaGreatDoor
open Go Go.RowKit
set_option linter.unusedVariables false
set_option maxRecDepth 100000

theorem HoldS.but {X : Nat → Prop} {w w' : World} {a : Option Addr} {l : List (List UInt8)} (h : HoldS w a l) (hb : But X w w') (hx : ∀ b off, a = some ⟨b, off, none⟩ → ¬ X b) : HoldS w' a l := by
  rcases h with h | ⟨b, off, h1, h2, h3⟩
  · exact Or.inl h
  · exact Or.inr ⟨b, off, h1, Nat.lt_of_lt_of_le h2 hb.size, fun t ht => (hb.cell (p := ⟨b, off + t, none⟩) h2 (hx b off h1)).trans (h3 t ht)⟩
/-- The source, wherever it has come to (at most A bytes on). -/
def Sx (b : Nat) (ao : Option Addr) (n cap : Nat) (W : World) (A : Int) : Prop :=
  ∃ a sd : Int, 0 ≤ a ∧ a ≤ A ∧ 0 ≤ sd ∧ sd < 2147483648 ∧ SrcAt W b (.slice ao n cap) a sd ∧ Code W b ao n
theorem Sx.lt {b : Nat} {ao : Option Addr} {n cap : Nat} {W : World} {A : Int} (h : Sx b ao n cap W A) : b < W.heap.size := by
  obtain ⟨_, _, _, _, _, _, h, _⟩ := h
  exact h.lt
theorem Sx.but {b : Nat} {ao : Option Addr} {n cap : Nat} {W W' : World} {A : Int} {X : Nat → Prop} (h : Sx b ao n cap W A) (hb : But X W W') (hx : ¬ X b) (hc : ∀ blk off, ao = some ⟨blk, off, none⟩ → blk < W.heap.size ∧ ¬ X blk) : Sx b ao n cap W' A := by
  obtain ⟨a, sd, h1, h2, h3, h4, h5, h6⟩ := h
  refine ⟨a, sd, h1, h2, h3, h4, (hb.block b h5.lt hx).trans h5, fun j hj => ?_⟩
  obtain ⟨blk, off, z, q1, q2, q3, q4, q5⟩ := h6 j hj
  exact ⟨blk, off, z, q1, q2, q3, q4, (hb.cell (p := ⟨blk, off + j, none⟩) (hc blk off q1).1 (hc blk off q1).2).trans q5⟩
theorem Sx.below {b : Nat} {ao : Option Addr} {n cap : Nat} {W W' : World} {A : Int} (h : Sx b ao n cap W A) (hb : Below W.heap.size W W') : Sx b ao n cap W' A := by
  obtain ⟨a, sd, h1, h2, h3, h4, h5, h6⟩ := h
  refine ⟨a, sd, h1, h2, h3, h4, (hb.block b h5.lt).trans h5, fun j hj => ?_⟩
  obtain ⟨blk, off, z, q1, q2, q3, q4, q5⟩ := h6 j hj
  exact ⟨blk, off, z, q1, q2, q3, q4, (hb.cell (p := ⟨blk, off + j, none⟩) (cell_lt q5)).trans q5⟩
theorem Sx.alloc {b : Nat} {ao : Option Addr} {n cap : Nat} {W : World} {A : Int} (h : Sx b ao n cap W A) (o : Obj) : Sx b ao n cap (W.alloc o) A := h.below ((Below.refl _ _).alloc (Nat.le_refl _) _)
theorem Sx.mono {b : Nat} {ao : Option Addr} {n cap : Nat} {W : World} {A A' : Int} (h : Sx b ao n cap W A) (hA : A ≤ A') : Sx b ao n cap W A' := by
  obtain ⟨a, sd, h1, h2, h3⟩ := h
  exact ⟨a, sd, h1, by omega, h3⟩
theorem Sx.set {b : Nat} {ao : Option Addr} {n cap : Nat} {W : World} {A : Int} (h : Sx b ao n cap W A) (g k : Nat) (u : Value) (hg : g ≠ b) (hc : ∀ j, j < n → ∃ blk off, ao = some ⟨blk, off, none⟩ ∧ blk ≠ g) : Sx b ao n cap (W.setCell ⟨g, k, none⟩ u) A := by
  obtain ⟨a, sd, h1, h2, h3, h4, h5, h6⟩ := h
  refine ⟨a, sd, h1, h2, h3, h4, (heap_set_other W g k u b (fun e => hg e.symm)).trans h5, fun j hj => ?_⟩
  obtain ⟨blk, off, z, q1, q2, q3, q4, q5⟩ := h6 j hj
  obtain ⟨blk', off', r1, r2⟩ := hc j hj
  refine ⟨blk, off, z, q1, q2, q3, q4, ?_⟩
  rw [q1] at r1
  cases r1
  simp only [World.cell?] at q5 ⊢
  rw [heap_set_other W g k u blk r2]
  exact q5
theorem but_grown {w w' : World} {b : Nat} (h : w.grownBy w' (some b)) : But (fun x => x = b) w w' :=
  ⟨h.os, h.tape, h.output, h.size, fun i hi hn => h.block i hi fun e => hn (Option.some.inj e)⟩
theorem nextS {b : Nat} {ao : Option Addr} {n cap : Nat} {W : World} {A : Int} (h : Sx b ao n cap W A) (hn : n ≤ 1048576) (hA : A ≤ 274877906944) (m : Int) (hm : 1 ≤ m) (hm2 : m ≤ 16777216) :
    Calls Tryz.prog 14 #[.pointer (some ⟨b, 0, none⟩), .int .i64 m] W fun e w' => ∃ x : Nat, e = .returned (.int .i64 (x : Int)) ∧ (x : Int) < m ∧ Sx b ao n cap w' (A + 3) ∧ But (fun x => x = b) W w' := by
  obtain ⟨a, sd, h1, h2, h3, h4, h5, h6⟩ := h
  refine (next_any b ao n cap a sd m W hn hm hm2 h1 (by omega) h3 h4 h5 h6).mono ?_
  rintro e w1 ⟨x, a1, sd1, rfl, hx0, hx1, ha3, ha4, hsd0, hsd1, hs1', hg1⟩
  obtain ⟨X, rfl⟩ := Int.eq_ofNat_of_zero_le hx0
  exact ⟨X, rfl, by omega, ⟨a1, sd1, by omega, by omega, hsd0, hsd1, hs1', h6.kept hg1⟩, but_grown hg1⟩
theorem chanceS {b : Nat} {ao : Option Addr} {n cap : Nat} {W : World} {A : Int} (h : Sx b ao n cap W A) (hn : n ≤ 1048576) (hA : A ≤ 274877906944) (m : Int) (hm : 1 ≤ m) (hm2 : m ≤ 16777216) :
    Calls Tryz.prog 29 #[.pointer (some ⟨b, 0, none⟩), .int .i64 m] W fun e w' => ∃ x : Bool, e = .returned (.bool x) ∧ Sx b ao n cap w' (A + 3) ∧ But (fun x => x = b) W w' := by
  obtain ⟨a, sd, h1, h2, h3, h4, h5, h6⟩ := h
  refine (chance_any b ao n cap a sd m W hn hm hm2 h1 (by omega) h3 h4 h5 h6).mono ?_
  rintro e w1 ⟨x, a1, sd1, rfl, ha3, ha4, hsd0, hsd1, hs1', hg1⟩
  exact ⟨x, rfl, ⟨a1, sd1, by omega, by omega, hsd0, hsd1, hs1', h6.kept hg1⟩, but_grown hg1⟩
/-- What an analyser that is being drawn has in memory: a cell for the result, a box of its own, rows of their own. -/
structure DA (w W : World) (b : Nat) (ao : Option Addr) (n cap : Nat) (A : Int) (R BX : Nat) (fo st ph : Bool) (aS : Option Addr) (cS : Nat) (stops : List (List UInt8)) (vY : Value) (syns : List (List UInt8 × List UInt8)) (lo hi : Int) : Prop where
  src : Sx b ao n cap W A
  but : But (fun x => x = b) w W
  res : ∃ cs, W.heap[R]? = some (.cells cs 114) ∧ cs.size = 7
  box : W.heap[BX]? = some (.cells #[.bool fo, .bool st, .bool ph, .slice aS stops.length cS, vY, .int .i64 lo, .int .i64 hi] 114)
  stp : HoldS W aS stops
  stb : ∀ blk off, aS = some ⟨blk, off, none⟩ → BX < blk
  syn : W.ownsRow (BX + 1) 151 2 vY syns.length (yCells syns)
  bl : b < w.heap.size
  rl : w.heap.size ≤ R
  xl : R < BX
  cb : ∀ j, j < n → ∃ blk off, ao = some ⟨blk, off, none⟩ ∧ blk < w.heap.size
section
variable {w W W' : World} {b : Nat} {ao : Option Addr} {n cap : Nat} {A : Int} {R BX : Nat} {fo st ph : Bool} {aS : Option Addr} {cS : Nat} {stops : List (List UInt8)} {vY : Value} {syns : List (List UInt8 × List UInt8)} {lo hi : Int}
theorem own2_but {X : Nat → Prop} {base e m : Nat} {v : Value} {xs : List Value} (h : W.ownsRow base e 2 v m xs) (hb : But X W W') (hx : ∀ g, v.ownBlock = some g → ¬ X g) : W'.ownsRow base e 2 v m xs := by
  refine ⟨h.1, ?_⟩
  rcases h.2 with h' | ⟨g, c, cur, rfl, h2, h3, h4⟩
  · exact Or.inl h'
  · exact Or.inr ⟨g, c, cur, rfl, h2, (hb.block g (Array.getElem?_eq_some_iff.1 h3).1 (hx g rfl)).trans h3, h4⟩
theorem own2_base {base e m : Nat} {v : Value} {xs : List Value} (h : W.ownsRow base e 2 v m xs) : ∀ g, v.ownBlock = some g → base ≤ g ∧ g < W.heap.size := by
  intro g e
  rcases h.2 with ⟨rfl, _⟩ | ⟨g', c, cur, rfl, h2, h3, h4⟩
  · cases e
  · cases e; exact ⟨h2, (Array.getElem?_eq_some_iff.1 h3).1⟩
theorem DA.size (h : DA w W b ao n cap A R BX fo st ph aS cS stops vY syns lo hi) : BX < W.heap.size := (Array.getElem?_eq_some_iff.1 h.box).1
/-- What only writes the source's cell, or makes memory. -/
theorem DA.draw (h : DA w W b ao n cap A R BX fo st ph aS cS stops vY syns lo hi) {A' : Int} (hs : Sx b ao n cap W' A') (hb : But (fun x => x = b) W W') : DA w W' b ao n cap A' R BX fo st ph aS cS stops vY syns lo hi := by
  have h1 := h.bl
  have h2 := h.rl
  have h3 := h.xl
  have h4 := h.size
  obtain ⟨cs, hr1, hr2⟩ := h.res
  refine ⟨hs, h.but.trans hb (fun _ _ h => h) (fun _ _ h => h), ⟨cs, (hb.block R (by omega) (by omega)).trans hr1, hr2⟩, (hb.block BX h4 (by omega)).trans h.box, h.stp.but hb (fun blk off e hx => ?_), h.stb, own2_but h.syn hb (fun g e hx => by have := (own2_base h.syn g e).1; omega), h1, h2, h3, h.cb⟩
  have := h.stb blk off e
  omega
theorem DA.alloc (h : DA w W b ao n cap A R BX fo st ph aS cS stops vY syns lo hi) (o : Obj) : DA w (W.alloc o) b ao n cap A R BX fo st ph aS cS stops vY syns lo hi :=
  h.draw (h.src.alloc o) ((But.refl _ _).alloc o)
theorem DA.away (h : DA w W b ao n cap A R BX fo st ph aS cS stops vY syns lo hi) (k : Nat) (u : Value) : Sx b ao n cap (W.setCell ⟨BX, k, none⟩ u) A ∧ But (fun x => x = b) w (W.setCell ⟨BX, k, none⟩ u) ∧ (∃ cs, (W.setCell ⟨BX, k, none⟩ u).heap[R]? = some (.cells cs 114) ∧ cs.size = 7) ∧ ∀ g, g ≠ BX → (W.setCell ⟨BX, k, none⟩ u).heap[g]? = W.heap[g]? := by
  have h1 := h.bl
  have h2 := h.rl
  have h3 := h.xl
  have hg : ∀ g, g ≠ BX → (W.setCell ⟨BX, k, none⟩ u).heap[g]? = W.heap[g]? := fun g hne => heap_set_other W BX k u g hne
  obtain ⟨cs, hr1, hr2⟩ := h.res
  refine ⟨h.src.set BX k u (by omega) (fun j hj => ?_), ⟨h.but.os, h.but.tape, h.but.output, by have := h.but.size; simpa using this, fun i hi hn => (hg i (by omega)).trans (h.but.block i hi hn)⟩, ⟨cs, (hg R (by omega)).trans hr1, hr2⟩, hg⟩
  obtain ⟨blk, off, q1, q2⟩ := h.cb j hj
  exact ⟨blk, off, q1, by omega⟩
theorem holdS_heap {a : Option Addr} {l : List (List UInt8)} (h : HoldS W a l) (hz : W.heap.size ≤ W'.heap.size) (hx : ∀ blk off, a = some ⟨blk, off, none⟩ → W'.heap[blk]? = W.heap[blk]?) : HoldS W' a l := by
  rcases h with h | ⟨g, off, h1, h2, h3⟩
  · exact Or.inl h
  · refine Or.inr ⟨g, off, h1, Nat.lt_of_lt_of_le h2 hz, fun t ht => ?_⟩
    have := h3 t ht
    simp only [World.cell?] at this ⊢
    rw [hx g off h1]
    exact this
theorem own2_heap {base e m : Nat} {v : Value} {xs : List Value} (h : W.ownsRow base e 2 v m xs) (hx : ∀ g, v.ownBlock = some g → W'.heap[g]? = W.heap[g]?) : W'.ownsRow base e 2 v m xs := by
  refine ⟨h.1, ?_⟩
  rcases h.2 with h' | ⟨g, c, cur, rfl, h2, h3, h4⟩
  · exact Or.inl h'
  · exact Or.inr ⟨g, c, cur, rfl, h2, (hx g rfl).trans h3, h4⟩
theorem DA.setS (h : DA w W b ao n cap A R BX fo st ph aS cS stops vY syns lo hi) (a' : Option Addr) (c' : Nat) (l' : List (List UInt8)) (hS : HoldS W a' l') (hb : ∀ blk off, a' = some ⟨blk, off, none⟩ → BX < blk) :
    DA w (W.setCell ⟨BX, 3, none⟩ (.slice a' l'.length c')) b ao n cap A R BX fo st ph a' c' l' vY syns lo hi := by
  obtain ⟨h1, h2, h3, h4⟩ := h.away 3 (.slice a' l'.length c')
  exact ⟨h1, h2, h3, blk_setk h.box 3 _, holdS_heap hS (by simp) (fun blk off e => h4 blk (by have := hb blk off e; omega)), hb, own2_heap h.syn (fun g e => h4 g (by have := (own2_base h.syn g e).1; omega)), h.bl, h.rl, h.xl, h.cb⟩
theorem DA.setLo (h : DA w W b ao n cap A R BX fo st ph aS cS stops vY syns lo hi) (z : Int) : DA w (W.setCell ⟨BX, 5, none⟩ (.int .i64 z)) b ao n cap A R BX fo st ph aS cS stops vY syns z hi := by
  obtain ⟨h1, h2, h3, h4⟩ := h.away 5 (.int .i64 z)
  exact ⟨h1, h2, h3, blk_setk h.box 5 _, holdS_heap h.stp (by simp) (fun blk off e => h4 blk (by have := h.stb blk off e; omega)), h.stb, own2_heap h.syn (fun g e => h4 g (by have := (own2_base h.syn g e).1; omega)), h.bl, h.rl, h.xl, h.cb⟩
theorem DA.setHi (h : DA w W b ao n cap A R BX fo st ph aS cS stops vY syns lo hi) (z : Int) : DA w (W.setCell ⟨BX, 6, none⟩ (.int .i64 z)) b ao n cap A R BX fo st ph aS cS stops vY syns lo z := by
  obtain ⟨h1, h2, h3, h4⟩ := h.away 6 (.int .i64 z)
  exact ⟨h1, h2, h3, blk_setk h.box 6 _, holdS_heap h.stp (by simp) (fun blk off e => h4 blk (by have := h.stb blk off e; omega)), h.stb, own2_heap h.syn (fun g e => h4 g (by have := (own2_base h.syn g e).1; omega)), h.bl, h.rl, h.xl, h.cb⟩
/-- A pair more: the row has grown, the box is told. -/
theorem DA.setY {w3 : World} {vY' : Value} {y : List UInt8 × List UInt8} (h : DA w W b ao n cap A R BX fo st ph aS cS stops vY syns lo hi) (ho : w3.ownsRow (BX + 1) 151 2 vY' (syns ++ [y]).length (yCells (syns ++ [y]))) (hg : W.grownBy w3 vY.ownBlock) (hsb : ∀ blk off, aS = some ⟨blk, off, none⟩ → vY.ownBlock ≠ some blk) :
    DA w (w3.setCell ⟨BX, 4, none⟩ vY') b ao n cap A R BX fo st ph aS cS stops vY' (syns ++ [y]) lo hi := by
  have q1 := h.bl
  have q2 := h.rl
  have q3 := h.xl
  have q4 := h.size
  have hge : ∀ g, vY.ownBlock = some g → BX + 1 ≤ g := fun g e => (own2_base h.syn g e).1
  have hk : ∀ g, g < W.heap.size → g ≠ BX → vY.ownBlock ≠ some g → (w3.setCell ⟨BX, 4, none⟩ vY').heap[g]? = W.heap[g]? := fun g hl hne hv => (heap_set_other w3 BX 4 vY' g hne).trans (hg.block g hl (fun e => hv e.symm))
  have hlow : ∀ g, g < BX → (w3.setCell ⟨BX, 4, none⟩ vY').heap[g]? = W.heap[g]? := fun g hl => hk g (by omega) (by omega) (fun e => by have := hge g e; omega)
  have hbox3 : w3.heap[BX]? = _ := (hg.block BX q4 (fun e => by have := hge BX e.symm; omega)).trans h.box
  obtain ⟨cs, hr1, hr2⟩ := h.res
  have hz : W.heap.size ≤ (w3.setCell ⟨BX, 4, none⟩ vY').heap.size := by have := hg.size; simpa using this
  refine ⟨?_, ⟨hg.os.trans h.but.os, hg.tape.trans h.but.tape, hg.output.trans h.but.output, Nat.le_trans h.but.size hz, fun i hi hn => (hlow i (by omega)).trans (h.but.block i hi hn)⟩, ⟨cs, (hlow R q3).trans hr1, hr2⟩, blk_setk hbox3 4 _, ?_, h.stb, own2_heap ho (fun g e => heap_set_other w3 BX 4 vY' g (by have := (own2_base ho g e).1; omega)), q1, q2, q3, h.cb⟩
  · have hb : But (fun x => vY.ownBlock = some x ∨ x = BX) W (w3.setCell ⟨BX, 4, none⟩ vY') := ⟨hg.os, hg.tape, hg.output, hz, fun g hl hn => hk g hl (fun e => hn (Or.inr e)) (fun e => hn (Or.inl e))⟩
    obtain ⟨a, sd, h1, h2, h3, h4, h5, h6⟩ := h.src
    refine ⟨a, sd, h1, h2, h3, h4, (hlow b (by omega)).trans h5, fun j hj => ?_⟩
    obtain ⟨blk, off, z, r1, r2, r3, r4, r5⟩ := h6 j hj
    obtain ⟨blk', off', e1, e2⟩ := h.cb j hj
    rw [r1] at e1
    cases e1
    refine ⟨blk, off, z, r1, r2, r3, r4, ?_⟩
    simp only [World.cell?] at r5 ⊢
    rw [hlow blk (by omega)]
    exact r5
  · rcases h.stp with h0 | ⟨blk, off, e1, e2, e3⟩
    · exact Or.inl h0
    · exact holdS_heap (Or.inr ⟨blk, off, e1, e2, e3⟩) hz (fun blk' off' e => by
        have hl := h.stb blk' off' e
        have hl2 : blk' < W.heap.size := by rw [e] at e1; cases e1; exact e2
        exact hk blk' hl2 (by omega) (hsb blk' off' e))
end
end Go.Proofs.YtpdiaddgialanaaGreatDoor

namespace Go.Proofs.YtpdiaddgialanaaGreatDoor
open Go Go.RowKit
set_option linter.unusedVariables false

section
variable {ops : Array Oper} {Q : Exit → Act → World → Prop} {S : World → Prop} {md : Region.Mode} {fuel : Nat} {listed : Array Bool} {a : Act} {w : World}
/-- An operation that is wanted, taken in a drawn region. -/
theorem tkW (i : Nat) {oi : Oper} {v : Value} (hi : ops[i]? = some oi := by rfl) (hs : Region.noSelect ops = true := by kernel_rfl) (hf : Region.free md ops listed i = true := by kernel_rfl) (hr : (Region.ready md ops listed).contains i = true := by kernel_rfl)
    (hQ : ∀ c a w, Q (.panic c) (a.put oi.dst v) w → Q (.panic c) a w := by exact fun _ _ _ h => h) (hw : Region.wanted oi (yielded ops a.tmps) = true := by kernel_rfl) (hx : ∀ w, S w → (execOp a.eval oi).run Tryz.prog w = .ok (.value v) w)
    (hS : S w := by assumption) (h : wpAnyH Tryz.prog md ops Q S fuel (listed.setIfInBounds i true) (a.put oi.dst v) w) : wpAnyH Tryz.prog md ops Q S (fuel + 1) listed a w :=
  wpAnyH_take hi hs hf hr hQ (Or.inl ⟨hw, hx⟩) hS h
/-- The same, with the value read off. -/
theorem tkX (i : Nat) {oi : Oper} {v : Value} (hi : ops[i]? = some oi := by rfl) (hs : Region.noSelect ops = true := by kernel_rfl) (hf : Region.free md ops listed i = true := by kernel_rfl) (hr : (Region.ready md ops listed).contains i = true := by kernel_rfl)
    (hQ : ∀ c a w, Q (.panic c) (a.put oi.dst v) w → Q (.panic c) a w := by exact fun _ _ _ h => h) (hw : Region.wanted oi (yielded ops a.tmps) = true := by kernel_rfl) (hx : ∀ w, S w → (execOp a.eval oi).run Tryz.prog w = .ok (.value v) w := by (intro w hSw; (try dsimp only at hSw); go_simp <;> with_reducible rfl))
    (hS : S w := by assumption) (h : wpAnyH Tryz.prog md ops Q S fuel (listed.setIfInBounds i true) (a.put oi.dst v) w) : wpAnyH Tryz.prog md ops Q S (fuel + 1) listed a w :=
  wpAnyH_take hi hs hf hr hQ (Or.inl ⟨hw, hx⟩) hS h
/-- One that is not wanted. -/
theorem tkS (i : Nat) {oi : Oper} (hi : ops[i]? = some oi := by rfl) (hs : Region.noSelect ops = true := by kernel_rfl) (hf : Region.free md ops listed i = true := by kernel_rfl) (hr : (Region.ready md ops listed).contains i = true := by kernel_rfl)
    (hQ : ∀ c a w, Q (.panic c) (a.put oi.dst undef) w → Q (.panic c) a w := by exact fun _ _ _ h => h) (hw : Region.wanted oi (yielded ops a.tmps) = false := by kernel_rfl)
    (hS : S w := by assumption) (h : wpAnyH Tryz.prog md ops Q S fuel (listed.setIfInBounds i true) (a.put oi.dst undef) w) : wpAnyH Tryz.prog md ops Q S (fuel + 1) listed a w :=
  wpAnyH_take hi hs hf hr hQ (Or.inr ⟨hw, rfl⟩) hS h
end
end Go.Proofs.YtpdiaddgialanaaGreatDoor

namespace Go.Proofs.YtpdiaddgialanaaGreatDoor
open Go Go.RowKit
set_option linter.unusedVariables false

/-! The operations of a drawn region, one by one. -/
section
variable {ops : Array Oper} {Q : Exit → Act → World → Prop} {S : World → Prop} {md : Region.Mode} {a : Act} {w : World}
theorem wpAnyH_one (i : Nat) {fuel : Nat} {listed : Array Bool} (hr : Region.ready md ops listed = [i])
    (h : wpOp Tryz.prog ops Q i (fun a' w' => S w' ∧ wpAnyH Tryz.prog md ops Q S fuel (listed.setIfInBounds i true) a' w') a w) : wpAnyH Tryz.prog md ops Q S (fuel + 1) listed a w :=
  wpAnyH_all hr (by simp) (fun j hj => by
    have e : j = i := by simpa using hj
    subst e
    exact h)
theorem wpOp_val {K : Act → World → Prop} {i : Nat} {o : Oper} (v : Value) (w' : World) (hi : ops[i]? = some o) (hw : Region.wanted o (yielded ops a.tmps) = true) (ho : (execOp a.eval o).run Tryz.prog w = .ok (.value v) w')
    (h : K (a.put o.dst v) w') : wpOp Tryz.prog ops Q i K a w := by
  unfold wpOp
  simp only [hi, hw, if_true, Oper.wp, ho, Oper.upon]
  exact .inl h
theorem wpOp_skip {K : Act → World → Prop} {i : Nat} {o : Oper} (w' : World) (hi : ops[i]? = some o) (hw : Region.wanted o (yielded ops a.tmps) = true) (ho : (execOp a.eval o).run Tryz.prog w = .ok .skip w')
    (h : K (a.put o.dst undef) w') : wpOp Tryz.prog ops Q i K a w := by
  unfold wpOp
  simp only [hi, hw, if_true, Oper.wp, ho, Oper.upon]
  exact .inl h
theorem wpOp_wp {K : Act → World → Prop} {i : Nat} {o : Oper} (hi : ops[i]? = some o) (hw : Region.wanted o (yielded ops a.tmps) = true) (h : o.wp Tryz.prog a w K Q) : wpOp Tryz.prog ops Q i K a w := by
  unfold wpOp
  simp only [hi, hw, if_true]
  exact .inl h
end
end Go.Proofs.YtpdiaddgialanaaGreatDoor

namespace Go.Proofs.YtpdiaddgialanaaGreatDoor
open Go Go.RowKit
set_option linter.unusedVariables false
set_option linter.unusedSimpArgs false
set_option maxRecDepth 100000

/-! The operations of the regions that draw, by hand. -/
theorem rbx_loadI (W : World) (ρ : Operand → Value) (o : Oper) (x : Operand) (ho : o.op = .load 3 x) (b off : Nat) (n : Int) (hx : ρ x = .pointer (some ⟨b, off, none⟩)) (h0 : W.cell? ⟨b, off, none⟩ = some (.int .i64 n)) : (execOp ρ o).run Tryz.prog W = .ok (.value (.int .i64 n)) W := by
  unfold execOp
  simp only [ho, Instr.loadAt, Instr.sureAddr, hx, Sem.run_bind, Sem.run_pure, Result.andThen_ok]
  go_simp
theorem rbx_conv (W : World) (ρ : Operand → Value) (o : Oper) (x : Operand) (ho : o.op = .convert 3 5 x) (n : Int) (hw : IntKind.u8.wrap n = n) (hx : ρ x = .int .i64 n) : (execOp ρ o).run Tryz.prog W = .ok (.value (.int .u8 n)) W := by
  unfold execOp
  simp only [ho, hx, Sem.run_bind, Sem.run_pure, Result.andThen_ok]
  go_simp
theorem rbx_build (W : World) (ρ : Operand → Value) (o : Oper) (x : Operand) (ho : o.op = .buildSlice 22 1 #[(0, x)]) (n : Int) (hx : ρ x = .int .u8 n) :
    (execOp ρ o).run Tryz.prog W = .ok (.value (.slice (some ⟨W.heap.size, 0, none⟩) 1 1)) (W.alloc (.cells #[.int .u8 n] 5)) := by
  unfold execOp
  simp only [ho, hx, Sem.run_bind, Sem.run_pure, Result.andThen_ok]
  go_simp
theorem rbx_assign (W : World) (ρ : Operand → Value) (o : Oper) (x : Operand) (ho : o.op = .assign x) (v : Value) (hx : ρ x = v) : (execOp ρ o).run Tryz.prog W = .ok (.value v) W := by
  unfold execOp
  simp only [ho, Sem.run_pure, hx]
theorem rbx_call1 (W : World) (a : Act) (o : Oper) (f : FuncId) (x : Operand) (t : TypeId) (ho : o.op = .call { callee := .value (.func f), args := #[x], argTypes := #[t] }) (v : Value) (hx : a.eval x = v)
    (hf : (callFunc f #[v]).run Tryz.prog W = .ok (.enter f #[v]) W) : (execOp a.eval o).run Tryz.prog W = .ok (.enter f #[v]) W := by
  have hfn : a.eval (.func f) = .func (.func f) #[] #[] := rfl
  unfold execOp
  simp [ho, resolve, invoke, Deferred.ofValue, hfn, hx, hf]
theorem rbx_call2 (W : World) (a : Act) (o : Oper) (f : FuncId) (x y : Operand) (t u : TypeId) (ho : o.op = .call { callee := .value (.func f), args := #[x, y], argTypes := #[t, u] }) (v z : Value) (hx : a.eval x = v) (hy : a.eval y = z)
    (hf : (callFunc f #[v, z]).run Tryz.prog W = .ok (.enter f #[v, z]) W) : (execOp a.eval o).run Tryz.prog W = .ok (.enter f #[v, z]) W := by
  have hfn : a.eval (.func f) = .func (.func f) #[] #[] := rfl
  unfold execOp
  simp [ho, resolve, invoke, Deferred.ofValue, hfn, hx, hy, hf]
section
variable {ops : Array Oper} {Q : Exit → Act → World → Prop} {K : Act → World → Prop} {a : Act} {w : World}
theorem wpOp_call {i : Nat} {o : Oper} (f : FuncId) (args : Array Value) (hi : ops[i]? = some o) (hw : Region.wanted o (yielded ops a.tmps) = true) (ho : (execOp a.eval o).run Tryz.prog w = .ok (.enter f args) w)
    (h : Calls Tryz.prog f args w fun e w' => match e, w' with
      | .returned v, w'' => K (a.put o.dst v) w''
      | .panicked c, w'' => Q (.panic c) a w''
      | .outgrown, _ => LetsOut Q) : wpOp Tryz.prog ops Q i K a w := by
  unfold wpOp
  simp only [hi, hw, if_true, Oper.wp, ho, Oper.upon]
  exact .inl h
end
theorem own_one (w : World) (z : Int) : (w.alloc (.cells #[.int .u8 z] 5)).ownsRow w.heap.size 5 1 (.slice (some ⟨w.heap.size, 0, none⟩) 1 1) 1 [.int .u8 z] := by
  have := World.ownsRow_lit (base := w.heap.size) (e := 5) (size := 1) w #[.int .u8 z] 1 (Nat.le_refl _) (by unfold maxLen; omega) (by simp)
  simpa using this
end Go.Proofs.YtpdiaddgialanaaGreatDoor
