import Derived.Test.YtnhffhopdgnddaaGreatDoorAnalyzeJ09
import Derived.Laws.IdiomCopy
import Derived.Test.YtnhffhopdgnddaaGreatDoorProg
import Derived.Test.YtnhffhopdgnddaaGreatDoorAnalyzeJ00
import Derived.Test.YtnhffhopdgnddaaGreatDoorAnalyzeJ01
import Derived.WalkLawsBesides
namespace Go.Proofs.YtnhffhopdgnddaaGreatDoor
open Go Go.RowKit
set_option linter.unusedVariables false

/-! Rows of tokens that are written in place. -/
/-- All stays but what X names. -/
structure But (X : Nat → Prop) (w w' : World) : Prop where
  os : w'.os = w.os
  tape : w'.tape = w.tape
  output : w'.output = w.output
  size : w.heap.size ≤ w'.heap.size
  block : ∀ b, b < w.heap.size → ¬ X b → w'.heap[b]? = w.heap[b]?
theorem But.refl (X : Nat → Prop) (w : World) : But X w w := ⟨rfl, rfl, rfl, Nat.le_refl _, fun _ _ _ => rfl⟩
theorem But.trans {X Y Z : Nat → Prop} {a b c : World} (h : But X a b) (k : But Y b c) (hx : ∀ i, i < a.heap.size → X i → Z i) (hy : ∀ i, i < a.heap.size → Y i → Z i) : But Z a c :=
  ⟨k.os.trans h.os, k.tape.trans h.tape, k.output.trans h.output, Nat.le_trans h.size k.size, fun i hi hn =>
    (k.block i (Nat.lt_of_lt_of_le hi h.size) fun e => hn (hy i hi e)).trans (h.block i hi fun e => hn (hx i hi e))⟩
theorem But.mono {X Z : Nat → Prop} {a b : World} (h : But X a b) (hx : ∀ i, i < a.heap.size → X i → Z i) : But Z a b :=
  ⟨h.os, h.tape, h.output, h.size, fun i hi hn => h.block i hi fun e => hn (hx i hi e)⟩
theorem But.of_below {X : Nat → Prop} {a b : World} (h : Below a.heap.size a b) : But X a b := ⟨h.os, h.tape, h.output, h.size, fun i hi _ => h.block i hi⟩
theorem But.below {X : Nat → Prop} {n : Nat} {a b : World} (h : But X a b) (hn : n ≤ a.heap.size) (hx : ∀ i, i < n → ¬ X i) : Below n a b :=
  ⟨h.os, h.tape, h.output, h.size, fun i hi => h.block i (by omega) (hx i hi)⟩
theorem But.set {X : Nat → Prop} {a b : World} (h : But X a b) (g k : Nat) (u : Value) (hg : X g) : But X a (b.setCell ⟨g, k, none⟩ u) :=
  ⟨h.os, h.tape, h.output, by simpa using h.size, fun i hi hn => (heap_set_other b g k u i (fun e => hn (e ▸ hg))).trans (h.block i hi hn)⟩
theorem But.alloc {X : Nat → Prop} {a b : World} (h : But X a b) (o : Obj) : But X a (b.alloc o) :=
  ⟨h.os, h.tape, h.output, by have := h.size; simp; omega, fun i hi hn => (Below.heap_alloc b o i (Nat.lt_of_lt_of_le hi h.size)).trans (h.block i hi hn)⟩
theorem But.cell {X : Nat → Prop} {a b : World} (h : But X a b) {p : Addr} (hp : p.block < a.heap.size) (hx : ¬ X p.block) : b.cell? p = a.cell? p := by
  simp only [World.cell?]
  rw [h.block p.block hp hx]
theorem HoldT.but {X : Nat → Prop} {w w' : World} {a : Option Addr} {l : List Tk} (h : HoldT w a l) (hb : But X w w') (hx : ∀ b off, a = some ⟨b, off, none⟩ → ¬ X b) : HoldT w' a l :=
  h.cells hb.size fun b off e hl => hb.block b hl (hx b off e)
theorem HoldS.but {X : Nat → Prop} {w w' : World} {a : Option Addr} {l : List (List UInt8)} (h : HoldS w a l) (hb : But X w w') (hx : ∀ b off, a = some ⟨b, off, none⟩ → ¬ X b) : HoldS w' a l := by
  rcases h with h | ⟨b, off, h1, h2, h3⟩
  · exact Or.inl h
  · exact Or.inr ⟨b, off, h1, Nat.lt_of_lt_of_le h2 hb.size, fun t ht => (hb.cell (p := ⟨b, off + t, none⟩) h2 (hx b off h1)).trans (h3 t ht)⟩
theorem own4_but {X : Nat → Prop} {w w' : World} {base e n : Nat} {v : Value} {xs : List Value} (h : w.ownsRow base e 4 v n xs) (hb : But X w w') (hx : ∀ b, v.ownBlock = some b → ¬ X b) : w'.ownsRow base e 4 v n xs := by
  refine ⟨h.1, ?_⟩
  rcases h.2 with h' | ⟨g, cap, cur, rfl, h2, h3, h4⟩
  · exact Or.inl h'
  · exact Or.inr ⟨g, cap, cur, rfl, h2, (hb.block g (Array.getElem?_eq_some_iff.1 h3).1 (hx g rfl)).trans h3, h4⟩

/-- One cell of an owned row. -/
theorem own4_set {w : World} {base e n g cap : Nat} {xs : List Value} (h : w.ownsRow base e 4 (.slice (some ⟨g, 0, none⟩) n cap) n xs) (k : Nat) (u : Value) (hk : k < n * 4) :
    (w.setCell ⟨g, k, none⟩ u).ownsRow base e 4 (.slice (some ⟨g, 0, none⟩) n cap) n (xs.set k u) := by
  refine ⟨by rw [List.length_set]; exact h.1, ?_⟩
  rcases h.2 with ⟨h', _⟩ | ⟨g', cap', cur, h1, h2, h3, h4, h5, h6, h7⟩
  · cases h'
  · simp only [Value.slice.injEq, Option.some.injEq, Addr.mk.injEq, and_true, true_and] at h1
    obtain ⟨rfl, rfl⟩ := h1
    refine Or.inr ⟨g, cap, cur.setIfInBounds k u, rfl, h2, blk_setk h3 k u, h4, h5, by rw [Array.size_setIfInBounds]; exact h6, ?_⟩
    rw [Array.toList_setIfInBounds, List.take_set, h7]
theorem own4_cut {w : World} {base e n g cap i : Nat} {xs : List Value} (h : w.ownsRow base e 4 (.slice (some ⟨g, 0, none⟩) n cap) n xs) (hi : i ≤ n) :
    w.ownsRow base e 4 (.slice (some ⟨g, 0, none⟩) i cap) i (xs.take (i * 4)) := by
  refine ⟨by rw [List.length_take, h.1]; omega, ?_⟩
  rcases h.2 with ⟨h', _⟩ | ⟨g', cap', cur, h1, h2, h3, h4, h5, h6, h7⟩
  · cases h'
  · simp only [Value.slice.injEq, Option.some.injEq, Addr.mk.injEq, and_true, true_and] at h1
    obtain ⟨rfl, rfl⟩ := h1
    refine Or.inr ⟨g, cap, cur, rfl, h2, h3, by omega, h5, h6, ?_⟩
    rw [← h7, List.take_take, Nat.min_eq_left (by omega)]
theorem own4_cap {w : World} {base e n g cap : Nat} {xs : List Value} (h : w.ownsRow base e 4 (.slice (some ⟨g, 0, none⟩) n cap) n xs) : n ≤ cap ∧ cap ≤ maxLen := by
  rcases h.2 with ⟨h', _⟩ | ⟨g', cap', cur, h1, h2, h3, h4, h5, h6, h7⟩
  · cases h'
  · simp only [Value.slice.injEq, Option.some.injEq, Addr.mk.injEq, and_true, true_and] at h1
    obtain ⟨rfl, rfl⟩ := h1
    exact ⟨h4, h5⟩
theorem own4_frozen {w : World} {base e n g cap : Nat} {xs : List Value} (h : w.ownsRow base e 4 (.slice (some ⟨g, 0, none⟩) n cap) n xs) (k : Nat) : w.frozen? ⟨g, k, none⟩ = false := by
  rcases h.2 with ⟨h', _⟩ | ⟨g', cap', cur, h1, h2, h3, h4, h5, h6, h7⟩
  · cases h'
  · simp only [Value.slice.injEq, Option.some.injEq, Addr.mk.injEq, and_true, true_and] at h1
    obtain ⟨rfl, rfl⟩ := h1
    exact frozen_of_row w g k _ _ h3
theorem toksCells_set (l : List Tk) (k : Nat) (x : Tk) (h : k < l.length) :
    ((((toksCells l).set (k * 4) (.string (bs x.1))).set (k * 4 + 1) (.int .i64 x.2.1)).set (k * 4 + 2) (.int .i64 x.2.2.1)).set (k * 4 + 3) (.int .i64 x.2.2.2) = toksCells (l.set k x) := by
  induction l generalizing k with
  | nil => simp at h
  | cons y t ih =>
    have e : ∀ (z : Tk) (r : List Tk), toksCells (z :: r) = (Value.string (bs z.1)) :: (.int .i64 z.2.1) :: (.int .i64 z.2.2.1) :: (.int .i64 z.2.2.2) :: toksCells r := fun z r => by simp [toksCells, tokCells, bs]
    cases k with
    | zero => simp [e]
    | succ k =>
      rw [List.set_cons_succ, e, e, show (k + 1) * 4 = k * 4 + 4 by omega]
      simp only [show k * 4 + 4 + 1 = k * 4 + 1 + 4 by omega, show k * 4 + 4 + 2 = k * 4 + 2 + 4 by omega, show k * 4 + 4 + 3 = k * 4 + 3 + 4 by omega, List.set_cons_succ]
      rw [ih k (by simpa using h)]
theorem toksCells_text (l : List Tk) (k : Nat) (x : List UInt8) (h : k < l.length) : (toksCells l).set (k * 4) (.string (bs x)) = toksCells (l.set k (x, (l.getD k tk0).2)) := by
  induction l generalizing k with
  | nil => simp at h
  | cons y t ih =>
    have e : ∀ (z : Tk) (r : List Tk), toksCells (z :: r) = (Value.string (bs z.1)) :: (.int .i64 z.2.1) :: (.int .i64 z.2.2.1) :: (.int .i64 z.2.2.2) :: toksCells r := fun z r => by simp [toksCells, tokCells, bs]
    cases k with
    | zero => simp [e]
    | succ k =>
      rw [List.set_cons_succ, e, e, show (k + 1) * 4 = k * 4 + 4 by omega]
      simp only [List.set_cons_succ]
      rw [ih k (by simpa using h)]
      simp
theorem toksCells_take (l : List Tk) (k : Nat) : (toksCells l).take (k * 4) = toksCells (l.take k) := by
  induction l generalizing k with
  | nil => simp [toksCells]
  | cons y t ih =>
    have e : ∀ (z : Tk) (r : List Tk), toksCells (z :: r) = (Value.string (bs z.1)) :: (.int .i64 z.2.1) :: (.int .i64 z.2.2.1) :: (.int .i64 z.2.2.2) :: toksCells r := fun z r => by simp [toksCells, tokCells, bs]
    cases k with
    | zero => simp [toksCells]
    | succ k =>
      rw [List.take_succ_cons, e, e, show (k + 1) * 4 = k * 4 + 4 by omega]
      simp only [List.take_succ_cons]
      rw [ih k]
theorem own4_text {w : World} {base e g cap : Nat} {l : List Tk} (h : w.ownsRow base e 4 (.slice (some ⟨g, 0, none⟩) l.length cap) l.length (toksCells l)) (k : Nat) (x : List UInt8) (hk : k < l.length) :
    (w.setCell ⟨g, k * 4, none⟩ (.string (bs x))).ownsRow base e 4 (.slice (some ⟨g, 0, none⟩) l.length cap) l.length (toksCells (l.set k (x, (l.getD k tk0).2))) := by
  rw [← toksCells_text l k x hk]
  exact own4_set h (k * 4) _ (by omega)
theorem own4_tokset {w : World} {base e g cap : Nat} {l : List Tk} (h : w.ownsRow base e 4 (.slice (some ⟨g, 0, none⟩) l.length cap) l.length (toksCells l)) (k : Nat) (x : Tk) (hk : k < l.length) :
    ((((w.setCell ⟨g, k * 4, none⟩ (.string (bs x.1))).setCell ⟨g, k * 4 + 1, none⟩ (.int .i64 x.2.1)).setCell ⟨g, k * 4 + 2, none⟩ (.int .i64 x.2.2.1)).setCell ⟨g, k * 4 + 3, none⟩ (.int .i64 x.2.2.2)).ownsRow base e 4 (.slice (some ⟨g, 0, none⟩) l.length cap) l.length (toksCells (l.set k x)) := by
  rw [← toksCells_set l k x hk]
  exact own4_set (own4_set (own4_set (own4_set h (k * 4) _ (by omega)) (k * 4 + 1) _ (by omega)) (k * 4 + 2) _ (by omega)) (k * 4 + 3) _ (by omega)
theorem own4_cells {w : World} {base e g cap : Nat} {l : List Tk} (h : w.ownsRow base e 4 (.slice (some ⟨g, 0, none⟩) l.length cap) l.length (toksCells l)) (t : Nat) (ht : t < l.length) :
    w.cell? ⟨g, t * 4, none⟩ = some (.string (bs (l.getD t tk0).1)) ∧ w.cell? ⟨g, t * 4 + 1, none⟩ = some (.int .i64 ((l.getD t tk0).2.1 : Int)) ∧
    w.cell? ⟨g, t * 4 + 2, none⟩ = some (.int .i64 ((l.getD t tk0).2.2.1 : Int)) ∧ w.cell? ⟨g, t * 4 + 3, none⟩ = some (.int .i64 ((l.getD t tk0).2.2.2 : Int)) := by
  obtain ⟨a, c, he, hH, _⟩ := holdT_row h
  simp only [Value.slice.injEq, true_and] at he
  obtain ⟨rfl, rfl⟩ := he
  obtain ⟨b, off, hb, _, hc⟩ := hH.resolve_left (fun h => by rw [h] at ht; simp at ht)
  simp only [Option.some.injEq, Addr.mk.injEq, and_true] at hb
  obtain ⟨rfl, rfl⟩ := hb
  simpa using hc t ht
end Go.Proofs.YtnhffhopdgnddaaGreatDoor

namespace Go.Proofs.YtnhffhopdgnddaaGreatDoor
open Go Go.RowKit
set_option linter.unusedVariables false

set_option maxHeartbeats 400000 in
theorem small_w0 (a : Int) (w : World) (u : a ≤ 64) : Calls Tryz.prog 120 #[.int .i64 a] w fun e w' => e = .returned (.int .i64 (smlZ a)) ∧ w' = w := by
  have HV : Hid (smlZ a = a) := by show _ = _; unfold smlZ; repeat (first | rw [if_pos (by omega)] | rw [if_neg (by omega)])
  have e215 : (a == 215) = false := beq_eq_false_iff_ne.2 (by omega)
  have e930 : (a == 930) = false := beq_eq_false_iff_ne.2 (by omega)
  go_enter Tryz.func120, Tryz.ntmps120
  go_wp2
  go_ret
  rw [HV.out]
  exact ⟨rfl, rfl⟩

set_option maxHeartbeats 400000 in
theorem small_w1 (a : Int) (w : World) (l : 65 ≤ a) (u : a ≤ 90) : Calls Tryz.prog 120 #[.int .i64 a] w fun e w' => e = .returned (.int .i64 (smlZ a)) ∧ w' = w := by
  have HV : Hid (smlZ a = a + 32) := by show _ = _; unfold smlZ; repeat (first | rw [if_pos (by omega)] | rw [if_neg (by omega)])
  have e215 : (a == 215) = false := beq_eq_false_iff_ne.2 (by omega)
  have e930 : (a == 930) = false := beq_eq_false_iff_ne.2 (by omega)
  go_enter Tryz.func120, Tryz.ntmps120
  go_wp2
  go_ret
  rw [HV.out]
  exact ⟨rfl, rfl⟩

set_option maxHeartbeats 400000 in
theorem small_w2 (a : Int) (w : World) (l : 91 ≤ a) (u : a ≤ 191) : Calls Tryz.prog 120 #[.int .i64 a] w fun e w' => e = .returned (.int .i64 (smlZ a)) ∧ w' = w := by
  have HV : Hid (smlZ a = a) := by show _ = _; unfold smlZ; repeat (first | rw [if_pos (by omega)] | rw [if_neg (by omega)])
  have e215 : (a == 215) = false := beq_eq_false_iff_ne.2 (by omega)
  have e930 : (a == 930) = false := beq_eq_false_iff_ne.2 (by omega)
  go_enter Tryz.func120, Tryz.ntmps120
  go_wp2
  go_ret
  rw [HV.out]
  exact ⟨rfl, rfl⟩

set_option maxHeartbeats 400000 in
theorem small_w3 (a : Int) (w : World) (l : 192 ≤ a) (u : a ≤ 214) : Calls Tryz.prog 120 #[.int .i64 a] w fun e w' => e = .returned (.int .i64 (smlZ a)) ∧ w' = w := by
  have HV : Hid (smlZ a = a + 32) := by show _ = _; unfold smlZ; repeat (first | rw [if_pos (by omega)] | rw [if_neg (by omega)])
  have e215 : (a == 215) = false := beq_eq_false_iff_ne.2 (by omega)
  have e930 : (a == 930) = false := beq_eq_false_iff_ne.2 (by omega)
  go_enter Tryz.func120, Tryz.ntmps120
  go_wp2
  go_ret
  rw [HV.out]
  exact ⟨rfl, rfl⟩

set_option maxHeartbeats 400000 in
theorem small_w4 (w : World) : Calls Tryz.prog 120 #[.int .i64 215] w fun e w' => e = .returned (.int .i64 (smlZ 215)) ∧ w' = w := by
  have HV : Hid (smlZ 215 = 215) := by show _ = _; decide
  go_enter Tryz.func120, Tryz.ntmps120
  go_wp2
  go_ret
  rw [HV.out]
  exact ⟨rfl, rfl⟩

set_option maxHeartbeats 400000 in
theorem small_w5 (a : Int) (w : World) (l : 216 ≤ a) (u : a ≤ 222) : Calls Tryz.prog 120 #[.int .i64 a] w fun e w' => e = .returned (.int .i64 (smlZ a)) ∧ w' = w := by
  have HV : Hid (smlZ a = a + 32) := by show _ = _; unfold smlZ; repeat (first | rw [if_pos (by omega)] | rw [if_neg (by omega)])
  have e215 : (a == 215) = false := beq_eq_false_iff_ne.2 (by omega)
  have e930 : (a == 930) = false := beq_eq_false_iff_ne.2 (by omega)
  go_enter Tryz.func120, Tryz.ntmps120
  go_wp2
  go_ret
  rw [HV.out]
  exact ⟨rfl, rfl⟩

set_option maxHeartbeats 400000 in
theorem small_w6 (a : Int) (w : World) (l : 223 ≤ a) (u : a ≤ 912) : Calls Tryz.prog 120 #[.int .i64 a] w fun e w' => e = .returned (.int .i64 (smlZ a)) ∧ w' = w := by
  have HV : Hid (smlZ a = a) := by show _ = _; unfold smlZ; repeat (first | rw [if_pos (by omega)] | rw [if_neg (by omega)])
  have e215 : (a == 215) = false := beq_eq_false_iff_ne.2 (by omega)
  have e930 : (a == 930) = false := beq_eq_false_iff_ne.2 (by omega)
  go_enter Tryz.func120, Tryz.ntmps120
  go_wp2
  go_ret
  rw [HV.out]
  exact ⟨rfl, rfl⟩

set_option maxHeartbeats 400000 in
theorem small_w7 (a : Int) (w : World) (l : 913 ≤ a) (u : a ≤ 929) : Calls Tryz.prog 120 #[.int .i64 a] w fun e w' => e = .returned (.int .i64 (smlZ a)) ∧ w' = w := by
  have HV : Hid (smlZ a = a + 32) := by show _ = _; unfold smlZ; repeat (first | rw [if_pos (by omega)] | rw [if_neg (by omega)])
  have e215 : (a == 215) = false := beq_eq_false_iff_ne.2 (by omega)
  have e930 : (a == 930) = false := beq_eq_false_iff_ne.2 (by omega)
  go_enter Tryz.func120, Tryz.ntmps120
  go_wp2
  go_ret
  rw [HV.out]
  exact ⟨rfl, rfl⟩

set_option maxHeartbeats 400000 in
theorem small_w8 (w : World) : Calls Tryz.prog 120 #[.int .i64 930] w fun e w' => e = .returned (.int .i64 (smlZ 930)) ∧ w' = w := by
  have HV : Hid (smlZ 930 = 930) := by show _ = _; decide
  go_enter Tryz.func120, Tryz.ntmps120
  go_wp2
  go_ret
  rw [HV.out]
  exact ⟨rfl, rfl⟩

set_option maxHeartbeats 400000 in
theorem small_w9 (a : Int) (w : World) (l : 931 ≤ a) (u : a ≤ 939) : Calls Tryz.prog 120 #[.int .i64 a] w fun e w' => e = .returned (.int .i64 (smlZ a)) ∧ w' = w := by
  have HV : Hid (smlZ a = a + 32) := by show _ = _; unfold smlZ; repeat (first | rw [if_pos (by omega)] | rw [if_neg (by omega)])
  have e215 : (a == 215) = false := beq_eq_false_iff_ne.2 (by omega)
  have e930 : (a == 930) = false := beq_eq_false_iff_ne.2 (by omega)
  go_enter Tryz.func120, Tryz.ntmps120
  go_wp2
  go_ret
  rw [HV.out]
  exact ⟨rfl, rfl⟩

set_option maxHeartbeats 400000 in
theorem small_w10 (a : Int) (w : World) (l : 940 ≤ a) (u : a ≤ 1023) : Calls Tryz.prog 120 #[.int .i64 a] w fun e w' => e = .returned (.int .i64 (smlZ a)) ∧ w' = w := by
  have HV : Hid (smlZ a = a) := by show _ = _; unfold smlZ; repeat (first | rw [if_pos (by omega)] | rw [if_neg (by omega)])
  have e215 : (a == 215) = false := beq_eq_false_iff_ne.2 (by omega)
  have e930 : (a == 930) = false := beq_eq_false_iff_ne.2 (by omega)
  go_enter Tryz.func120, Tryz.ntmps120
  go_wp2
  go_ret
  rw [HV.out]
  exact ⟨rfl, rfl⟩

set_option maxHeartbeats 400000 in
theorem small_w11 (a : Int) (w : World) (l : 1024 ≤ a) (u : a ≤ 1039) : Calls Tryz.prog 120 #[.int .i64 a] w fun e w' => e = .returned (.int .i64 (smlZ a)) ∧ w' = w := by
  have HV : Hid (smlZ a = a + 80) := by show _ = _; unfold smlZ; repeat (first | rw [if_pos (by omega)] | rw [if_neg (by omega)])
  have e215 : (a == 215) = false := beq_eq_false_iff_ne.2 (by omega)
  have e930 : (a == 930) = false := beq_eq_false_iff_ne.2 (by omega)
  go_enter Tryz.func120, Tryz.ntmps120
  go_wp2
  go_ret
  rw [HV.out]
  exact ⟨rfl, rfl⟩

set_option maxHeartbeats 400000 in
theorem small_w12 (a : Int) (w : World) (l : 1040 ≤ a) (u : a ≤ 1071) : Calls Tryz.prog 120 #[.int .i64 a] w fun e w' => e = .returned (.int .i64 (smlZ a)) ∧ w' = w := by
  have HV : Hid (smlZ a = a + 32) := by show _ = _; unfold smlZ; repeat (first | rw [if_pos (by omega)] | rw [if_neg (by omega)])
  have e215 : (a == 215) = false := beq_eq_false_iff_ne.2 (by omega)
  have e930 : (a == 930) = false := beq_eq_false_iff_ne.2 (by omega)
  go_enter Tryz.func120, Tryz.ntmps120
  go_wp2
  go_ret
  rw [HV.out]
  exact ⟨rfl, rfl⟩

set_option maxHeartbeats 400000 in
theorem small_w13 (a : Int) (w : World) (l : 1072 ≤ a) : Calls Tryz.prog 120 #[.int .i64 a] w fun e w' => e = .returned (.int .i64 (smlZ a)) ∧ w' = w := by
  have HV : Hid (smlZ a = a) := by show _ = _; unfold smlZ; repeat (first | rw [if_pos (by omega)] | rw [if_neg (by omega)])
  have e215 : (a == 215) = false := beq_eq_false_iff_ne.2 (by omega)
  have e930 : (a == 930) = false := beq_eq_false_iff_ne.2 (by omega)
  go_enter Tryz.func120, Tryz.ntmps120
  go_wp2
  go_ret
  rw [HV.out]
  exact ⟨rfl, rfl⟩

theorem small_any (a : Int) (w : World) : Calls Tryz.prog 120 #[.int .i64 a] w fun e w' => e = .returned (.int .i64 (smlZ a)) ∧ w' = w := by
  by_cases c0 : a < 65
  · exact small_w0 a w (by omega)
  by_cases c1 : a < 91
  · exact small_w1 a w (by omega) (by omega)
  by_cases c2 : a < 192
  · exact small_w2 a w (by omega) (by omega)
  by_cases c3 : a < 215
  · exact small_w3 a w (by omega) (by omega)
  by_cases c4 : a < 216
  · obtain rfl : a = 215 := by omega
    exact small_w4 w
  by_cases c5 : a < 223
  · exact small_w5 a w (by omega) (by omega)
  by_cases c6 : a < 913
  · exact small_w6 a w (by omega) (by omega)
  by_cases c7 : a < 930
  · exact small_w7 a w (by omega) (by omega)
  by_cases c8 : a < 931
  · obtain rfl : a = 930 := by omega
    exact small_w8 w
  by_cases c9 : a < 940
  · exact small_w9 a w (by omega) (by omega)
  by_cases c10 : a < 1024
  · exact small_w10 a w (by omega) (by omega)
  by_cases c11 : a < 1040
  · exact small_w11 a w (by omega) (by omega)
  by_cases c12 : a < 1072
  · exact small_w12 a w (by omega) (by omega)
  exact small_w13 a w (by omega)
end Go.Proofs.YtnhffhopdgnddaaGreatDoor

namespace Go.Proofs.YtnhffhopdgnddaaGreatDoor
open Go Go.RowKit
set_option linter.unusedVariables false

set_option maxHeartbeats 400000 in
theorem accent_w0 (a : Int) (w : World) (u : a ≤ 223) : Calls Tryz.prog 119 #[.int .i64 a] w fun e w' => e = .returned (.int .i64 (accZ a)) ∧ w' = w := by
  have HV : Hid (accZ a = a) := by show _ = _; unfold accZ; repeat (first | rw [if_pos (by omega)] | rw [if_neg (by omega)])
  have e231 : (a == 231) = false := beq_eq_false_iff_ne.2 (by omega)
  have e241 : (a == 241) = false := beq_eq_false_iff_ne.2 (by omega)
  have e248 : (a == 248) = false := beq_eq_false_iff_ne.2 (by omega)
  have e253 : (a == 253) = false := beq_eq_false_iff_ne.2 (by omega)
  have e255 : (a == 255) = false := beq_eq_false_iff_ne.2 (by omega)
  go_enter Tryz.func119, Tryz.ntmps119
  go_wp2
  go_ret
  rw [HV.out]
  exact ⟨rfl, rfl⟩

set_option maxHeartbeats 400000 in
theorem accent_w1 (a : Int) (w : World) (l : 224 ≤ a) (u : a ≤ 229) : Calls Tryz.prog 119 #[.int .i64 a] w fun e w' => e = .returned (.int .i64 (accZ a)) ∧ w' = w := by
  have HV : Hid (accZ a = 97) := by show _ = _; unfold accZ; repeat (first | rw [if_pos (by omega)] | rw [if_neg (by omega)])
  have e231 : (a == 231) = false := beq_eq_false_iff_ne.2 (by omega)
  have e241 : (a == 241) = false := beq_eq_false_iff_ne.2 (by omega)
  have e248 : (a == 248) = false := beq_eq_false_iff_ne.2 (by omega)
  have e253 : (a == 253) = false := beq_eq_false_iff_ne.2 (by omega)
  have e255 : (a == 255) = false := beq_eq_false_iff_ne.2 (by omega)
  go_enter Tryz.func119, Tryz.ntmps119
  go_wp2
  go_ret
  rw [HV.out]
  exact ⟨rfl, rfl⟩

set_option maxHeartbeats 400000 in
theorem accent_w2 (w : World) : Calls Tryz.prog 119 #[.int .i64 230] w fun e w' => e = .returned (.int .i64 (accZ 230)) ∧ w' = w := by
  have HV : Hid (accZ 230 = 230) := by show _ = _; decide
  go_enter Tryz.func119, Tryz.ntmps119
  go_wp2
  go_ret
  rw [HV.out]
  exact ⟨rfl, rfl⟩

set_option maxHeartbeats 400000 in
theorem accent_w3 (w : World) : Calls Tryz.prog 119 #[.int .i64 231] w fun e w' => e = .returned (.int .i64 (accZ 231)) ∧ w' = w := by
  have HV : Hid (accZ 231 = 99) := by show _ = _; decide
  go_enter Tryz.func119, Tryz.ntmps119
  go_wp2
  go_ret
  rw [HV.out]
  exact ⟨rfl, rfl⟩

set_option maxHeartbeats 400000 in
theorem accent_w4 (a : Int) (w : World) (l : 232 ≤ a) (u : a ≤ 235) : Calls Tryz.prog 119 #[.int .i64 a] w fun e w' => e = .returned (.int .i64 (accZ a)) ∧ w' = w := by
  have HV : Hid (accZ a = 101) := by show _ = _; unfold accZ; repeat (first | rw [if_pos (by omega)] | rw [if_neg (by omega)])
  have e231 : (a == 231) = false := beq_eq_false_iff_ne.2 (by omega)
  have e241 : (a == 241) = false := beq_eq_false_iff_ne.2 (by omega)
  have e248 : (a == 248) = false := beq_eq_false_iff_ne.2 (by omega)
  have e253 : (a == 253) = false := beq_eq_false_iff_ne.2 (by omega)
  have e255 : (a == 255) = false := beq_eq_false_iff_ne.2 (by omega)
  go_enter Tryz.func119, Tryz.ntmps119
  go_wp2
  go_ret
  rw [HV.out]
  exact ⟨rfl, rfl⟩

set_option maxHeartbeats 400000 in
theorem accent_w5 (a : Int) (w : World) (l : 236 ≤ a) (u : a ≤ 239) : Calls Tryz.prog 119 #[.int .i64 a] w fun e w' => e = .returned (.int .i64 (accZ a)) ∧ w' = w := by
  have HV : Hid (accZ a = 105) := by show _ = _; unfold accZ; repeat (first | rw [if_pos (by omega)] | rw [if_neg (by omega)])
  have e231 : (a == 231) = false := beq_eq_false_iff_ne.2 (by omega)
  have e241 : (a == 241) = false := beq_eq_false_iff_ne.2 (by omega)
  have e248 : (a == 248) = false := beq_eq_false_iff_ne.2 (by omega)
  have e253 : (a == 253) = false := beq_eq_false_iff_ne.2 (by omega)
  have e255 : (a == 255) = false := beq_eq_false_iff_ne.2 (by omega)
  go_enter Tryz.func119, Tryz.ntmps119
  go_wp2
  go_ret
  rw [HV.out]
  exact ⟨rfl, rfl⟩

set_option maxHeartbeats 400000 in
theorem accent_w6 (w : World) : Calls Tryz.prog 119 #[.int .i64 240] w fun e w' => e = .returned (.int .i64 (accZ 240)) ∧ w' = w := by
  have HV : Hid (accZ 240 = 240) := by show _ = _; decide
  go_enter Tryz.func119, Tryz.ntmps119
  go_wp2
  go_ret
  rw [HV.out]
  exact ⟨rfl, rfl⟩

set_option maxHeartbeats 400000 in
theorem accent_w7 (w : World) : Calls Tryz.prog 119 #[.int .i64 241] w fun e w' => e = .returned (.int .i64 (accZ 241)) ∧ w' = w := by
  have HV : Hid (accZ 241 = 110) := by show _ = _; decide
  go_enter Tryz.func119, Tryz.ntmps119
  go_wp2
  go_ret
  rw [HV.out]
  exact ⟨rfl, rfl⟩

set_option maxHeartbeats 400000 in
theorem accent_w8 (a : Int) (w : World) (l : 242 ≤ a) (u : a ≤ 246) : Calls Tryz.prog 119 #[.int .i64 a] w fun e w' => e = .returned (.int .i64 (accZ a)) ∧ w' = w := by
  have HV : Hid (accZ a = 111) := by show _ = _; unfold accZ; repeat (first | rw [if_pos (by omega)] | rw [if_neg (by omega)])
  have e231 : (a == 231) = false := beq_eq_false_iff_ne.2 (by omega)
  have e241 : (a == 241) = false := beq_eq_false_iff_ne.2 (by omega)
  have e248 : (a == 248) = false := beq_eq_false_iff_ne.2 (by omega)
  have e253 : (a == 253) = false := beq_eq_false_iff_ne.2 (by omega)
  have e255 : (a == 255) = false := beq_eq_false_iff_ne.2 (by omega)
  go_enter Tryz.func119, Tryz.ntmps119
  go_wp2
  go_ret
  rw [HV.out]
  exact ⟨rfl, rfl⟩

set_option maxHeartbeats 400000 in
theorem accent_w9 (w : World) : Calls Tryz.prog 119 #[.int .i64 247] w fun e w' => e = .returned (.int .i64 (accZ 247)) ∧ w' = w := by
  have HV : Hid (accZ 247 = 247) := by show _ = _; decide
  go_enter Tryz.func119, Tryz.ntmps119
  go_wp2
  go_ret
  rw [HV.out]
  exact ⟨rfl, rfl⟩

set_option maxHeartbeats 400000 in
theorem accent_w10 (w : World) : Calls Tryz.prog 119 #[.int .i64 248] w fun e w' => e = .returned (.int .i64 (accZ 248)) ∧ w' = w := by
  have HV : Hid (accZ 248 = 111) := by show _ = _; decide
  go_enter Tryz.func119, Tryz.ntmps119
  go_wp2
  go_ret
  rw [HV.out]
  exact ⟨rfl, rfl⟩

set_option maxHeartbeats 400000 in
theorem accent_w11 (a : Int) (w : World) (l : 249 ≤ a) (u : a ≤ 252) : Calls Tryz.prog 119 #[.int .i64 a] w fun e w' => e = .returned (.int .i64 (accZ a)) ∧ w' = w := by
  have HV : Hid (accZ a = 117) := by show _ = _; unfold accZ; repeat (first | rw [if_pos (by omega)] | rw [if_neg (by omega)])
  have e231 : (a == 231) = false := beq_eq_false_iff_ne.2 (by omega)
  have e241 : (a == 241) = false := beq_eq_false_iff_ne.2 (by omega)
  have e248 : (a == 248) = false := beq_eq_false_iff_ne.2 (by omega)
  have e253 : (a == 253) = false := beq_eq_false_iff_ne.2 (by omega)
  have e255 : (a == 255) = false := beq_eq_false_iff_ne.2 (by omega)
  go_enter Tryz.func119, Tryz.ntmps119
  go_wp2
  go_ret
  rw [HV.out]
  exact ⟨rfl, rfl⟩

set_option maxHeartbeats 400000 in
theorem accent_w12 (w : World) : Calls Tryz.prog 119 #[.int .i64 253] w fun e w' => e = .returned (.int .i64 (accZ 253)) ∧ w' = w := by
  have HV : Hid (accZ 253 = 121) := by show _ = _; decide
  go_enter Tryz.func119, Tryz.ntmps119
  go_wp2
  go_ret
  rw [HV.out]
  exact ⟨rfl, rfl⟩

set_option maxHeartbeats 400000 in
theorem accent_w13 (w : World) : Calls Tryz.prog 119 #[.int .i64 254] w fun e w' => e = .returned (.int .i64 (accZ 254)) ∧ w' = w := by
  have HV : Hid (accZ 254 = 254) := by show _ = _; decide
  go_enter Tryz.func119, Tryz.ntmps119
  go_wp2
  go_ret
  rw [HV.out]
  exact ⟨rfl, rfl⟩

set_option maxHeartbeats 400000 in
theorem accent_w14 (w : World) : Calls Tryz.prog 119 #[.int .i64 255] w fun e w' => e = .returned (.int .i64 (accZ 255)) ∧ w' = w := by
  have HV : Hid (accZ 255 = 121) := by show _ = _; decide
  go_enter Tryz.func119, Tryz.ntmps119
  go_wp2
  go_ret
  rw [HV.out]
  exact ⟨rfl, rfl⟩

set_option maxHeartbeats 400000 in
theorem accent_w15 (a : Int) (w : World) (l : 256 ≤ a) : Calls Tryz.prog 119 #[.int .i64 a] w fun e w' => e = .returned (.int .i64 (accZ a)) ∧ w' = w := by
  have HV : Hid (accZ a = a) := by show _ = _; unfold accZ; repeat (first | rw [if_pos (by omega)] | rw [if_neg (by omega)])
  have e231 : (a == 231) = false := beq_eq_false_iff_ne.2 (by omega)
  have e241 : (a == 241) = false := beq_eq_false_iff_ne.2 (by omega)
  have e248 : (a == 248) = false := beq_eq_false_iff_ne.2 (by omega)
  have e253 : (a == 253) = false := beq_eq_false_iff_ne.2 (by omega)
  have e255 : (a == 255) = false := beq_eq_false_iff_ne.2 (by omega)
  go_enter Tryz.func119, Tryz.ntmps119
  go_wp2
  go_ret
  rw [HV.out]
  exact ⟨rfl, rfl⟩

theorem accent_any (a : Int) (w : World) : Calls Tryz.prog 119 #[.int .i64 a] w fun e w' => e = .returned (.int .i64 (accZ a)) ∧ w' = w := by
  by_cases c0 : a < 224
  · exact accent_w0 a w (by omega)
  by_cases c1 : a < 230
  · exact accent_w1 a w (by omega) (by omega)
  by_cases c2 : a < 231
  · obtain rfl : a = 230 := by omega
    exact accent_w2 w
  by_cases c3 : a < 232
  · obtain rfl : a = 231 := by omega
    exact accent_w3 w
  by_cases c4 : a < 236
  · exact accent_w4 a w (by omega) (by omega)
  by_cases c5 : a < 240
  · exact accent_w5 a w (by omega) (by omega)
  by_cases c6 : a < 241
  · obtain rfl : a = 240 := by omega
    exact accent_w6 w
  by_cases c7 : a < 242
  · obtain rfl : a = 241 := by omega
    exact accent_w7 w
  by_cases c8 : a < 247
  · exact accent_w8 a w (by omega) (by omega)
  by_cases c9 : a < 248
  · obtain rfl : a = 247 := by omega
    exact accent_w9 w
  by_cases c10 : a < 249
  · obtain rfl : a = 248 := by omega
    exact accent_w10 w
  by_cases c11 : a < 253
  · exact accent_w11 a w (by omega) (by omega)
  by_cases c12 : a < 254
  · obtain rfl : a = 253 := by omega
    exact accent_w12 w
  by_cases c13 : a < 255
  · obtain rfl : a = 254 := by omega
    exact accent_w13 w
  by_cases c14 : a < 256
  · obtain rfl : a = 255 := by omega
    exact accent_w14 w
  exact accent_w15 a w (by omega)
end Go.Proofs.YtnhffhopdgnddaaGreatDoor

namespace Go.Proofs.YtnhffhopdgnddaaGreatDoor
open Go Go.RowKit
set_option maxHeartbeats 400000 in
theorem implFold_any (a : Int) (w : World) : Calls Tryz.prog 103 #[.int .i64 a] w fun e w' => e = .returned (.int .i64 (foldZ a)) ∧ w' = w := by
  unfold foldZ
  go_enter Tryz.func103, Tryz.ntmps103
  go_wp2_with fail
  refine (small_any _ _).mono ?_
  rintro e w1 ⟨rfl, rfl⟩
  go_wp2_with fail
  refine (accent_any _ _).mono ?_
  rintro e w1 ⟨rfl, rfl⟩
  go_wp2
  go_ret
  exact ⟨rfl, rfl⟩
end Go.Proofs.YtnhffhopdgnddaaGreatDoor
