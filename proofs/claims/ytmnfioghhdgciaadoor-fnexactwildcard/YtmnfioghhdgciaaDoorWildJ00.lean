import Derived.Lib.RuneBytes
import Derived.Lib.Small
import Derived.WalkKit
import Derived.Lib.OthersKept
import Derived.Deep.Draws
import Derived.Test.YtmnfioghhdgciaaDoorProg
import Derived.Handy
import Derived.WalkLawsBesides
import Derived.WalkSpells
import Derived.BigQuiet
import Derived.Deep.QuietTactic
import Derived.BigRegion
import Derived.Deep.Heap
import Derived.Deep.CutBlock
import Derived.Deep.RegionWith
import Derived.OrdersHeld
import Derived.ProofKit
import Derived.Deep.AppendLies
import Derived.Deep.RegionLaw
import Derived.Deep.DeepCutAuto
namespace Go.Proofs.YtmnfioghhdgciaaDoor
open Go

def chr (r : Int) : Bool := decide (0 ≤ r ∧ r ≤ 1114111 ∧ (r < 55296 ∨ 57343 < r))
theorem chr_iff (r : Int) : chr r = true ↔ (0 ≤ r ∧ r ≤ 1114111 ∧ (r < 55296 ∨ 57343 < r)) := by simp [chr]
theorem chr_not (r : Int) : chr r = false ↔ ¬ (0 ≤ r ∧ r ≤ 1114111 ∧ (r < 55296 ∨ 57343 < r)) := by simp [chr]
end Go.Proofs.YtmnfioghhdgciaaDoor

namespace Go.Proofs.YtmnfioghhdgciaaDoor
open Go Go.RowKit
theorem hidd {p : Prop} (h : p) : Hid p := h
theorem add_head (g j : Nat) : (⟨g, 0, none⟩ : Addr).add j = ⟨g, j, none⟩ := by
  unfold Addr.add
  by_cases h : j = 0
  · subst h; simp
  · simp [h]
theorem own_lt {w : World} {base e g n cap : Nat} {xs : List Value} (h : w.ownsRow base e 1 (.slice (some ⟨g, 0, none⟩) n cap) n xs) : g < w.heap.size := by
  rcases h.2 with ⟨h', _⟩ | ⟨g', cap', cur, h', _, hg, _⟩
  · simp at h'
  · simp only [Value.slice.injEq, Option.some.injEq, Addr.mk.injEq, and_true, true_and] at h'
    obtain ⟨rfl, rfl⟩ := h'
    exact (Array.getElem?_eq_some_iff.1 hg).1
theorem cell_lt {w : World} {b off : Nat} {v : Value} (h : w.cell? ⟨b, off, none⟩ = some v) : b < w.heap.size := by
  by_cases hb : b < w.heap.size
  · exact hb
  · have : w.heap[b]? = none := Array.getElem?_eq_none (by omega)
    simp [World.cell?, this] at h
theorem own_cells {w : World} {base e g n cap : Nat} {zs : List Int} (h : w.ownsRow base e 1 (.slice (some ⟨g, 0, none⟩) n cap) n (zs.map (Value.int .i64))) (hl : zs.length = n) :
    ∀ t, t < n → w.cell? ⟨g, 0 + t, none⟩ = some (.int .i64 (zs.getD t 0)) := by
  intro t ht
  rw [Nat.zero_add, h.cellAt t (by omega)]
  simp [hl, ht]
theorem own_below {w w' : World} {base e n : Nat} {v : Value} {xs : List Value} (h : w.ownsRow base e 1 v n xs) (hb : Below w.heap.size w w') : w'.ownsRow base e 1 v n xs := by
  refine ⟨h.1, ?_⟩
  rcases h.2 with h' | ⟨g, cap, cur, h1, h2, h3, h4⟩
  · exact Or.inl h'
  · exact Or.inr ⟨g, cap, cur, h1, h2, by rw [hb.block g (Array.getElem?_eq_some_iff.1 h3).1]; exact h3, h4⟩
end Go.Proofs.YtmnfioghhdgciaaDoor

namespace Go.Proofs.YtmnfioghhdgciaaDoor
open Go Go.RowKit
set_option linter.unusedVariables false

theorem own_cases {w : World} {base e n : Nat} {v : Value} {xs : List Value} (h : w.ownsRow base e 1 v n xs) :
    (v = .slice none 0 0 ∧ n = 0) ∨ ∃ g cap, v = .slice (some ⟨g, 0, none⟩) n cap ∧ base ≤ g ∧ g < w.heap.size := by
  rcases h.2 with ⟨h1, h2⟩ | ⟨g, cap, cur, h1, hb, hg, _⟩
  · exact Or.inl ⟨h1, h2⟩
  · exact Or.inr ⟨g, cap, h1, hb, (Array.getElem?_eq_some_iff.1 hg).1⟩
theorem own_drewN {w : World} {base e n : Nat} {v : Value} {xs : List Value} (h : w.ownsRow base e 1 v n xs) : ∀ m, (w.drewN m).ownsRow base e 1 v n xs
  | 0 => h
  | m + 1 => (own_drewN h m).drew
theorem own_empty (w : World) (e : TypeId) : (w.alloc (.cells #[] e)).ownsRow w.heap.size e 1 (.slice (some ⟨w.heap.size, 0, none⟩) 0 0) 0 [] := by
  have := World.ownsRow_lit (base := w.heap.size) (e := e) (size := 1) w #[] 0 (Nat.le_refl _) (by unfold maxLen; omega) (by simp)
  simpa using this
theorem own_mono {w : World} {base base' e n : Nat} {v : Value} {xs : List Value} (h : w.ownsRow base e 1 v n xs) (hb : base' ≤ base) : w.ownsRow base' e 1 v n xs := by
  refine ⟨h.1, ?_⟩
  rcases h.2 with h' | ⟨g, cap, cur, h1, h2, h3⟩
  · exact Or.inl h'
  · exact Or.inr ⟨g, cap, cur, h1, Nat.le_trans hb h2, h3⟩
theorem own_block {w : World} {base e n : Nat} {v : Value} {xs : List Value} (h : w.ownsRow base e 1 v n xs) : ∀ k, v.ownBlock = some k → base ≤ k := by
  intro k hk
  rcases own_cases h with ⟨rfl, _⟩ | ⟨g, cap, rfl, hb, _⟩
  · cases hk
  · cases hk; exact hb
theorem own_iterAt {w : World} {base e n k p : Nat} {s : ByteArray} {v : Value} {xs : List Value} (h : w.ownsRow base e 1 v n xs) (hk : w.heap[k]? = some (.stringIter s p)) (p' : Nat) : (w.iterAt k s p').ownsRow base e 1 v n xs := by
  refine ⟨h.1, ?_⟩
  rcases h.2 with h' | ⟨g, cap, cur, h1, h2, h3, h4⟩
  · exact Or.inl h'
  · refine Or.inr ⟨g, cap, cur, h1, h2, ?_, h4⟩
    have hne : g ≠ k := by intro e; subst e; rw [hk] at h3; cases h3
    rw [Lib.iterAt_other w k g s p' hne]
    exact h3
theorem own_ne_iter {w : World} {base e n k p : Nat} {s : ByteArray} {v : Value} {xs : List Value} (h : w.ownsRow base e 1 v n xs) (hk : w.heap[k]? = some (.stringIter s p)) : some k ≠ v.ownBlock := by
  intro hb
  rcases h.2 with ⟨rfl, _⟩ | ⟨g, cap, cur, rfl, h2, h3, h4⟩
  · cases hb
  · have e : k = g := Option.some.inj hb
    subst e
    rw [hk] at h3
    cases h3
end Go.Proofs.YtmnfioghhdgciaaDoor

namespace Go.Proofs.YtmnfioghhdgciaaDoor
open Go Go.RowKit
set_option linter.unusedVariables false
set_option maxRecDepth 100000

theorem blkc {w : World} {b : Nat} {cs : Array Value} {t : TypeId} (h : w.heap[b]? = some (.cells cs t)) (k : Nat) : w.cell? ⟨b, k, none⟩ = cs[k]? := by
  simp [World.cell?, h]
theorem blko {w w' : World} {b : Nat} {o : Obj} (h : w.heap[b]? = some o) (hb : Below w.heap.size w w') : w'.heap[b]? = some o := (hb.block b (Array.getElem?_eq_some_iff.1 h).1).trans h
theorem blkf {w : World} {b : Nat} {cs : Array Value} {t : TypeId} (h : w.heap[b]? = some (.cells cs t)) (k : Nat) : w.frozen? ⟨b, k, none⟩ = false := by
  simp [World.frozen?, h]
theorem box_two (w : World) (o1 o2 : Obj) : ((w.alloc o1).alloc o2).heap[w.heap.size]? = some o1 ∧ ((w.alloc o1).alloc o2).heap[w.heap.size + 1]? = some o2 := by
  refine ⟨?_, ?_⟩
  · rw [Below.heap_alloc _ _ _ (by simp)]; exact heap_alloc_new _ _
  · have := heap_alloc_new (w.alloc o1) o2
    rw [World.size_alloc] at this
    exact this
theorem heap_set_other (w : World) (b k : Nat) (u : Value) (x : Nat) (hx : x ≠ b) : (w.setCell ⟨b, k, none⟩ u).heap[x]? = w.heap[x]? := heap_setCell_other w ⟨b, k, none⟩ x u hx
theorem blk_setk {w : World} {b : Nat} {cs : Array Value} {t : TypeId} (h : w.heap[b]? = some (.cells cs t)) (k : Nat) (u : Value) : (w.setCell ⟨b, k, none⟩ u).heap[b]? = some (.cells (cs.setIfInBounds k u) t) := by
  obtain ⟨hlt, hk⟩ := Array.getElem?_eq_some_iff.1 h
  show (w.heap.modify b _)[b]? = _
  rw [Array.getElem?_eq_getElem (by rw [Array.size_modify]; exact hlt), Array.getElem_modify_self, hk]
  rfl
theorem blk_ne {w : World} {a b : Nat} {c1 c2 : Array Value} {t1 t2 : TypeId} (h1 : w.heap[a]? = some (Obj.cells c1 t1)) (h2 : w.heap[b]? = some (Obj.cells c2 t2)) (hne : t1 ≠ t2) : a ≠ b := by
  rintro rfl
  rw [h1] at h2
  simp only [Option.some.injEq, Obj.cells.injEq] at h2
  exact hne h2.2.1
theorem own_congr {w w' : World} {base e size n : Nat} {v : Value} {xs : List Value} (h : w.ownsRow base e size v n xs) (hb : ∀ b, v.ownBlock = some b → w'.heap[b]? = w.heap[b]?) : w'.ownsRow base e size v n xs := by
  refine ⟨h.1, ?_⟩
  rcases h.2 with h' | ⟨g, cap, cur, rfl, h2, h3, h4⟩
  · exact Or.inl h'
  · exact Or.inr ⟨g, cap, cur, rfl, h2, by rw [hb g rfl]; exact h3, h4⟩
theorem own_blk {w : World} {base e size n : Nat} {v : Value} {xs : List Value} (h : w.ownsRow base e size v n xs) {b : Nat} (hb : v.ownBlock = some b) : base ≤ b ∧ ∃ cur, w.heap[b]? = some (.cells cur e) := by
  rcases h.2 with ⟨h', _⟩ | ⟨g, cap, cur, rfl, h2, h3, _⟩
  · rw [h'] at hb; cases hb
  · cases hb; exact ⟨h2, cur, h3⟩
end Go.Proofs.YtmnfioghhdgciaaDoor

namespace Go.Proofs.YtmnfioghhdgciaaDoor
open Go Go.RowKit
set_option linter.unusedVariables false

/-! All stays but what X names (as AnT has it, without the tokens). -/
structure But (X : Nat → Prop) (w w' : World) : Prop where
  os : w'.os = w.os
  tape : w'.tape = w.tape
  output : w'.output = w.output
  size : w.heap.size ≤ w'.heap.size
  block : ∀ b, b < w.heap.size → ¬ X b → w'.heap[b]? = w.heap[b]?
theorem But.refl (X : Nat → Prop) (w : World) : But X w w := ⟨rfl, rfl, rfl, Nat.le_refl _, fun _ _ _ => rfl⟩
theorem But.trans {X Y Z : Nat → Prop} {a b c : World} (h : But X a b) (k : But Y b c) (hx : ∀ i, i < a.heap.size → X i → Z i) (hy : ∀ i, i < a.heap.size → Y i → Z i) : But Z a c :=
  ⟨k.os.trans h.os, k.tape.trans h.tape, k.output.trans h.output, Nat.le_trans h.size k.size, fun i hi hn =>
    (k.block i (Nat.lt_of_lt_of_le hi h.size) fun e => hn (hy i hi e)).trans (h.block i hi fun e => hn (hx i hi e))⟩
theorem But.mono {X Z : Nat → Prop} {a b : World} (h : But X a b) (hx : ∀ i, i < a.heap.size → X i → Z i) : But Z a b :=
  ⟨h.os, h.tape, h.output, h.size, fun i hi hn => h.block i hi fun e => hn (hx i hi e)⟩
theorem But.of_below {X : Nat → Prop} {a b : World} (h : Below a.heap.size a b) : But X a b := ⟨h.os, h.tape, h.output, h.size, fun i hi _ => h.block i hi⟩
theorem But.below {X : Nat → Prop} {n : Nat} {a b : World} (h : But X a b) (hn : n ≤ a.heap.size) (hx : ∀ i, i < n → ¬ X i) : Below n a b :=
  ⟨h.os, h.tape, h.output, h.size, fun i hi => h.block i (by omega) (hx i hi)⟩
theorem But.set {X : Nat → Prop} {a b : World} (h : But X a b) (g k : Nat) (u : Value) (hg : X g) : But X a (b.setCell ⟨g, k, none⟩ u) :=
  ⟨h.os, h.tape, h.output, by simpa using h.size, fun i hi hn => (heap_set_other b g k u i (fun e => hn (e ▸ hg))).trans (h.block i hi hn)⟩
theorem But.alloc {X : Nat → Prop} {a b : World} (h : But X a b) (o : Obj) : But X a (b.alloc o) :=
  ⟨h.os, h.tape, h.output, by have := h.size; simp; omega, fun i hi hn => (Below.heap_alloc b o i (Nat.lt_of_lt_of_le hi h.size)).trans (h.block i hi hn)⟩
theorem But.drewN {X : Nat → Prop} {a b : World} (h : But X a b) (q : Nat) : But X a (b.drewN q) :=
  ⟨h.os, h.tape, h.output, h.size, fun i hi hn => h.block i hi hn⟩
theorem But.cell {X : Nat → Prop} {a b : World} (h : But X a b) {p : Addr} (hp : p.block < a.heap.size) (hx : ¬ X p.block) : b.cell? p = a.cell? p := by
  simp only [World.cell?]
  rw [h.block p.block hp hx]
end Go.Proofs.YtmnfioghhdgciaaDoor

namespace Go.Proofs.YtmnfioghhdgciaaDoor
open Go Go.RowKit
set_option linter.unusedVariables false

section
variable {ops : Array Oper} {Q : Exit → Act → World → Prop} {S : World → Prop} {md : Region.Mode} {fuel : Nat} {listed : Array Bool} {a : Act} {w : World}
/-- The same, with the value read off. -/
theorem tkX (i : Nat) {oi : Oper} {v : Value} (hi : ops[i]? = some oi := by rfl) (hs : Region.noSelect ops = true := by kernel_rfl) (hf : Region.free md ops listed i = true := by kernel_rfl) (hr : (Region.ready md ops listed).contains i = true := by kernel_rfl)
    (hQ : ∀ c a w, Q (.panic c) (a.put oi.dst v) w → Q (.panic c) a w := by exact fun _ _ _ h => h) (hw : Region.wanted oi (yielded ops a.tmps) = true := by kernel_rfl) (hx : ∀ w, S w → (execOp a.eval oi).run Tryd.prog w = .ok (.value v) w := by (intro w hSw; (try dsimp only at hSw); go_simp <;> with_reducible rfl))
    (hS : S w := by assumption) (h : wpAnyH Tryd.prog md ops Q S fuel (listed.setIfInBounds i true) (a.put oi.dst v) w) : wpAnyH Tryd.prog md ops Q S (fuel + 1) listed a w :=
  wpAnyH_take hi hs hf hr hQ (Or.inl ⟨hw, hx⟩) hS h
/-- One that is not wanted. -/
theorem tkS (i : Nat) {oi : Oper} (hi : ops[i]? = some oi := by rfl) (hs : Region.noSelect ops = true := by kernel_rfl) (hf : Region.free md ops listed i = true := by kernel_rfl) (hr : (Region.ready md ops listed).contains i = true := by kernel_rfl)
    (hQ : ∀ c a w, Q (.panic c) (a.put oi.dst undef) w → Q (.panic c) a w := by exact fun _ _ _ h => h) (hw : Region.wanted oi (yielded ops a.tmps) = false := by kernel_rfl)
    (hS : S w := by assumption) (h : wpAnyH Tryd.prog md ops Q S fuel (listed.setIfInBounds i true) (a.put oi.dst undef) w) : wpAnyH Tryd.prog md ops Q S (fuel + 1) listed a w :=
  wpAnyH_take hi hs hf hr hQ (Or.inr ⟨hw, rfl⟩) hS h
end
end Go.Proofs.YtmnfioghhdgciaaDoor

namespace Go.Proofs.YtmnfioghhdgciaaDoor
open Go Go.RowKit
set_option linter.unusedVariables false

/-! The operations of a drawn region, one by one. -/
section
variable {ops : Array Oper} {Q : Exit → Act → World → Prop} {S : World → Prop} {md : Region.Mode} {a : Act} {w : World}
theorem wpAnyH_one (i : Nat) {fuel : Nat} {listed : Array Bool} (hr : Region.ready md ops listed = [i])
    (h : wpOp Tryd.prog ops Q i (fun a' w' => S w' ∧ wpAnyH Tryd.prog md ops Q S fuel (listed.setIfInBounds i true) a' w') a w) : wpAnyH Tryd.prog md ops Q S (fuel + 1) listed a w :=
  wpAnyH_all hr (by simp) (fun j hj => by
    have e : j = i := by simpa using hj
    subst e
    exact h)
theorem wpAnyH_two (i j : Nat) {fuel : Nat} {listed : Array Bool} (hr : Region.ready md ops listed = [i, j])
    (h1 : wpOp Tryd.prog ops Q i (fun a' w' => S w' ∧ wpAnyH Tryd.prog md ops Q S fuel (listed.setIfInBounds i true) a' w') a w)
    (h2 : wpOp Tryd.prog ops Q j (fun a' w' => S w' ∧ wpAnyH Tryd.prog md ops Q S fuel (listed.setIfInBounds j true) a' w') a w) : wpAnyH Tryd.prog md ops Q S (fuel + 1) listed a w :=
  wpAnyH_all hr (by simp) (fun k hk => by
    have e : k = i ∨ k = j := by simpa using hk
    rcases e with rfl | rfl
    · exact h1
    · exact h2)
theorem wpOp_val {K : Act → World → Prop} {i : Nat} {o : Oper} (v : Value) (w' : World) (hi : ops[i]? = some o) (hw : Region.wanted o (yielded ops a.tmps) = true) (ho : (execOp a.eval o).run Tryd.prog w = .ok (.value v) w')
    (h : K (a.put o.dst v) w') : wpOp Tryd.prog ops Q i K a w := by
  unfold wpOp
  simp only [hi, hw, if_true, Oper.wp, ho, Oper.upon]
  exact .inl h
theorem wpOp_skip {K : Act → World → Prop} {i : Nat} {o : Oper} (w' : World) (hi : ops[i]? = some o) (hw : Region.wanted o (yielded ops a.tmps) = true) (ho : (execOp a.eval o).run Tryd.prog w = .ok .skip w')
    (h : K (a.put o.dst undef) w') : wpOp Tryd.prog ops Q i K a w := by
  unfold wpOp
  simp only [hi, hw, if_true, Oper.wp, ho, Oper.upon]
  exact .inl h
theorem wpOp_wp {K : Act → World → Prop} {i : Nat} {o : Oper} (hi : ops[i]? = some o) (hw : Region.wanted o (yielded ops a.tmps) = true) (h : o.wp Tryd.prog a w K Q) : wpOp Tryd.prog ops Q i K a w := by
  unfold wpOp
  simp only [hi, hw, if_true]
  exact .inl h
end
end Go.Proofs.YtmnfioghhdgciaaDoor

namespace Go.Proofs.YtmnfioghhdgciaaDoor
open Go Go.RowKit
set_option linter.unusedVariables false

/-! Rows of ints, as values and as a walk has them. -/
def zI (l : List Int) : List Value := l.map (Value.int .i64)
theorem zI_snoc (l : List Int) (x : Int) : zI (l ++ [x]) = zI l ++ [.int .i64 x] := by simp [zI]
theorem zI_app (l k : List Int) : zI (l ++ k) = zI l ++ zI k := by simp [zI]
theorem zI_len (l : List Int) : (zI l).length = l.length := by simp [zI]
def nat2 (l : List Nat) : List Int := l.map fun (x : Nat) => (x : Int)
theorem nat2_len (l : List Nat) : (nat2 l).length = l.length := by simp [nat2]
theorem nat2_app (l k : List Nat) : nat2 (l ++ k) = nat2 l ++ nat2 k := by simp [nat2]
theorem nat2_at (l : List Nat) (i : Nat) (h : i < l.length) : (nat2 l).getD i 0 = ((l.getD i 0 : Nat) : Int) := by
  simp [nat2, h]
theorem nat2_inj {l k : List Nat} (h : nat2 l = nat2 k) : l = k := by
  have : (nat2 l).map Int.toNat = (nat2 k).map Int.toNat := by rw [h]
  simpa [nat2, List.map_map, Function.comp_def] using this
def HoldI (w : World) (v : Value) (zs : List Int) : Prop :=
  ∃ ad cap, v = .slice ad zs.length cap ∧ (zs = [] ∨ ∃ g off, ad = some ⟨g, off, none⟩ ∧ g < w.heap.size ∧ ∀ t, t < zs.length → w.cell? ⟨g, off + t, none⟩ = some (.int .i64 (zs.getD t 0)))
theorem HoldI.own {w : World} {base : Nat} {v : Value} {zs : List Int} (h : w.ownsRow base 3 1 v zs.length (zI zs)) : HoldI w v zs := by
  rcases own_cases h with ⟨rfl, h0⟩ | ⟨g, cap, rfl, _, hg⟩
  · exact ⟨none, 0, by rw [h0], Or.inl (List.length_eq_zero_iff.1 h0)⟩
  · exact ⟨_, cap, rfl, Or.inr ⟨g, 0, rfl, hg, own_cells h rfl⟩⟩
theorem HoldI.below {w w' : World} {v : Value} {zs : List Int} (h : HoldI w v zs) (hb : Below w.heap.size w w') : HoldI w' v zs := by
  obtain ⟨ad, cap, rfl, h | ⟨g, off, rfl, hg, hc⟩⟩ := h
  · exact ⟨ad, cap, rfl, Or.inl h⟩
  · exact ⟨_, cap, rfl, Or.inr ⟨g, off, rfl, Nat.lt_of_lt_of_le hg hb.size, fun t ht => (hb.cell (p := ⟨g, off + t, none⟩) hg).trans (hc t ht)⟩⟩
theorem HoldI.cells {w : World} {ad : Option Addr} {n cap : Nat} {zs : List Int} (h : HoldI w (.slice ad n cap) zs) {i : Nat} (hi : i < zs.length) : ∃ g off, ad = some ⟨g, off, none⟩ ∧ g < w.heap.size ∧ w.cell? ⟨g, off + i, none⟩ = some (.int .i64 (zs.getD i 0)) := by
  obtain ⟨ad', cap', e, h'⟩ := h
  simp only [Value.slice.injEq] at e
  obtain ⟨rfl, _, _⟩ := e
  rcases h' with rfl | ⟨g, off, rfl, hg, hc⟩
  · simp at hi
  · exact ⟨g, off, rfl, hg, hc i hi⟩
theorem Tryd.infoIntL : (Tryd.prog.info? 3).map (fun i => (i.zero, i.size, i.bytes)) = some (some (.int .i64 0), 1, 8) := by kernel_rfl
theorem take_ext {a b : List Int} {k : Nat} (ha : k < a.length) (hb : k < b.length) (h : a.take k = b.take k) (e : a.getD k 0 = b.getD k 0) : a.take (k + 1) = b.take (k + 1) := by
  rw [List.take_succ_eq_append_getElem ha, List.take_succ_eq_append_getElem hb, h]
  have e' : a[k] = b[k] := by simpa [List.getD_eq_getElem?_getD, ha, hb] using e
  rw [e']
set_option maxHeartbeats 2000000 in
theorem same_any (a b : List Int) (va vb : Value) (w : World) (hn : a.length ≤ 1099511627776) (hm : b.length ≤ 1099511627776) (ha : HoldI w va a) (hb : HoldI w vb b) :
    Calls Tryd.prog 69 #[va, vb] w fun e w' => e = .returned (.bool (decide (a = b))) ∧ ∃ q, w' = w.drewN q := by
  obtain ⟨aa, ca, rfl, haa⟩ := ha
  obtain ⟨ab, cb, rfl, hab⟩ := hb
  have HA := hidd haa
  have HB := hidd hab
  clear haa hab
  by_cases hl : a.length = b.length
  · have hlb : ((a.length : Int) != (b.length : Int)) = false := by simp [hl]
    have HL := hidd hl
    clear hl
    go_enter Tryd.func69, Tryd.ntmps69
    go_wp2
    go_loopw [5] (fun iv wx => ∃ k q : Nat, k ≤ a.length ∧ iv = .int .i64 (k : Int) ∧ a.take k = b.take k ∧ wx = w.drewN q) (fun iv _ => a.length - (intOf iv).toNat)
    case atStart => exact ⟨0, 0, Nat.zero_le _, rfl, by simp, rfl⟩
    case round =>
      obtain ⟨k, q, hk, rfl, heq, hwq⟩ := hrel
      have HE := hidd heq
      have HW := hidd hwq
      clear heq hwq
      by_cases hlt : k < a.length
      · have hltz : (k : Int) < (a.length : Int) := by omega
        have hltb : k < b.length := by have := HL.out; omega
        have hltbz : (k : Int) < (b.length : Int) := by omega
        obtain ⟨ga, oa, rfl, hga, hca⟩ := HA.out.resolve_left (fun h => by rw [h] at hlt; simp at hlt)
        obtain ⟨gb, ob, rfl, hgb, hcb⟩ := HB.out.resolve_left (fun h => by rw [h] at hltb; simp at hltb)
        have c1 : wr.cell? ⟨ga, oa + k, none⟩ = some (.int .i64 (a.getD k 0)) := by rw [HW.out]; simpa using hca k hlt
        have c2 : wr.cell? ⟨gb, ob + k, none⟩ = some (.int .i64 (b.getD k 0)) := by rw [HW.out]; simpa using hcb k hltb
        have HT := hidd (take_ext (a := a) (b := b) hlt hltb HE.out)
        have HX : Hid (a = b → a.getD k 0 = b.getD k 0) := by show _ → _; intro e; rw [e]
        clear hca hcb
        generalize a.getD k 0 = x at *
        generalize b.getD k 0 = y at *
        by_cases hxy : x = y
        · have hb : (x != y) = false := by simp [hxy]
          have HT2 := hidd (HT.out hxy)
          clear hxy HT HX
          go_wp2
          go_quiet (fail)
          go_wp2
          go_roundw
          case rel => exact ⟨k + 1, q + nq, by omega, by go_num, HT2.out, by rw [HW.out, World.drewN_drewN]⟩
          case measure => simp [intOf]; omega
        · have hb : (x != y) = true := by simp [hxy]
          have HR : Hid (decide (a = b) = false) := by show _ = _; rw [decide_eq_false_iff_not]; exact fun e => hxy (HX.out e)
          clear hxy HT HX
          go_wp2
          go_quiet (fail)
          go_wp2
          go_ret
          rw [HR.out]
          exact ⟨rfl, q + nq, by rw [HW.out, World.drewN_drewN]⟩
      · have hltz : ¬ (k : Int) < (a.length : Int) := by omega
        have HR : Hid (decide (a = b) = true) := by
          show _ = _
          rw [decide_eq_true_iff]
          have h := HE.out
          have := HL.out
          rw [List.take_of_length_le (by omega), List.take_of_length_le (by omega)] at h
          exact h
        go_wp2
        go_ret
        rw [HR.out]
        exact ⟨rfl, q, HW.out⟩
  · have hlb : ((a.length : Int) != (b.length : Int)) = true := by simp; omega
    have HR : Hid (decide (a = b) = false) := by show _ = _; rw [decide_eq_false_iff_not]; exact fun e => hl (by rw [e])
    clear hl
    go_enter Tryd.func69, Tryd.ntmps69
    go_wp2
    go_ret
    rw [HR.out]
    exact ⟨rfl, 0, rfl⟩
end Go.Proofs.YtmnfioghhdgciaaDoor

namespace Go.Proofs.YtmnfioghhdgciaaDoor
open Go Go.RowKit
set_option linter.unusedVariables false

/-! Many rows of ints, each by a name, no two in one place. -/
abbrev RowMap := Nat → Option (Value × List Int)
def upd (R : RowMap) (i : Nat) (x : Option (Value × List Int)) : RowMap := fun a => if a = i then x else R a
theorem upd_same (R : RowMap) (i : Nat) (x : Option (Value × List Int)) : upd R i x i = x := by simp [upd]
theorem upd_other (R : RowMap) {i a : Nat} (x : Option (Value × List Int)) (h : a ≠ i) : upd R i x a = R a := by simp [upd, h]
structure RowsF (W : World) (base : Nat) (R : RowMap) : Prop where
  own : ∀ a v zs, R a = some (v, zs) → W.ownsRow base 3 1 v zs.length (zI zs)
  apart : ∀ a b v zs u ys, a ≠ b → R a = some (v, zs) → R b = some (u, ys) → v.ownBlock = none ∨ v.ownBlock ≠ u.ownBlock
theorem RowsF.empty (W : World) (base : Nat) : RowsF W base (fun _ => none) := ⟨fun a v zs h => by simp at h, fun a b v zs u ys _ h => by simp at h⟩
theorem RowsF.below {W W' : World} {base : Nat} {R : RowMap} (h : RowsF W base R) (hb : Below W.heap.size W W') : RowsF W' base R := ⟨fun a v zs ha => own_below (h.own a v zs ha) hb, h.apart⟩
theorem RowsF.drop {W : World} {base : Nat} {R : RowMap} (h : RowsF W base R) (P : Nat → Bool) : RowsF W base (fun a => if P a = true then R a else Option.none) := by
  refine ⟨fun a v zs ha => ?_, fun a b v zs u ys hab ha hb => ?_⟩
  · split at ha
    · exact h.own a v zs ha
    · cases ha
  · split at ha
    · split at hb
      · exact h.apart a b v zs u ys hab ha hb
      · cases hb
    · cases ha
theorem RowsF.lt {W : World} {base : Nat} {R : RowMap} (h : RowsF W base R) {a : Nat} {v : Value} {zs : List Int} (ha : R a = some (v, zs)) {b : Nat} (hb : v.ownBlock = some b) : base ≤ b ∧ b < W.heap.size := by
  obtain ⟨h1, cur, h2⟩ := own_blk (h.own a v zs ha) hb
  exact ⟨h1, (Array.getElem?_eq_some_iff.1 h2).1⟩
theorem RowsF.new {W W' : World} {base : Nat} {R : RowMap} (h : RowsF W base R) (hb : Below W.heap.size W W') (hbase : base ≤ W.heap.size) {i : Nat} {v : Value} {zs : List Int} (hv : W'.ownsRow W.heap.size 3 1 v zs.length (zI zs)) : RowsF W' base (upd R i (some (v, zs))) := by
  have h' := h.below hb
  refine ⟨fun a u ys ha => ?_, fun a b u ys x xs hab ha hb' => ?_⟩
  · by_cases e : a = i
    · subst e
      rw [upd_same] at ha
      cases ha
      exact own_mono hv hbase
    · rw [upd_other _ _ e] at ha
      exact h'.own a u ys ha
  · by_cases ea : a = i
    · subst ea
      rw [upd_same] at ha
      cases ha
      rw [upd_other _ _ (Ne.symm hab)] at hb'
      cases hx : x.ownBlock with
      | none =>
        cases hu : v.ownBlock with
        | none => exact Or.inl rfl
        | some k => exact Or.inr (by simp)
      | some k =>
        cases hu : v.ownBlock with
        | none => exact Or.inl rfl
        | some l =>
          have h1 := h.lt hb' hx
          have h2 := own_block hv l hu
          exact Or.inr (by simp; omega)
    · rw [upd_other _ _ ea] at ha
      by_cases eb : b = i
      · subst eb
        rw [upd_same] at hb'
        cases hb'
        cases hu : u.ownBlock with
        | none => exact Or.inl rfl
        | some l =>
          refine Or.inr ?_
          intro e
          have h1 := h.lt ha hu
          have h2 := own_block hv l e.symm
          omega
      · rw [upd_other _ _ eb] at hb'
        exact h.apart a b u ys x xs hab ha hb'
/-- A row that may have been there already (a row of its own, at another name no more). -/
theorem RowsF.rename {W : World} {base : Nat} {R : RowMap} (h : RowsF W base R) {i j : Nat} {x : Value × List Int} (hi : R i = some x) (hij : i ≠ j) : RowsF W base (upd (upd R j (some x)) i Option.none) := by
  refine ⟨fun a u ys ha => ?_, fun a b u ys x' xs hab ha hb => ?_⟩
  · by_cases e : a = i
    · subst e; rw [upd_same] at ha; cases ha
    · rw [upd_other _ _ e] at ha
      by_cases e2 : a = j
      · subst e2; rw [upd_same] at ha; exact h.own i u ys (hi.trans ha)
      · rw [upd_other _ _ e2] at ha; exact h.own a u ys ha
  · have key : ∀ a u ys, upd (upd R j (some x)) i Option.none a = some (u, ys) → ∃ a', R a' = some (u, ys) ∧ a' ≠ j ∨ (a = j ∧ R i = some (u, ys)) := by
      intro a u ys ha
      by_cases e : a = i
      · subst e; rw [upd_same] at ha; cases ha
      · rw [upd_other _ _ e] at ha
        by_cases e2 : a = j
        · subst e2; rw [upd_same] at ha; exact ⟨0, Or.inr ⟨rfl, hi.trans ha⟩⟩
        · rw [upd_other _ _ e2] at ha; exact ⟨a, Or.inl ⟨ha, e2⟩⟩
    by_cases ea : a = i
    · subst ea; rw [upd_same] at ha; cases ha
    by_cases eb : b = i
    · subst eb; rw [upd_same] at hb; cases hb
    rw [upd_other _ _ ea] at ha
    rw [upd_other _ _ eb] at hb
    by_cases ea2 : a = j
    · subst ea2
      rw [upd_same] at ha
      rw [upd_other _ _ (Ne.symm hab)] at hb
      exact h.apart i b u ys x' xs (Ne.symm eb) (hi.trans ha) hb
    · rw [upd_other _ _ ea2] at ha
      by_cases eb2 : b = j
      · subst eb2
        rw [upd_same] at hb
        exact h.apart a i u ys x' xs ea ha (hi.trans hb)
      · rw [upd_other _ _ eb2] at hb
        exact h.apart a b u ys x' xs hab ha hb
theorem RowsF.grow {W W' : World} {base : Nat} {R : RowMap} (h : RowsF W base R) {i : Nat} {v v' : Value} {zs ys : List Int} (hi : R i = some (v, zs)) (hg : W.grownBy W' v.ownBlock) (hv : W'.ownsRow base 3 1 v' ys.length (zI ys)) (hat : ∀ b, v'.ownBlock = some b → v.ownBlock = some b ∨ W.heap.size ≤ b) : RowsF W' base (upd R i (some (v', ys))) := by
  have keep : ∀ a u xs, a ≠ i → R a = some (u, xs) → W'.ownsRow base 3 1 u xs.length (zI xs) := by
    intro a u xs ha hr
    refine (h.own a u xs hr).kept hg ?_
    rcases h.apart a i u xs v zs ha hr hi with h1 | h1
    · exact Or.inl h1
    · exact Or.inr h1
  have far : ∀ a u xs, a ≠ i → R a = some (u, xs) → u.ownBlock = none ∨ u.ownBlock ≠ v'.ownBlock := by
    intro a u xs ha hr
    cases hu : u.ownBlock with
    | none => exact Or.inl rfl
    | some l =>
      refine Or.inr ?_
      intro e
      rcases hat l e.symm with h1 | h1
      · rcases h.apart a i u xs v zs ha hr hi with h2 | h2
        · rw [hu] at h2; cases h2
        · exact h2 (hu.trans h1.symm)
      · have := h.lt hr hu
        omega
  refine ⟨fun a u xs ha => ?_, fun a b u xs x' ws hab ha hb => ?_⟩
  · by_cases e : a = i
    · subst e; rw [upd_same] at ha; cases ha; exact hv
    · rw [upd_other _ _ e] at ha; exact keep a u xs e ha
  · by_cases ea : a = i
    · subst ea
      rw [upd_same] at ha
      cases ha
      rw [upd_other _ _ (Ne.symm hab)] at hb
      rcases far b x' ws (Ne.symm hab) hb with h1 | h1
      · cases hu : v'.ownBlock with
        | none => exact Or.inl rfl
        | some l => exact Or.inr (by rw [h1]; simp)
      · exact Or.inr (Ne.symm h1)
    · rw [upd_other _ _ ea] at ha
      by_cases eb : b = i
      · subst eb
        rw [upd_same] at hb
        cases hb
        exact far a u xs ea ha
      · rw [upd_other _ _ eb] at hb
        exact h.apart a b u xs x' ws hab ha hb
theorem own_setI {W : World} {base g n cap : Nat} {zs : List Int} (h : W.ownsRow base 3 1 (.slice (some ⟨g, 0, none⟩) n cap) n (zI zs)) {k : Nat} (hk : k < n) (x : Int) : (W.setCell ⟨g, k, none⟩ (.int .i64 x)).ownsRow base 3 1 (.slice (some ⟨g, 0, none⟩) n cap) n (zI (zs.set k x)) := by
  have hl : (zI zs).length = n * 1 := h.1
  refine ⟨by simp [zI] at hl ⊢; exact hl, ?_⟩
  rcases h.2 with ⟨h', _⟩ | ⟨g', c', cur, h1, h2, h3, h4, h5, h6, h7⟩
  · simp at h'
  · simp only [Value.slice.injEq, Option.some.injEq, Addr.mk.injEq, and_true, true_and] at h1
    obtain ⟨rfl, rfl⟩ := h1
    refine Or.inr ⟨g, cap, cur.setIfInBounds k (.int .i64 x), rfl, h2, blk_setk h3 k _, h4, h5, by simpa using h6, ?_⟩
    rw [Array.toList_setIfInBounds, List.take_set, h7]
    simp [zI, List.map_set]
theorem RowsF.set {W : World} {base : Nat} {R : RowMap} (h : RowsF W base R) {i g cap : Nat} {zs : List Int} (hi : R i = some (.slice (some ⟨g, 0, none⟩) zs.length cap, zs)) {k : Nat} (hk : k < zs.length) (x : Int) : RowsF (W.setCell ⟨g, k, none⟩ (.int .i64 x)) base (upd R i (some (.slice (some ⟨g, 0, none⟩) zs.length cap, zs.set k x))) := by
  have hown := h.own i _ _ hi
  refine ⟨fun a u xs ha => ?_, fun a b u xs x' ws hab ha hb => ?_⟩
  · by_cases e : a = i
    · subst e
      rw [upd_same] at ha
      cases ha
      rw [List.length_set]
      exact own_setI hown hk x
    · rw [upd_other _ _ e] at ha
      refine own_congr (h.own a u xs ha) (fun b hb => heap_set_other W g k _ b ?_)
      rintro rfl
      rcases h.apart a i u xs _ zs e ha hi with h1 | h1
      · rw [hb] at h1; cases h1
      · exact h1 hb
  · by_cases ea : a = i
    · subst ea
      rw [upd_same] at ha
      cases ha
      rw [upd_other _ _ (Ne.symm hab)] at hb
      exact h.apart a b _ _ x' ws hab hi hb
    · rw [upd_other _ _ ea] at ha
      by_cases eb : b = i
      · subst eb
        rw [upd_same] at hb
        cases hb
        exact h.apart a b u xs _ _ hab ha hi
      · rw [upd_other _ _ eb] at hb
        exact h.apart a b u xs x' ws hab ha hb
/-- What is written elsewhere does not touch them. -/
theorem RowsF.but {W W' : World} {base : Nat} {R : RowMap} {X : Nat → Prop} (h : RowsF W base R) (hb : But X W W') (hx : ∀ b, X b → ∀ cur, W.heap[b]? ≠ some (.cells cur 3)) : RowsF W' base R := by
  refine ⟨fun a v zs ha => own_congr (h.own a v zs ha) (fun b hbk => ?_), h.apart⟩
  obtain ⟨h1, cur, h2⟩ := own_blk (h.own a v zs ha) hbk
  exact hb.block b (Array.getElem?_eq_some_iff.1 h2).1 (fun hX => hx b hX cur h2)
theorem RowsF.hold {W : World} {base : Nat} {R : RowMap} (h : RowsF W base R) {a : Nat} {v : Value} {zs : List Int} (ha : R a = some (v, zs)) : HoldI W v zs := HoldI.own (h.own a v zs ha)
theorem But.grown {X : Nat → Prop} {a b c : World} (h : But X a b) {row : Option Nat} (hg : b.grownBy c row) (hx : ∀ k, row = some k → X k ∨ a.heap.size ≤ k) : But X a c :=
  ⟨hg.os.trans h.os, hg.tape.trans h.tape, hg.output.trans h.output, Nat.le_trans h.size hg.size, fun i hi hn => (hg.block i (Nat.lt_of_lt_of_le hi h.size) (fun e => by
    rcases hx i e.symm with h1 | h1
    · exact hn h1
    · omega)).trans (h.block i hi hn)⟩
end Go.Proofs.YtmnfioghhdgciaaDoor
