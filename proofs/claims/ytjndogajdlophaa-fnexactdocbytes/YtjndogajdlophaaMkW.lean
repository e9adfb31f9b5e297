import Derived.Test.YtjndogajdlophaaMkP
import Derived.Test.YtjndogajdlophaaDcN
import Derived.Test.YtjndogajdlophaaOwn
namespace Go.Proofs.Ytjndogajdlophaa
open Go Go.RowKit
set_option linter.unusedVariables false
set_option maxRecDepth 100000

/-! The maker's memory: which block is what. -/
inductive Role where
  | mk
  | st
  | bk
  | lst (h : Nat)
  | arc
  | oth
theorem own_congr {w w' : World} {base e size n : Nat} {v : Value} {xs : List Value} (h : w.ownsRow base e size v n xs) (hb : ∀ b, v.ownBlock = some b → w'.heap[b]? = w.heap[b]?) : w'.ownsRow base e size v n xs := by
  refine ⟨h.1, ?_⟩
  rcases h.2 with h' | ⟨g, cap, cur, rfl, h2, h3, h4⟩
  · exact Or.inl h'
  · exact Or.inr ⟨g, cap, cur, rfl, h2, by rw [hb g rfl]; exact h3, h4⟩
def aC (l : List Ar) : List Value := l.flatMap fun a => [.int .i64 a.1, .int .i64 a.2.1, .int .i64 a.2.2]
theorem aC_snoc (l : List Ar) (a : Ar) : aC (l ++ [a]) = aC l ++ [.int .i64 a.1, .int .i64 a.2.1, .int .i64 a.2.2] := by simp [aC]
theorem aC_len (l : List Ar) : (aC l).length = l.length * 3 := by
  induction l with
  | nil => rfl
  | cons a t ih => simp only [aC, List.flatMap_cons, List.length_append, List.length_cons, List.length_nil] at ih ⊢; omega
theorem aC_at : ∀ (l : List Ar) (k : Nat), k < l.length → (aC l)[k * 3]? = some (.int .i64 (l.getD k ar0).1) ∧ (aC l)[k * 3 + 1]? = some (.int .i64 (l.getD k ar0).2.1) ∧ (aC l)[k * 3 + 2]? = some (.int .i64 (l.getD k ar0).2.2)
  | [], k, h => by simp at h
  | a :: t, 0, _ => by simp [aC]
  | a :: t, k + 1, h => by
    have ih := aC_at t k (by simpa using h)
    have e : aC (a :: t) = [.int .i64 a.1, .int .i64 a.2.1, .int .i64 a.2.2] ++ aC t := rfl
    rw [e, List.getElem?_append_right (by simp; omega), List.getElem?_append_right (by simp; omega), List.getElem?_append_right (by simp; omega)]
    simp only [List.length_cons, List.length_nil, List.getD_cons_succ]
    rw [show (k + 1) * 3 - (0 + 1 + 1 + 1) = k * 3 from by omega, show (k + 1) * 3 + 1 - (0 + 1 + 1 + 1) = k * 3 + 1 from by omega, show (k + 1) * 3 + 2 - (0 + 1 + 1 + 1) = k * 3 + 2 from by omega]
    exact ih
theorem holdA_of {w : World} {base e : Nat} {v : Value} {l : List Ar} (h : w.ownsRow base e 3 v l.length (aC l)) : ∃ a c, v = .slice a l.length c ∧ HoldA w a l ∧ ∀ b off, a = some ⟨b, off, none⟩ → v.ownBlock = some b := by
  have h0 := h
  rcases h.2 with ⟨rfl, hn⟩ | ⟨g, cap, cur, rfl, _, hg, _⟩
  · exact ⟨none, 0, by rw [hn], Or.inl (List.length_eq_zero_iff.1 hn), fun b off e => by cases e⟩
  · refine ⟨_, cap, rfl, Or.inr ⟨g, 0, rfl, (Array.getElem?_eq_some_iff.1 hg).1, fun k hk => ?_⟩, fun b off e => by cases e; rfl⟩
    have := aC_at l k hk
    rw [Nat.zero_add, h0.cellAt _ (by omega), h0.cellAt _ (by omega), h0.cellAt _ (by omega)]
    exact this
def bkt (S : List St) (h : Nat) : List Nat := (List.range S.length).filter fun j => mixOf (S.getD j st0) == h
theorem bkt_snoc (S : List St) (s : St) (h : Nat) : bkt (S ++ [s]) h = bkt S h ++ if mixOf s = h then [S.length] else [] := by
  unfold bkt
  rw [List.length_append, List.length_singleton, List.range_succ, List.filter_append]
  congr 1
  · refine List.filter_congr fun j hj => ?_
    have : j < S.length := by simpa using hj
    rw [List.getD_eq_getElem?_getD, List.getElem?_append_left this, ← List.getD_eq_getElem?_getD]
  · have e : (S ++ [s]).getD S.length st0 = s := by rw [List.getD_eq_getElem?_getD, List.getElem?_append_right (Nat.le_refl _)]; simp
    simp only [List.filter_cons, List.filter_nil, e, beq_iff_eq]
theorem bkt_lt {S : List St} {h j : Nat} (hj : j ∈ bkt S h) : j < S.length ∧ mixOf (S.getD j st0) = h := by
  simpa [bkt] using hj
theorem bkt_len (S : List St) (h : Nat) : (bkt S h).length ≤ S.length := by
  have := List.length_filter_le (fun j => mixOf (S.getD j st0) == h) (List.range S.length)
  simpa [bkt] using this
def nV (l : List Nat) : List Value := l.map fun (v : Nat) => Value.int .i64 (v : Int)
theorem nV_len (l : List Nat) : (nV l).length = l.length := by simp [nV]
/-- The maker as it lies in a world. -/
structure MkAt (w : World) (r : Nat → Role) (base bm bb : Nat) (aT : Option Addr) (nT cT : Nat) (O : List (List Tx)) (vS : Value) (vb : Nat → Value) (xs : List Value) (cs : Array Value) : Prop where
  box : w.heap[bm]? = some (.cells #[.slice aT nT cT, vS, .slice none 0 0, .slice (some ⟨bb, 0, none⟩) 1024 1024] 125)
  rbm : r bm = .mk
  rbb : r bb = .bk
  lbm : base ≤ bm
  lbb : base ≤ bb
  bks : w.heap[bb]? = some (.cells cs 71)
  csz : cs.size = 1024
  cat : ∀ h, h < 1024 → cs[h]? = some (vb h)
  lst : ∀ h, h < 1024 → w.ownsRow base 3 1 (vb h) (bkt (stM O) h).length (nV (bkt (stM O) h)) ∧ ∀ b, (vb h).ownBlock = some b → r b = .lst h
  row : w.ownsRow base 104 2 vS O.length xs
  rst : ∀ b, vS.ownBlock = some b → r b = .st
  sts : ∀ j, j < O.length → xs[j * 2]? = some (.bool ((stM O).getD j st0).1) ∧ ∃ aj cj, xs[j * 2 + 1]? = some (.slice aj ((stM O).getD j st0).2.length cj) ∧ HoldA w aj ((stM O).getD j st0).2 ∧ ∀ b off, aj = some ⟨b, off, none⟩ → r b = .arc
  new : ∀ b, w.heap.size ≤ b → r b = .oth
theorem MkAt.kept {w w' : World} {r : Nat → Role} {base bm bb : Nat} {aT : Option Addr} {nT cT : Nat} {O : List (List Tx)} {vS : Value} {vb : Nat → Value} {xs : List Value} {cs : Array Value} (h : MkAt w r base bm bb aT nT cT O vS vb xs cs)
    (hz : w.heap.size ≤ w'.heap.size) (hk : ∀ b, b < w.heap.size → r b ≠ .oth → w'.heap[b]? = w.heap[b]?) : MkAt w' r base bm bb aT nT cT O vS vb xs cs := by
  have hlt : ∀ b, r b ≠ .oth → b < w.heap.size := fun b hb => by
    rcases Nat.lt_or_ge b w.heap.size with h1 | h1
    · exact h1
    · exact absurd (h.new b h1) hb
  have hk2 : ∀ b, r b ≠ .oth → w'.heap[b]? = w.heap[b]? := fun b hb => hk b (hlt b hb) hb
  refine ⟨(hk2 bm (by rw [h.rbm]; simp)).trans h.box, h.rbm, h.rbb, h.lbm, h.lbb, (hk2 bb (by rw [h.rbb]; simp)).trans h.bks, h.csz, h.cat, fun i hi => ⟨own_congr (h.lst i hi).1 fun b hb => hk2 b (by rw [(h.lst i hi).2 b hb]; simp), (h.lst i hi).2⟩, own_congr h.row fun b hb => hk2 b (by rw [h.rst b hb]; simp), h.rst, fun j hj => ?_, fun b hb => h.new b (by omega)⟩
  obtain ⟨h1, aj, cj, h2, h3, h4⟩ := h.sts j hj
  exact ⟨h1, aj, cj, h2, h3.keep hz fun b off e _ => hk2 b (by rw [h4 b off e]; simp), h4⟩
/-- What a call of the maker leaves as it was. -/
structure MkFr (w w' : World) (r r' : Nat → Role) : Prop where
  os : w'.os = w.os
  tape : w'.tape = w.tape
  output : w'.output = w.output
  size : w.heap.size ≤ w'.heap.size
  role : ∀ b, b < w.heap.size → r' b = r b
  keep : ∀ b, b < w.heap.size → r b = .oth ∨ r b = .arc → w'.heap[b]? = w.heap[b]?
theorem MkFr.refl (w : World) (r : Nat → Role) : MkFr w w r r := ⟨rfl, rfl, rfl, Nat.le_refl _, fun _ _ => rfl, fun _ _ _ => rfl⟩
theorem MkFr.trans {a b c : World} {r s t : Nat → Role} (h : MkFr a b r s) (k : MkFr b c s t) : MkFr a c r t :=
  ⟨k.os.trans h.os, k.tape.trans h.tape, k.output.trans h.output, Nat.le_trans h.size k.size, fun i hi => (k.role i (Nat.lt_of_lt_of_le hi h.size)).trans (h.role i hi), fun i hi hr => (k.keep i (Nat.lt_of_lt_of_le hi h.size) (by rw [h.role i hi]; exact hr)).trans (h.keep i hi hr)⟩
theorem MkFr.below {a b c : World} {r s : Nat → Role} (h : MkFr a b r s) (hb : Below b.heap.size b c) : MkFr a c r s :=
  h.trans ⟨hb.os, hb.tape, hb.output, hb.size, fun _ _ => rfl, fun i hi _ => hb.block i hi⟩
end Go.Proofs.Ytjndogajdlophaa
