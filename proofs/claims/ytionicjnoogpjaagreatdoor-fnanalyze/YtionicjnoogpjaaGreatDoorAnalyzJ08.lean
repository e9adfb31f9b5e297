import Derived.Test.YtionicjnoogpjaaGreatDoorAnalyzJ07
import Derived.Test.YtionicjnoogpjaaGreatDoorAnalyzJ05
import Derived.Test.YtionicjnoogpjaaGreatDoorAnalyzJ03
import Derived.Laws.IdiomCopy
namespace Go.Proofs.YtionicjnoogpjaaGreatDoor
open Go Go.RowKit
set_option linter.unusedVariables false
theorem Tryz.infoTok : (Tryz.prog.info? 35).map (fun i => (i.zero, i.size, i.bytes)) = some (some (.agg #[.string ⟨#[]⟩, .int .i64 0, .int .i64 0, .int .i64 0]), 4, 40) := by kernel_rfl
theorem dec_okB (s : ByteArray) (h : decCode s = 0) : validB s = true ∧ s.size ≤ 65536 := by
  unfold decCode at h
  by_cases h1 : 65536 < s.size
  · rw [if_pos h1] at h; omega
  · rw [if_neg h1] at h
    by_cases h2 : validB s = true
    · exact ⟨h2, by omega⟩
    · rw [if_neg h2] at h; omega
theorem cut_text (s : ByteArray) (p k : Nat) (hp : p ≤ s.size) (hv : vFrom s p = true) : s.extract p (p + blen ((Rs s p).take k)) = ⟨(encs ((Rs s p).take k)).toArray⟩ := by
  have h1 := Rs_take_bytes s k p hv
  have h2 : (s.extract p (p + blen ((Rs s p).take k))).data.toList = encs ((Rs s p).take k) := by
    rw [Lib.extract_data, h1, Nat.add_sub_cancel_left]
  have h3 : (s.extract p (p + blen ((Rs s p).take k))).data = (encs ((Rs s p).take k)).toArray := by rw [← h2]
  cases hx : s.extract p (p + blen ((Rs s p).take k)) with
  | mk d => rw [hx] at h3; simp only at h3; rw [h3]
/-- Where the program stands: at place p, behind words that end at e. -/
def BrkAt (s : ByteArray) (p e : Nat) (acc : List Tk) : Prop :=
  ∃ (q j f : Nat), (e ≤ p → q = p) ∧ (p < e → q = e) ∧ q = p + blen ((Rs s p).take j) ∧ (Rs s q).length ≤ f ∧ acc ++ toks f (Rs s q) q acc.length = allToks s
theorem take_cons_pos (r : Int) (t : List Int) (j : Nat) (h : 0 < blen ((r :: t).take j)) : ∃ i, j = i + 1 := by
  cases j with
  | zero => simp [blen_nil] at h
  | succ i => exact ⟨i, rfl⟩
theorem BrkAt_skip (s : ByteArray) (p e : Nat) (acc : List Tk) (hp : p < s.size) (hg : ¬ bad s p) (he : p < e) (h : BrkAt s p e acc) : BrkAt s (p + (Utf8.decode s p).2) e acc := by
  obtain ⟨q, j, f, h1, h2, h3, h4, h5⟩ := h
  obtain rfl := h2 he
  rw [Rs_step s p hp] at h3
  obtain ⟨i, rfl⟩ := take_cons_pos ((Utf8.decode s p).1 : Int) (Rs s (p + (Utf8.decode s p).2)) j (by omega)
  rw [List.take_succ_cons, blen_cons, rune_width s p hp hg] at h3
  refine ⟨q, i, f, fun hh => ?_, fun _ => rfl, by omega, h4, h5⟩
  have : 0 ≤ blen (List.take i (Rs s (p + (Utf8.decode s p).2))) := Nat.zero_le _
  omega
theorem BrkAt_none (s : ByteArray) (p e : Nat) (acc : List Tk) (hp : p < s.size) (hg : ¬ bad s p) (he : e ≤ p) (hi : innB ((Utf8.decode s p).1 : Int) = false) (h4 : clsZ ((Utf8.decode s p).1 : Int) ≠ 4) (h : BrkAt s p e acc) : BrkAt s (p + (Utf8.decode s p).2) e acc := by
  obtain ⟨q, j, f, h1, h2, h3, h5, h6⟩ := h
  obtain rfl := h1 he
  have hw := width_le s q hp
  have hx := h6
  rw [Rs_step s q hp] at h5 hx
  obtain ⟨g, rfl⟩ : ∃ g, f = g + 1 := ⟨f - 1, by simp at h5; omega⟩
  rw [toks_skip g _ _ _ _ (wordK_none _ _ hi h4)] at hx
  have eb : blen [((Utf8.decode s q).1 : Int)] = (Utf8.decode s q).2 := by rw [blen_cons, blen_nil, rune_width s q hp hg]; rfl
  rw [eb] at hx
  refine ⟨q + (Utf8.decode s q).2, 0, g, fun _ => rfl, fun hh => by omega, by simp [blen_nil], by simp at h5; omega, hx⟩
theorem BrkAt_word (s : ByteArray) (p e k : Nat) (acc : List Tk) (hp : p < s.size) (hv : vFrom s p = true) (he : e ≤ p) (hk : wordK (Rs s p) = k) (hk0 : ¬ k = 0) (h : BrkAt s p e acc) :
    (acc ++ [(encs ((Rs s p).take k), acc.length, p, p + blen ((Rs s p).take k))]).length ≤ (allToks s).length ∧
    BrkAt s (p + (Utf8.decode s p).2) (p + blen ((Rs s p).take k)) (acc ++ [(encs ((Rs s p).take k), acc.length, p, p + blen ((Rs s p).take k))]) := by
  obtain ⟨q, j, f, h1, h2, h3, h5, h6⟩ := h
  obtain rfl := h1 he
  have hg := good_of s q hp hv
  have hw := width_le s q hp
  have hd := (Rs_drop s k q hv).1
  have hx := h6
  have hst := Rs_step s q hp
  rw [hst] at h5 hx hk
  obtain ⟨g, rfl⟩ : ∃ g, f = g + 1 := ⟨f - 1, by simp at h5; omega⟩
  rw [toks_word g _ _ _ _ (by rw [hk]; exact hk0), hk] at hx
  rw [← hst] at hx h5
  rw [← hd] at hx
  have hx2 : (acc ++ [(encs ((Rs s q).take k), acc.length, q, q + blen ((Rs s q).take k))]) ++ toks g (Rs s (q + blen ((Rs s q).take k))) (q + blen ((Rs s q).take k)) (acc ++ [(encs ((Rs s q).take k), acc.length, q, q + blen ((Rs s q).take k))]).length = allToks s := by
    rw [← hx, List.length_append]
    simp
  refine ⟨by have := congrArg List.length hx2; rw [List.length_append] at this; omega, ?_⟩
  obtain ⟨i, rfl⟩ : ∃ i, k = i + 1 := ⟨k - 1, by omega⟩
  have hb : blen ((Rs s q).take (i + 1)) = (Utf8.decode s q).2 + blen ((Rs s (q + (Utf8.decode s q).2)).take i) := by
    rw [hst, List.take_succ_cons, blen_cons, rune_width s q hp hg]
  refine ⟨q + blen ((Rs s q).take (i + 1)), i, g, fun hh => by omega, fun _ => rfl, by omega, ?_, hx2⟩
  have hl := congrArg List.length hd
  rw [List.length_drop] at hl
  omega
theorem BrkAt_end (s : ByteArray) (p e : Nat) (acc : List Tk) (hp : ¬ p < s.size) (he : e ≤ s.size) (h : BrkAt s p e acc) : allToks s = acc := by
  obtain ⟨q, j, f, h1, h2, h3, h5, h6⟩ := h
  obtain rfl := h1 (by omega)
  rw [Rs_end s q hp, toks_nil, List.append_nil] at h6
  exact h6.symm
theorem BrkAt_start (s : ByteArray) : BrkAt s 0 0 [] := ⟨0, 0, (runes s).length, fun _ => rfl, fun h => by omega, by simp [blen_nil], by rw [Rs_zero]; exact Nat.le_refl _, by rw [Rs_zero]; rfl⟩
theorem tok_cell_new (w : World) (t : Tk) (e : TypeId) : ∀ j u, (tokCells t)[j]? = some u → (w.alloc (.cells (tokCells t).toArray e)).cell? ((⟨w.heap.size, 0, none⟩ : Addr).add j) = some u := by
  intro j u hj
  rw [add_head, World.cell?_alloc_at (hn := rfl)]
  simpa using hj
theorem tok_one (t : Tk) : ∀ u ∈ tokCells t, u.oneCell' = true := by
  intro u hu
  simp only [tokCells, List.mem_cons, List.mem_nil_iff, or_false] at hu
  rcases hu with rfl | rfl | rfl | rfl <;> rfl
theorem own4_iterAt {w : World} {base e n k p : Nat} {s : ByteArray} {v : Value} {xs : List Value} (h : w.ownsRow base e 4 v n xs) (hk : w.heap[k]? = some (.stringIter s p)) (p' : Nat) : (w.iterAt k s p').ownsRow base e 4 v n xs := by
  refine ⟨h.1, ?_⟩
  rcases h.2 with h' | ⟨g, cap, cur, h1, h2, h3, h4⟩
  · exact Or.inl h'
  · refine Or.inr ⟨g, cap, cur, h1, h2, ?_, h4⟩
    have hne : g ≠ k := by intro e; subst e; rw [hk] at h3; cases h3
    rw [Lib.iterAt_other w k g s p' hne]
    exact h3
theorem own4_ne_iter {w : World} {base e n k p : Nat} {s : ByteArray} {v : Value} {xs : List Value} (h : w.ownsRow base e 4 v n xs) (hk : w.heap[k]? = some (.stringIter s p)) : some k ≠ v.ownBlock := by
  intro hb
  rcases h.2 with ⟨rfl, _⟩ | ⟨g, cap, cur, rfl, h2, h3, h4⟩
  · cases hb
  · have e : k = g := Option.some.inj hb
    subst e
    rw [hk] at h3
    cases h3
theorem own4_below {w w' : World} {base e n : Nat} {v : Value} {xs : List Value} (h : w.ownsRow base e 4 v n xs) (hb : Below w.heap.size w w') : w'.ownsRow base e 4 v n xs := by
  refine ⟨h.1, ?_⟩
  rcases h.2 with h' | ⟨g, cap, cur, h1, h2, h3, h4⟩
  · exact Or.inl h'
  · exact Or.inr ⟨g, cap, cur, h1, h2, by rw [hb.block g (Array.getElem?_eq_some_iff.1 h3).1]; exact h3, h4⟩
theorem own4_cases {w : World} {base e n : Nat} {v : Value} {xs : List Value} (h : w.ownsRow base e 4 v n xs) :
    (v = .slice none 0 0 ∧ n = 0) ∨ ∃ g cap, v = .slice (some ⟨g, 0, none⟩) n cap ∧ base ≤ g ∧ g < w.heap.size := by
  rcases h.2 with ⟨h1, h2⟩ | ⟨g, cap, cur, h1, hb, hg, _⟩
  · exact Or.inl ⟨h1, h2⟩
  · exact Or.inr ⟨g, cap, h1, hb, (Array.getElem?_eq_some_iff.1 hg).1⟩
theorem own4_block {w : World} {base e n : Nat} {v : Value} {xs : List Value} (h : w.ownsRow base e 4 v n xs) : ∀ k, v.ownBlock = some k → base ≤ k := by
  intro k hk
  rcases own4_cases h with ⟨rfl, _⟩ | ⟨g, cap, rfl, hb, _⟩
  · cases hk
  · cases hk; exact hb
theorem own4_len {w : World} {base e n : Nat} {v : Value} {xs : List Value} (h : w.ownsRow base e 4 v n xs) : ∃ ao cap, v = .slice ao n cap := by
  rcases own4_cases h with ⟨rfl, rfl⟩ | ⟨g, cap, rfl, _, _⟩
  · exact ⟨_, _, rfl⟩
  · exact ⟨_, _, rfl⟩
end Go.Proofs.YtionicjnoogpjaaGreatDoor

namespace Go.Proofs.YtionicjnoogpjaaGreatDoor
open Go Go.RowKit
set_option linter.unusedVariables false

theorem tk_at (l : List Tk) (k j : Nat) (hk : k < l.length) (hj : j < 4) : (toksCells l)[k * 4 + j]? = (tokCells l[k])[j]? := by
  induction l generalizing k with
  | nil => simp at hk
  | cons x t ih =>
    have e : toksCells (x :: t) = tokCells x ++ toksCells t := by simp [toksCells]
    have hx : (tokCells x).length = 4 := rfl
    rw [e]
    cases k with
    | zero => rw [List.getElem?_append_left (by omega)]; simp
    | succ k =>
      rw [List.getElem?_append_right (by omega), hx, show (k + 1) * 4 + j - 4 = k * 4 + j by omega, ih k (by simpa using hk)]
      simp
/-- A slice of tokens. -/
def HoldT (w : World) (a : Option Addr) (l : List Tk) : Prop :=
  l = [] ∨ ∃ b off, a = some ⟨b, off, none⟩ ∧ b < w.heap.size ∧ ∀ t, t < l.length → w.cell? ⟨b, off + t * 4, none⟩ = some (.string (bs (l.getD t tk0).1)) ∧ w.cell? ⟨b, off + t * 4 + 1, none⟩ = some (.int .i64 ((l.getD t tk0).2.1 : Int)) ∧ w.cell? ⟨b, off + t * 4 + 2, none⟩ = some (.int .i64 ((l.getD t tk0).2.2.1 : Int)) ∧ w.cell? ⟨b, off + t * 4 + 3, none⟩ = some (.int .i64 ((l.getD t tk0).2.2.2 : Int))
theorem holdT_row {w : World} {base e : Nat} {v : Value} {l : List Tk} (h : w.ownsRow base e 4 v l.length (toksCells l)) : ∃ a cap, v = .slice a l.length cap ∧ HoldT w a l ∧ (∀ b off, a = some ⟨b, off, none⟩ → base ≤ b ∧ b < w.heap.size) := by
  rcases own4_cases h with ⟨rfl, hz⟩ | ⟨g, cap, rfl, hb, hl⟩
  · exact ⟨none, 0, by rw [hz], Or.inl (List.length_eq_zero_iff.1 hz), fun b off e => by cases e⟩
  · refine ⟨some ⟨g, 0, none⟩, cap, rfl, Or.inr ⟨g, 0, rfl, hl, fun t ht => ?_⟩, fun b off e => by cases e; exact ⟨hb, hl⟩⟩
    have e0 : l.getD t tk0 = l[t] := by simp [ht]
    rw [e0]
    simp only [Nat.zero_add]
    refine ⟨?_, ?_, ?_, ?_⟩
    · rw [show t * 4 = t * 4 + 0 by omega, h.cellAt (t * 4 + 0) (by omega), tk_at l t 0 ht (by omega)]; rfl
    · rw [h.cellAt (t * 4 + 1) (by omega), tk_at l t 1 ht (by omega)]; rfl
    · rw [h.cellAt (t * 4 + 2) (by omega), tk_at l t 2 ht (by omega)]; rfl
    · rw [h.cellAt (t * 4 + 3) (by omega), tk_at l t 3 ht (by omega)]; rfl
theorem HoldT.cells {w w' : World} {a : Option Addr} {l : List Tk} (h : HoldT w a l) (hz : w.heap.size ≤ w'.heap.size) (hc : ∀ b off, a = some ⟨b, off, none⟩ → b < w.heap.size → w'.heap[b]? = w.heap[b]?) : HoldT w' a l := by
  rcases h with h | ⟨b, off, h1, h2, h3⟩
  · exact Or.inl h
  · refine Or.inr ⟨b, off, h1, Nat.lt_of_lt_of_le h2 hz, fun t ht => ?_⟩
    have hb := hc b off h1 h2
    have h4 := h3 t ht
    simp only [World.cell?] at h4 ⊢
    rw [hb]
    exact h4
theorem HoldT.below {w w' : World} {a : Option Addr} {l : List Tk} (h : HoldT w a l) (hb : Below w.heap.size w w') : HoldT w' a l := h.cells hb.size fun b off _ hl => hb.block b hl
theorem HoldT.grown {w w' : World} {a : Option Addr} {l : List Tk} {row : Option Nat} (h : HoldT w a l) (hg : w.grownBy w' row) (hne : ∀ b off, a = some ⟨b, off, none⟩ → some b ≠ row) : HoldT w' a l := h.cells hg.size fun b off e hl => hg.block b hl (hne b off e)
theorem own4_ne {w : World} {base e n : Nat} {v : Value} {xs : List Value} {a : Option Addr} (h : w.ownsRow base e 4 v n xs) (hb : ∀ b off, a = some ⟨b, off, none⟩ → w.heap.size ≤ b) : ∀ b off, a = some ⟨b, off, none⟩ → some b ≠ v.ownBlock := by
  intro b off e1 e2
  have h1 := hb b off e1
  rcases own4_cases h with ⟨rfl, _⟩ | ⟨g, cap, rfl, _, hl⟩
  · cases e2
  · have e3 : b = g := Option.some.inj e2
    omega
theorem own4_low {w : World} {base e n b : Nat} {v : Value} {xs : List Value} (h : w.ownsRow base e 4 v n xs) (hb : b < base) : some b ≠ v.ownBlock := fun e => by have := own4_block h b e.symm; omega
end Go.Proofs.YtionicjnoogpjaaGreatDoor

namespace Go.Proofs.YtionicjnoogpjaaGreatDoor
open Go Go.RowKit
set_option linter.unusedVariables false

/-! Rows of tokens that are written in place. -/
/-- All stays but what X names. -/
structure But (X : Nat → Prop) (w w' : World) : Prop where
  os : w'.os = w.os
  tape : w'.tape = w.tape
  output : w'.output = w.output
  size : w.heap.size ≤ w'.heap.size
  block : ∀ b, b < w.heap.size → ¬ X b → w'.heap[b]? = w.heap[b]?
theorem But.refl (X : Nat → Prop) (w : World) : But X w w := ⟨rfl, rfl, rfl, Nat.le_refl _, fun _ _ _ => rfl⟩
theorem But.trans {X Y Z : Nat → Prop} {a b c : World} (h : But X a b) (k : But Y b c) (hx : ∀ i, i < a.heap.size → X i → Z i) (hy : ∀ i, i < a.heap.size → Y i → Z i) : But Z a c :=
  ⟨k.os.trans h.os, k.tape.trans h.tape, k.output.trans h.output, Nat.le_trans h.size k.size, fun i hi hn =>
    (k.block i (Nat.lt_of_lt_of_le hi h.size) fun e => hn (hy i hi e)).trans (h.block i hi fun e => hn (hx i hi e))⟩
theorem But.mono {X Z : Nat → Prop} {a b : World} (h : But X a b) (hx : ∀ i, i < a.heap.size → X i → Z i) : But Z a b :=
  ⟨h.os, h.tape, h.output, h.size, fun i hi hn => h.block i hi fun e => hn (hx i hi e)⟩
theorem But.of_below {X : Nat → Prop} {a b : World} (h : Below a.heap.size a b) : But X a b := ⟨h.os, h.tape, h.output, h.size, fun i hi _ => h.block i hi⟩
theorem But.below {X : Nat → Prop} {n : Nat} {a b : World} (h : But X a b) (hn : n ≤ a.heap.size) (hx : ∀ i, i < n → ¬ X i) : Below n a b :=
  ⟨h.os, h.tape, h.output, h.size, fun i hi => h.block i (by omega) (hx i hi)⟩
theorem But.set {X : Nat → Prop} {a b : World} (h : But X a b) (g k : Nat) (u : Value) (hg : X g) : But X a (b.setCell ⟨g, k, none⟩ u) :=
  ⟨h.os, h.tape, h.output, by simpa using h.size, fun i hi hn => (heap_set_other b g k u i (fun e => hn (e ▸ hg))).trans (h.block i hi hn)⟩
theorem But.alloc {X : Nat → Prop} {a b : World} (h : But X a b) (o : Obj) : But X a (b.alloc o) :=
  ⟨h.os, h.tape, h.output, by have := h.size; simp; omega, fun i hi hn => (Below.heap_alloc b o i (Nat.lt_of_lt_of_le hi h.size)).trans (h.block i hi hn)⟩
theorem But.cell {X : Nat → Prop} {a b : World} (h : But X a b) {p : Addr} (hp : p.block < a.heap.size) (hx : ¬ X p.block) : b.cell? p = a.cell? p := by
  simp only [World.cell?]
  rw [h.block p.block hp hx]
theorem HoldT.but {X : Nat → Prop} {w w' : World} {a : Option Addr} {l : List Tk} (h : HoldT w a l) (hb : But X w w') (hx : ∀ b off, a = some ⟨b, off, none⟩ → ¬ X b) : HoldT w' a l :=
  h.cells hb.size fun b off e hl => hb.block b hl (hx b off e)
theorem HoldS.but {X : Nat → Prop} {w w' : World} {a : Option Addr} {l : List (List UInt8)} (h : HoldS w a l) (hb : But X w w') (hx : ∀ b off, a = some ⟨b, off, none⟩ → ¬ X b) : HoldS w' a l := by
  rcases h with h | ⟨b, off, h1, h2, h3⟩
  · exact Or.inl h
  · exact Or.inr ⟨b, off, h1, Nat.lt_of_lt_of_le h2 hb.size, fun t ht => (hb.cell (p := ⟨b, off + t, none⟩) h2 (hx b off h1)).trans (h3 t ht)⟩
theorem own4_but {X : Nat → Prop} {w w' : World} {base e n : Nat} {v : Value} {xs : List Value} (h : w.ownsRow base e 4 v n xs) (hb : But X w w') (hx : ∀ b, v.ownBlock = some b → ¬ X b) : w'.ownsRow base e 4 v n xs := by
  refine ⟨h.1, ?_⟩
  rcases h.2 with h' | ⟨g, cap, cur, rfl, h2, h3, h4⟩
  · exact Or.inl h'
  · exact Or.inr ⟨g, cap, cur, rfl, h2, (hb.block g (Array.getElem?_eq_some_iff.1 h3).1 (hx g rfl)).trans h3, h4⟩
/-- One cell of an owned row. -/
theorem own4_set {w : World} {base e n g cap : Nat} {xs : List Value} (h : w.ownsRow base e 4 (.slice (some ⟨g, 0, none⟩) n cap) n xs) (k : Nat) (u : Value) (hk : k < n * 4) :
    (w.setCell ⟨g, k, none⟩ u).ownsRow base e 4 (.slice (some ⟨g, 0, none⟩) n cap) n (xs.set k u) := by
  refine ⟨by rw [List.length_set]; exact h.1, ?_⟩
  rcases h.2 with ⟨h', _⟩ | ⟨g', cap', cur, h1, h2, h3, h4, h5, h6, h7⟩
  · cases h'
  · simp only [Value.slice.injEq, Option.some.injEq, Addr.mk.injEq, and_true, true_and] at h1
    obtain ⟨rfl, rfl⟩ := h1
    refine Or.inr ⟨g, cap, cur.setIfInBounds k u, rfl, h2, blk_setk h3 k u, h4, h5, by rw [Array.size_setIfInBounds]; exact h6, ?_⟩
    rw [Array.toList_setIfInBounds, List.take_set, h7]
theorem own4_cut {w : World} {base e n g cap i : Nat} {xs : List Value} (h : w.ownsRow base e 4 (.slice (some ⟨g, 0, none⟩) n cap) n xs) (hi : i ≤ n) :
    w.ownsRow base e 4 (.slice (some ⟨g, 0, none⟩) i cap) i (xs.take (i * 4)) := by
  refine ⟨by rw [List.length_take, h.1]; omega, ?_⟩
  rcases h.2 with ⟨h', _⟩ | ⟨g', cap', cur, h1, h2, h3, h4, h5, h6, h7⟩
  · cases h'
  · simp only [Value.slice.injEq, Option.some.injEq, Addr.mk.injEq, and_true, true_and] at h1
    obtain ⟨rfl, rfl⟩ := h1
    refine Or.inr ⟨g, cap, cur, rfl, h2, h3, by omega, h5, h6, ?_⟩
    rw [← h7, List.take_take, Nat.min_eq_left (by omega)]
theorem own4_cap {w : World} {base e n g cap : Nat} {xs : List Value} (h : w.ownsRow base e 4 (.slice (some ⟨g, 0, none⟩) n cap) n xs) : n ≤ cap ∧ cap ≤ maxLen := by
  rcases h.2 with ⟨h', _⟩ | ⟨g', cap', cur, h1, h2, h3, h4, h5, h6, h7⟩
  · cases h'
  · simp only [Value.slice.injEq, Option.some.injEq, Addr.mk.injEq, and_true, true_and] at h1
    obtain ⟨rfl, rfl⟩ := h1
    exact ⟨h4, h5⟩
theorem own4_frozen {w : World} {base e n g cap : Nat} {xs : List Value} (h : w.ownsRow base e 4 (.slice (some ⟨g, 0, none⟩) n cap) n xs) (k : Nat) : w.frozen? ⟨g, k, none⟩ = false := by
  rcases h.2 with ⟨h', _⟩ | ⟨g', cap', cur, h1, h2, h3, h4, h5, h6, h7⟩
  · cases h'
  · simp only [Value.slice.injEq, Option.some.injEq, Addr.mk.injEq, and_true, true_and] at h1
    obtain ⟨rfl, rfl⟩ := h1
    exact frozen_of_row w g k _ _ h3
theorem toksCells_set (l : List Tk) (k : Nat) (x : Tk) (h : k < l.length) :
    ((((toksCells l).set (k * 4) (.string (bs x.1))).set (k * 4 + 1) (.int .i64 x.2.1)).set (k * 4 + 2) (.int .i64 x.2.2.1)).set (k * 4 + 3) (.int .i64 x.2.2.2) = toksCells (l.set k x) := by
  induction l generalizing k with
  | nil => simp at h
  | cons y t ih =>
    have e : ∀ (z : Tk) (r : List Tk), toksCells (z :: r) = (Value.string (bs z.1)) :: (.int .i64 z.2.1) :: (.int .i64 z.2.2.1) :: (.int .i64 z.2.2.2) :: toksCells r := fun z r => by simp [toksCells, tokCells, bs]
    cases k with
    | zero => simp [e]
    | succ k =>
      rw [List.set_cons_succ, e, e, show (k + 1) * 4 = k * 4 + 4 by omega]
      simp only [show k * 4 + 4 + 1 = k * 4 + 1 + 4 by omega, show k * 4 + 4 + 2 = k * 4 + 2 + 4 by omega, show k * 4 + 4 + 3 = k * 4 + 3 + 4 by omega, List.set_cons_succ]
      rw [ih k (by simpa using h)]
theorem toksCells_text (l : List Tk) (k : Nat) (x : List UInt8) (h : k < l.length) : (toksCells l).set (k * 4) (.string (bs x)) = toksCells (l.set k (x, (l.getD k tk0).2)) := by
  induction l generalizing k with
  | nil => simp at h
  | cons y t ih =>
    have e : ∀ (z : Tk) (r : List Tk), toksCells (z :: r) = (Value.string (bs z.1)) :: (.int .i64 z.2.1) :: (.int .i64 z.2.2.1) :: (.int .i64 z.2.2.2) :: toksCells r := fun z r => by simp [toksCells, tokCells, bs]
    cases k with
    | zero => simp [e]
    | succ k =>
      rw [List.set_cons_succ, e, e, show (k + 1) * 4 = k * 4 + 4 by omega]
      simp only [List.set_cons_succ]
      rw [ih k (by simpa using h)]
      simp
theorem toksCells_take (l : List Tk) (k : Nat) : (toksCells l).take (k * 4) = toksCells (l.take k) := by
  induction l generalizing k with
  | nil => simp [toksCells]
  | cons y t ih =>
    have e : ∀ (z : Tk) (r : List Tk), toksCells (z :: r) = (Value.string (bs z.1)) :: (.int .i64 z.2.1) :: (.int .i64 z.2.2.1) :: (.int .i64 z.2.2.2) :: toksCells r := fun z r => by simp [toksCells, tokCells, bs]
    cases k with
    | zero => simp [toksCells]
    | succ k =>
      rw [List.take_succ_cons, e, e, show (k + 1) * 4 = k * 4 + 4 by omega]
      simp only [List.take_succ_cons]
      rw [ih k]
theorem own4_text {w : World} {base e g cap : Nat} {l : List Tk} (h : w.ownsRow base e 4 (.slice (some ⟨g, 0, none⟩) l.length cap) l.length (toksCells l)) (k : Nat) (x : List UInt8) (hk : k < l.length) :
    (w.setCell ⟨g, k * 4, none⟩ (.string (bs x))).ownsRow base e 4 (.slice (some ⟨g, 0, none⟩) l.length cap) l.length (toksCells (l.set k (x, (l.getD k tk0).2))) := by
  rw [← toksCells_text l k x hk]
  exact own4_set h (k * 4) _ (by omega)
theorem own4_tokset {w : World} {base e g cap : Nat} {l : List Tk} (h : w.ownsRow base e 4 (.slice (some ⟨g, 0, none⟩) l.length cap) l.length (toksCells l)) (k : Nat) (x : Tk) (hk : k < l.length) :
    ((((w.setCell ⟨g, k * 4, none⟩ (.string (bs x.1))).setCell ⟨g, k * 4 + 1, none⟩ (.int .i64 x.2.1)).setCell ⟨g, k * 4 + 2, none⟩ (.int .i64 x.2.2.1)).setCell ⟨g, k * 4 + 3, none⟩ (.int .i64 x.2.2.2)).ownsRow base e 4 (.slice (some ⟨g, 0, none⟩) l.length cap) l.length (toksCells (l.set k x)) := by
  rw [← toksCells_set l k x hk]
  exact own4_set (own4_set (own4_set (own4_set h (k * 4) _ (by omega)) (k * 4 + 1) _ (by omega)) (k * 4 + 2) _ (by omega)) (k * 4 + 3) _ (by omega)
theorem own4_cells {w : World} {base e g cap : Nat} {l : List Tk} (h : w.ownsRow base e 4 (.slice (some ⟨g, 0, none⟩) l.length cap) l.length (toksCells l)) (t : Nat) (ht : t < l.length) :
    w.cell? ⟨g, t * 4, none⟩ = some (.string (bs (l.getD t tk0).1)) ∧ w.cell? ⟨g, t * 4 + 1, none⟩ = some (.int .i64 ((l.getD t tk0).2.1 : Int)) ∧
    w.cell? ⟨g, t * 4 + 2, none⟩ = some (.int .i64 ((l.getD t tk0).2.2.1 : Int)) ∧ w.cell? ⟨g, t * 4 + 3, none⟩ = some (.int .i64 ((l.getD t tk0).2.2.2 : Int)) := by
  obtain ⟨a, c, he, hH, _⟩ := holdT_row h
  simp only [Value.slice.injEq, true_and] at he
  obtain ⟨rfl, rfl⟩ := he
  obtain ⟨b, off, hb, _, hc⟩ := hH.resolve_left (fun h => by rw [h] at ht; simp at ht)
  simp only [Option.some.injEq, Addr.mk.injEq, and_true] at hb
  obtain ⟨rfl, rfl⟩ := hb
  simpa using hc t ht
end Go.Proofs.YtionicjnoogpjaaGreatDoor
