import Derived.Test.YtgoklapafidpkaaGreatDoorTermsJ05
import Derived.Test.YtgoklapafidpkaaGreatDoorTermsJ03
import Derived.Test.YtgoklapafidpkaaGreatDoorTermsJ01
import Derived.Test.YtgoklapafidpkaaGreatDoorTermsJ00
import Derived.WalkLawsBesides
import Derived.BigQuiet
import Derived.Deep.QuietTactic
namespace Go.Proofs.YtgoklapafidpkaaGreatDoor
open Go Go.RowKit
set_option linter.unusedVariables false
theorem Tryz.infoTok : (Tryz.prog.info? 63).map (fun i => (i.zero, i.size, i.bytes)) = some (some (.agg #[.string ⟨#[]⟩, .int .i64 0, .int .i64 0, .int .i64 0]), 4, 40) := by kernel_rfl
theorem dec_okB (s : ByteArray) (h : decCode s = 0) : validB s = true ∧ s.size ≤ 65536 := by
  unfold decCode at h
  by_cases h1 : 65536 < s.size
  · rw [if_pos h1] at h; omega
  · rw [if_neg h1] at h
    by_cases h2 : validB s = true
    · exact ⟨h2, by omega⟩
    · rw [if_neg h2] at h; omega
theorem cut_text (s : ByteArray) (p k : Nat) (hp : p ≤ s.size) (hv : vFrom s p = true) : s.extract p (p + blen ((Rs s p).take k)) = ⟨(encs ((Rs s p).take k)).toArray⟩ := by
  have h1 := Rs_take_bytes s k p hv
  have h2 : (s.extract p (p + blen ((Rs s p).take k))).data.toList = encs ((Rs s p).take k) := by
    rw [Lib.extract_data, h1, Nat.add_sub_cancel_left]
  have h3 : (s.extract p (p + blen ((Rs s p).take k))).data = (encs ((Rs s p).take k)).toArray := by rw [← h2]
  cases hx : s.extract p (p + blen ((Rs s p).take k)) with
  | mk d => rw [hx] at h3; simp only at h3; rw [h3]
/-- Where the program stands: at place p, behind words that end at e. -/
def BrkAt (s : ByteArray) (p e : Nat) (acc : List Tk) : Prop :=
  ∃ (q j f : Nat), (e ≤ p → q = p) ∧ (p < e → q = e) ∧ q = p + blen ((Rs s p).take j) ∧ (Rs s q).length ≤ f ∧ acc ++ toks f (Rs s q) q acc.length = allToks s
theorem take_cons_pos (r : Int) (t : List Int) (j : Nat) (h : 0 < blen ((r :: t).take j)) : ∃ i, j = i + 1 := by
  cases j with
  | zero => simp [blen_nil] at h
  | succ i => exact ⟨i, rfl⟩
theorem BrkAt_skip (s : ByteArray) (p e : Nat) (acc : List Tk) (hp : p < s.size) (hg : ¬ bad s p) (he : p < e) (h : BrkAt s p e acc) : BrkAt s (p + (Utf8.decode s p).2) e acc := by
  obtain ⟨q, j, f, h1, h2, h3, h4, h5⟩ := h
  obtain rfl := h2 he
  rw [Rs_step s p hp] at h3
  obtain ⟨i, rfl⟩ := take_cons_pos ((Utf8.decode s p).1 : Int) (Rs s (p + (Utf8.decode s p).2)) j (by omega)
  rw [List.take_succ_cons, blen_cons, rune_width s p hp hg] at h3
  refine ⟨q, i, f, fun hh => ?_, fun _ => rfl, by omega, h4, h5⟩
  have : 0 ≤ blen (List.take i (Rs s (p + (Utf8.decode s p).2))) := Nat.zero_le _
  omega
theorem BrkAt_none (s : ByteArray) (p e : Nat) (acc : List Tk) (hp : p < s.size) (hg : ¬ bad s p) (he : e ≤ p) (hi : innB ((Utf8.decode s p).1 : Int) = false) (h4 : clsZ ((Utf8.decode s p).1 : Int) ≠ 4) (h : BrkAt s p e acc) : BrkAt s (p + (Utf8.decode s p).2) e acc := by
  obtain ⟨q, j, f, h1, h2, h3, h5, h6⟩ := h
  obtain rfl := h1 he
  have hw := width_le s q hp
  have hx := h6
  rw [Rs_step s q hp] at h5 hx
  obtain ⟨g, rfl⟩ : ∃ g, f = g + 1 := ⟨f - 1, by simp at h5; omega⟩
  rw [toks_skip g _ _ _ _ (wordK_none _ _ hi h4)] at hx
  have eb : blen [((Utf8.decode s q).1 : Int)] = (Utf8.decode s q).2 := by rw [blen_cons, blen_nil, rune_width s q hp hg]; rfl
  rw [eb] at hx
  refine ⟨q + (Utf8.decode s q).2, 0, g, fun _ => rfl, fun hh => by omega, by simp [blen_nil], by simp at h5; omega, hx⟩
theorem BrkAt_word (s : ByteArray) (p e k : Nat) (acc : List Tk) (hp : p < s.size) (hv : vFrom s p = true) (he : e ≤ p) (hk : wordK (Rs s p) = k) (hk0 : ¬ k = 0) (h : BrkAt s p e acc) :
    (acc ++ [(encs ((Rs s p).take k), acc.length, p, p + blen ((Rs s p).take k))]).length ≤ (allToks s).length ∧
    BrkAt s (p + (Utf8.decode s p).2) (p + blen ((Rs s p).take k)) (acc ++ [(encs ((Rs s p).take k), acc.length, p, p + blen ((Rs s p).take k))]) := by
  obtain ⟨q, j, f, h1, h2, h3, h5, h6⟩ := h
  obtain rfl := h1 he
  have hg := good_of s q hp hv
  have hw := width_le s q hp
  have hd := (Rs_drop s k q hv).1
  have hx := h6
  have hst := Rs_step s q hp
  rw [hst] at h5 hx hk
  obtain ⟨g, rfl⟩ : ∃ g, f = g + 1 := ⟨f - 1, by simp at h5; omega⟩
  rw [toks_word g _ _ _ _ (by rw [hk]; exact hk0), hk] at hx
  rw [← hst] at hx h5
  rw [← hd] at hx
  have hx2 : (acc ++ [(encs ((Rs s q).take k), acc.length, q, q + blen ((Rs s q).take k))]) ++ toks g (Rs s (q + blen ((Rs s q).take k))) (q + blen ((Rs s q).take k)) (acc ++ [(encs ((Rs s q).take k), acc.length, q, q + blen ((Rs s q).take k))]).length = allToks s := by
    rw [← hx, List.length_append]
    simp
  refine ⟨by have := congrArg List.length hx2; rw [List.length_append] at this; omega, ?_⟩
  obtain ⟨i, rfl⟩ : ∃ i, k = i + 1 := ⟨k - 1, by omega⟩
  have hb : blen ((Rs s q).take (i + 1)) = (Utf8.decode s q).2 + blen ((Rs s (q + (Utf8.decode s q).2)).take i) := by
    rw [hst, List.take_succ_cons, blen_cons, rune_width s q hp hg]
  refine ⟨q + blen ((Rs s q).take (i + 1)), i, g, fun hh => by omega, fun _ => rfl, by omega, ?_, hx2⟩
  have hl := congrArg List.length hd
  rw [List.length_drop] at hl
  omega
theorem BrkAt_end (s : ByteArray) (p e : Nat) (acc : List Tk) (hp : ¬ p < s.size) (he : e ≤ s.size) (h : BrkAt s p e acc) : allToks s = acc := by
  obtain ⟨q, j, f, h1, h2, h3, h5, h6⟩ := h
  obtain rfl := h1 (by omega)
  rw [Rs_end s q hp, toks_nil, List.append_nil] at h6
  exact h6.symm
theorem BrkAt_start (s : ByteArray) : BrkAt s 0 0 [] := ⟨0, 0, (runes s).length, fun _ => rfl, fun h => by omega, by simp [blen_nil], by rw [Rs_zero]; exact Nat.le_refl _, by rw [Rs_zero]; rfl⟩
theorem tok_cell_new (w : World) (t : Tk) (e : TypeId) : ∀ j u, (tokCells t)[j]? = some u → (w.alloc (.cells (tokCells t).toArray e)).cell? ((⟨w.heap.size, 0, none⟩ : Addr).add j) = some u := by
  intro j u hj
  rw [add_head, World.cell?_alloc_at (hn := rfl)]
  simpa using hj
theorem tok_one (t : Tk) : ∀ u ∈ tokCells t, u.oneCell' = true := by
  intro u hu
  simp only [tokCells, List.mem_cons, List.mem_nil_iff, or_false] at hu
  rcases hu with rfl | rfl | rfl | rfl <;> rfl
theorem own4_iterAt {w : World} {base e n k p : Nat} {s : ByteArray} {v : Value} {xs : List Value} (h : w.ownsRow base e 4 v n xs) (hk : w.heap[k]? = some (.stringIter s p)) (p' : Nat) : (w.iterAt k s p').ownsRow base e 4 v n xs := by
  refine ⟨h.1, ?_⟩
  rcases h.2 with h' | ⟨g, cap, cur, h1, h2, h3, h4⟩
  · exact Or.inl h'
  · refine Or.inr ⟨g, cap, cur, h1, h2, ?_, h4⟩
    have hne : g ≠ k := by intro e; subst e; rw [hk] at h3; cases h3
    rw [Lib.iterAt_other w k g s p' hne]
    exact h3
theorem own4_ne_iter {w : World} {base e n k p : Nat} {s : ByteArray} {v : Value} {xs : List Value} (h : w.ownsRow base e 4 v n xs) (hk : w.heap[k]? = some (.stringIter s p)) : some k ≠ v.ownBlock := by
  intro hb
  rcases h.2 with ⟨rfl, _⟩ | ⟨g, cap, cur, rfl, h2, h3, h4⟩
  · cases hb
  · have e : k = g := Option.some.inj hb
    subst e
    rw [hk] at h3
    cases h3
theorem own4_below {w w' : World} {base e n : Nat} {v : Value} {xs : List Value} (h : w.ownsRow base e 4 v n xs) (hb : Below w.heap.size w w') : w'.ownsRow base e 4 v n xs := by
  refine ⟨h.1, ?_⟩
  rcases h.2 with h' | ⟨g, cap, cur, h1, h2, h3, h4⟩
  · exact Or.inl h'
  · exact Or.inr ⟨g, cap, cur, h1, h2, by rw [hb.block g (Array.getElem?_eq_some_iff.1 h3).1]; exact h3, h4⟩
theorem own4_cases {w : World} {base e n : Nat} {v : Value} {xs : List Value} (h : w.ownsRow base e 4 v n xs) :
    (v = .slice none 0 0 ∧ n = 0) ∨ ∃ g cap, v = .slice (some ⟨g, 0, none⟩) n cap ∧ base ≤ g ∧ g < w.heap.size := by
  rcases h.2 with ⟨h1, h2⟩ | ⟨g, cap, cur, h1, hb, hg, _⟩
  · exact Or.inl ⟨h1, h2⟩
  · exact Or.inr ⟨g, cap, h1, hb, (Array.getElem?_eq_some_iff.1 hg).1⟩
theorem own4_block {w : World} {base e n : Nat} {v : Value} {xs : List Value} (h : w.ownsRow base e 4 v n xs) : ∀ k, v.ownBlock = some k → base ≤ k := by
  intro k hk
  rcases own4_cases h with ⟨rfl, _⟩ | ⟨g, cap, rfl, hb, _⟩
  · cases hk
  · cases hk; exact hb
theorem own4_len {w : World} {base e n : Nat} {v : Value} {xs : List Value} (h : w.ownsRow base e 4 v n xs) : ∃ ao cap, v = .slice ao n cap := by
  rcases own4_cases h with ⟨rfl, rfl⟩ | ⟨g, cap, rfl, _, _⟩
  · exact ⟨_, _, rfl⟩
  · exact ⟨_, _, rfl⟩
end Go.Proofs.YtgoklapafidpkaaGreatDoor

namespace Go.Proofs.YtgoklapafidpkaaGreatDoor
open Go Go.RowKit
set_option linter.unusedVariables false

theorem tk_at (l : List Tk) (k j : Nat) (hk : k < l.length) (hj : j < 4) : (toksCells l)[k * 4 + j]? = (tokCells l[k])[j]? := by
  induction l generalizing k with
  | nil => simp at hk
  | cons x t ih =>
    have e : toksCells (x :: t) = tokCells x ++ toksCells t := by simp [toksCells]
    have hx : (tokCells x).length = 4 := rfl
    rw [e]
    cases k with
    | zero => rw [List.getElem?_append_left (by omega)]; simp
    | succ k =>
      rw [List.getElem?_append_right (by omega), hx, show (k + 1) * 4 + j - 4 = k * 4 + j by omega, ih k (by simpa using hk)]
      simp
/-- A slice of tokens. -/
def HoldT (w : World) (a : Option Addr) (l : List Tk) : Prop :=
  l = [] ∨ ∃ b off, a = some ⟨b, off, none⟩ ∧ b < w.heap.size ∧ ∀ t, t < l.length → w.cell? ⟨b, off + t * 4, none⟩ = some (.string (bs (l.getD t tk0).1)) ∧ w.cell? ⟨b, off + t * 4 + 1, none⟩ = some (.int .i64 ((l.getD t tk0).2.1 : Int)) ∧ w.cell? ⟨b, off + t * 4 + 2, none⟩ = some (.int .i64 ((l.getD t tk0).2.2.1 : Int)) ∧ w.cell? ⟨b, off + t * 4 + 3, none⟩ = some (.int .i64 ((l.getD t tk0).2.2.2 : Int))
theorem holdT_row {w : World} {base e : Nat} {v : Value} {l : List Tk} (h : w.ownsRow base e 4 v l.length (toksCells l)) : ∃ a cap, v = .slice a l.length cap ∧ HoldT w a l ∧ (∀ b off, a = some ⟨b, off, none⟩ → base ≤ b ∧ b < w.heap.size) := by
  rcases own4_cases h with ⟨rfl, hz⟩ | ⟨g, cap, rfl, hb, hl⟩
  · exact ⟨none, 0, by rw [hz], Or.inl (List.length_eq_zero_iff.1 hz), fun b off e => by cases e⟩
  · refine ⟨some ⟨g, 0, none⟩, cap, rfl, Or.inr ⟨g, 0, rfl, hl, fun t ht => ?_⟩, fun b off e => by cases e; exact ⟨hb, hl⟩⟩
    have e0 : l.getD t tk0 = l[t] := by simp [ht]
    rw [e0]
    simp only [Nat.zero_add]
    refine ⟨?_, ?_, ?_, ?_⟩
    · rw [show t * 4 = t * 4 + 0 by omega, h.cellAt (t * 4 + 0) (by omega), tk_at l t 0 ht (by omega)]; rfl
    · rw [h.cellAt (t * 4 + 1) (by omega), tk_at l t 1 ht (by omega)]; rfl
    · rw [h.cellAt (t * 4 + 2) (by omega), tk_at l t 2 ht (by omega)]; rfl
    · rw [h.cellAt (t * 4 + 3) (by omega), tk_at l t 3 ht (by omega)]; rfl
theorem HoldT.cells {w w' : World} {a : Option Addr} {l : List Tk} (h : HoldT w a l) (hz : w.heap.size ≤ w'.heap.size) (hc : ∀ b off, a = some ⟨b, off, none⟩ → b < w.heap.size → w'.heap[b]? = w.heap[b]?) : HoldT w' a l := by
  rcases h with h | ⟨b, off, h1, h2, h3⟩
  · exact Or.inl h
  · refine Or.inr ⟨b, off, h1, Nat.lt_of_lt_of_le h2 hz, fun t ht => ?_⟩
    have hb := hc b off h1 h2
    have h4 := h3 t ht
    simp only [World.cell?] at h4 ⊢
    rw [hb]
    exact h4
theorem HoldT.below {w w' : World} {a : Option Addr} {l : List Tk} (h : HoldT w a l) (hb : Below w.heap.size w w') : HoldT w' a l := h.cells hb.size fun b off _ hl => hb.block b hl
theorem HoldT.grown {w w' : World} {a : Option Addr} {l : List Tk} {row : Option Nat} (h : HoldT w a l) (hg : w.grownBy w' row) (hne : ∀ b off, a = some ⟨b, off, none⟩ → some b ≠ row) : HoldT w' a l := h.cells hg.size fun b off e hl => hg.block b hl (hne b off e)
theorem own4_ne {w : World} {base e n : Nat} {v : Value} {xs : List Value} {a : Option Addr} (h : w.ownsRow base e 4 v n xs) (hb : ∀ b off, a = some ⟨b, off, none⟩ → w.heap.size ≤ b) : ∀ b off, a = some ⟨b, off, none⟩ → some b ≠ v.ownBlock := by
  intro b off e1 e2
  have h1 := hb b off e1
  rcases own4_cases h with ⟨rfl, _⟩ | ⟨g, cap, rfl, _, hl⟩
  · cases e2
  · have e3 : b = g := Option.some.inj e2
    omega
theorem own4_low {w : World} {base e n b : Nat} {v : Value} {xs : List Value} (h : w.ownsRow base e 4 v n xs) (hb : b < base) : some b ≠ v.ownBlock := fun e => by have := own4_block h b e.symm; omega
end Go.Proofs.YtgoklapafidpkaaGreatDoor

namespace Go.Proofs.YtgoklapafidpkaaGreatDoor
open Go Go.RowKit
set_option linter.unusedVariables false

/-! The terms of a field, in plain words. -/
def wordTo (l : List (List UInt8)) (k : Nat) : List Tk := (List.range k).map fun i => (l.getD i [], i, 0, (l.getD i []).length)
def shiftTk (b : Nat) (l : List Tk) : List Tk := l.map fun k => (k.1, k.2.1 + b, k.2.2)
def anT (f : Fd) (t : List UInt8) : List Tk := (anOf f.bf f.bsm f.bp f.stops f.syns f.lo f.hi (bs t)).1
def brkN (t : List UInt8) : Nat := (brkList (bs t)).length
def textTo (f : Fd) (l : List (List UInt8)) : Nat → List Tk × Nat
  | 0 => ([], 0)
  | k + 1 => ((textTo f l k).1 ++ shiftTk (textTo f l k).2 (anT f (l.getD k [])), (textTo f l k).2 + (100 + brkN (l.getD k [])))
def termsV (f : Fd) (tx : List (List UInt8)) : List Tk := if f.kind = 2 then wordTo tx tx.length else (textTo f tx tx.length).1
/-- The texts of a field in a document. -/
def valV (V : List Vl) (n : List UInt8) : Vl := V.getD (V.findIdx fun v => v.1 == n) vl0
def termsO (l : List Fd) (id : List UInt8) (V : List Vl) (n : List UInt8) : List Tk × Int :=
  if 65536 < n.length then ([], 2) else if (scOK l && dOK l id V) = false then ([], 1) else if ¬ fldIx l n < l.length then ([], 5) else if (l.getD (fldIx l n) fd0).kind = 3 then ([], 6) else (termsV (l.getD (fldIx l n) fd0) (valV V n).2.1, 0)
theorem wordTo_succ (l : List (List UInt8)) (k : Nat) : wordTo l (k + 1) = wordTo l k ++ [(l.getD k [], k, 0, (l.getD k []).length)] := by
  rw [wordTo, List.range_succ, List.map_append]; rfl
theorem wordTo_len (l : List (List UInt8)) (k : Nat) : (wordTo l k).length = k := by simp [wordTo]
theorem shiftTk_len (b : Nat) (l : List Tk) : (shiftTk b l).length = l.length := by simp [shiftTk]
theorem shiftTk_take (b : Nat) (l : List Tk) {j : Nat} (h : j < l.length) : shiftTk b (l.take (j + 1)) = shiftTk b (l.take j) ++ [((l.getD j tk0).1, (l.getD j tk0).2.1 + b, (l.getD j tk0).2.2)] := by
  rw [shiftTk, List.take_succ_eq_append_getElem h, List.map_append, List.getD_eq_getElem?_getD, List.getElem?_eq_getElem h]; rfl
theorem toks_pos : ∀ (f : Nat) (l : List Int) (a n : Nat), ∀ k ∈ toks f l a n, k.2.1 < n + (toks f l a n).length
  | 0, _, _, _ => by intro k hk; rw [toks] at hk; simp at hk
  | f + 1, [], _, _ => by intro k hk; rw [toks_nil] at hk; simp at hk
  | f + 1, r :: t, a, n => by
    by_cases h : wordK (r :: t) = 0
    · rw [toks_skip _ _ _ _ _ h]; exact toks_pos f t _ n
    · rw [toks_word _ _ _ _ _ h]
      intro k hk
      rw [List.length_cons]
      rcases List.mem_cons.1 hk with rfl | hk
      · show n < _; omega
      · have := toks_pos f _ _ (n + 1) k hk; omega
theorem brkList_small (s : ByteArray) : (brkList s).length ≤ 8192 ∧ ∀ k ∈ brkList s, k.2.1 < 8192 := by
  unfold brkList
  split
  · split
    · simp
    · rename_i h
      refine ⟨by omega, fun k hk => ?_⟩
      have := toks_pos _ _ _ _ k hk
      unfold allToks at h
      omega
  · simp
theorem azGo_pos (F : List UInt8 → List (List UInt8) × Int) (B : Nat) : ∀ (l o : List Tk), (∀ k ∈ l, k.2.1 < B) → (∀ k ∈ o, k.2.1 < B) → ∀ k ∈ (azGo F o l).1, k.2.1 < B
  | [], o, _, ho => by rw [azGo]; exact ho
  | x :: l, o, hl, ho => by
    rw [azGo]
    split
    · split
      · refine azGo_pos F B l _ (fun k hk => hl k (List.mem_cons_of_mem _ hk)) (fun k hk => ?_)
        rcases List.mem_append.1 hk with hk | hk
        · exact ho k hk
        · obtain ⟨t, _, rfl⟩ := List.mem_map.1 hk
          exact hl x List.mem_cons_self
      · simp
    · simp
theorem azGo_len8 (F : List UInt8 → List (List UInt8) × Int) : ∀ (l o : List Tk), o.length ≤ 8192 → (azGo F o l).1.length ≤ 8192
  | [], o, h => by rw [azGo]; exact h
  | k :: l, o, h => by
    rw [azGo]
    split
    · split
      · rename_i h2; exact azGo_len8 F l _ h2
      · simp
    · simp
theorem anT_small (f : Fd) (t : List UInt8) : (anT f t).length ≤ 8192 ∧ ∀ k ∈ anT f t, k.2.1 < 8192 := by
  unfold anT anOf
  split
  · simp
  · split
    · split
      · exact ⟨azGo_len8 _ _ _ (by simp), azGo_pos _ _ _ _ (brkList_small _).2 (by simp)⟩
      · simp
    · simp
theorem anT_at (f : Fd) (t : List UInt8) (j : Nat) : ((anT f t).getD j tk0).2.1 < 8192 := by
  by_cases h : j < (anT f t).length
  · exact (anT_small f t).2 _ (getD_in h)
  · rw [List.getD_eq_getElem?_getD, List.getElem?_eq_none (by omega)]; simp [tk0]
theorem brkN_small (t : List UInt8) : brkN t ≤ 8192 := (brkList_small _).1
theorem textTo_small (f : Fd) (l : List (List UInt8)) : ∀ k, (textTo f l k).2 ≤ 8292 * k ∧ (textTo f l k).1.length ≤ 8192 * k
  | 0 => by simp [textTo]
  | k + 1 => by
    obtain ⟨h1, h2⟩ := textTo_small f l k
    have h3 := brkN_small (l.getD k [])
    have h4 := (anT_small f (l.getD k [])).1
    rw [textTo, List.length_append, shiftTk_len]
    dsimp only
    omega
end Go.Proofs.YtgoklapafidpkaaGreatDoor

namespace Go.Proofs.YtgoklapafidpkaaGreatDoor
open Go Go.RowKit
set_option linter.unusedVariables false
set_option maxRecDepth 100000

theorem get_listN (s : ByteArray) (k : Nat) (h : k < s.size) : s[k] = (lst s).getD k 0 := by
  have h' : k < (lst s).length := by rw [lst_len]; exact h
  rw [List.getD_eq_getElem?_getD, List.getElem?_eq_getElem h', Option.getD_some]
  simp [lst]
  rfl
theorem all_takeC (p : UInt8 → Bool) (l : List UInt8) {k : Nat} (hk : k < l.length) (h : (l.take k).all p = true) (hp : p (l.getD k 0) = true) : (l.take (k + 1)).all p = true := by
  rw [List.take_succ_eq_append_getElem hk, List.all_append, h]
  rw [List.getD_eq_getElem?_getD, List.getElem?_eq_getElem hk] at hp
  simpa using hp
theorem all_notC (p : UInt8 → Bool) (l : List UInt8) {k : Nat} (hk : k < l.length) (hp : p (l.getD k 0) = false) : l.all p = false := by
  rw [List.all_eq_false]
  rw [List.getD_eq_getElem?_getD, List.getElem?_eq_getElem hk] at hp
  exact ⟨l[k], List.getElem_mem hk, by simpa using hp⟩
set_option maxHeartbeats 1000000 in
theorem allSmallC_any (s : ByteArray) (w : World) (hs : s.size ≤ 1048576) :
    Calls Tryz.prog 136 #[.string s] w fun e w' => e = .returned (.bool ((lst s).all smallC)) ∧ w' = w := by
  go_enter Tryz.func136, Tryz.ntmps136
  go_wp2
  go_loop [6] (fun i => ∃ k : Nat, k ≤ s.size ∧ i = .int .i64 k ∧ ((lst s).take k).all smallC = true) (fun i => s.size - (intOf i).toNat)
  case atStart => exact ⟨0, Nat.zero_le _, rfl, rfl⟩
  case round =>
    obtain ⟨k, hk, rfl, hall⟩ := hrel
    have HA := hidd hall
    clear hall
    by_cases hlt : k < s.size
    · have hkl : k < (lst s).length := by rw [lst_len]; exact hlt
      have HG := hidd (get_listN s k hlt)
      have hb8 : ((s[k]'hlt).toNat : Int) ≤ 255 := by have := UInt8.toNat_lt (s[k]'hlt); omega
      have HW : Hid ((decide ((97 : Int) ≤ ((s[k]'hlt).toNat : Int)) && decide (((s[k]'hlt).toNat : Int) ≤ 122)) = smallC ((lst s).getD k 0)) := by show _ = _; rw [smallC, HG.out]
      by_cases hv : smallC ((lst s).getD k 0) = true
      · have HN : Hid (((lst s).take (k + 1)).all smallC = true) := all_takeC _ _ hkl HA.out hv
        go_wp2_with fail
        refine (within_any _ _ _ _).mono ?_
        rintro e w' ⟨rfl, hw⟩
        obtain rfl := hw.symm
        rw [HW.out, hv]
        clear hv
        go_wp2
        go_round
        case rel => exact ⟨k + 1, by omega, by go_num, HN.out⟩
        case measure => simp [intOf]; omega
      · have hv' : smallC ((lst s).getD k 0) = false := by simpa using hv
        have HR : Hid ((lst s).all smallC = false) := all_notC _ _ hkl hv'
        go_wp2_with fail
        refine (within_any _ _ _ _).mono ?_
        rintro e w' ⟨rfl, hw⟩
        obtain rfl := hw.symm
        rw [HW.out, hv']
        clear hv hv'
        go_wp2
        go_ret
        rw [HR.out]
        exact ⟨rfl, rfl⟩
    · have HR : Hid ((lst s).all smallC = true) := by
        have := HA.out
        rw [List.take_of_length_le (by rw [lst_len]; omega)] at this
        exact this
      go_wp2
      go_ret
      rw [HR.out]
      exact ⟨rfl, rfl⟩
theorem small_first (s : ByteArray) (h : 1 ≤ s.size) : (lst (s.extract 0 1)).all smallC = smallC ((lst s).getD 0 0) := by
  have e : lst (s.extract 0 1) = (lst s).take 1 := by simp [lst, ByteArray.data_extract]
  rw [e]
  have hl : 1 ≤ (lst s).length := by rw [lst_len]; exact h
  match hq : lst s, hl with
  | c :: t, _ => simp
set_option maxHeartbeats 2000000 in
theorem nameOK_any (s : ByteArray) (w : World) (hs : s.size ≤ 1048576) :
    Calls Tryz.prog 107 #[.string s] w fun e w' => e = .returned (.bool (nmOK (lst s))) ∧ w' = w := by
  go_enter Tryz.func107, Tryz.ntmps107
  have hll := lst_len s
  by_cases hin : 1 ≤ s.size ∧ s.size ≤ 30
  · have HW : Hid ((decide ((1 : Int) ≤ (s.size : Int)) && decide ((s.size : Int) ≤ 30)) = true) := by show _ = _; rw [decide_eq_true (by omega), decide_eq_true (by omega)]; rfl
    obtain ⟨h1, h30⟩ := hin
    go_wp2_with fail
    refine (within_any _ _ _ _).mono ?_
    rintro e w' ⟨rfl, hw⟩
    obtain rfl := hw.symm
    rw [HW.out]
    have HX : Hid ((lst (s.extract 0 1)).all smallC = smallC ((lst s).getD 0 0)) := small_first s h1
    go_wp2_with fail
    refine (allSmallC_any _ _ (by rw [ByteArray.size_extract]; omega)).mono ?_
    rintro e w' ⟨rfl, hw⟩
    obtain rfl := hw.symm
    rw [HX.out]
    by_cases hf : smallC ((lst s).getD 0 0) = true
    · rw [hf]
      have HF := hidd hf
      clear hf HX HW hw
      go_wp2_with fail
      go_loopw [17] (fun i wr => ∃ k : Nat, k ≤ s.size ∧ i = .int .i64 k ∧ ((lst s).take k).all nmC = true ∧ wr = w) (fun i _ => s.size - (intOf i).toNat)
      case atStart => exact ⟨0, Nat.zero_le _, rfl, rfl, rfl⟩
      case round =>
        obtain ⟨k, hk, rfl, hall, hww⟩ := hrel
        have hww' := hww.symm
        subst hww'
        clear hww
        have HA := hidd hall
        clear hall
        by_cases hlt : k < s.size
        · have hkl : k < (lst s).length := by rw [lst_len]; exact hlt
          have HG := hidd (get_listN s k hlt)
          have hb8 : ((s[k]'hlt).toNat : Int) ≤ 255 := by have := UInt8.toNat_lt (s[k]'hlt); omega
          have HW1 : Hid ((decide ((97 : Int) ≤ ((s[k]'hlt).toNat : Int)) && decide (((s[k]'hlt).toNat : Int) ≤ 122)) = smallC ((lst s).getD k 0)) := by show _ = _; rw [smallC, HG.out]
          have HW2 : Hid ((decide ((48 : Int) ≤ ((s[k]'hlt).toNat : Int)) && decide (((s[k]'hlt).toNat : Int) ≤ 57)) = digC ((lst s).getD k 0)) := by show _ = _; rw [digC, HG.out]
          have HW3 : Hid (decide (((s[k]'hlt).toNat : Int) = 95) = decide ((((lst s).getD k 0).toNat : Int) = 95)) := by show _ = _; rw [HG.out]
          go_wp2_with fail
          refine (within_any _ _ _ _).mono ?_
          rintro e w' ⟨rfl, hw⟩
          obtain rfl := hw.symm
          rw [HW1.out]
          by_cases hc1 : smallC ((lst s).getD k 0) = true
          · rw [hc1]
            have HN : Hid (((lst s).take (k + 1)).all nmC = true) := all_takeC _ _ hkl HA.out (by rw [nmC, hc1]; rfl)
            clear hc1 HW1 HW2 HW3 hw
            go_wp2_with fail
            go_roundw
            case rel => exact ⟨k + 1, by omega, by go_num, HN.out, by first | trivial | rfl⟩
            case measure => simp [intOf]; omega
          · have hc1' : smallC ((lst s).getD k 0) = false := by simpa using hc1
            rw [hc1']
            have HC1 := hidd hc1'
            clear hc1 hc1' HW1 hw
            go_wp2_with fail
            refine (within_any _ _ _ _).mono ?_
            rintro e w' ⟨rfl, hw⟩
            obtain rfl := hw.symm
            rw [HW2.out]
            by_cases hc2 : digC ((lst s).getD k 0) = true
            · rw [hc2]
              have HN : Hid (((lst s).take (k + 1)).all nmC = true) := all_takeC _ _ hkl HA.out (by rw [nmC, hc2]; simp)
              clear hc2 HW2 HW3 hw
              go_wp2_with fail
              go_roundw
              case rel => exact ⟨k + 1, by omega, by go_num, HN.out, by first | trivial | rfl⟩
              case measure => simp [intOf]; omega
            · have hc2' : digC ((lst s).getD k 0) = false := by simpa using hc2
              rw [hc2']
              have HC2 := hidd hc2'
              clear hc2 hc2' HW2 hw
              by_cases hc3 : ((s[k]'hlt).toNat : Int) = 95
              · have HN : Hid (((lst s).take (k + 1)).all nmC = true) := all_takeC _ _ hkl HA.out (by rw [nmC, ← HW3.out, decide_eq_true hc3]; simp)
                clear HW3
                go_wp2_with fail
                go_roundw
                case rel => exact ⟨k + 1, by omega, by go_num, HN.out, by first | trivial | rfl⟩
                case measure => simp [intOf]; omega
              · have HR : Hid (nmOK (lst s) = false) := nmOK_no hkl (by rw [nmC, HC1.out, HC2.out, ← HW3.out, decide_eq_false hc3]; rfl)
                clear HW3
                go_wp2_with fail
                go_ret
                rw [HR.out]
                exact ⟨rfl, rfl⟩
        · have HR : Hid (nmOK (lst s) = true) := by
            show _ = _
            have := HA.out
            rw [List.take_of_length_le (by rw [lst_len]; omega)] at this
            rw [nmOK, this, HF.out, decide_eq_true (p := 1 ≤ (lst s).length) (by omega), decide_eq_true (p := (lst s).length ≤ 30) (by omega)]; rfl
          go_wp2_with fail
          go_ret
          rw [HR.out]
          exact ⟨rfl, rfl⟩
    · have hf' : smallC ((lst s).getD 0 0) = false := by simpa using hf
      have HR : Hid (nmOK (lst s) = false) := by show _ = _; rw [nmOK, hf']; simp
      rw [hf']
      clear hf hf' HX HW hw
      go_wp2_with fail
      go_ret
      rw [HR.out]
      exact ⟨rfl, rfl⟩
  · have HR : Hid (nmOK (lst s) = false) := by
      show _ = _
      rw [nmOK, hll]
      by_cases h1 : 1 ≤ s.size
      · rw [decide_eq_false (p := s.size ≤ 30) (by omega)]; simp
      · rw [decide_eq_false h1]; simp
    have HW : Hid ((decide ((1 : Int) ≤ (s.size : Int)) && decide ((s.size : Int) ≤ 30)) = false) := by
      show _ = _
      by_cases h1 : 1 ≤ s.size
      · rw [decide_eq_false (p := (s.size : Int) ≤ 30) (by omega), Bool.and_false]
      · rw [decide_eq_false (p := (1 : Int) ≤ (s.size : Int)) (by omega), Bool.false_and]
    clear hin
    go_wp2_with fail
    refine (within_any _ _ _ _).mono ?_
    rintro e w' ⟨rfl, hw⟩
    obtain rfl := hw.symm
    rw [HW.out]
    clear HW hw
    go_wp2_with fail
    go_ret
    rw [HR.out]
    exact ⟨rfl, rfl⟩
set_option maxHeartbeats 4000000 in
theorem specName_any (s : ByteArray) (w : World) (hs : s.size ≤ 1048576) :
    Calls Tryz.prog 62 #[.string s] w fun e w' => e = .returned (.bool (nmOK (lst s))) ∧ w' = w := by
  have hll := lst_len s
  by_cases h1 : (s.size : Int) < 1
  · have HR : Hid (nmOK (lst s) = false) := by show _ = _; rw [nmOK, hll, decide_eq_false (p := 1 ≤ s.size) (by omega)]; simp
    go_enter Tryz.func62, Tryz.ntmps62
    go_wp2_with fail
    go_ret
    rw [HR.out]
    exact ⟨rfl, rfl⟩
  by_cases h2 : (s.size : Int) > 30
  · have HR : Hid (nmOK (lst s) = false) := by show _ = _; rw [nmOK, hll, decide_eq_false (p := s.size ≤ 30) (by omega)]; simp
    go_enter Tryz.func62, Tryz.ntmps62
    go_wp2_with fail
    go_ret
    rw [HR.out]
    exact ⟨rfl, rfl⟩
  have h0 : 0 < s.size := by omega
  have HG0 := hidd (get_listN s 0 h0)
  by_cases h3 : ((s[0]'h0).toNat : Int) < 97
  · have HR : Hid (nmOK (lst s) = false) := by show _ = _; rw [nmOK, smallC, ← HG0.out, decide_eq_false (p := (97 : Int) ≤ ((s[0]'h0).toNat : Int)) (by omega)]; simp
    clear HG0
    go_enter Tryz.func62, Tryz.ntmps62
    go_wp2_with fail
    go_ret
    rw [HR.out]
    exact ⟨rfl, rfl⟩
  by_cases h4 : ((s[0]'h0).toNat : Int) > 122
  · have HR : Hid (nmOK (lst s) = false) := by show _ = _; rw [nmOK, smallC, ← HG0.out, decide_eq_false (p := ((s[0]'h0).toNat : Int) ≤ 122) (by omega)]; simp
    clear HG0
    go_enter Tryz.func62, Tryz.ntmps62
    go_wp2_with fail
    go_ret
    rw [HR.out]
    exact ⟨rfl, rfl⟩
  have HF : Hid (smallC ((lst s).getD 0 0) = true) := by show _ = _; rw [smallC, ← HG0.out, decide_eq_true (p := (97 : Int) ≤ ((s[0]'h0).toNat : Int)) (by omega), decide_eq_true (p := ((s[0]'h0).toNat : Int) ≤ 122) (by omega)]; rfl
  clear HG0
  go_enter Tryz.func62, Tryz.ntmps62
  go_wp2_with fail
  go_loopw [3] (fun i wr => ∃ k : Nat, k ≤ s.size ∧ i = .int .i64 k ∧ ((lst s).take k).all nmC = true ∧ wr = w) (fun i _ => s.size - (intOf i).toNat)
  case atStart => exact ⟨0, Nat.zero_le _, rfl, rfl, rfl⟩
  case round =>
    obtain ⟨k, hk, rfl, hall, hww⟩ := hrel
    have hww' := hww.symm
    subst hww'
    clear hww h3 h4
    have HA := hidd hall
    clear hall
    by_cases hlt : k < s.size
    · have hkz : (k : Int) < (s.size : Int) := by omega
      have hkl : k < (lst s).length := by rw [lst_len]; exact hlt
      have HG := hidd (get_listN s k hlt)
      obtain ⟨z, hz⟩ : ∃ z : Int, ((s[k]'hlt).toNat : Int) = z := ⟨_, rfl⟩
      have HZ : Hid ((((lst s).getD k 0).toNat : Int) = z) := by show _ = _; rw [← HG.out]; exact hz
      have HNo : Hid (∀ b : Bool, nmC ((lst s).getD k 0) = b → b = (decide (97 ≤ z) && decide (z ≤ 122) || (decide (48 ≤ z) && decide (z ≤ 57)) || decide (z = 95))) := fun b hb => by rw [← hb, nmC, smallC, digC, HZ.out]
      clear HG
      have go1 : (97 ≤ z ∧ z ≤ 122) ∨ (48 ≤ z ∧ z ≤ 57) ∨ z = 95 ∨ (nmC ((lst s).getD k 0) = false) := by
        by_cases q1 : 97 ≤ z ∧ z ≤ 122
        · exact Or.inl q1
        by_cases q2 : 48 ≤ z ∧ z ≤ 57
        · exact Or.inr (Or.inl q2)
        by_cases q3 : z = 95
        · exact Or.inr (Or.inr (Or.inl q3))
        refine Or.inr (Or.inr (Or.inr ?_))
        rw [HNo.out _ rfl]
        simp only [Bool.or_eq_false_iff, Bool.and_eq_false_iff, decide_eq_false_iff_not]
        omega
      by_cases hok : nmC ((lst s).getD k 0) = true
      · have HN : Hid (((lst s).take (k + 1)).all nmC = true) := all_takeC _ _ hkl HA.out hok
        have hz3 : (97 ≤ z ∧ z ≤ 122) ∨ (48 ≤ z ∧ z ≤ 57) ∨ z = 95 := by
          rcases go1 with h | h | h | h
          · exact Or.inl h
          · exact Or.inr (Or.inl h)
          · exact Or.inr (Or.inr h)
          · rw [h] at hok; cases hok
        clear hok go1 HNo HZ
        rcases hz3 with ⟨q1, q2⟩ | ⟨q1, q2⟩ | q1
        all_goals
          go_wp2_with fail
          go_roundw
          case rel => exact ⟨k + 1, by omega, by go_num, HN.out, by first | trivial | rfl⟩
          case measure => simp [intOf]; omega
      · have HR : Hid (nmOK (lst s) = false) := nmOK_no hkl (by simpa using hok)
        have hz3 : ¬ (97 ≤ z ∧ z ≤ 122) ∧ ¬ (48 ≤ z ∧ z ≤ 57) ∧ z ≠ 95 := by
          have hf : nmC ((lst s).getD k 0) = false := by simpa using hok
          have := HNo.out _ hf
          refine ⟨fun h => ?_, fun h => ?_, fun h => ?_⟩
          · rw [decide_eq_true h.1, decide_eq_true h.2] at this; simp at this
          · rw [decide_eq_true h.1, decide_eq_true h.2] at this; simp at this
          · rw [decide_eq_true h] at this; simp at this
        clear hok go1 HNo HZ
        obtain ⟨q1, q2, q3⟩ := hz3
        by_cases p1 : z < 97
        · by_cases p2 : z < 48
          · go_wp2_with fail
            go_ret
            rw [HR.out]
            exact ⟨rfl, rfl⟩
          · have p3 : z > 57 := by omega
            go_wp2_with fail
            go_ret
            rw [HR.out]
            exact ⟨rfl, rfl⟩
        · have p3 : z > 122 := by omega
          have p4 : ¬ z < 48 := by omega
          have p5 : z > 57 := by omega
          go_wp2_with fail
          go_ret
          rw [HR.out]
          exact ⟨rfl, rfl⟩
    · have hkz : ¬ (k : Int) < (s.size : Int) := by omega
      have HR : Hid (nmOK (lst s) = true) := by
        show _ = _
        have := HA.out
        rw [List.take_of_length_le (by rw [lst_len]; omega)] at this
        rw [nmOK, this, HF.out, decide_eq_true (p := 1 ≤ (lst s).length) (by omega), decide_eq_true (p := (lst s).length ≤ 30) (by omega)]; rfl
      go_wp2_with fail
      go_ret
      rw [HR.out]
      exact ⟨rfl, rfl⟩
end Go.Proofs.YtgoklapafidpkaaGreatDoor
