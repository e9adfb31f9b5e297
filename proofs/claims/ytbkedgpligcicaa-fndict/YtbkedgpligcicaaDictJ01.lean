import Derived.Test.YtbkedgpligcicaaDictJ00
import Derived.Lib.RuneBytes
import Derived.Lib.Small
import Derived.WalkKit
import Derived.Lib.OthersKept
import Derived.Deep.Draws
import Derived.Test.YtbkedgpligcicaaProg
import Derived.WalkLawsBesides
import Derived.WalkSpells
import Derived.BigQuiet
import Derived.Deep.QuietTactic
import Derived.BigRegion
import Derived.Laws.StructEq
import Derived.Deep.AppendLies
import Derived.Deep.RegionLaw
import Derived.Deep.RegionHeld3
import Derived.Deep.CutBlock
import Derived.Lib.Strings
namespace Go.Proofs.Ytbkedgpligcicaa
open Go
set_option linter.unusedVariables false

/-! States that are made from the ends on, in plain words. -/
section
variable {P G : List Tx} {c : UInt8}
def headIs (c : UInt8) (G : List Tx) : Prop := ∀ t ∈ G, ∃ r, t = c :: r
def headLt (c : UInt8) (P : List Tx) : Prop := ∀ t ∈ P, t = [] ∨ ∃ d r, t = d :: r ∧ d.toNat < c.toNat
theorem subT_append (n : Nat) (A B : List Tx) : subT n (A ++ B) = subT n A ++ subT n B := by simp [subT]
theorem subT_headIs (h : headIs c G) : subT c.toNat G = G.map List.tail := by
  induction G with
  | nil => rfl
  | cons t G ih =>
    obtain ⟨r, rfl⟩ := h t (by simp)
    have := ih (fun x hx => h x (by simp [hx]))
    simp only [subT] at this
    simp [subT, tailIf, this]
theorem subT_headNe (h : headIs c G) {n : Nat} (hn : n ≠ c.toNat) : subT n G = [] := by
  induction G with
  | nil => rfl
  | cons t G ih =>
    obtain ⟨r, rfl⟩ := h t (by simp)
    have := ih (fun x hx => h x (by simp [hx]))
    simp only [subT] at this
    have e : ¬ c.toNat = n := fun e => hn e.symm
    simp [subT, tailIf, this, e]
theorem subT_headLt (h : headLt c P) {n : Nat} (hn : c.toNat ≤ n) : subT n P = [] := by
  induction P with
  | nil => rfl
  | cons t P ih =>
    have := ih (fun x hx => h x (by simp [hx]))
    simp only [subT] at this
    rcases h t (by simp) with rfl | ⟨d, r, rfl, hd⟩
    · simp only [subT, List.filterMap_cons, tailIf]; exact this
    · have e : ¬ d.toNat = n := by omega
      simp [subT, tailIf, this, e]
theorem finT_headIs (h : headIs c G) : finT G = false := by
  cases hh : finT G with
  | false => rfl
  | true => obtain ⟨r, hr⟩ := h [] (finT_mem.1 hh); cases hr
theorem finT_add (h : headIs c G) : finT (P ++ G) = finT P := by
  have : finT (P ++ G) = (finT P || finT G) := by simp [finT]
  rw [this, finT_headIs h, Bool.or_false]
theorem labelsT_add (hG : headIs c G) (hne : G ≠ []) (hP : headLt c P) : labelsT (P ++ G) = labelsT P ++ [c.toNat] := by
  refine nat_ext (labelsT_lt _) ?_ fun n => ?_
  · rw [List.pairwise_append]
    refine ⟨labelsT_lt P, by simp, ?_⟩
    intro a ha b hb
    have e : b = c.toNat := by simpa using hb
    subst e
    obtain ⟨_, h2⟩ := labelsT_mem.1 ha
    rcases Nat.lt_or_ge a c.toNat with h | h
    · exact h
    · exact absurd (subT_headLt hP h) h2
  · rw [List.mem_append, labelsT_mem, labelsT_mem, subT_append, List.mem_singleton]
    by_cases e : n = c.toNat
    · subst e
      rw [subT_headIs hG, subT_headLt hP (Nat.le_refl _)]
      have := UInt8.toNat_lt c
      simp [hne]
      omega
    · rw [subT_headNe hG e, List.append_nil]
      simp [e]
theorem aheadT_add (hG : headIs c G) {n : Nat} (hn : n ≤ c.toNat) : aheadT n (P ++ G) = aheadT n P := by
  rw [aheadT, List.countP_append]
  have : G.countP (isAhead n) = 0 := by
    rw [List.countP_eq_zero]
    intro t ht
    obtain ⟨r, rfl⟩ := hG t ht
    simp [isAhead]
    omega
  rw [this]; rfl
theorem aheadT_all (hP : headLt c P) : aheadT c.toNat P = P.length := by
  rw [aheadT, List.countP_eq_length]
  intro t ht
  rcases hP t ht with rfl | ⟨d, r, rfl, hd⟩
  · rfl
  · simp [isAhead, hd]
theorem stOf_add (O : List (List Tx)) (hG : headIs c G) (hne : G ≠ []) (hP : headLt c P) :
    stOf O (P ++ G) = (finT P, (stOf O P).2 ++ [((c.toNat : Int), ((O.idxOf (G.map List.tail) : Nat) : Int), ((P.length : Nat) : Int))]) := by
  rw [stOf, finT_add hG, labelsT_add hG hne hP, List.map_append, List.map_singleton]
  congr 2
  · rw [stOf]
    refine List.map_congr_left fun n hn => ?_
    have hlt : n < c.toNat := by
      rcases Nat.lt_or_ge n c.toNat with h | h
      · exact h
      · exact absurd (subT_headLt hP h) (labelsT_mem.1 hn).2
    rw [subT_append, subT_headNe hG (by omega), List.append_nil, aheadT_add hG (by omega)]
  · rw [subT_append, subT_headLt hP (Nat.le_refl _), List.nil_append, subT_headIs hG, aheadT_add hG (Nat.le_refl _), aheadT_all hP]
end

/-- The sets that were made into states: each once, each behind those that it leads to. -/
structure OkO (O : List (List Tx)) : Prop where
  nodup : O.Nodup
  rise : ∀ M ∈ O, RiseT M
  closed : ∀ M ∈ O, ∀ n ∈ labelsT M, subT n M ∈ O
def Kids (O : List (List Tx)) (L : List Tx) : Prop := ∀ n ∈ labelsT L, subT n L ∈ O
theorem idxOf_pre {O O' : List (List Tx)} (h : O <+: O') {x : List Tx} (hx : x ∈ O) : O'.idxOf x = O.idxOf x := by
  obtain ⟨r, rfl⟩ := h
  rw [List.idxOf_append, if_pos hx]
theorem mem_pre {O O' : List (List Tx)} (h : O <+: O') {x : List Tx} (hx : x ∈ O) : x ∈ O' := h.subset hx
theorem stOf_pre {O O' : List (List Tx)} (h : O <+: O') {L : List Tx} (hk : Kids O L) : stOf O' L = stOf O L := by
  unfold stOf
  congr 1
  refine List.map_congr_left fun n hn => ?_
  rw [idxOf_pre h (hk n hn)]
theorem Kids.pre {O O' : List (List Tx)} (h : O <+: O') {L : List Tx} (hk : Kids O L) : Kids O' L := fun n hn => mem_pre h (hk n hn)
theorem Kids.add {O : List (List Tx)} {P G : List Tx} {c : UInt8} (hk : Kids O P) (hG : headIs c G) (hne : G ≠ []) (hP : headLt c P) (hm : G.map List.tail ∈ O) : Kids O (P ++ G) := by
  intro n hn
  rw [labelsT_add hG hne hP, List.mem_append, List.mem_singleton] at hn
  rcases hn with hn | rfl
  · have hlt : n ≠ c.toNat := by
      intro e
      exact absurd (subT_headLt hP (by omega)) (labelsT_mem.1 hn).2
    rw [subT_append, subT_headNe hG hlt, List.append_nil]
    exact hk n hn
  · rw [subT_append, subT_headLt hP (Nat.le_refl _), List.nil_append, subT_headIs hG]
    exact hm
theorem idxOf_inj {O : List (List Tx)} {x y : List Tx} (hx : x ∈ O) (hy : y ∈ O) (h : O.idxOf x = O.idxOf y) : x = y := by
  have h1 := idxOf_at hx
  have h2 := idxOf_at hy
  rw [h] at h1
  exact Option.some.inj (h1.symm.trans h2)
theorem map_pair_inj {O : List (List Tx)} (F G : Nat → List Tx) : ∀ {A B : List Nat} (f g : Nat → Int), (∀ n ∈ A, F n ∈ O) → (∀ n ∈ B, G n ∈ O) →
    (A.map fun (n : Nat) => ((n : Int), ((O.idxOf (F n) : Nat) : Int), f n)) = (B.map fun (n : Nat) => ((n : Int), ((O.idxOf (G n) : Nat) : Int), g n)) → (A.map fun n => (n, F n)) = B.map fun n => (n, G n)
  | [], [], _, _, _, _, _ => rfl
  | [], b :: B, _, _, _, _, h => by simp at h
  | a :: A, [], _, _, _, _, h => by simp at h
  | a :: A, b :: B, f, g, hA, hB, h => by
    simp only [List.map_cons, List.cons.injEq, Prod.mk.injEq] at h
    obtain ⟨⟨h1, h2, h3⟩, h4⟩ := h
    have e : a = b := by omega
    have e2 := idxOf_inj (hA a (by simp)) (hB b (by simp)) (by omega)
    rw [List.map_cons, List.map_cons, map_pair_inj F G f g (fun n hn => hA n (by simp [hn])) (fun n hn => hB n (by simp [hn])) h4, e2, e]
theorem stOf_inj {O : List (List Tx)} {L M : List Tx} (hL : RiseT L) (hM : RiseT M) (kL : Kids O L) (kM : Kids O M) (h : stOf O L = stOf O M) : L = M := by
  have h1 : finT L = finT M := congrArg Prod.fst h
  have h2 := map_pair_inj (fun n => subT n L) (fun n => subT n M) _ _ kL kM (congrArg Prod.snd h)
  rw [← joinT_self hL, ← joinT_self hM, h1, h2]
theorem OkO.snoc {O : List (List Tx)} {L : List Tx} (h : OkO O) (hL : RiseT L) (hk : Kids O L) (hn : L ∉ O) : OkO (O ++ [L]) := by
  refine ⟨?_, ?_, ?_⟩
  · rw [List.nodup_append]
    refine ⟨h.nodup, by simp, ?_⟩
    intro a ha b hb e
    have e2 : b = L := by simpa using hb
    subst e
    rw [e2] at ha
    exact hn ha
  · intro M hM
    rcases List.mem_append.1 hM with hM | hM
    · exact h.rise M hM
    · have e : M = L := by simpa using hM
      rw [e]; exact hL
  · intro M hM n hn'
    rcases List.mem_append.1 hM with hM | hM
    · exact List.mem_append_left _ (h.closed M hM n hn')
    · have e : M = L := by simpa using hM
      subst e
      exact List.mem_append_left _ (hk n hn')
def stM (O : List (List Tx)) : List St := O.map (stOf O)
theorem stM_len (O : List (List Tx)) : (stM O).length = O.length := by simp [stM]
theorem stM_snoc {O : List (List Tx)} {L : List Tx} (h : OkO O) (hk : Kids O L) : stM (O ++ [L]) = stM O ++ [stOf O L] := by
  have hp : O <+: O ++ [L] := List.prefix_append _ _
  unfold stM
  rw [List.map_append, List.map_singleton, stOf_pre hp hk]
  congr 1
  exact List.map_congr_left fun M hM => stOf_pre hp (fun n hn => h.closed M hM n hn)
theorem stM_at {O : List (List Tx)} {j : Nat} {M : List Tx} (h : O[j]? = some M) : (stM O).getD j st0 = stOf O M := by
  rw [stM, List.getD_eq_getElem?_getD, List.getElem?_map, h]; rfl
/-- How many states a set may make. -/
def szT (L : List Tx) : Nat := (L.map fun t => t.length + 1).sum
theorem szT_append (A B : List Tx) : szT (A ++ B) = szT A + szT B := by simp [szT]
theorem szT_tail {c : UInt8} {G : List Tx} (h : headIs c G) : szT (G.map List.tail) + G.length = szT G := by
  induction G with
  | nil => rfl
  | cons t G ih =>
    obtain ⟨r, rfl⟩ := h t (by simp)
    have := ih (fun x hx => h x (by simp [hx]))
    simp only [szT, List.map_cons, List.sum_cons, List.length_cons, List.tail_cons] at this ⊢
    omega
end Go.Proofs.Ytbkedgpligcicaa

namespace Go.Proofs.Ytbkedgpligcicaa
open Go

def chr (r : Int) : Bool := decide (0 ≤ r ∧ r ≤ 1114111 ∧ (r < 55296 ∨ 57343 < r))
theorem chr_iff (r : Int) : chr r = true ↔ (0 ≤ r ∧ r ≤ 1114111 ∧ (r < 55296 ∨ 57343 < r)) := by simp [chr]
theorem chr_not (r : Int) : chr r = false ↔ ¬ (0 ≤ r ∧ r ≤ 1114111 ∧ (r < 55296 ∨ 57343 < r)) := by simp [chr]

def encs (l : List Int) : List UInt8 := l.flatMap Lib.encodeRune
theorem encs_nil : encs [] = [] := rfl
theorem encs_snoc (l : List Int) (r : Int) : encs (l ++ [r]) = encs l ++ Lib.encodeRune r := by simp [encs]
theorem encodeRune_length (r : Int) : 1 ≤ (Lib.encodeRune r).length ∧ (Lib.encodeRune r).length ≤ 4 := by
  have := Lib.runeCells_le r; rw [Lib.runeCells_length] at this; exact this
theorem encs_le (l : List Int) : (encs l).length ≤ 4 * l.length := by
  induction l with
  | nil => simp [encs]
  | cons x t ih => have := encodeRune_length x; simp only [encs, List.flatMap_cons, List.length_append, List.length_cons] at *; omega
theorem encs_ge (l : List Int) : l.length ≤ (encs l).length := by
  induction l with
  | nil => simp [encs]
  | cons x t ih => have := encodeRune_length x; simp only [encs, List.flatMap_cons, List.length_append, List.length_cons] at *; omega
theorem encs_append (a b : List Int) : encs (a ++ b) = encs a ++ encs b := by simp [encs]
theorem encs_take_le (l : List Int) (k : Nat) : (encs (l.take k)).length ≤ (encs l).length := by
  have : encs l = encs (l.take k) ++ encs (l.drop k) := by rw [← encs_append, List.take_append_drop]
  rw [this]; simp

theorem runeLen_eq (r : Int) (h : chr r = true) : Lib.runeLen r = ((Lib.encodeRune r).length : Int) := by
  rw [chr_iff] at h
  unfold Lib.runeLen Lib.encodeRune Lib.encodeRuneZ
  simp only [List.length_map]
  by_cases h1 : r ≤ 127
  · rw [if_neg (by omega), if_pos (by omega), if_pos (by omega)]; rfl
  · by_cases h2 : r ≤ 2047
    · rw [if_neg (by omega), if_neg (by omega), if_pos (by omega), if_neg (by omega), if_pos (by omega)]; rfl
    · by_cases h3 : r ≤ 65535
      · rw [if_neg (by omega), if_neg (by omega), if_neg (by omega), if_neg (by omega), if_pos (by omega), if_neg (by omega), if_neg (by omega), if_pos (by omega)]; rfl
      · rw [if_neg (by omega), if_neg (by omega), if_neg (by omega), if_neg (by omega), if_neg (by omega), if_pos (by omega), if_neg (by omega), if_neg (by omega), if_neg (by omega), if_pos (by omega)]; rfl

theorem take_snoc (l : List Int) (k : Nat) (h : k < l.length) : l.take (k + 1) = l.take k ++ [l.getD k 0] := by
  rw [List.take_succ_eq_append_getElem h]; simp [h]

end Go.Proofs.Ytbkedgpligcicaa

namespace Go.Proofs.Ytbkedgpligcicaa
open Go Go.RowKit
theorem hidd {p : Prop} (h : p) : Hid p := h
theorem add_head (g j : Nat) : (⟨g, 0, none⟩ : Addr).add j = ⟨g, j, none⟩ := by
  unfold Addr.add
  by_cases h : j = 0
  · subst h; simp
  · simp [h]
theorem rune_one (r : Int) : ∀ u ∈ Lib.runeCells r, u.oneCell' = true := by
  intro u hu
  simp only [Lib.runeCells, List.mem_map] at hu
  obtain ⟨x, _, rfl⟩ := hu
  rfl
theorem own_lt {w : World} {base e g n cap : Nat} {xs : List Value} (h : w.ownsRow base e 1 (.slice (some ⟨g, 0, none⟩) n cap) n xs) : g < w.heap.size := by
  rcases h.2 with ⟨h', _⟩ | ⟨g', cap', cur, h', _, hg, _⟩
  · simp at h'
  · simp only [Value.slice.injEq, Option.some.injEq, Addr.mk.injEq, and_true, true_and] at h'
    obtain ⟨rfl, rfl⟩ := h'
    exact (Array.getElem?_eq_some_iff.1 hg).1
theorem cell_lt {w : World} {b off : Nat} {v : Value} (h : w.cell? ⟨b, off, none⟩ = some v) : b < w.heap.size := by
  by_cases hb : b < w.heap.size
  · exact hb
  · have : w.heap[b]? = none := Array.getElem?_eq_none (by omega)
    simp [World.cell?, this] at h
theorem own_cells {w : World} {base e g n cap : Nat} {zs : List Int} (h : w.ownsRow base e 1 (.slice (some ⟨g, 0, none⟩) n cap) n (zs.map (Value.int .i64))) (hl : zs.length = n) :
    ∀ t, t < n → w.cell? ⟨g, 0 + t, none⟩ = some (.int .i64 (zs.getD t 0)) := by
  intro t ht
  rw [Nat.zero_add, h.cellAt t (by omega)]
  simp [hl, ht]
theorem own_below {w w' : World} {base e n : Nat} {v : Value} {xs : List Value} (h : w.ownsRow base e 1 v n xs) (hb : Below w.heap.size w w') : w'.ownsRow base e 1 v n xs := by
  refine ⟨h.1, ?_⟩
  rcases h.2 with h' | ⟨g, cap, cur, h1, h2, h3, h4⟩
  · exact Or.inl h'
  · exact Or.inr ⟨g, cap, cur, h1, h2, by rw [hb.block g (Array.getElem?_eq_some_iff.1 h3).1]; exact h3, h4⟩
end Go.Proofs.Ytbkedgpligcicaa

namespace Go.Proofs.Ytbkedgpligcicaa
open Go Go.RowKit
set_option linter.unusedVariables false

theorem own_cases {w : World} {base e n : Nat} {v : Value} {xs : List Value} (h : w.ownsRow base e 1 v n xs) :
    (v = .slice none 0 0 ∧ n = 0) ∨ ∃ g cap, v = .slice (some ⟨g, 0, none⟩) n cap ∧ base ≤ g ∧ g < w.heap.size := by
  rcases h.2 with ⟨h1, h2⟩ | ⟨g, cap, cur, h1, hb, hg, _⟩
  · exact Or.inl ⟨h1, h2⟩
  · exact Or.inr ⟨g, cap, h1, hb, (Array.getElem?_eq_some_iff.1 hg).1⟩

theorem own_drewN {w : World} {base e n : Nat} {v : Value} {xs : List Value} (h : w.ownsRow base e 1 v n xs) : ∀ m, (w.drewN m).ownsRow base e 1 v n xs
  | 0 => h
  | m + 1 => (own_drewN h m).drew
theorem own_apart {w1 w2 : World} {base e n : Nat} {v0 v1 : Value} {xs ys : List Value} (h0 : w1.ownsRow base e 1 v0 n xs) (h1 : w2.ownsRow w1.heap.size e 1 v1 n ys) : v0.ownBlock = none ∨ v0.ownBlock ≠ v1.ownBlock := by
  rcases own_cases h0 with ⟨rfl, _⟩ | ⟨g0, c0, rfl, _, hl⟩
  · exact Or.inl rfl
  · rcases own_cases h1 with ⟨rfl, _⟩ | ⟨g1, c1, rfl, hb, _⟩
    · exact Or.inr (by simp [Value.ownBlock])
    · refine Or.inr ?_
      simp [Value.ownBlock]
      omega

theorem grown_refl (w : World) (row : Option Nat) : w.grownBy w row := ⟨rfl, rfl, rfl, Nat.le_refl _, fun _ _ _ => rfl⟩
theorem grown_trans {a b c : World} {row : Option Nat} (h : a.grownBy b row) (k : b.grownBy c row) : a.grownBy c row :=
  ⟨k.os.trans h.os, k.tape.trans h.tape, k.output.trans h.output, Nat.le_trans h.size k.size, fun i hi hne => (k.block i (Nat.lt_of_lt_of_le hi h.size) hne).trans (h.block i hi hne)⟩

theorem own_empty (w : World) (e : TypeId) : (w.alloc (.cells #[] e)).ownsRow w.heap.size e 1 (.slice (some ⟨w.heap.size, 0, none⟩) 0 0) 0 [] := by
  have := World.ownsRow_lit (base := w.heap.size) (e := e) (size := 1) w #[] 0 (Nat.le_refl _) (by unfold maxLen; omega) (by simp)
  simpa using this
theorem own_mono {w : World} {base base' e n : Nat} {v : Value} {xs : List Value} (h : w.ownsRow base e 1 v n xs) (hb : base' ≤ base) : w.ownsRow base' e 1 v n xs := by
  refine ⟨h.1, ?_⟩
  rcases h.2 with h' | ⟨g, cap, cur, h1, h2, h3⟩
  · exact Or.inl h'
  · exact Or.inr ⟨g, cap, cur, h1, Nat.le_trans hb h2, h3⟩
theorem own_block {w : World} {base e n : Nat} {v : Value} {xs : List Value} (h : w.ownsRow base e 1 v n xs) : ∀ k, v.ownBlock = some k → base ≤ k := by
  intro k hk
  rcases own_cases h with ⟨rfl, _⟩ | ⟨g, cap, rfl, hb, _⟩
  · cases hk
  · cases hk; exact hb

theorem own_iterAt {w : World} {base e n k p : Nat} {s : ByteArray} {v : Value} {xs : List Value} (h : w.ownsRow base e 1 v n xs) (hk : w.heap[k]? = some (.stringIter s p)) (p' : Nat) : (w.iterAt k s p').ownsRow base e 1 v n xs := by
  refine ⟨h.1, ?_⟩
  rcases h.2 with h' | ⟨g, cap, cur, h1, h2, h3, h4⟩
  · exact Or.inl h'
  · refine Or.inr ⟨g, cap, cur, h1, h2, ?_, h4⟩
    have hne : g ≠ k := by intro e; subst e; rw [hk] at h3; cases h3
    rw [Lib.iterAt_other w k g s p' hne]
    exact h3
theorem own_ne_iter {w : World} {base e n k p : Nat} {s : ByteArray} {v : Value} {xs : List Value} (h : w.ownsRow base e 1 v n xs) (hk : w.heap[k]? = some (.stringIter s p)) : some k ≠ v.ownBlock := by
  intro hb
  rcases h.2 with ⟨rfl, _⟩ | ⟨g, cap, cur, rfl, h2, h3, h4⟩
  · cases hb
  · have e : k = g := Option.some.inj hb
    subst e
    rw [hk] at h3
    cases h3
end Go.Proofs.Ytbkedgpligcicaa

namespace Go.Proofs.Ytbkedgpligcicaa
open Go Go.RowKit
set_option linter.unusedVariables false

def ar0 : Ar := (0, 0, 0)
/-- A slice of arcs, a slice of states, as they lie in a world. -/
def HoldA (w : World) (a : Option Addr) (l : List Ar) : Prop :=
  l = [] ∨ ∃ b off, a = some ⟨b, off, none⟩ ∧ b < w.heap.size ∧ ∀ k, k < l.length → w.cell? ⟨b, off + k * 3, none⟩ = some (.int .i64 (l.getD k ar0).1) ∧ w.cell? ⟨b, off + k * 3 + 1, none⟩ = some (.int .i64 (l.getD k ar0).2.1) ∧ w.cell? ⟨b, off + k * 3 + 2, none⟩ = some (.int .i64 (l.getD k ar0).2.2)
theorem HoldA.keep {w w' : World} {a : Option Addr} {l : List Ar} (h : HoldA w a l) (hz : w.heap.size ≤ w'.heap.size) (hc : ∀ b off, a = some ⟨b, off, none⟩ → b < w.heap.size → w'.heap[b]? = w.heap[b]?) : HoldA w' a l := by
  rcases h with h | ⟨b, off, ha, hb, h⟩
  · exact Or.inl h
  · refine Or.inr ⟨b, off, ha, by omega, fun k hk => ?_⟩
    have e : ∀ j, w'.cell? ⟨b, j, none⟩ = w.cell? ⟨b, j, none⟩ := fun j => by simp [World.cell?, hc b off ha hb]
    rw [e, e, e]
    exact h k hk
theorem HoldA.below {w w' : World} {a : Option Addr} {l : List Ar} (h : HoldA w a l) (hb : Below w.heap.size w w') : HoldA w' a l := h.keep hb.size fun b off _ hl => hb.block b hl
def HoldS (w : World) (a : Option Addr) (S : List St) : Prop :=
  S = [] ∨ ∃ b off, a = some ⟨b, off, none⟩ ∧ b < w.heap.size ∧ ∀ i, i < S.length → w.cell? ⟨b, off + i * 2, none⟩ = some (.bool (S.getD i st0).1) ∧ ∃ ai ci, w.cell? ⟨b, off + i * 2 + 1, none⟩ = some (.slice ai (S.getD i st0).2.length ci) ∧ HoldA w ai (S.getD i st0).2
theorem HoldS.below {w w' : World} {a : Option Addr} {S : List St} (h : HoldS w a S) (hb : Below w.heap.size w w') : HoldS w' a S := by
  rcases h with h | ⟨b, off, ha, hbl, h⟩
  · exact Or.inl h
  · refine Or.inr ⟨b, off, ha, Nat.lt_of_lt_of_le hbl hb.size, fun i hi => ?_⟩
    obtain ⟨h1, ai, ci, h2, h3⟩ := h i hi
    exact ⟨(hb.cell (p := ⟨b, off + i * 2, none⟩) hbl).trans h1, ai, ci, (hb.cell (p := ⟨b, off + i * 2 + 1, none⟩) hbl).trans h2, h3.below hb⟩

theorem blkc {w : World} {b : Nat} {cs : Array Value} {t : TypeId} (h : w.heap[b]? = some (.cells cs t)) (k : Nat) : w.cell? ⟨b, k, none⟩ = cs[k]? := by
  simp [World.cell?, h]
theorem blko {w w' : World} {b : Nat} {o : Obj} (h : w.heap[b]? = some o) (hb : Below w.heap.size w w') : w'.heap[b]? = some o := (hb.block b (Array.getElem?_eq_some_iff.1 h).1).trans h
theorem box_two (w : World) (o1 o2 : Obj) : ((w.alloc o1).alloc o2).heap[w.heap.size]? = some o1 ∧ ((w.alloc o1).alloc o2).heap[w.heap.size + 1]? = some o2 := by
  refine ⟨?_, ?_⟩
  · rw [Below.heap_alloc _ _ _ (by simp)]; exact heap_alloc_new _ _
  · have := heap_alloc_new (w.alloc o1) o2
    rw [World.size_alloc] at this
    exact this
theorem take_all (l m : List Ar) (hl : l.length = m.length) (k : Nat) (hk : ∀ j, j < k → l.getD j ar0 = m.getD j ar0) (h : ¬ k < l.length) : l = m := by
  apply List.ext_getElem hl
  intro i h1 h2
  have := hk i (by omega)
  simpa [h1, h2] using this

def arV (p : Ar) : Value := .agg #[.int .i64 p.1, .int .i64 p.2.1, .int .i64 p.2.2]
theorem eqArc (w : World) (p r : Ar) : (Op.equalIn 10000 85 (.agg #[.int .i64 p.1, .int .i64 p.2.1, .int .i64 p.2.2]) (.agg #[.int .i64 r.1, .int .i64 r.2.1, .int .i64 r.2.2])).run Try.prog w = .ok (decide (p = r)) w := by
  obtain ⟨p0, p1, p2⟩ := p
  obtain ⟨r0, r1, r2⟩ := r
  go_simp
  by_cases h0 : p0 = r0 <;> by_cases h1 : p1 = r1 <;> by_cases h2 : p2 = r2 <;> simp [*]
theorem guardArc (w : World) (x y : Operand) (xs ys : Array Value) : (eqGuard .neq 85 x y (.agg xs) (.agg ys)).run Try.prog w = .ok () w := run_eqGuard_agg w .neq _ x y xs ys (by kernel_rfl)
set_option maxHeartbeats 2000000 in
set_option maxRecDepth 100000 in
theorem sameState_any (f1 f2 : Bool) (a1 a2 : Option Addr) (c1 c2 : Nat) (l m : List Ar) (w : World) (hn : l.length ≤ 1048576) (hm : m.length ≤ 1048576) (h1 : HoldA w a1 l) (h2 : HoldA w a2 m) (R : Bool) (hR : decide ((f1, l) = (f2, m)) = R) :
    Calls Try.prog 96 #[.agg #[.bool f1, .slice a1 l.length c1], .agg #[.bool f2, .slice a2 m.length c2]] w fun e w' => e = .returned (.bool R) ∧ Below w.heap.size w w' := by
  have HRR := hidd hR
  clear hR
  by_cases hq : f1 = f2 ∧ l.length = m.length
  · obtain ⟨rfl, hlm⟩ := hq
    generalize hln : l.length = n at *
    have hmn : m.length = n := hlm.symm
    rw [hmn]
    have HBa : Hid (Below w.heap.size w ((w.alloc (.cells #[.bool f1, .slice a1 n c1] 82)).alloc (.cells #[.bool f1, .slice a2 n c2] 82))) := ((Below.refl _ _).alloc (Nat.le_refl _) _).alloc (by simp) _
    have H1 := hidd (h1.below HBa.out)
    have H2 := hidd (h2.below HBa.out)
    have Hln := hidd hln
    have Hmn := hidd hmn
    clear h1 h2 hln hmn hlm hm
    have hneq : (f1 != f1) = false := by cases f1 <;> rfl
    go_enter Try.func96, Try.ntmps96
    go_wp2_with fail
    have Hbx := hidd (box_two w (.cells #[.bool f1, .slice a1 n c1] 82) (.cells #[.bool f1, .slice a2 n c2] 82))
    generalize (w.alloc (.cells #[.bool f1, .slice a1 n c1] 82)).alloc (.cells #[.bool f1, .slice a2 n c2] 82) = wa at *
    have e1 : wa.cell? ⟨w.heap.size, 1, none⟩ = some (.slice a1 n c1) := blkc Hbx.out.1 1
    have e2 : wa.cell? ⟨w.heap.size + 1, 1, none⟩ = some (.slice a2 n c2) := blkc Hbx.out.2 1
    go_loopw [5] (fun iv wr => ∃ k : Nat, k ≤ n ∧ iv = .int .i64 (k : Int) ∧ (∀ j, j < k → l.getD j ar0 = m.getD j ar0) ∧ ∃ q, wr = wa.drewN q) (fun iv _ => n - (intOf iv).toNat)
    case atStart => exact ⟨0, Nat.zero_le _, rfl, fun j hj => absurd hj (by omega), 0, rfl⟩
    case round =>
      obtain ⟨k, hk, rfl, heq, q, rfl⟩ := hrel
      have HE := hidd heq
      clear heq
      by_cases hlt : k < n
      · have hkz : (k : Int) < (n : Int) := by omega
        obtain ⟨b1, o1, rfl, hb1, hc1⟩ := H1.out.resolve_left (fun h => by have := Hln.out; rw [h] at this; simp at this; omega)
        obtain ⟨b2, o2, rfl, hb2, hc2⟩ := H2.out.resolve_left (fun h => by have := Hmn.out; rw [h] at this; simp at this; omega)
        obtain ⟨x0, x1, x2⟩ := hc1 k (by rw [Hln.out]; exact hlt)
        obtain ⟨y0, y1, y2⟩ := hc2 k (by rw [Hmn.out]; exact hlt)
        clear hc1 hc2
        obtain ⟨p, hp⟩ : ∃ p, l.getD k ar0 = p := ⟨_, rfl⟩
        obtain ⟨r, hr⟩ : ∃ r, m.getD k ar0 = r := ⟨_, rfl⟩
        rw [hp] at x0 x1 x2
        rw [hr] at y0 y1 y2
        have HP := hidd hp
        have HR := hidd hr
        clear hp hr
        obtain ⟨p0, p1, p2⟩ := p
        obtain ⟨r0, r1, r2⟩ := r
        dsimp only at x0 x1 x2 y0 y1 y2
        by_cases hpr : (p0, p1, p2) = (r0, r1, r2)
        · cases hpr
          have HE2 : Hid (∀ j, j < k + 1 → l.getD j ar0 = m.getD j ar0) := fun j hj => by
            by_cases hjk : j = k
            · subst hjk; rw [HP.out, HR.out]
            · exact HE.out j (by omega)
          go_wp2
          go_quiet (fail)
          go_wp2
          go_roundw
          case rel => exact ⟨k + 1, by omega, by go_num, HE2.out, _, rfl⟩
          case measure => simp [intOf]; omega
        · have HF : Hid (R = false) := by
            refine HRR.out.symm.trans (decide_eq_false ?_)
            refine fun h => hpr ?_
            have h' : l = m := (Prod.mk.inj h).2
            have e := HP.out
            rw [h', HR.out] at e
            exact e.symm
          have h3 : ¬ (p0 = r0 ∧ p1 = r1 ∧ p2 = r2) := fun h => hpr (by rw [h.1, h.2.1, h.2.2])
          clear hpr
          by_cases h0 : p0 = r0
          · by_cases h1 : p1 = r1
            · have h2 : ¬ p2 = r2 := fun h => h3 ⟨h0, h1, h⟩
              subst h0 h1
              clear h3
              go_wp2
              go_quiet (fail)
              go_wp2
              go_ret
              rw [HF.out]
              exact ⟨rfl, below_drewN (below_drewN HBa.out _) _⟩
            · subst h0
              clear h3
              go_wp2
              go_quiet (fail)
              go_wp2
              go_ret
              rw [HF.out]
              exact ⟨rfl, below_drewN (below_drewN HBa.out _) _⟩
          · clear h3
            go_wp2
            go_quiet (fail)
            go_wp2
            go_ret
            rw [HF.out]
            exact ⟨rfl, below_drewN (below_drewN HBa.out _) _⟩
      · have HF : Hid (R = true) := by
          refine HRR.out.symm.trans (decide_eq_true ?_)
          rw [take_all l m (by rw [Hln.out, Hmn.out]) k HE.out (by rw [Hln.out]; exact hlt)]
        have hkz : ¬ (k : Int) < (n : Int) := by omega
        go_wp2
        go_ret
        rw [HF.out]
        exact ⟨rfl, below_drewN HBa.out _⟩
  · have HF : Hid (R = false) := by
      refine HRR.out.symm.trans (decide_eq_false ?_)
      refine fun h => hq ?_
      have h' := Prod.mk.inj h
      exact ⟨h'.1, by rw [h'.2]⟩
    have HBa : Hid (Below w.heap.size w ((w.alloc (.cells #[.bool f1, .slice a1 l.length c1] 82)).alloc (.cells #[.bool f2, .slice a2 m.length c2] 82))) := ((Below.refl _ _).alloc (Nat.le_refl _) _).alloc (by simp) _
    by_cases hf : f1 = f2
    · subst hf
      have hneq : (f1 != f1) = false := by cases f1 <;> rfl
      have hln : ¬ l.length = m.length := fun h => hq ⟨rfl, h⟩
      have hlz : ((l.length : Int) != (m.length : Int)) = true := by simp; omega
      clear hq
      go_enter Try.func96, Try.ntmps96
      go_wp2
      go_ret
      rw [HF.out]
      exact ⟨rfl, HBa.out⟩
    · have hneq : (f1 != f2) = true := by cases f1 <;> cases f2 <;> simp_all
      clear hq
      go_enter Try.func96, Try.ntmps96
      go_wp2
      go_ret
      rw [HF.out]
      exact ⟨rfl, HBa.out⟩
end Go.Proofs.Ytbkedgpligcicaa

namespace Go.Proofs.Ytbkedgpligcicaa
open Go Go.RowKit
set_option linter.unusedVariables false

def mixStep (h : Nat) (a : Ar) : Nat := (h * 31 + a.1.toNat * 7 + a.2.1.toNat * 131) % 1000003
def mixG (f : Bool) (l : List Ar) : Nat := l.foldl mixStep (if f then 8 else 7)
def mixOf (s : St) : Nat := mixG s.1 s.2 % 1024
theorem mixG_lt (f : Bool) (l : List Ar) : mixG f l < 1000003 := by
  unfold mixG
  have : ∀ (l : List Ar) (h : Nat), h < 1000003 → l.foldl mixStep h < 1000003 := by
    intro l
    induction l with
    | nil => intro h hh; exact hh
    | cons a t ih => intro h hh; rw [List.foldl_cons]; exact ih _ (Nat.mod_lt _ (by omega))
  exact this l _ (by cases f <;> decide)
theorem mixG_snoc (f : Bool) (l : List Ar) (k : Nat) (h : k < l.length) : mixG f (l.take (k + 1)) = mixStep (mixG f (l.take k)) (l.getD k ar0) := by
  have ht : l.take (k + 1) = l.take k ++ [l.getD k ar0] := by rw [List.take_succ_eq_append_getElem h]; simp [h]
  rw [mixG, ht, List.foldl_append]; rfl
/-- Arcs with small numbers. -/
def SmallA (l : List Ar) : Prop := ∀ a ∈ l, 0 ≤ a.1 ∧ a.1 ≤ 255 ∧ 0 ≤ a.2.1 ∧ a.2.1 ≤ 1000000
theorem SmallA.at {l : List Ar} (h : SmallA l) {k : Nat} (hk : k < l.length) : 0 ≤ (l.getD k ar0).1 ∧ (l.getD k ar0).1 ≤ 255 ∧ 0 ≤ (l.getD k ar0).2.1 ∧ (l.getD k ar0).2.1 ≤ 1000000 :=
  h _ (by rw [List.getD_eq_getElem?_getD, List.getElem?_eq_getElem hk]; exact List.getElem_mem _)

set_option maxHeartbeats 2000000 in
set_option maxRecDepth 100000 in
theorem mix_any (f : Bool) (a : Option Addr) (c : Nat) (l : List Ar) (w : World) (hn : l.length ≤ 1048576) (h1 : HoldA w a l) (hs : SmallA l) :
    Calls Try.prog 95 #[.agg #[.bool f, .slice a l.length c]] w fun e w' => e = .returned (.int .i64 (mixOf (f, l) : Nat)) ∧ Below w.heap.size w w' := by
  obtain ⟨R, hR⟩ : ∃ R, mixOf (f, l) = R := ⟨_, rfl⟩
  rw [hR]
  have HRR : Hid (mixG f l % 1024 = R) := hR
  clear hR
  have HBa : Hid (Below w.heap.size w (w.alloc (.cells #[.bool f, .slice a l.length c] 82))) := (Below.refl _ _).alloc (Nat.le_refl _) _
  have H1 := hidd (h1.below HBa.out)
  have HS := hidd hs
  have Hbx := hidd (heap_alloc_new w (.cells #[.bool f, .slice a l.length c] 82))
  clear h1 hs
  cases f with
  | false =>
    go_enter Try.func95, Try.ntmps95
    go_wp2_with fail
    generalize w.alloc (.cells #[.bool false, .slice a l.length c] 82) = wa at *
    have e1 : wa.cell? ⟨w.heap.size, 1, none⟩ = some (.slice a l.length c) := blkc Hbx.out 1
    go_loopw [3, 4] (fun hv iv wr => ∃ k : Nat, k ≤ l.length ∧ iv = .int .i64 (k : Int) ∧ hv = .int .i64 ((mixG false (l.take k) : Nat) : Int) ∧ ∃ q, wr = wa.drewN q) (fun _ iv _ => l.length - (intOf iv).toNat)
    case atStart => exact ⟨0, Nat.zero_le _, rfl, by simp [mixG], 0, rfl⟩
    case round =>
      obtain ⟨k, hk, rfl, rfl, q, rfl⟩ := hrel
      have hmx := mixG_lt false (l.take k)
      by_cases hlt : k < l.length
      · have hkz : (k : Int) < (l.length : Int) := by omega
        obtain ⟨b1, o1, rfl, hb1, hc1⟩ := H1.out.resolve_left (fun h => by rw [h] at hlt; simp at hlt)
        obtain ⟨x0, x1, x2⟩ := hc1 k hlt
        clear hc1
        have hsm := HS.out.at hlt
        have HM := hidd (mixG_snoc false l k hlt)
        rw [mixStep] at HM
        obtain ⟨p, hp⟩ : ∃ p, l.getD k ar0 = p := ⟨_, rfl⟩
        rw [hp] at x0 x1 x2 hsm HM
        clear hp
        obtain ⟨p0, p1, p2⟩ := p
        dsimp only at x0 x1 x2 hsm HM
        obtain ⟨g1, g2, g3, g4⟩ := hsm
        obtain ⟨P0, rfl⟩ := Int.eq_ofNat_of_zero_le g1
        obtain ⟨P1, rfl⟩ := Int.eq_ofNat_of_zero_le g3
        simp only [Int.toNat_natCast] at HM
        generalize mixG false (l.take k) = M at *
        go_wp2
        go_quiet (fail)
        go_wp2
        go_roundw
        case rel => exact ⟨k + 1, by omega, by go_num, by rw [HM.out]; go_num, _, rfl⟩
        case measure => simp [intOf]; omega
      · have HK : Hid (mixG false (l.take k) = mixG false l) := by show _ = _; rw [List.take_of_length_le (by omega)]
        have hkz : ¬ (k : Int) < (l.length : Int) := by omega
        rw [HK.out] at hmx ⊢
        have hR2 := HRR.out
        clear HRR HK
        generalize mixG false l = M at *
        go_wp2
        go_ret
        refine ⟨?_, below_drewN HBa.out _⟩
        rw [← hR2]
        go_num
  | true =>
    go_enter Try.func95, Try.ntmps95
    go_wp2_with fail
    generalize w.alloc (.cells #[.bool true, .slice a l.length c] 82) = wa at *
    have e1 : wa.cell? ⟨w.heap.size, 1, none⟩ = some (.slice a l.length c) := blkc Hbx.out 1
    go_loopw [3, 4] (fun hv iv wr => ∃ k : Nat, k ≤ l.length ∧ iv = .int .i64 (k : Int) ∧ hv = .int .i64 ((mixG true (l.take k) : Nat) : Int) ∧ ∃ q, wr = wa.drewN q) (fun _ iv _ => l.length - (intOf iv).toNat)
    case atStart => exact ⟨0, Nat.zero_le _, rfl, by simp [mixG], 0, rfl⟩
    case round =>
      obtain ⟨k, hk, rfl, rfl, q, rfl⟩ := hrel
      have hmx := mixG_lt true (l.take k)
      by_cases hlt : k < l.length
      · have hkz : (k : Int) < (l.length : Int) := by omega
        obtain ⟨b1, o1, rfl, hb1, hc1⟩ := H1.out.resolve_left (fun h => by rw [h] at hlt; simp at hlt)
        obtain ⟨x0, x1, x2⟩ := hc1 k hlt
        clear hc1
        have hsm := HS.out.at hlt
        have HM := hidd (mixG_snoc true l k hlt)
        rw [mixStep] at HM
        obtain ⟨p, hp⟩ : ∃ p, l.getD k ar0 = p := ⟨_, rfl⟩
        rw [hp] at x0 x1 x2 hsm HM
        clear hp
        obtain ⟨p0, p1, p2⟩ := p
        dsimp only at x0 x1 x2 hsm HM
        obtain ⟨g1, g2, g3, g4⟩ := hsm
        obtain ⟨P0, rfl⟩ := Int.eq_ofNat_of_zero_le g1
        obtain ⟨P1, rfl⟩ := Int.eq_ofNat_of_zero_le g3
        simp only [Int.toNat_natCast] at HM
        generalize mixG true (l.take k) = M at *
        go_wp2
        go_quiet (fail)
        go_wp2
        go_roundw
        case rel => exact ⟨k + 1, by omega, by go_num, by rw [HM.out]; go_num, _, rfl⟩
        case measure => simp [intOf]; omega
      · have HK : Hid (mixG true (l.take k) = mixG true l) := by show _ = _; rw [List.take_of_length_le (by omega)]
        have hkz : ¬ (k : Int) < (l.length : Int) := by omega
        rw [HK.out] at hmx ⊢
        have hR2 := HRR.out
        clear HRR HK
        generalize mixG true l = M at *
        go_wp2
        go_ret
        refine ⟨?_, below_drewN HBa.out _⟩
        rw [← hR2]
        go_num
end Go.Proofs.Ytbkedgpligcicaa

namespace Go.Proofs.Ytbkedgpligcicaa
open Go Go.RowKit
set_option linter.unusedVariables false
set_option maxRecDepth 100000

/-! The maker's memory: which block is what. -/
inductive Role where
  | mk
  | st
  | bk
  | lst (h : Nat)
  | arc
  | oth
theorem own_congr {w w' : World} {base e size n : Nat} {v : Value} {xs : List Value} (h : w.ownsRow base e size v n xs) (hb : ∀ b, v.ownBlock = some b → w'.heap[b]? = w.heap[b]?) : w'.ownsRow base e size v n xs := by
  refine ⟨h.1, ?_⟩
  rcases h.2 with h' | ⟨g, cap, cur, rfl, h2, h3, h4⟩
  · exact Or.inl h'
  · exact Or.inr ⟨g, cap, cur, rfl, h2, by rw [hb g rfl]; exact h3, h4⟩
def aC (l : List Ar) : List Value := l.flatMap fun a => [.int .i64 a.1, .int .i64 a.2.1, .int .i64 a.2.2]
theorem aC_snoc (l : List Ar) (a : Ar) : aC (l ++ [a]) = aC l ++ [.int .i64 a.1, .int .i64 a.2.1, .int .i64 a.2.2] := by simp [aC]
theorem aC_len (l : List Ar) : (aC l).length = l.length * 3 := by
  induction l with
  | nil => rfl
  | cons a t ih => simp only [aC, List.flatMap_cons, List.length_append, List.length_cons, List.length_nil] at ih ⊢; omega
theorem aC_at : ∀ (l : List Ar) (k : Nat), k < l.length → (aC l)[k * 3]? = some (.int .i64 (l.getD k ar0).1) ∧ (aC l)[k * 3 + 1]? = some (.int .i64 (l.getD k ar0).2.1) ∧ (aC l)[k * 3 + 2]? = some (.int .i64 (l.getD k ar0).2.2)
  | [], k, h => by simp at h
  | a :: t, 0, _ => by simp [aC]
  | a :: t, k + 1, h => by
    have ih := aC_at t k (by simpa using h)
    have e : aC (a :: t) = [.int .i64 a.1, .int .i64 a.2.1, .int .i64 a.2.2] ++ aC t := rfl
    rw [e, List.getElem?_append_right (by simp; omega), List.getElem?_append_right (by simp; omega), List.getElem?_append_right (by simp; omega)]
    simp only [List.length_cons, List.length_nil, List.getD_cons_succ]
    rw [show (k + 1) * 3 - (0 + 1 + 1 + 1) = k * 3 from by omega, show (k + 1) * 3 + 1 - (0 + 1 + 1 + 1) = k * 3 + 1 from by omega, show (k + 1) * 3 + 2 - (0 + 1 + 1 + 1) = k * 3 + 2 from by omega]
    exact ih
theorem holdA_of {w : World} {base e : Nat} {v : Value} {l : List Ar} (h : w.ownsRow base e 3 v l.length (aC l)) : ∃ a c, v = .slice a l.length c ∧ HoldA w a l ∧ ∀ b off, a = some ⟨b, off, none⟩ → v.ownBlock = some b := by
  have h0 := h
  rcases h.2 with ⟨rfl, hn⟩ | ⟨g, cap, cur, rfl, _, hg, _⟩
  · exact ⟨none, 0, by rw [hn], Or.inl (List.length_eq_zero_iff.1 hn), fun b off e => by cases e⟩
  · refine ⟨_, cap, rfl, Or.inr ⟨g, 0, rfl, (Array.getElem?_eq_some_iff.1 hg).1, fun k hk => ?_⟩, fun b off e => by cases e; rfl⟩
    have := aC_at l k hk
    rw [Nat.zero_add, h0.cellAt _ (by omega), h0.cellAt _ (by omega), h0.cellAt _ (by omega)]
    exact this
def bkt (S : List St) (h : Nat) : List Nat := (List.range S.length).filter fun j => mixOf (S.getD j st0) == h
theorem bkt_snoc (S : List St) (s : St) (h : Nat) : bkt (S ++ [s]) h = bkt S h ++ if mixOf s = h then [S.length] else [] := by
  unfold bkt
  rw [List.length_append, List.length_singleton, List.range_succ, List.filter_append]
  congr 1
  · refine List.filter_congr fun j hj => ?_
    have : j < S.length := by simpa using hj
    rw [List.getD_eq_getElem?_getD, List.getElem?_append_left this, ← List.getD_eq_getElem?_getD]
  · have e : (S ++ [s]).getD S.length st0 = s := by rw [List.getD_eq_getElem?_getD, List.getElem?_append_right (Nat.le_refl _)]; simp
    simp only [List.filter_cons, List.filter_nil, e, beq_iff_eq]
theorem bkt_lt {S : List St} {h j : Nat} (hj : j ∈ bkt S h) : j < S.length ∧ mixOf (S.getD j st0) = h := by
  simpa [bkt] using hj
theorem bkt_len (S : List St) (h : Nat) : (bkt S h).length ≤ S.length := by
  have := List.length_filter_le (fun j => mixOf (S.getD j st0) == h) (List.range S.length)
  simpa [bkt] using this
def nV (l : List Nat) : List Value := l.map fun (v : Nat) => Value.int .i64 (v : Int)
theorem nV_len (l : List Nat) : (nV l).length = l.length := by simp [nV]
/-- The maker as it lies in a world. -/
structure MkAt (w : World) (r : Nat → Role) (base bm bb : Nat) (aT : Option Addr) (nT cT : Nat) (O : List (List Tx)) (vS : Value) (vb : Nat → Value) (xs : List Value) (cs : Array Value) : Prop where
  box : w.heap[bm]? = some (.cells #[.slice aT nT cT, vS, .slice none 0 0, .slice (some ⟨bb, 0, none⟩) 1024 1024] 112)
  rbm : r bm = .mk
  rbb : r bb = .bk
  lbm : base ≤ bm
  lbb : base ≤ bb
  bks : w.heap[bb]? = some (.cells cs 66)
  csz : cs.size = 1024
  cat : ∀ h, h < 1024 → cs[h]? = some (vb h)
  lst : ∀ h, h < 1024 → w.ownsRow base 3 1 (vb h) (bkt (stM O) h).length (nV (bkt (stM O) h)) ∧ ∀ b, (vb h).ownBlock = some b → r b = .lst h
  row : w.ownsRow base 82 2 vS O.length xs
  rst : ∀ b, vS.ownBlock = some b → r b = .st
  sts : ∀ j, j < O.length → xs[j * 2]? = some (.bool ((stM O).getD j st0).1) ∧ ∃ aj cj, xs[j * 2 + 1]? = some (.slice aj ((stM O).getD j st0).2.length cj) ∧ HoldA w aj ((stM O).getD j st0).2 ∧ ∀ b off, aj = some ⟨b, off, none⟩ → r b = .arc
  new : ∀ b, w.heap.size ≤ b → r b = .oth
theorem MkAt.kept {w w' : World} {r : Nat → Role} {base bm bb : Nat} {aT : Option Addr} {nT cT : Nat} {O : List (List Tx)} {vS : Value} {vb : Nat → Value} {xs : List Value} {cs : Array Value} (h : MkAt w r base bm bb aT nT cT O vS vb xs cs)
    (hz : w.heap.size ≤ w'.heap.size) (hk : ∀ b, b < w.heap.size → r b ≠ .oth → w'.heap[b]? = w.heap[b]?) : MkAt w' r base bm bb aT nT cT O vS vb xs cs := by
  have hlt : ∀ b, r b ≠ .oth → b < w.heap.size := fun b hb => by
    rcases Nat.lt_or_ge b w.heap.size with h1 | h1
    · exact h1
    · exact absurd (h.new b h1) hb
  have hk2 : ∀ b, r b ≠ .oth → w'.heap[b]? = w.heap[b]? := fun b hb => hk b (hlt b hb) hb
  refine ⟨(hk2 bm (by rw [h.rbm]; simp)).trans h.box, h.rbm, h.rbb, h.lbm, h.lbb, (hk2 bb (by rw [h.rbb]; simp)).trans h.bks, h.csz, h.cat, fun i hi => ⟨own_congr (h.lst i hi).1 fun b hb => hk2 b (by rw [(h.lst i hi).2 b hb]; simp), (h.lst i hi).2⟩, own_congr h.row fun b hb => hk2 b (by rw [h.rst b hb]; simp), h.rst, fun j hj => ?_, fun b hb => h.new b (by omega)⟩
  obtain ⟨h1, aj, cj, h2, h3, h4⟩ := h.sts j hj
  exact ⟨h1, aj, cj, h2, h3.keep hz fun b off e _ => hk2 b (by rw [h4 b off e]; simp), h4⟩
/-- What a call of the maker leaves as it was. -/
structure MkFr (w w' : World) (r r' : Nat → Role) : Prop where
  os : w'.os = w.os
  tape : w'.tape = w.tape
  output : w'.output = w.output
  size : w.heap.size ≤ w'.heap.size
  role : ∀ b, b < w.heap.size → r' b = r b
  keep : ∀ b, b < w.heap.size → r b = .oth ∨ r b = .arc → w'.heap[b]? = w.heap[b]?
theorem MkFr.refl (w : World) (r : Nat → Role) : MkFr w w r r := ⟨rfl, rfl, rfl, Nat.le_refl _, fun _ _ => rfl, fun _ _ _ => rfl⟩
theorem MkFr.trans {a b c : World} {r s t : Nat → Role} (h : MkFr a b r s) (k : MkFr b c s t) : MkFr a c r t :=
  ⟨k.os.trans h.os, k.tape.trans h.tape, k.output.trans h.output, Nat.le_trans h.size k.size, fun i hi => (k.role i (Nat.lt_of_lt_of_le hi h.size)).trans (h.role i hi), fun i hi hr => (k.keep i (Nat.lt_of_lt_of_le hi h.size) (by rw [h.role i hi]; exact hr)).trans (h.keep i hi hr)⟩
theorem MkFr.below {a b c : World} {r s : Nat → Role} (h : MkFr a b r s) (hb : Below b.heap.size b c) : MkFr a c r s :=
  h.trans ⟨hb.os, hb.tape, hb.output, hb.size, fun _ _ => rfl, fun i hi _ => hb.block i hi⟩
end Go.Proofs.Ytbkedgpligcicaa

namespace Go.Proofs.Ytbkedgpligcicaa
open Go Go.RowKit
set_option linter.unusedVariables false
set_option maxRecDepth 100000

/-! spec's make: what it is asked and what it does. -/
def suf (ts : List Tx) (lo hi depth : Nat) : List Tx := ((ts.drop lo).take (hi - lo)).map (List.drop depth)
theorem suf_len (ts : List Tx) {lo hi depth : Nat} (h : lo ≤ hi) (h2 : hi ≤ ts.length) : (suf ts lo hi depth).length = hi - lo := by
  simp [suf]; omega
theorem suf_split (ts : List Tx) {lo i hi depth : Nat} (h1 : lo ≤ i) (h2 : i ≤ hi) (h3 : hi ≤ ts.length) : suf ts lo hi depth = suf ts lo i depth ++ suf ts i hi depth := by
  unfold suf
  rw [← List.map_append]
  congr 1
  rw [show hi - lo = (i - lo) + (hi - i) from by omega, List.take_add, List.drop_drop, show lo + (i - lo) = i from by omega]
theorem suf_one (ts : List Tx) {i depth : Nat} (h : i < ts.length) : suf ts i (i + 1) depth = [(ts.getD i []).drop depth] := by
  unfold suf
  rw [show i + 1 - i = 1 from by omega, List.drop_eq_getElem_cons h, List.take_succ_cons, List.take_zero]
  simp [h]
theorem suf_tail (ts : List Tx) (lo hi depth : Nat) : (suf ts lo hi depth).map List.tail = suf ts lo hi (depth + 1) := by
  unfold suf
  rw [List.map_map]
  congr 1
  funext t
  simp [List.tail_drop]
theorem suf_mem {ts : List Tx} {lo hi depth : Nat} {x : Tx} (h : x ∈ suf ts lo hi depth) : ∃ j, lo ≤ j ∧ j < hi ∧ j < ts.length ∧ x = (ts.getD j []).drop depth := by
  unfold suf at h
  obtain ⟨t, ht, rfl⟩ := List.mem_map.1 h
  obtain ⟨k, hk, e⟩ := List.getElem_of_mem ht
  have hk2 := hk
  rw [List.length_take, List.length_drop] at hk2
  refine ⟨lo + k, by omega, by omega, by omega, ?_⟩
  rw [← e]
  simp [show lo + k < ts.length by omega]
theorem suf_in {ts : List Tx} {lo hi depth j : Nat} (h1 : lo ≤ j) (h2 : j < hi) (h3 : j < ts.length) : (ts.getD j []).drop depth ∈ suf ts lo hi depth := by
  unfold suf
  refine List.mem_map.2 ⟨ts.getD j [], ?_, rfl⟩
  refine List.mem_iff_getElem?.2 ⟨j - lo, ?_⟩
  rw [List.getElem?_take, if_pos (by omega), List.getElem?_drop, show lo + (j - lo) = j from by omega]
  simp [h3]
def TsAt (w : World) (r : Nat → Role) (aT : Option Addr) (ts : List Tx) : Prop :=
  ts = [] ∨ ∃ g off, aT = some ⟨g, off, none⟩ ∧ g < w.heap.size ∧ r g = .oth ∧ ∀ j, j < ts.length → w.cell? ⟨g, off + j, none⟩ = some (.string ⟨(ts.getD j []).toArray⟩)
theorem TsAt.fr {w w' : World} {r r' : Nat → Role} {aT : Option Addr} {ts : List Tx} (h : TsAt w r aT ts) (hf : MkFr w w' r r') : TsAt w' r' aT ts := by
  rcases h with h | ⟨g, off, ha, hg, hr, hc⟩
  · exact Or.inl h
  · exact Or.inr ⟨g, off, ha, Nat.lt_of_lt_of_le hg hf.size, (hf.role g hg).trans hr, fun j hj => (World.cell?_of_block (hf.keep g hg (Or.inl hr))).trans (hc j hj)⟩
def MakePost (base bm bb : Nat) (aT : Option Addr) (nT cT : Nat) (O : List (List Tx)) (L : List Tx) (w : World) (r : Nat → Role) (e : Ending) (w' : World) : Prop :=
  ∃ (O' : List (List Tx)) (r' : Nat → Role) (vS' : Value) (vb' : Nat → Value) (xs' : List Value) (cs' : Array Value), e = .returned (.int .i64 ((O'.idxOf L : Nat) : Int)) ∧ MkAt w' r' base bm bb aT nT cT O' vS' vb' xs' cs' ∧ OkO O' ∧ O <+: O' ∧ L ∈ O' ∧ O'.length ≤ O.length + max 1 (szT L) ∧ MkFr w w' r r'
def MakeC (base bm bb : Nat) (aT : Option Addr) (cT : Nat) (ts : List Tx) (f : Nat) : Prop :=
  ∀ (lo hi depth : Nat) (w : World) (r : Nat → Role) (O : List (List Tx)) (vS : Value) (vb : Nat → Value) (xs : List Value) (cs : Array Value), lo ≤ hi → hi ≤ ts.length → ts.length ≤ 4096 → (∀ t ∈ suf ts lo hi depth, t.length < f) → depth + f ≤ 1000 → (∀ j, lo ≤ j → j < hi → depth ≤ (ts.getD j []).length) → RiseT (suf ts lo hi depth) →
    MkAt w r base bm bb aT ts.length cT O vS vb xs cs → OkO O → TsAt w r aT ts → O.length + szT (suf ts lo hi depth) + 1 ≤ 300000 → base ≤ w.heap.size →
    Calls Try.prog 66 #[.pointer (some ⟨bm, 0, none⟩), .int .i64 (lo : Int), .int .i64 (hi : Int), .int .i64 (depth : Int)] w fun e w' => MakePost base bm bb aT ts.length cT O (suf ts lo hi depth) w r e w'
/-- The same where there is a term. -/
def MakeN (base bm bb : Nat) (aT : Option Addr) (cT : Nat) (ts : List Tx) (f : Nat) : Prop :=
  ∀ (lo hi depth : Nat) (w : World) (r : Nat → Role) (O : List (List Tx)) (vS : Value) (vb : Nat → Value) (xs : List Value) (cs : Array Value), lo < hi → hi ≤ ts.length → ts.length ≤ 4096 → (∀ t ∈ suf ts lo hi depth, t.length < f) → depth + f ≤ 1000 → (∀ j, lo ≤ j → j < hi → depth ≤ (ts.getD j []).length) → RiseT (suf ts lo hi depth) →
    MkAt w r base bm bb aT ts.length cT O vS vb xs cs → OkO O → TsAt w r aT ts → O.length + szT (suf ts lo hi depth) + 1 ≤ 300000 → base ≤ w.heap.size →
    Calls Try.prog 66 #[.pointer (some ⟨bm, 0, none⟩), .int .i64 (lo : Int), .int .i64 (hi : Int), .int .i64 (depth : Int)] w fun e w' => MakePost base bm bb aT ts.length cT O (suf ts lo hi depth) w r e w'
theorem MakeC.some {base bm bb : Nat} {aT : Option Addr} {cT : Nat} {ts : List Tx} {f : Nat} (h : MakeC base bm bb aT cT ts f) : MakeN base bm bb aT cT ts f := fun lo hi depth w r O vS vb xs cs hlo => h lo hi depth w r O vS vb xs cs (Nat.le_of_lt hlo)
theorem MakeN.zero (base bm bb : Nat) (aT : Option Addr) (cT : Nat) (ts : List Tx) : MakeN base bm bb aT cT ts 0 := fun lo hi depth w r O vS vb xs cs hlo hhi _ hlen => absurd (hlen _ (suf_in (Nat.le_refl lo) hlo (by omega))) (by omega)
/-- A state under way: the box, its arcs. -/
structure Way (w : World) (r : Nat → Role) (base s : Nat) (fin : Bool) (va : Value) (l : List Ar) : Prop where
  box : w.heap[s]? = some (.cells #[.bool fin, va] 82)
  rs : r s = .oth
  row : w.ownsRow base 85 3 va l.length (aC l)
  rv : ∀ b, va.ownBlock = some b → r b = .oth ∧ b ≠ s ∧ b < w.heap.size
theorem Way.fr {w w' : World} {r r' : Nat → Role} {base s : Nat} {fin : Bool} {va : Value} {l : List Ar} (h : Way w r base s fin va l) (hf : MkFr w w' r r') : Way w' r' base s fin va l := by
  have hs : s < w.heap.size := (Array.getElem?_eq_some_iff.1 h.box).1
  refine ⟨(hf.keep s hs (Or.inl h.rs)).trans h.box, (hf.role s hs).trans h.rs, own_congr h.row fun b hb => ?_, fun b hb => ?_⟩
  · obtain ⟨h1, h2, h3⟩ := h.rv b hb
    exact hf.keep b h3 (Or.inl h1)
  · obtain ⟨h1, h2, h3⟩ := h.rv b hb
    exact ⟨(hf.role b h3).trans h1, h2, Nat.lt_of_lt_of_le h3 hf.size⟩
theorem rise_ne {A B : List Tx} (h : RiseT (A ++ B)) (ha : A ≠ []) : ∀ t ∈ B, t ≠ [] := by
  intro t ht e
  subst e
  obtain ⟨a, ha⟩ := List.exists_mem_of_ne_nil _ ha
  have := (List.pairwise_append.1 h).2.2 a ha [] ht
  cases a <;> simp [ltT] at this
theorem rise_left {A B : List Tx} (h : RiseT (A ++ B)) : RiseT A := (List.pairwise_append.1 h).1
theorem rise_right {A B : List Tx} (h : RiseT (A ++ B)) : RiseT B := (List.pairwise_append.1 h).2.1
theorem szT_ge (L : List Tx) : L.length ≤ szT L := by
  induction L with
  | nil => simp
  | cons t L ih => simp only [szT, List.map_cons, List.sum_cons, List.length_cons] at ih ⊢; omega
theorem szT_le {L : List Tx} {n : Nat} (h : ∀ t ∈ L, t.length ≤ n) : szT L ≤ L.length * (n + 1) := by
  induction L with
  | nil => simp [szT]
  | cons t L ih =>
    have h1 := ih (fun x hx => h x (by simp [hx]))
    have h2 := h t (by simp)
    simp only [szT, List.map_cons, List.sum_cons, List.length_cons, Nat.succ_mul] at h1 ⊢
    omega
theorem idx_run (t : Tx) (d : Nat) (W : World) (h : d < t.length) : (Instr.index 9 (.string ⟨t.toArray⟩) (.int .i64 (d : Int))).run Try.prog W = .ok (.int .u8 ((t.getD d 0).toNat : Int)) W := by
  have hs : (⟨t.toArray⟩ : ByteArray).size = t.length := by rw [Lib.size_eq]
  rw [run_index_string W 9 _ .i64 _ Try.underlying9, dif_pos ⟨by omega, by rw [hs]; omega⟩]
  congr 3
  simp only [Int.toNat_natCast]
  have : (⟨t.toArray⟩ : ByteArray)[d]'(by rw [hs]; exact h) = t[d] := rfl
  rw [this]
  simp [h]
end Go.Proofs.Ytbkedgpligcicaa
